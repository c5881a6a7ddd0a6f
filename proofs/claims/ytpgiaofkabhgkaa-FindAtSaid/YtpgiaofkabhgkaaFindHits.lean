/-
  (*find.Many).Hits up to the sort: what is collected.
-/
import Derived.Test.YtpgiaofkabhgkaaFindHas
import Derived.Test.YtpgiaofkabhgkaaPlainHits
namespace Go.Proofs.Ytpgiaofkabhgkaa
set_option linter.unusedVariables false
set_option linter.unusedSimpArgs false
open Go.RowKit Go.Shelf
attribute [local go_sem] Oper.semAt_some

def hitCells (L : List (Nat × Nat)) : List Value := L.flatMap fun x => [.int .i64 (x.1 : Int), .int .i64 (x.2 : Int)]
theorem hitCells_snoc (L : List (Nat × Nat)) (x : Nat × Nat) : hitCells (L ++ [x]) = hitCells L ++ [.int .i64 (x.1 : Int), .int .i64 (x.2 : Int)] := by unfold hitCells; rw [List.flatMap_append]; simp
theorem hitCells_len (L : List (Nat × Nat)) : (hitCells L).length = L.length * 2 := by
  unfold hitCells
  induction L with
  | nil => rfl
  | cons a L ih => rw [List.flatMap_cons, List.length_append, ih, List.length_cons]; simp; omega
theorem infoHit : (Try.prog.info? 36).map (fun i => (i.zero, i.size, i.bytes)) = some (some (.agg #[.int .i64 0, .int .i64 0]), 2, 16) := by kernel_rfl
theorem fill_hit (a b : Int) : Instr.fill (fun i => some (i * 2, 2)) ((Array.range (1 * 2)).map fun x => (Value.agg #[.int .i64 0, .int .i64 0]).cells[x % (Value.agg #[.int .i64 0, .int .i64 0]).cells.size]!) [(0, .agg #[.int .i64 a, .int .i64 b])] = some #[.int .i64 a, .int .i64 b] := by
  kernel_rfl
/-- 'l = append(l, Hit{..})'. -/
theorem append_hit {w6 : World} {L0 : Nat} {lv : Value} {L : List (Nat × Nat)} {a i : Nat} {ty : TypeId} (hr : w6.ownsRow L0 36 2 lv L.length (hitCells L)) (hs : L0 ≤ w6.heap.size) (hb : L.length ≤ 1000000000000) :
    ∃ v' w7, (Builtin.append_ #[30, 30] ty #[lv, .slice (some ⟨w6.heap.size, 0, none⟩) 1 1]).run Try.prog (w6.alloc (.cells #[.int .i64 (a : Int), .int .i64 (i : Int)] 36)) = .ok v' w7 ∧ (∃ g cap, v' = .slice (some ⟨g, 0, none⟩) (L.length + 1) cap) ∧
      w7.ownsRow L0 36 2 v' (L ++ [(a, i)]).length (hitCells (L ++ [(a, i)])) ∧ (w6.alloc (.cells #[.int .i64 (a : Int), .int .i64 (i : Int)] 36)).grownBy w7 lv.ownBlock := by
  obtain ⟨i0, hi, hz0, hz1, hz2⟩ := info_parts infoHit
  have hnew := World.alloc_heap_new w6 (.cells #[.int .i64 (a : Int), .int .i64 (i : Int)] 36)
  obtain ⟨v', w7, h1, h2, h3, _, _⟩ := run_append_own_at (P := Try.prog) (w6.alloc (.cells #[.int .i64 (a : Int), .int .i64 (i : Int)] 36)) L0 30 ty 36 i0 _ 2 16 Try.underlying30 hi hz0 hz1 hz2 rfl (by decide) lv L.length _ (hr.alloc _) ⟨w6.heap.size, 0, none⟩ 1 1 [.int .i64 (a : Int), .int .i64 (i : Int)] rfl (fun j u hj => by
      have hadd : (Addr.add ⟨w6.heap.size, 0, none⟩ j) = ⟨w6.heap.size, j, none⟩ := by cases j <;> simp [Addr.add]
      rw [hadd]
      simp only [World.cell?, hnew]
      rcases j with _ | _ | j <;> simp at hj ⊢ <;> first | exact hj | skip) (fun u hu => by simp at hu; rcases hu with rfl | rfl <;> rfl) (by unfold maxLen; omega) (by omega) (by rw [World.size_alloc]; omega)
  exact ⟨v', w7, h1, ownsRow_succ h2, by rw [hitCells_snoc, List.length_append]; exact h2, h3⟩

/-- What holds behind so many steps of Hits. -/
def HitsI (w w0 : World) (mo : Option Addr) (l : List ByteArray) (s : ByteArray) {xs : List (Nat × Nat)} (pre : List (WStep xs)) (W : World) : Prop :=
  (Boxed W w.heap.size 25 (.pointer mo) ∧ ∃ L, (∃ v, Boxed W (w.heap.size + 1) 30 v ∧ W.ownsRow (w0.heap.size + 2) 36 2 v L.length (hitCells L) ∧ True) ∧ Coll l s (pre.map fun x => x.1.1) L) ∧ Below w.heap.size w W ∧ w0.heap.size + 2 ≤ W.heap.size
theorem hitsI_own (w w0 : World) (mo : Option Addr) (l : List ByteArray) (s : ByteArray) (xs : List (Nat × Nat)) (hz : w.heap.size + 1 + 1 = w0.heap.size) : OwnFrom (w0.heap.size + 2) (HitsI w w0 mo l s (xs := xs)) :=
  OwnFrom.and (OwnFrom.and (Own.from (boxed_own w.heap.size 25 (fun _ : List (WStep xs) => Value.pointer mo)) _) (Own.from (fun pre X Y row ⟨L, h1, h2⟩ hg hr => ⟨L, holdsRow_own (w0.heap.size + 2) (w.heap.size + 1) 30 36 2 (fun _ : List (WStep xs) => L.length) (fun _ => hitCells L) (fun _ _ => True) pre X Y row h1 hg hr, h2⟩) _)) (OwnFrom.and (ownFrom_below (Nat.le_refl _) (by omega)) (fun _ _ _ _ h hg _ => Nat.le_trans h hg.size))


/-- Within a step of Hits. -/
structure HitsJ (w w0 : World) (mp : Nat) (W : World) (l : List ByteArray) (s : ByteArray) (L A : List (Nat × Nat)) (lv : Value) (e n : Nat) (js : List Nat) (Wc : World) : Prop where
  m : Boxed Wc w.heap.size 25 (.pointer (some ⟨mp, 0, none⟩))
  b : Boxed Wc (w.heap.size + 1) 30 lv
  row : Wc.ownsRow (w0.heap.size + 2) 36 2 lv (L ++ A).length (hitCells (L ++ A))
  got : Got l s (fun _ => False) e n js A
  bel : Below w.heap.size w Wc
  size : w0.heap.size + 2 ≤ Wc.heap.size
  keep : KeepsOthers W Wc
  two : KeepM w.heap.size w0.heap.size (w0.heap.size + 1) W Wc

theorem hitsJ_drew {w w0 : World} {mp : Nat} {W : World} {l : List ByteArray} {s : ByteArray} {L A : List (Nat × Nat)} {lv : Value} {e n : Nat} {js : List Nat} {Wc : World} (h : HitsJ w w0 mp W l s L A lv e n js Wc) : HitsJ w w0 mp W l s L A lv e n js Wc.drew :=
  ⟨h.m, h.b, h.row, h.got, ⟨h.bel.os, h.bel.tape, h.bel.output, h.bel.size, h.bel.block⟩, h.size, h.keep.trans (KeepsOthers.drew _), h.two⟩
theorem hitsJ_next {w w0 : World} {mp : Nat} {W : World} {l : List ByteArray} {s : ByteArray} {L A : List (Nat × Nat)} {lv : Value} {e n n' : Nat} {js : List Nat} {Wc : World} (h : HitsJ w w0 mp W l s L A lv e n js Wc) (hn : ∀ a i, HitE l s a i e → ((a + n < e ∨ a + n = e ∧ i ∈ js) ↔ a + n' < e)) : HitsJ w w0 mp W l s L A lv e n' [] Wc :=
  ⟨h.m, h.b, h.row, got_next h.got hn, h.bel, h.size, h.keep, h.two⟩
/-- A hit has been appended. -/
theorem hitsJ_one {w w0 : World} {mp : Nat} {W : World} {l : List ByteArray} {s : ByteArray} {L A : List (Nat × Nat)} {lv v' : Value} {e n j : Nat} {js : List Nat} {Wc w7 : World} {tmp : Obj} (h : HitsJ w w0 mp W l s L A lv e n js Wc) (hz : w.heap.size + 1 + 1 = w0.heap.size)
    (hh : HitE l s (e - n) j e) (hj : j ∉ js) (hn : n ≤ e) (hown : w7.ownsRow (w0.heap.size + 2) 36 2 v' ((L ++ A) ++ [(e - n, j)]).length (hitCells ((L ++ A) ++ [(e - n, j)]))) (hg : (Wc.alloc tmp).grownBy w7 lv.ownBlock) :
    HitsJ w w0 mp W l s L (A ++ [(e - n, j)]) v' e n (js ++ [j]) (w7.setCell ⟨w.heap.size + 1, 0, none⟩ v') ∧ Boxed w7 (w.heap.size + 1) 30 lv := by
  have hrow := h.row
  have hlt := hrow.lt
  have hs1 := hg.size
  simp only [World.size_alloc] at hs1
  have hws := h.size
  have hv1 : Boxed w7 (w.heap.size + 1) 30 lv := (h.b.alloc tmp).kept hg (h.b.not_row (by decide) hrow)
  have hlo : ∀ k, k < w0.heap.size + 2 → k ≠ w.heap.size + 1 → (w7.setCell ⟨w.heap.size + 1, 0, none⟩ v').heap[k]? = Wc.heap[k]? := fun k hk hne => by
    rw [Below.heap_setCell _ _ _ _ hne, hg.block k (by simp; omega) (fun e => by have := (hlt k e.symm).1; omega)]
    exact Below.heap_alloc _ _ _ (by omega)
  refine ⟨⟨(hlo _ (by omega) (by omega)).trans h.m, hv1.set v', ?_, got_one h.got hh (fun h => h) hj hn, h.bel.trans ⟨hg.os, hg.tape, hg.output, by simp [World.setCell]; omega, fun k hk => hlo k (by omega) (by omega)⟩, by simp [World.setCell]; omega, h.keep.trans ?_, h.two.t ⟨fun k hk => hlo k (by omega) (by omega), hlo _ (by omega) (by omega), hlo _ (by omega) (by omega)⟩⟩, hv1⟩
  · rw [← List.append_assoc]
    exact hown.kept (grownBy_setCell' w7 _ v') (.inr (hv1.not_row (by decide) hown).symm)
  · refine ((KeepsOthers.alloc Wc tmp).trans (KeepsOthers.of_grownBy hg fun k o ek hk => ?_)).trans (KeepsOthers.setCell _ _ _)
    rcases (hrow.alloc tmp).2 with ⟨rfl, _⟩ | ⟨g, cap, cur, rfl, _, hgb, _⟩
    · simp [Value.ownBlock] at ek
    · obtain rfl : g = k := by simpa [Value.ownBlock] using ek
      rw [hgb] at hk; cases hk; rfl

theorem Src.len_le {w : World} {m : Value} {s : ByteArray} {xs : List (Nat × Nat)} {l : List ByteArray} (h : Src w m s xs l) : xs.length ≤ s.size := by
  rcases h with ⟨rfl, rfl, _⟩ | ⟨base, mp, bm, n, sg, scap, vs, lab, ends, sts, h1, h2, h3, h4, rfl⟩
  · simp
  · rw [walkL_len]; omega
theorem Src.nodup {w : World} {m : Value} {s : ByteArray} {xs : List (Nat × Nat)} {l : List ByteArray} (h : Src w m s xs l) : (xs.attach.map fun x => x.1.1).Nodup := by
  rw [show (xs.attach.map fun x => x.1.1) = xs.map Prod.fst from List.attach_map_val (f := Prod.fst)]
  rcases h with ⟨rfl, rfl, _⟩ | ⟨base, mp, bm, n, sg, scap, vs, lab, ends, sts, h1, h2, h3, h4, rfl⟩
  · exact List.nodup_nil
  · unfold walkL
    rw [List.map_map, List.nodup_iff_pairwise_ne, List.pairwise_map]
    refine List.Pairwise.imp (fun {a b} h => ?_) (List.nodup_iff_pairwise_ne.1 List.nodup_range)
    intro e
    simp at e
    exact h e

set_option maxRecDepth 100000 in
set_option maxHeartbeats 4000000 in
theorem hits_any (mo : Option Addr) (s : ByteArray) (xs : List (Nat × Nat)) (l : List ByteArray) (w : World) (hs : s.size ≤ 1000000000) (hl : (s.size + 2) * (l.length + 1) ≤ 1000000000000) (h : Src w (.pointer mo) s xs l)
    (hsort : ∀ (L : List (Nat × Nat)) (v : Value) (W : World) (base : Nat), W.ownsRow base 36 2 v L.length (hitCells L) → L.length ≤ 1000000000000 → L.Nodup → (∀ x, x ∈ L ↔ x ∈ hitsL l s) → Calls Try.prog 25 #[v, .func (.func 26) #[] #[]] W fun e w' => e = .returned (.tuple #[]) ∧ w'.ownsRow base 36 2 v (hitsL l s).length (hitCells (hitsL l s)) ∧ W.grownBy w' v.ownBlock) :
    Calls Try.prog 12 #[.pointer mo, .string s] w fun e W' => ∃ v, e = .returned v ∧ W'.ownsRow w.heap.size 36 2 v (hitsL l s).length (hitCells (hitsL l s)) ∧ Below w.heap.size w W' := by
  refine (callsIn_wide (n := 5)).1 ?_
  have hmix : Try.prog.follows .mixedOrders = true := by kernel_rfl
  obtain ⟨i0, hi, hz0, hz1, hz2⟩ := info_parts infoHit
  have HS := Lib.hid h
  clear h
  refine callsIn_of_wp_marks Try.func12 rfl trivial ?_ rfl
  simp only [Try.ntmps12, List.size_toArray, List.length_cons, List.length_nil, Nat.reduceAdd, Nat.reduceSub, Array.replicate_succ, Array.replicate_zero, List.push_toArray, List.append_toArray, List.nil_append, List.cons_append]
  gi_wp2_with (refine ⟨trivial, ?_⟩; gi_at_call 24; refine (walk_in _ _ _ _).mono ?_; rintro e w' ⟨rfl, rfl⟩)
  have bM := Boxed.new w 25 (.pointer mo)
  have bR := Boxed.new (w.alloc (.cells #[.pointer mo] 25)) 30 (.slice none 0 0)
  rw [World.size_alloc] at bR
  have hB0 : Below w.heap.size w ((w.alloc (.cells #[.pointer mo] 25)).alloc (.cells #[.slice none 0 0] 30)) := ((Below.refl _ w).alloc (Nat.le_refl _) _).alloc (by simp) _
  obtain ⟨w0, hw0⟩ : ∃ w0, (w.alloc (.cells #[.pointer mo] 25)).alloc (.cells #[.slice none 0 0] 30) = w0 := ⟨_, rfl⟩
  have hz : w.heap.size + 1 + 1 = w0.heap.size := by rw [← hw0]; simp
  have bM0 : Boxed w0 w.heap.size 25 (.pointer mo) := by rw [← hw0]; exact bM.alloc _
  rw [hw0] at bR hB0
  have hB1 : Below w.heap.size w ((w0.alloc (.cells #[.pointer mo] 25)).alloc (.cells #[.string s] 9)) := (hB0.alloc (by omega) _).alloc (by simp; omega) _
  simp only [hw0, hz]
  clear bM hw0
  refine range_walk (.pointer mo) s (by omega) xs l w HS.out w0 (by omega) hB0.block rfl
    (HitsI w w0 mo l s) (fun _ _ _ => False) (hitsI_own w w0 mo l s xs hz) (fun _ _ _ _ _ hs _ _ => hs)
    ⟨⟨(bM0.alloc _).alloc _, [], ⟨_, (bR.alloc _).alloc _, World.ownsRow_nil _ _ _ _, trivial⟩, coll_nil l s⟩, hB1, by simp⟩
    (fun x => { tmps := #[.pointer mo, .string s, .pointer (some ⟨w.heap.size, 0, none⟩), undef, .slice none 0 0, .pointer (some ⟨w.heap.size + 1, 0, none⟩), .int .i64 (x.1.1 : Int), .int .i64 (x.1.2 : Int), undef, undef, undef, .pointer mo, .string s, .func (.func 34) #[] #[.pointer (some ⟨w0.heap.size, 0, none⟩), .pointer (some ⟨w0.heap.size + 1, 0, none⟩)], .int .i64 (x.1.1 : Int), .int .i64 (x.1.2 : Int), undef, undef, undef, undef, undef, undef, undef, undef, undef, undef, undef, undef, undef, undef, undef, undef, undef, undef, undef, undef, undef, undef, undef, undef, undef, undef, undef, undef, undef, undef, undef, undef, undef, undef, undef, undef, undef, undef, undef, undef, undef, undef, undef, undef, undef, undef, undef, undef, undef, undef, undef, undef, undef, undef, undef, undef, undef], defers := [] }) ?assign ?body ?done ?stop
  case assign =>
    intro l x W K hK
    gi_wp2
    exact hK
  case body =>
    rintro l' pre x W hI hlt
    obtain ⟨base, mp, bm, n, sg, scap, vs, lab, ends, sts, st, k, hmo, hM, hMd, hsl, hst, hxk, hx1, hks, hlab, rfl⟩ := HS.out.reads x
    cases hmo
    obtain ⟨⟨hm, L, ⟨v, hv, hrow, -⟩, hcl⟩, hB, hws⟩ := hI
    have hM' := hM.below hB
    have c2 := hM'.cell2
    have cw := hM'.st2 hst
    have hql := (List.getElem?_eq_some_iff.1 hst).1
    have hc := hm.cell
    obtain ⟨wd, hwl, hwe, hwsf, hwmax⟩ := hMd.word hxk hst
    have hcll := coll_len hcl
    rw [List.length_map] at hcll
    have HM := Lib.hid hM
    have HMd := Lib.hid hMd
    have HB := Lib.hid hB
    have Hm := Lib.hid hm
    have Hv := Lib.hid hv
    have Hrow := Lib.hid hrow
    have Hcl := Lib.hid hcl
    have Hwl := Lib.hid hwl
    have Hwe := Lib.hid hwe
    have Hwsf := Lib.hid hwsf
    have Hwmax := Lib.hid hwmax
    have Hcll := Lib.hid hcll
    have Hx1 := Lib.hid hx1
    clear hM hMd hB hm hv hrow hcl hwl hwe hwsf hwmax hcll hM' hst hxk hlab hx1
    have hJ0 : HitsJ w w0 mp W l s L [] v (k + 1) wd.length [] W := ⟨Hm.out, Hv.out, by rw [List.append_nil]; exact Hrow.out, got_begin (fun a i hh => by
      obtain ⟨u, hE, _, hu, _, hau⟩ := HMd.out.hit.1 hh
      have := (Hwmax.out u hE hu).length_le
      omega), HB.out, hws, KeepsOthers.refl _, fun _ _ => rfl, rfl, rfl⟩
    have HJ0 := Lib.hid hJ0
    clear hJ0
    gi_wp2
    gi_loopw [8] (fun wv wr => ∃ (q : Nat) (v : Word) (lv : Value) (A : List (Nat × Nat)), wv = .int .i64 (q : Int) ∧ Hid (lab[q]? = some v ∧ (v = [] ∨ Ended ends v) ∧ v <:+ (wordOf s).take (k + 1)) ∧ Hid (HitsJ w w0 mp W l s L A lv (k + 1) v.length [] wr)) (fun wv wr => ((lab[(intOf wv).toNat]?).map List.length).getD 0)
    case atStart => exact ⟨_, wd, v, [], rfl, Lib.hid ⟨Hwl.out, Hwe.out, Hwsf.out⟩, HJ0.out⟩
    case round =>
      obtain ⟨q, v, lv, A, rfl, Hq, HJ⟩ := hrel
      by_cases h0 : q = 0
      · have e0 : ((q : Int) != 0) = false := by simp; omega
        gi_wp2
        obtain ⟨hq1, hq2, hq3⟩ := Hq.out
        have hv0 := (HMd.out.auto.root hq1).1 h0
        subst hv0
        have hJ := HJ.out
        refine ⟨hJ.keep.from _, hJ.two, ⟨hJ.m, L ++ A, ⟨lv, hJ.b, hJ.row, trivial⟩, ?_⟩, hJ.bel, hJ.size⟩
        rw [List.map_append, List.map_cons, List.map_nil, Hx1.out]
        exact coll_snoc Hcl.out (got_step hJ.got)
      · have e0 : ((q : Int) != 0) = true := by simp; omega
        obtain ⟨hq1, hq2, hq3⟩ := Hq.out
        have hvne : v ≠ [] := fun e => h0 ((HMd.out.auto.root hq1).2 e)
        have hvE := hq2.resolve_left hvne
        have hqls := (List.getElem?_eq_some_iff.1 hq1).1
        rw [← HMd.out.auto.len] at hqls
        obtain ⟨sq, hsq⟩ : ∃ t, sts[q]? = some t := ⟨_, List.getElem?_eq_getElem hqls⟩
        obtain ⟨vq, hvq⟩ := HM.out.val hsq
        have hwh := HMd.out.which hq1 hsq hvne
        have hdp := HMd.out.auto.depth q v sq hq1 hsq
        have hvl : v.length ≤ k + 1 := by have := hq3.length_le; rw [List.length_take] at this; omega
        have hM1 := HM.out.below HJ.out.bel
        have c2 := hM1.cell2
        have c3 := hM1.st3 hsq hvq
        have hwrow := hM1.whi q sq vq hsq hvq
        obtain ⟨ao, vm, vcp, hvqe⟩ : ∃ ao m cap, vq = .slice ao m cap := by
          rcases hwrow.2 with ⟨h, _⟩ | ⟨g, cap, cur, h, _⟩
          · exact ⟨_, _, _, h⟩
          · exact ⟨_, _, _, h⟩
        have hvm : vm = sq.which.length := by
          rcases hwrow.2 with ⟨h, h'⟩ | ⟨g, cap, cur, h, _⟩
          · rw [hvqe] at h; cases h; exact h'.symm
          · rw [hvqe] at h; cases h; rfl
        subst hvqe
        subst hvm
        have hc := HJ.out.m.cell
        have hidl : sq.which.length ≤ 1000000000000 := by
          rw [hwh]
          have := idxsOf_len l.zipIdx v
          unfold idxs
          have h2 : l.zipIdx.length = l.length := by simp
          have h3 : l.length + 1 ≤ (s.size + 2) * (l.length + 1) := Nat.le_mul_of_pos_left _ (by omega)
          omega
        have Hq1 := Lib.hid hq1
        have Hq3 := Lib.hid hq3
        have HvE := Lib.hid hvE
        have Hvne := Lib.hid hvne
        have Hsq := Lib.hid hsq
        have Hvq := Lib.hid hvq
        have Hwh := Lib.hid hwh
        have Hdp := Lib.hid hdp
        have Hvl := Lib.hid hvl
        clear hq1 hq2 hq3 hvne hvE hsq hvq hwh hdp hvl hM1 hwrow
        gi_wp2
        gi_loopw [50] (fun iv wr => ∃ (j : Nat) (lv : Value) (A : List (Nat × Nat)), j ≤ sq.which.length ∧ iv = .int .i64 (j : Int) ∧ Hid (HitsJ w w0 mp W l s L A lv (k + 1) v.length (sq.which.take j) wr)) (fun iv wr => sq.which.length - (intOf iv).toNat)
        case atStart => exact ⟨0, lv, A, Nat.zero_le _, rfl, HJ⟩
        case round =>
          obtain ⟨j, lv, A, hj, rfl, HJ2⟩ := hrel
          by_cases hjl : j < sq.which.length
          · obtain ⟨id, hid⟩ : ∃ id, sq.which[j]? = some id := ⟨_, List.getElem?_eq_getElem hjl⟩
            have hM2 := HM.out.below HJ2.out.bel
            have hwrow := hM2.whi q sq _ Hsq.out Hvq.out
            obtain ⟨gw, rfl⟩ : ∃ gw, ao = some ⟨gw, 0, none⟩ := by
              rcases hwrow.2 with ⟨h, h'⟩ | ⟨g, cap, cur, h, _⟩
              · omega
              · cases h; exact ⟨g, rfl⟩
            have cj : wr.cell? ⟨gw, j, none⟩ = some (.int .i64 (id : Int)) := by
              rw [World.ownsRow.cellAt hwrow j (by omega)]
              unfold natCells
              rw [List.getElem?_map, hid]
              rfl
            have himem : id ∈ idxs l v := by rw [← Hwh.out]; exact List.mem_of_getElem? hid
            have hnd : sq.which.Nodup := by rw [Hwh.out]; exact idxs_nodup l v
            have hnot : id ∉ sq.which.take j := fun hm => by
              obtain ⟨j', hj'⟩ := List.mem_iff_getElem?.1 hm
              have hlt' := (List.getElem?_eq_some_iff.1 hj').1
              rw [List.length_take] at hlt'
              rw [List.getElem?_take_of_lt (by omega)] at hj'
              obtain ⟨h1, h2⟩ := List.getElem?_eq_some_iff.1 hj'
              obtain ⟨h3, h4⟩ := List.getElem?_eq_some_iff.1 hid
              have := (List.getElem_inj hnd).1 (h2.trans h4.symm)
              omega
            have hhit : HitE l s (k + 1 - v.length) id (k + 1) := HMd.out.hit.2 ⟨v, HvE.out, himem, Hq3.out, by omega, by have := Hvl.out; omega⟩
            have hlenL : (L ++ A).length ≤ 1000000000000 := by
              have h1 := got_len HJ2.out.got
              have h2 := Hcll.out
              have h3 : pre.length * l.length + l.length ≤ (s.size + 2) * (l.length + 1) := by
                have : (pre.length + 1) * l.length ≤ (s.size + 2) * (l.length + 1) := Nat.mul_le_mul (by omega) (by omega)
                rw [Nat.succ_mul] at this
                exact this
              rw [List.length_append]
              omega
            have hlv : ∃ ao' m' c', lv = .slice ao' m' c' := by
              rcases HJ2.out.row.2 with ⟨h, _⟩ | ⟨g, cap, cur, h, _⟩
              · exact ⟨_, _, _, h⟩
              · exact ⟨_, _, _, h⟩
            obtain ⟨ao', m', c', rfl⟩ := hlv
            obtain ⟨w6, hw6⟩ : ∃ w6, w6 = wr.drew := ⟨_, rfl⟩
            have hJ6 : HitsJ w w0 mp W l s L A (.slice ao' m' c') (k + 1) v.length (sq.which.take j) w6 := by rw [hw6]; exact hitsJ_drew HJ2.out
            obtain ⟨v', w7, happ, ⟨g7, cap7, rfl⟩, hown, hgr7⟩ := append_hit (a := k + 1 - v.length) (i := id) (ty := 30) hJ6.row hJ6.size hlenL
            obtain ⟨hJ8, hb7⟩ := hitsJ_one hJ6 hz hhit hnot (by have := Hvl.out; omega) hown hgr7
            obtain ⟨V, hV0, hV1, hV2⟩ : ∃ V : Nat → World, V 0 = w6 ∧ V 1 = w6.alloc (.cells #[.int .i64 ((k + 1 - v.length : Nat) : Int), .int .i64 (id : Int)] 36) ∧ ∀ t, V (t + 2) = w7 := ⟨fun t => match t with | 0 => w6 | 1 => w6.alloc (.cells #[.int .i64 ((k + 1 - v.length : Nat) : Int), .int .i64 (id : Int)] 36) | _ + 2 => w7, rfl, rfl, fun _ => rfl⟩
            have hrl := hJ6.row.lt
            have hs6 := hJ6.size
            have hVag : ∀ t k', k' < w0.heap.size + 2 → (V t).heap[k']? = w6.heap[k']? := fun t k' hk' => by
              match t with
              | 0 => rw [hV0]
              | 1 => rw [hV1]; exact Below.heap_alloc _ _ _ (by omega)
              | t + 2 =>
                rw [hV2, hgr7.block k' (by simp; omega) (fun e => by have := (hrl k' e.symm).1; omega)]
                exact Below.heap_alloc _ _ _ (by omega)
            have hVM := fun t => HM.out.agree (W := V t) (fun k' hk' => (hVag t k' (by omega)).trans (hJ6.bel.block k' hk'))
            have r1 : ∀ t, (V t).cell? ⟨w.heap.size, 0, none⟩ = some (.pointer (some ⟨mp, 0, none⟩)) := fun t => (World.cell?_of_block (w := w6) (a := ⟨w.heap.size, 0, none⟩) (hVag t _ (by dsimp only; omega))).trans hJ6.m.cell
            have r2 : ∀ t, (V t).cell? ⟨w.heap.size + 1, 0, none⟩ = some (.slice ao' m' c') := fun t => (World.cell?_of_block (w := w6) (a := ⟨w.heap.size + 1, 0, none⟩) (hVag t _ (by dsimp only; omega))).trans hJ6.b.cell
            have r3 := fun t => (hVM t).cell2
            have r4 : ∀ t, (V t).cell? ⟨sg, q * 4, none⟩ = some (.int .i64 (v.length : Int)) := fun t => by rw [← Hdp.out]; exact (hVM t).st0 Hsq.out
            have hsub : ((x.1.1 : Int) - (v.length : Int)) = ((k + 1 - v.length : Nat) : Int) := by rw [Hx1.out]; have := Hvl.out; omega
            have hc7 := hb7.cell
            have hf7 := hb7.frozen
            have Hc7 := Lib.hid hc7
            have Hf7 := Lib.hid hf7
            have HJ8 := Lib.hid hJ8
            have Happ := Lib.hid happ
            have Hw6 := Lib.hid hw6
            have HV0 := Lib.hid hV0
            have HV1 := Lib.hid hV1
            have HV2 := Lib.hid (hV2 0)
            have Hsub := Lib.hid hsub
            have Hid := Lib.hid hid
            have hxb : x.1.1 ≤ 1000000001 := by rw [Hx1.out]; omega
            have hvb : v.length ≤ 1000000001 := by have := Hvl.out; omega
            clear hc7 hf7 hJ8 hb7 happ hw6 hV0 hV1 hV2 hVag hVM hrl hs6 hJ6 hown hgr7 hlenL hhit hnot hnd himem hwrow hM2 hid hsub
            gi_wp2
            refine wpIn_region_stages [13, 14, 15] (fun t => match t with | 0 => w6 | 1 => w6.alloc (.cells #[.int .i64 ((k + 1 - v.length : Nat) : Int), .int .i64 (id : Int)] 36) | 2 => w7 | _ + 3 => w7.setCell ⟨w.heap.size + 1, 0, none⟩ (.slice (some ⟨g7, 0, none⟩) ((L ++ A).length + 1) cap7)) V 2 (fun _ => trivial) hmix (by kernel_rfl) (by kernel_rfl) (by kernel_rfl) (fun t ht => by
              match t, ht with
              | 0, _ => exact ⟨0, HV0.out.symm⟩
              | 1, _ => exact ⟨1, HV1.out.symm⟩
              | 2, _ => exact ⟨2, HV2.out.symm⟩) Hw6.out ?_
            refine wpSt_quiet 13 (by decide) (by kernel_rfl) ?_
            simp only [List.take_succ_cons, List.take_zero, List.drop_succ_cons, List.drop_zero]
            repeat (go_big_quiet_step (fail))
            refine wpQuiet_nil ?_
            refine wpSt_eff (j := 0) (by decide) rfl (eff_buildSlice1 rfl rfl (vx := .agg #[.int .i64 ((x.1.1 : Int) - (v.length : Int)), .int .i64 (id : Int)]) rfl Try.underlying30 hi hz0 hz1 (by decide) (by decide) (by rw [← Hsub.out]; exact fill_hit _ _) rfl rfl) ?_
            refine wpSt_eff (j := 1) (by decide) rfl (eff_append rfl rfl rfl rfl Happ.out) ?_
            go_frame
            refine wpSt_eff (j := 2) (by decide) rfl (eff_storeCell rfl rfl rfl rfl ?_) ?_
            · have Hc7' := Hc7.out
              have Hf7' := Hf7.out
              go_simp
            refine wpSt_done (wf := w7.setCell ⟨w.heap.size + 1, 0, none⟩ (.slice (some ⟨g7, 0, none⟩) ((L ++ A).length + 1) cap7)) rfl ?_
            try go_frame
            gi_wp2
            go_roundw
            case rel => exact ⟨j + 1, _, _, by omega, by go_num, Lib.hid (by rw [take_snoc Hid.out]; have h8 := HJ8.out; rw [List.length_append] at h8; exact h8)⟩
            case measure => simp [intOf]; omega
          · obtain rfl : j = sq.which.length := by omega
            obtain ⟨F, hF, hfall⟩ := HMd.out.auto.fall q v sq Hq1.out Hsq.out Hvne.out
            have hfl := (List.getElem?_eq_some_iff.1 hF).1
            rw [← HMd.out.auto.len] at hfl
            obtain ⟨sf, hsf⟩ : ∃ t, sts[sq.fall]? = some t := ⟨_, List.getElem?_eq_getElem hfl⟩
            obtain ⟨v', hv', hE', hs', hlt', hmax'⟩ := HMd.out.next Hq1.out Hsq.out Hvne.out hsf
            have hM2 := HM.out.below (hitsJ_drew HJ2.out).bel
            have r1 := (hitsJ_drew HJ2.out).m.cell
            have r3 := hM2.cell2
            have r4 := hM2.st1 Hsq.out
            have r5 := hM2.st2 hsf
            have hJ3 := hitsJ_next (n' := v'.length) (hitsJ_drew HJ2.out) (fun a i hh => by
              rw [List.take_length, Hwh.out]
              obtain ⟨u, hE, hi, hu, _, hau⟩ := HMd.out.hit.1 hh
              have hcmp := suffix_of_suffix hu Hq3.out
              constructor
              · rintro (h | ⟨h, hin⟩)
                · omega
                · omega
              · intro h
                by_cases hul : u.length ≤ v.length
                · have hus := hcmp hul
                  by_cases hue : u = v
                  · subst hue
                    exact .inr ⟨hau, hi⟩
                  · have := (hmax' u hE hus hue).length_le
                    omega
                · exact .inl (by omega))
            have HJ3 := Lib.hid hJ3
            have Hnx := Lib.hid (show lab[sf.word]? = some v' ∧ (v' = [] ∨ Ended ends v') ∧ v' <:+ (wordOf s).take (k + 1) from ⟨hv', hE', hs'.trans Hq3.out⟩)
            have hmeas : ((lab[sf.word]?).map List.length).getD 0 < ((lab[q]?).map List.length).getD 0 := by rw [hv', Hq1.out]; exact hlt'
            have Hmeas := Lib.hid hmeas
            clear hJ3 hM2 hF hfall hsf hv' hE' hs' hlt' hmax' hmeas
            gi_wp2
            refine wpIn_region_reads (fun _ => trivial) hmix (by kernel_rfl) (by kernel_rfl) ?_
            repeat (go_big_quiet_step (fail))
            refine wpQuiet_nil ?_
            gi_wp2
            go_roundw
            case rel => exact ⟨sf.word, v', lv, A, rfl, Hnx, HJ3⟩
            case measure => simpa [intOf] using Hmeas.out
  case done =>
    rintro D W hD hI hK
    obtain ⟨⟨hm, L, ⟨v, hv, hrow, -⟩, hcl⟩, hB, hws⟩ := hI
    have hc := hv.cell
    obtain ⟨hn, hmem⟩ := coll_all hcl HS.out.nodup (fun a i e he => by
      obtain ⟨x, hx⟩ := HS.out.covers he
      exact List.mem_map.2 ⟨x, List.mem_attach _ _, hx⟩)
    have hlen : L.length ≤ 1000000000000 := by
      have h1 := coll_len hcl
      rw [List.length_map, List.length_attach] at h1
      have h2 : xs.length ≤ s.size := HS.out.len_le
      have : xs.length * l.length ≤ (s.size + 2) * (l.length + 1) := Nat.mul_le_mul (by omega) (by omega)
      omega
    have hS := (callsIn_wide (n := 4)).2 (hsort L v W _ hrow hlen hn hmem)
    have hrl := hrow.lt
    clear hsort
    have hKD : ∀ w', W.grownBy w' v.ownBlock → w'.heap[D]? = some (.deferred (some [])) := fun w' hg => by
      rw [hg.block D (Array.getElem?_eq_some_iff.1 hK).1 (fun e => by
        rcases hrow.2 with ⟨hv', _⟩ | ⟨g', cap', cur, hv', hb', hg', _⟩
        · rw [hv'] at e; cases e
        · rw [hv'] at e; cases e; rw [hK] at hg'; cases hg')]
      exact hK
    have hvl := hv.lt
    gi_wp2_with (refine ⟨trivial, ?_⟩; gi_at_call 25; refine hS.mono ?_; rintro e w' ⟨rfl, hrow', hg⟩; have hK' := hKD _ hg; have hc' : w'.cell? ⟨w.heap.size + 1, 0, none⟩ = some v := (World.cell?_of_block (hg.block (w.heap.size + 1) hvl (fun e => absurd (hrl _ e.symm).1 (by omega)))).trans hc)
    refine ⟨by simp, .inl ⟨_, _, rfl, run_takeDeferred hK', ?_⟩⟩
    refine ⟨_, results_tmp rfl _ _ _, v, rfl, ?_, (hB.grown hg (by omega) (fun k hk => by have := (hrl k hk).1; omega)).trans (belowK_b (w := w) (Nat.le_refl _) _ D _ _ (by omega) hK' rfl rfl)⟩
    refine ⟨hrow'.1, ?_⟩
    rcases hrow'.2 with ⟨h1, h2⟩ | ⟨g', cap', cur, h1, h2, h3, h4⟩
    · exact .inl ⟨h1, h2⟩
    · refine .inr ⟨g', cap', cur, h1, by omega, ?_, h4⟩
      have hne : g' ≠ D := fun e => by rw [e, hK'] at h3; cases h3
      rw [World.putObj_heap_other hne]
      exact h3
  case stop =>
    rintro D c k W _ hk h hK
    exact h.elim
end Go.Proofs.Ytpgiaofkabhgkaa
