/-
  (*find.Many).covered: what hits cover.
-/
import Derived.Test.YtpgiaofkabhgkaaFindHits
import Derived.Test.YtpgiaofkabhgkaaPlainSpan
namespace Go.Proofs.Ytpgiaofkabhgkaa
set_option linter.unusedVariables false
set_option linter.unusedSimpArgs false
open Go.RowKit Go.Shelf
attribute [local go_sem] Oper.semAt_some

theorem infoSpan : (Try.prog.info? 73).map (fun i => (i.zero, i.size, i.bytes)) = some (some (.agg #[.int .i64 0, .int .i64 0]), 2, 16) := by kernel_rfl
/-- 'l = append(l, span{..})'. -/
theorem append_span {w6 : World} {L0 : Nat} {lv : Value} {L : List (Nat × Nat)} {a i : Nat} {ty : TypeId} (hr : w6.ownsRow L0 73 2 lv L.length (hitCells L)) (hs : L0 ≤ w6.heap.size) (hb : L.length ≤ 1000000000000) :
    ∃ v' w7, (Builtin.append_ #[70, 70] ty #[lv, .slice (some ⟨w6.heap.size, 0, none⟩) 1 1]).run Try.prog (w6.alloc (.cells #[.int .i64 (a : Int), .int .i64 (i : Int)] 73)) = .ok v' w7 ∧ (∃ g cap, v' = .slice (some ⟨g, 0, none⟩) (L.length + 1) cap) ∧
      w7.ownsRow L0 73 2 v' (L ++ [(a, i)]).length (hitCells (L ++ [(a, i)])) ∧ (w6.alloc (.cells #[.int .i64 (a : Int), .int .i64 (i : Int)] 73)).grownBy w7 lv.ownBlock := by
  obtain ⟨i0, hi, hz0, hz1, hz2⟩ := info_parts infoSpan
  have hnew := World.alloc_heap_new w6 (.cells #[.int .i64 (a : Int), .int .i64 (i : Int)] 73)
  obtain ⟨v', w7, h1, h2, h3, _, _⟩ := run_append_own_at (P := Try.prog) (w6.alloc (.cells #[.int .i64 (a : Int), .int .i64 (i : Int)] 73)) L0 70 ty 73 i0 _ 2 16 Try.underlying70 hi hz0 hz1 hz2 rfl (by decide) lv L.length _ (hr.alloc _) ⟨w6.heap.size, 0, none⟩ 1 1 [.int .i64 (a : Int), .int .i64 (i : Int)] rfl (fun j u hj => by
      have hadd : (Addr.add ⟨w6.heap.size, 0, none⟩ j) = ⟨w6.heap.size, j, none⟩ := by cases j <;> simp [Addr.add]
      rw [hadd]
      simp only [World.cell?, hnew]
      rcases j with _ | _ | j <;> simp at hj ⊢ <;> first | exact hj | skip) (fun u hu => by simp at hu; rcases hu with rfl | rfl <;> rfl) (by unfold maxLen; omega) (by omega) (by rw [World.size_alloc]; omega)
  exact ⟨v', w7, h1, ownsRow_succ h2, by rw [hitCells_snoc, List.length_append]; exact h2, h3⟩

/-- What holds behind so many steps of covered. -/
def SpanI (w w0 : World) (mo : Option Addr) (l : List ByteArray) (s : ByteArray) {xs : List (Nat × Nat)} (pre : List (WStep xs)) (W : World) : Prop :=
  (Boxed W w.heap.size 25 (.pointer mo) ∧ ∃ v, Boxed W (w.heap.size + 1) 70 v ∧ W.ownsRow (w0.heap.size + 2) 73 2 v (covR l s (pre.map fun x => x.1.1)).reverse.length (hitCells (covR l s (pre.map fun x => x.1.1)).reverse) ∧ True) ∧ Below w.heap.size w W ∧ w0.heap.size + 2 ≤ W.heap.size
theorem spanI_own (w w0 : World) (mo : Option Addr) (l : List ByteArray) (s : ByteArray) (xs : List (Nat × Nat)) (hz : w.heap.size + 1 + 1 = w0.heap.size) : OwnFrom (w0.heap.size + 2) (SpanI w w0 mo l s (xs := xs)) :=
  OwnFrom.and (OwnFrom.and (Own.from (boxed_own w.heap.size 25 (fun _ : List (WStep xs) => Value.pointer mo)) _) (Own.from (holdsRow_own (w0.heap.size + 2) (w.heap.size + 1) 70 73 2 (fun pre : List (WStep xs) => (covR l s (pre.map fun x => x.1.1)).reverse.length) (fun pre => hitCells (covR l s (pre.map fun x => x.1.1)).reverse) (fun _ _ => True)) _)) (OwnFrom.and (ownFrom_below (Nat.le_refl _) (by omega)) (fun _ _ _ _ h hg _ => Nat.le_trans h hg.size))

/-- Within a step of covered. -/
structure SpanJ (w w0 : World) (mp : Nat) (W : World) (r : List (Nat × Nat)) (lv : Value) (Wc : World) : Prop where
  m : Boxed Wc w.heap.size 25 (.pointer (some ⟨mp, 0, none⟩))
  b : Boxed Wc (w.heap.size + 1) 70 lv
  row : Wc.ownsRow (w0.heap.size + 2) 73 2 lv r.reverse.length (hitCells r.reverse)
  bel : Below w.heap.size w Wc
  size : w0.heap.size + 2 ≤ Wc.heap.size
  keep : KeepsOthers W Wc
  two : KeepM w.heap.size w0.heap.size (w0.heap.size + 1) W Wc

theorem spanJ_drew {w w0 : World} {mp : Nat} {W : World} {r : List (Nat × Nat)} {lv : Value} {Wc : World} (h : SpanJ w w0 mp W r lv Wc) : SpanJ w w0 mp W r lv Wc.drew :=
  ⟨h.m, h.b, h.row, ⟨h.bel.os, h.bel.tape, h.bel.output, h.bel.size, h.bel.block⟩, h.size, h.keep.trans (KeepsOthers.drew _), h.two⟩
/-- A span has been appended. -/
theorem spanJ_one {w w0 : World} {mp : Nat} {W : World} {r : List (Nat × Nat)} {x : Nat × Nat} {lv v' : Value} {Wc w7 : World} {tmp : Obj} (h : SpanJ w w0 mp W r lv Wc) (hz : w.heap.size + 1 + 1 = w0.heap.size)
    (hown : w7.ownsRow (w0.heap.size + 2) 73 2 v' (r.reverse ++ [x]).length (hitCells (r.reverse ++ [x]))) (hg : (Wc.alloc tmp).grownBy w7 lv.ownBlock) :
    SpanJ w w0 mp W (x :: r) v' (w7.setCell ⟨w.heap.size + 1, 0, none⟩ v') ∧ Boxed w7 (w.heap.size + 1) 70 lv := by
  have hrow := h.row
  have hlt := hrow.lt
  have hs1 := hg.size
  simp only [World.size_alloc] at hs1
  have hws := h.size
  have hv1 : Boxed w7 (w.heap.size + 1) 70 lv := (h.b.alloc tmp).kept hg (h.b.not_row (by decide) hrow)
  have hlo : ∀ k, k < w0.heap.size + 2 → k ≠ w.heap.size + 1 → (w7.setCell ⟨w.heap.size + 1, 0, none⟩ v').heap[k]? = Wc.heap[k]? := fun k hk hne => by
    rw [Below.heap_setCell _ _ _ _ hne, hg.block k (by simp; omega) (fun e => by have := (hlt k e.symm).1; omega)]
    exact Below.heap_alloc _ _ _ (by omega)
  refine ⟨⟨(hlo _ (by omega) (by omega)).trans h.m, hv1.set v', ?_, h.bel.trans ⟨hg.os, hg.tape, hg.output, by simp [World.setCell]; omega, fun k hk => hlo k (by omega) (by omega)⟩, by simp [World.setCell]; omega, h.keep.trans ?_, h.two.t ⟨fun k hk => hlo k (by omega) (by omega), hlo _ (by omega) (by omega), hlo _ (by omega) (by omega)⟩⟩, hv1⟩
  · rw [List.reverse_cons]
    exact hown.kept (grownBy_setCell' w7 _ v') (.inr (hv1.not_row (by decide) hown).symm)
  · refine ((KeepsOthers.alloc Wc tmp).trans (KeepsOthers.of_grownBy hg fun k o ek hk => ?_)).trans (KeepsOthers.setCell _ _ _)
    rcases (hrow.alloc tmp).2 with ⟨rfl, _⟩ | ⟨g, cap, cur, rfl, _, hgb, _⟩
    · simp [Value.ownBlock] at ek
    · obtain rfl : g = k := by simpa [Value.ownBlock] using ek
      rw [hgb] at hk; cases hk; rfl
theorem hitCells_append (a b : List (Nat × Nat)) : hitCells (a ++ b) = hitCells a ++ hitCells b := by unfold hitCells; rw [List.flatMap_append]
theorem span_snoc {W : World} {base : Nat} {v : Value} {L : List (Nat × Nat)} {x : Nat × Nat} (h : W.ownsRow base 73 2 v (L.length + 1) (hitCells L ++ [.int .i64 (x.1 : Int), .int .i64 (x.2 : Int)])) : W.ownsRow base 73 2 v (L ++ [x]).length (hitCells (L ++ [x])) := by
  rw [hitCells_snoc, List.length_append]
  exact h
theorem cell_two_new (w : World) (a b : Value) (t : TypeId) : ∀ j u, [a, b][j]? = some u → (w.alloc (.cells #[a, b] t)).cell? (Addr.add ⟨w.heap.size, 0, none⟩ j) = some u := fun j u hj => by
  have hnew := World.alloc_heap_new w (.cells #[a, b] t)
  have hadd : (Addr.add ⟨w.heap.size, 0, none⟩ j) = ⟨w.heap.size, j, none⟩ := by cases j <;> simp [Addr.add]
  rw [hadd]
  simp only [World.cell?, hnew]
  rcases j with _ | _ | j <;> simp at hj ⊢ <;> first | exact hj | skip
/-- The last span has gone. -/
theorem spanJ_pop {w w0 : World} {mp : Nat} {W : World} {y : Nat × Nat} {r : List (Nat × Nat)} {g cap : Nat} {Wc : World} (h : SpanJ w w0 mp W (y :: r) (.slice (some ⟨g, 0, none⟩) (r.length + 1) cap) Wc) (hz : w.heap.size + 1 + 1 = w0.heap.size)
    (hrow : Wc.ownsRow (w0.heap.size + 2) 73 2 (.slice (some ⟨g, 0, none⟩) r.length cap) r.reverse.length (hitCells r.reverse)) :
    SpanJ w w0 mp W r (.slice (some ⟨g, 0, none⟩) r.length cap) (Wc.setCell ⟨w.heap.size + 1, 0, none⟩ (.slice (some ⟨g, 0, none⟩) r.length cap)) := by
  have hws := h.size
  have hlo : ∀ k, k ≠ w.heap.size + 1 → (Wc.setCell ⟨w.heap.size + 1, 0, none⟩ (.slice (some ⟨g, 0, none⟩) r.length cap)).heap[k]? = Wc.heap[k]? := fun k hne => Below.heap_setCell _ _ _ _ hne
  refine ⟨(hlo _ (by omega)).trans h.m, h.b.set _, ?_, h.bel.trans ⟨rfl, rfl, rfl, by simp [World.setCell], fun k hk => hlo k (by omega)⟩, by simp [World.setCell]; omega, h.keep.trans (KeepsOthers.setCell _ _ _), h.two.t ⟨fun k hk => hlo k (by omega), hlo _ (by omega), hlo _ (by omega)⟩⟩
  exact hrow.kept (grownBy_setCell' Wc _ _) (.inr (h.b.not_row (by decide) hrow).symm)
/-- A row without its last span. -/
theorem row_pop {W : World} {base : Nat} {x : Nat × Nat} {r : List (Nat × Nat)} {v : Value} (h : W.ownsRow base 73 2 v (x :: r).reverse.length (hitCells (x :: r).reverse)) :
    ∃ g cap, v = .slice (some ⟨g, 0, none⟩) (r.length + 1) cap ∧ r.length + 1 ≤ cap ∧ cap ≤ maxLen ∧ W.ownsRow base 73 2 (.slice (some ⟨g, 0, none⟩) r.length cap) r.reverse.length (hitCells r.reverse) ∧
      W.cell? ⟨g, r.length * 2, none⟩ = some (.int .i64 (x.1 : Int)) ∧ W.cell? ⟨g, r.length * 2 + 1, none⟩ = some (.int .i64 (x.2 : Int)) := by
  have hlen : (x :: r).reverse.length = r.length + 1 := by simp
  have hc : hitCells (x :: r).reverse = hitCells r.reverse ++ [.int .i64 (x.1 : Int), .int .i64 (x.2 : Int)] := by rw [List.reverse_cons, hitCells_snoc]
  have hcl : (hitCells r.reverse).length = r.length * 2 := by rw [hitCells_len, List.length_reverse]
  rw [hlen, hc] at h
  rcases h.2 with ⟨_, h0⟩ | ⟨g, cap, cur, hv, hb, hg, h1, h2, h3, h4⟩
  · omega
  · subst hv
    refine ⟨g, cap, rfl, h1, h2, ⟨by rw [hcl, List.length_reverse], .inr ⟨g, cap, cur, by rw [List.length_reverse], hb, hg, by rw [List.length_reverse]; omega, h2, h3, ?_⟩⟩, ?_, ?_⟩
    · have := congrArg (List.take (r.length * 2)) h4
      rw [List.take_take, List.take_append_of_le_length (by omega), List.take_of_length_le (l := hitCells r.reverse) (by omega), show min (r.length * 2) ((r.length + 1) * 2) = r.length * 2 from by omega] at this
      rw [List.length_reverse]
      exact this
    · rw [World.ownsRow.cellAt h (r.length * 2) (by omega), List.getElem?_append_right (by omega), hcl]
      simp
    · rw [World.ownsRow.cellAt h (r.length * 2 + 1) (by omega), List.getElem?_append_right (by omega), hcl]
      simp

theorem covR_nil (s : ByteArray) : ∀ es, covR [] s es = [] := fun es => by
  have : ∀ (es : List Nat), es.foldl (covStep [] s) [] = [] := by
    intro es
    induction es with
    | nil => rfl
    | cons e es ih =>
      rw [List.foldl_cons]
      have : covStep [] s [] e = [] := by
        unfold covStep
        rcases wl_spec [] s e with ⟨h0, _⟩ | ⟨_, _, ⟨i, hh⟩, _⟩
        · rw [if_pos h0]
        · have := hh.lt
          simp at this
      rw [this]
      exact ih
  exact this es
theorem Src.cov {w : World} {m : Value} {s : ByteArray} {xs : List (Nat × Nat)} {l : List ByteArray} (h : Src w m s xs l) : (covR l s (xs.attach.map fun x => x.1.1)).reverse = spansOf l s := by
  rw [show (xs.attach.map fun x => x.1.1) = xs.map Prod.fst from List.attach_map_val (f := Prod.fst)]
  unfold spansOf
  rcases h with ⟨rfl, rfl, _⟩ | ⟨base, mp, bm, n, sg, scap, vs, lab, ends, sts, h1, h2, h3, h4, rfl⟩
  · rw [covR_nil, covR_nil]
  · unfold walkL
    rw [List.map_map]
    rfl

set_option maxRecDepth 100000 in
set_option maxHeartbeats 4000000 in
theorem covered_any (mo : Option Addr) (s : ByteArray) (xs : List (Nat × Nat)) (l : List ByteArray) (w : World) (hs : s.size ≤ 1000000000) (hl : (s.size + 2) * (l.length + 1) ≤ 1000000000000) (h : Src w (.pointer mo) s xs l) :
    Calls Try.prog 30 #[.pointer mo, .string s] w fun e W' => ∃ v, e = .returned v ∧ W'.ownsRow w.heap.size 73 2 v (spansOf l s).length (hitCells (spansOf l s)) ∧ Below w.heap.size w W' := by
  refine (callsIn_wide (n := 5)).1 ?_
  have hmix : Try.prog.follows .mixedOrders = true := by kernel_rfl
  obtain ⟨i0, hi, hz0, hz1, hz2⟩ := info_parts infoSpan
  have HS := Lib.hid h
  clear h
  refine callsIn_of_wp_marks Try.func30 rfl trivial ?_ rfl
  simp only [Try.ntmps30, List.size_toArray, List.length_cons, List.length_nil, Nat.reduceAdd, Nat.reduceSub, Array.replicate_succ, Array.replicate_zero, List.push_toArray, List.append_toArray, List.nil_append, List.cons_append]
  gi_wp2_with (refine ⟨trivial, ?_⟩; gi_at_call 24; refine (walk_in _ _ _ _).mono ?_; rintro e w' ⟨rfl, rfl⟩)
  have bM := Boxed.new w 25 (.pointer mo)
  have bR := Boxed.new (w.alloc (.cells #[.pointer mo] 25)) 70 (.slice none 0 0)
  rw [World.size_alloc] at bR
  have hB0 : Below w.heap.size w ((w.alloc (.cells #[.pointer mo] 25)).alloc (.cells #[.slice none 0 0] 70)) := ((Below.refl _ w).alloc (Nat.le_refl _) _).alloc (by simp) _
  obtain ⟨w0, hw0⟩ : ∃ w0, (w.alloc (.cells #[.pointer mo] 25)).alloc (.cells #[.slice none 0 0] 70) = w0 := ⟨_, rfl⟩
  have hz : w.heap.size + 1 + 1 = w0.heap.size := by rw [← hw0]; simp
  have bM0 : Boxed w0 w.heap.size 25 (.pointer mo) := by rw [← hw0]; exact bM.alloc _
  rw [hw0] at bR hB0
  have hB1 : Below w.heap.size w ((w0.alloc (.cells #[.pointer mo] 25)).alloc (.cells #[.string s] 9)) := (hB0.alloc (by omega) _).alloc (by simp; omega) _
  simp only [hw0, hz]
  clear bM hw0
  refine range_walk (.pointer mo) s (by omega) xs l w HS.out w0 (by omega) hB0.block rfl
    (SpanI w w0 mo l s) (fun _ _ _ => False) (spanI_own w w0 mo l s xs hz) (fun _ _ _ _ _ hs _ _ => hs)
    ⟨⟨(bM0.alloc _).alloc _, _, (bR.alloc _).alloc _, World.ownsRow_nil _ _ _ _, trivial⟩, hB1, by simp⟩
    (fun x => { tmps := #[.pointer mo, .string s, .pointer (some ⟨w.heap.size, 0, none⟩), undef, .slice none 0 0, .pointer (some ⟨w.heap.size + 1, 0, none⟩), .int .i64 (x.1.1 : Int), .int .i64 (x.1.2 : Int), undef, undef, .pointer mo, .string s, .func (.func 34) #[] #[.pointer (some ⟨w0.heap.size, 0, none⟩), .pointer (some ⟨w0.heap.size + 1, 0, none⟩)], .int .i64 (x.1.1 : Int), .int .i64 (x.1.2 : Int), undef, undef, undef, undef, undef, undef, undef, undef, undef, undef, undef, undef, undef, undef, undef, undef, undef, undef, undef, undef, undef, undef, undef, undef, undef, undef, undef, undef, undef, undef, undef, undef, undef, undef, undef, undef, undef, undef, undef, undef, undef, undef, undef, undef, undef, undef, undef, undef, undef, undef, undef, undef, undef, undef, undef], defers := [] }) ?assign ?body ?done ?stop
  case assign =>
    intro l x W K hK
    gi_wp2
    exact hK
  case body =>
    rintro l' pre x W hI hlt
    obtain ⟨base, mp, bm, n, sg, scap, vs, lab, ends, sts, st, k, hmo, hM, hMd, hsl, hst, hxk, hx1, hks, hlab, rfl⟩ := HS.out.reads x
    cases hmo
    obtain ⟨⟨hm, v, hv, hrow, -⟩, hB, hws⟩ := hI
    have hM' := hM.below hB
    have c2 := hM'.cell2
    have cw := hM'.st2 hst
    have hql := (List.getElem?_eq_some_iff.1 hst).1
    have hc := hm.cell
    obtain ⟨wd, hwl, hwe, hwsf, hwmax⟩ := hMd.word hxk hst
    have hwlen := made_wl hMd hks hwe hwsf hwmax
    rw [← hx1] at hwlen
    have hlen := covR_len l s (pre.map fun x => x.1.1)
    rw [List.length_map] at hlen
    have hsnoc := covR_snoc l s (pre.map fun x => x.1.1) x.1.1
    rw [show (pre.map fun x => x.1.1) ++ [x.1.1] = ((pre ++ [x]).map fun x => x.1.1) from by simp] at hsnoc
    have hJ0 : SpanJ w w0 mp W (covR l s (pre.map fun x => x.1.1)) v W := ⟨hm, hv, hrow, hB, hws, KeepsOthers.refl _, fun _ _ => rfl, rfl, rfl⟩
    have Hend : ∀ (v' : Value) (Wc : World), SpanJ w w0 mp W (covStep l s (covR l s (pre.map fun x => x.1.1)) x.1.1) v' Wc → KeepsFrom (w0.heap.size + 2) W Wc ∧ KeepM w.heap.size w0.heap.size (w0.heap.size + 1) W Wc ∧ SpanI w w0 (some ⟨mp, 0, none⟩) l s (pre ++ [x]) Wc := fun v' Wc h => ⟨h.keep.from _, h.two, ⟨h.m, v', h.b, by rw [hsnoc]; exact h.row, trivial⟩, h.bel, h.size⟩
    generalize covR l s (pre.map fun x => x.1.1) = r0 at hrow hlen hsnoc hJ0 Hend
    have hwq := (List.getElem?_eq_some_iff.1 hwl).1
    rw [← hMd.auto.len] at hwq
    obtain ⟨sq, hsq⟩ : ∃ t, sts[st.word]? = some t := ⟨_, List.getElem?_eq_getElem hwq⟩
    have hdp := hMd.auto.depth st.word wd sq hwl hsq
    have cd := hM'.st0 hsq
    rw [hdp] at cd
    have hwdle : wd.length ≤ k + 1 := by have := hwsf.length_le; rw [List.length_take] at this; omega
    have hroot : st.word = 0 ↔ wd = [] := hMd.auto.root hwl
    have hsub : ((x.1.1 : Int) - (wd.length : Int)) = ((k + 1 - wd.length : Nat) : Int) := by rw [hx1]; omega
    have hxb : x.1.1 ≤ 1000000001 := by rw [hx1]; omega
    have hrl : r0.length ≤ 1000000001 := by omega
    have hcv := hv.cell
    have HM := Lib.hid hM
    have HB := Lib.hid hB
    have Hrow := Lib.hid hrow
    have HJ0 := Lib.hid hJ0
    have HEnd := Lib.hid Hend
    have Hwlen := Lib.hid hwlen
    have Hsub := Lib.hid hsub
    have Hx1 := Lib.hid hx1
    have Hlen := Lib.hid hlen
    clear hM hMd hB hm hv hrow hwl hwe hwsf hwmax hst hxk hlab hx1 hsnoc hJ0 Hend hlen hwlen hdp hsq hM' hsub
    by_cases h0 : st.word = 0
    · have e0 : ((st.word : Int) == 0) = true := by rw [h0]; rfl
      have h := HEnd.out v W (by unfold covStep; rw [if_pos (by rw [Hwlen.out, hroot.1 h0]; rfl)]; exact HJ0.out)
      clear HEnd
      gi_wp2
      exact h
    · have e0 : ((st.word : Int) == 0) = false := by rw [beq_eq_false_iff_ne]; omega
      have hwpos : 0 < wd.length := by
        rcases wd with _ | ⟨b, wd⟩
        · exact absurd (hroot.2 rfl) h0
        · simp
      clear hroot
      have hwb : wd.length ≤ 1000000001 := by omega
      gi_wp2
      gi_loopw [9] (fun fv wr => ∃ (f : Nat) (r : List (Nat × Nat)) (lv : Value), fv = .int .i64 (f : Int) ∧ f ≤ 1000000001 ∧ r.length ≤ r0.length ∧ Hid (popR r f = popR r0 (k + 1 - wd.length)) ∧ Hid (SpanJ w w0 mp W r lv wr)) (fun _ wr => match wr.cell? ⟨w.heap.size + 1, 0, none⟩ with | some (.slice _ n _) => n | _ => 0)
      case atStart => exact ⟨_, r0, v, (by rw [Hsub.out]), by omega, Nat.le_refl _, rfl, HJ0⟩
      case round =>
        obtain ⟨f, r, lv, rfl, hfb, hrr, Hpop, HJ⟩ := hrel
        have hcl := HJ.out.b.cell
        by_cases hgo : ∃ y r', r = y :: r' ∧ f ≤ y.2
        · obtain ⟨y, r', rfl, hy⟩ := hgo
          obtain ⟨g, cap, rfl, hcap, hcm, hrow', hy1, hy2⟩ := row_pop HJ.out.row
          have hf := HJ.out.b.frozen
          simp only [List.length_cons] at hrr
          have ey : decide ((f : Int) ≤ (y.2 : Int)) = true := decide_eq_true (by omega)
          have Hrow' := Lib.hid hrow'
          have Hy := Lib.hid hy
          clear hrow' hy
          gi_wp2
          have hj := spanJ_pop HJ.out hz Hrow'.out
          have hcl' := hj.b.cell
          have HJ' := Lib.hid hj
          clear hj
          go_roundw
          case rel => exact ⟨min f y.1, r', _, by congr 1; simp only [Nat.min_def]; split <;> split <;> omega, by omega, by omega, Lib.hid (by rw [← Hpop.out]; conv => { rhs; unfold popR }; rw [if_pos Hy.out]), HJ'⟩
          case measure => rw [hcl', hcl]; simp
        · have hpop : popR r f = (r, f) := by
            rcases r with _ | ⟨y, r'⟩
            · rfl
            · unfold popR
              rw [if_neg (fun h => hgo ⟨y, r', rfl, h⟩)]
          have Hpp := Lib.hid hpop
          clear hpop
          rcases r with _ | ⟨y, r'⟩
          · have hws2 := HJ.out.size
            clear hgo
            have hlv : lv = .slice none 0 0 ∨ ∃ g cap, lv = .slice (some ⟨g, 0, none⟩) 0 cap := by
              rcases HJ.out.row.2 with ⟨h, _⟩ | ⟨g, cap, cur, h, _⟩
              · exact .inl h
              · exact .inr ⟨g, cap, h⟩
            rcases hlv with rfl | ⟨g, cap, rfl⟩
            · gi_wp2_with (gi_at_builtin; refine wpListIn_append_own _ rfl _ _ 70 rfl (w0.heap.size + 2) 73 i0 _ 2 16 Try.underlying70 hi hz0 hz1 hz2 rfl (by decide) _ _ _ rfl (HJ.out.row.alloc _) ⟨wr.heap.size, 0, none⟩ 1 1 [.int .i64 (f : Int), .int .i64 (x.1.1 : Int)] rfl rfl (cell_two_new _ _ _ _) (by simp [Value.oneCell']) (by unfold maxLen; simp <;> omega) (by simp <;> omega) (by simp <;> omega) ?_; intro v' w7 hown hg _; obtain ⟨g7, cap7, rfl⟩ := ownsRow_succ hown; obtain ⟨hJ8, hb7⟩ := spanJ_one (x := (f, x.1.1)) HJ.out hz (span_snoc hown) hg; have hc7 := hb7.cell; have hf7 := hb7.frozen)
              apply HEnd.out
              unfold covStep
              rw [if_neg (by rw [Hwlen.out]; omega), Hwlen.out, show x.1.1 - wd.length = k + 1 - wd.length from by rw [Hx1.out], ← Hpop.out, Hpp.out]
              exact hJ8
            · gi_wp2_with (gi_at_builtin; refine wpListIn_append_own _ rfl _ _ 70 rfl (w0.heap.size + 2) 73 i0 _ 2 16 Try.underlying70 hi hz0 hz1 hz2 rfl (by decide) _ _ _ rfl (HJ.out.row.alloc _) ⟨wr.heap.size, 0, none⟩ 1 1 [.int .i64 (f : Int), .int .i64 (x.1.1 : Int)] rfl rfl (cell_two_new _ _ _ _) (by simp [Value.oneCell']) (by unfold maxLen; simp <;> omega) (by simp <;> omega) (by simp <;> omega) ?_; intro v' w7 hown hg _; obtain ⟨g7, cap7, rfl⟩ := ownsRow_succ hown; obtain ⟨hJ8, hb7⟩ := spanJ_one (x := (f, x.1.1)) HJ.out hz (span_snoc hown) hg; have hc7 := hb7.cell; have hf7 := hb7.frozen)
              apply HEnd.out
              unfold covStep
              rw [if_neg (by rw [Hwlen.out]; omega), Hwlen.out, show x.1.1 - wd.length = k + 1 - wd.length from by rw [Hx1.out], ← Hpop.out, Hpp.out]
              exact hJ8
          · obtain ⟨g, cap, rfl, hcap, hcm, hrow', hy1, hy2⟩ := row_pop HJ.out.row
            simp only [List.length_cons] at hrr
            have hlt : y.2 < f := by
              rcases Nat.lt_or_ge y.2 f with h | h
              · exact h
              · exact absurd ⟨y, r', rfl, h⟩ hgo
            have ey : decide ((f : Int) ≤ (y.2 : Int)) = false := decide_eq_false (by omega)
            clear hgo hrow'
            have hws2 := HJ.out.size
            gi_wp2_with (gi_at_builtin; refine wpListIn_append_own _ rfl _ _ 70 rfl (w0.heap.size + 2) 73 i0 _ 2 16 Try.underlying70 hi hz0 hz1 hz2 rfl (by decide) _ _ _ rfl (HJ.out.row.alloc _) ⟨wr.heap.size, 0, none⟩ 1 1 [.int .i64 (f : Int), .int .i64 (x.1.1 : Int)] rfl rfl (cell_two_new _ _ _ _) (by simp [Value.oneCell']) (by unfold maxLen; simp <;> omega) (by simp <;> omega) (by simp <;> omega) ?_; intro v' w7 hown hg _; obtain ⟨g7, cap7, rfl⟩ := ownsRow_succ hown; obtain ⟨hJ8, hb7⟩ := spanJ_one (x := (f, x.1.1)) HJ.out hz (span_snoc hown) hg; have hc7 := hb7.cell; have hf7 := hb7.frozen)
            apply HEnd.out
            unfold covStep
            rw [if_neg (by rw [Hwlen.out]; omega), Hwlen.out, show x.1.1 - wd.length = k + 1 - wd.length from by rw [Hx1.out], ← Hpop.out, Hpp.out]
            simpa only [List.length_reverse, List.length_cons] using hJ8
  case done =>
    rintro D W hD ⟨⟨hm, v, hv, hrow, -⟩, hB, hws⟩ hK
    have hc := hv.cell
    gi_wp2
    refine ⟨by simp, .inl ⟨_, _, rfl, run_takeDeferred hK, ?_⟩⟩
    refine ⟨_, results_tmp rfl _ _ _, v, rfl, ?_, hB.trans (belowK_b (w := w) (Nat.le_refl _) _ D _ _ (by omega) hK rfl rfl)⟩
    have hrow' := hrow
    rw [HS.out.cov] at hrow'
    refine ⟨hrow'.1, ?_⟩
    rcases hrow'.2 with ⟨h1, h2⟩ | ⟨g', cap', cur, h1, h2, h3, h4⟩
    · exact .inl ⟨h1, h2⟩
    · refine .inr ⟨g', cap', cur, h1, by omega, ?_, h4⟩
      have hne : g' ≠ D := fun e => by rw [e, hK] at h3; cases h3
      rw [World.putObj_heap_other hne]
      exact h3
  case stop =>
    rintro D c k W _ hk h hK
    exact h.elim
end Go.Proofs.Ytpgiaofkabhgkaa
