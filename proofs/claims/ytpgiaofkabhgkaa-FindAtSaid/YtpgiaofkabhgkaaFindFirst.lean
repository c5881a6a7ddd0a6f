/-
  (*find.Many).First.
-/
import Derived.Test.YtpgiaofkabhgkaaFindNobody
import Derived.Test.YtpgiaofkabhgkaaPlainFirst
import Derived.Test.YtpgiaofkabhgkaaRefFirst
import Derived.Test.YtpgiaofkabhgkaaPlainShift
import Derived.Test.YtpgiaofkabhgkaaPlainBest
import Derived.Test.YtpgiaofkabhgkaaFirstEffs
import Derived.Deep.MidRow
namespace Go.Proofs.Ytpgiaofkabhgkaa
set_option linter.unusedVariables false
set_option linter.unusedSimpArgs false
open Go.RowKit Go.Shelf
attribute [local go_sem] Oper.semAt_some

theorem ownFrom_block {β : Type} {B k : Nat} (hk : k < B) (f : β → Obj) : OwnFrom B (fun s W => W.heap[k]? = some (f s)) := fun s X Y row hs hg hr => by
  have hlt := (Array.getElem?_eq_some_iff.1 hs).1
  exact (hg.block k hlt (fun e => by have := (hr k e.symm).1; omega)).trans hs

theorem first_stored (w11 : World) (D : Nat) (c2 : Array Value) (c3 : Array Value) (a b : Int) (h2 : w11.heap[D + 2]? = some (.cells c2 36 (0, 0))) (h3 : w11.heap[D + 3]? = some (.cells c3 4 (0, 0))) (hc2 : c2.size = 2) (hc3 : c3.size = 1) :
    let We := (((w11.setCell ⟨D + 2, 0, none⟩ (.int .i64 a)).setCell ⟨D + 2, 1, none⟩ (.int .i64 b)).setCell ⟨D + 3, 0, none⟩ (.bool true))
    We.heap[D + 2]? = some (.cells #[.int .i64 a, .int .i64 b] 36 (0, 0)) ∧ We.heap[D + 3]? = some (.cells #[.bool true] 4 (0, 0)) ∧ (∀ k, k ≠ D + 2 → k ≠ D + 3 → We.heap[k]? = w11.heap[k]?) ∧ KeepsOthers w11 We ∧ We.heap.size = w11.heap.size := by
  obtain ⟨x, y, rfl⟩ : ∃ x y, c2 = #[x, y] := by
    obtain ⟨l⟩ := c2
    match l, hc2 with
    | [x, y], _ => exact ⟨x, y, rfl⟩
  obtain ⟨z, rfl⟩ : ∃ z, c3 = #[z] := by
    obtain ⟨l⟩ := c3
    match l, hc3 with
    | [z], _ => exact ⟨z, rfl⟩
  refine ⟨?_, ?_, fun k hk2 hk3 => ?_, ?_, ?_⟩
  · simp [World.setCell, Array.getElem?_modify, h2]
  · simp [World.setCell, Array.getElem?_modify, h3]
  · rw [Below.heap_setCell _ _ _ _ hk3, Below.heap_setCell _ _ _ _ hk2, Below.heap_setCell _ _ _ _ hk2]
  · exact ((KeepsOthers.setCell _ _ _).trans (KeepsOthers.setCell _ _ _)).trans (KeepsOthers.setCell _ _ _)
  · simp [World.setCell]
/-- What holds behind so many steps of First. -/
def FirstI (w : World) (mo : Option Addr) (l : List ByteArray) (s : ByteArray) {xs : List (Nat × Nat)} (pre : List (WStep xs)) (W : World) : Prop :=
  (W.heap[w.heap.size]? = some (.cells #[.pointer mo] 25 (0, 0)) ∧ W.heap[w.heap.size + 1]? = some (.cells #[.int .i64 0, .int .i64 0] 36 (0, 0))) ∧
  (W.heap[w.heap.size + 2]? = some (.cells #[.int .i64 ((((firstR l s (pre.map fun x => x.1.1)).getD (0, 0)).1 : Nat) : Int), .int .i64 ((((firstR l s (pre.map fun x => x.1.1)).getD (0, 0)).2 : Nat) : Int)] 36 (0, 0)) ∧
   W.heap[w.heap.size + 3]? = some (.cells #[.bool (firstR l s (pre.map fun x => x.1.1)).isSome] 4 (0, 0))) ∧ Below w.heap.size w W ∧ w.heap.size + 6 ≤ W.heap.size
def FirstBrk (l : List ByteArray) (s : ByteArray) {xs : List (Nat × Nat)} (pre : List (WStep xs)) : Prop := ∃ x, pre.getLast? = some x ∧ ∃ f, firstR l s (pre.dropLast.map fun x => x.1.1) = some f ∧ ∀ a i e, x.1.1 ≤ e → HitE l s a i e → f.1 < a
theorem firstI_own (w : World) (mo : Option Addr) (l : List ByteArray) (s : ByteArray) (xs : List (Nat × Nat)) : OwnFrom (w.heap.size + 6) (FirstI w mo l s (xs := xs)) :=
  OwnFrom.and (OwnFrom.and (ownFrom_block (by omega) _) (ownFrom_block (by omega) _)) (OwnFrom.and (OwnFrom.and (ownFrom_block (by omega) _) (ownFrom_block (by omega) _)) (OwnFrom.and (ownFrom_below (Nat.le_refl _) (by omega)) (fun _ _ _ _ h hg _ => Nat.le_trans h hg.size)))
theorem firstI_next {w : World} {mo : Option Addr} {l : List ByteArray} {s : ByteArray} {xs : List (Nat × Nat)} {pre : List (WStep xs)} {x : WStep xs} {acc r' : Option (Nat × Nat)} {e : Nat} {W' : World} (hacc : firstR l s (pre.map fun x => x.1.1) = acc) (he : x.1.1 = e) (hr : firstStep l s acc e = r') (hm : W'.heap[w.heap.size]? = some (.cells #[.pointer mo] 25 (0, 0))) (hr1 : W'.heap[w.heap.size + 1]? = some (.cells #[.int .i64 0, .int .i64 0] 36 (0, 0)))
    (hh : W'.heap[w.heap.size + 2]? = some (.cells #[.int .i64 (((r'.getD (0, 0)).1 : Nat) : Int), .int .i64 (((r'.getD (0, 0)).2 : Nat) : Int)] 36 (0, 0))) (hf : W'.heap[w.heap.size + 3]? = some (.cells #[.bool r'.isSome] 4 (0, 0))) (hB : Below w.heap.size w W') (hs : w.heap.size + 6 ≤ W'.heap.size) : FirstI w mo l s (pre ++ [x]) W' := by
  unfold FirstI
  rw [List.map_append, List.map_cons, List.map_nil, firstR_snoc, hacc, he, hr]
  exact ⟨⟨hm, hr1⟩, ⟨hh, hf⟩, hB, hs⟩

theorem better_take {f : Nat × Nat} {a b : Nat} (h : a < f.1 ∨ a = f.1 ∧ b < f.2) : better (some f) (a, b) = some (a, b) := if_pos h
theorem better_keep {f : Nat × Nat} {a b : Nat} (h : ¬ (a < f.1 ∨ a = f.1 ∧ b < f.2)) : better (some f) (a, b) = some f := if_neg h
theorem first_close (w : World) (mo : Option Addr) (l : List ByteArray) (s : ByteArray) {xs : List (Nat × Nat)} {pre : List (WStep xs)} {x : WStep xs} {acc r' : Option (Nat × Nat)} {e : Nat} {W Wn : World} {B : Nat} {Ix : Code → List (WStep xs) → World → Prop} {a : Act} (hB4 : B = w.heap.size + 4) (hW6 : w.heap.size + 6 ≤ W.heap.size)
    (hacc : firstR l s (pre.map fun x => x.1.1) = acc) (he : x.1.1 = e) (hr : firstStep l s acc e = r') (hK : KeepsOthers W Wn) (ho : ∀ k', k' < W.heap.size → k' ≠ w.heap.size + 2 → k' ≠ w.heap.size + 3 → Wn.heap[k']? = W.heap[k']?)
    (hm : W.heap[w.heap.size]? = some (.cells #[.pointer mo] 25 (0, 0))) (hr1 : W.heap[w.heap.size + 1]? = some (.cells #[.int .i64 0, .int .i64 0] 36 (0, 0)))
    (t2 : Wn.heap[w.heap.size + 2]? = some (.cells #[.int .i64 (((r'.getD (0, 0)).1 : Nat) : Int), .int .i64 (((r'.getD (0, 0)).2 : Nat) : Int)] 36 (0, 0))) (t3 : Wn.heap[w.heap.size + 3]? = some (.cells #[.bool r'.isSome] 4 (0, 0))) (hsz : W.heap.size ≤ Wn.heap.size) (hB : Below w.heap.size w Wn) :
    ownPostG (B + 2) (KeepM w.heap.size B (B + 1)) (FirstI w mo l s) Ix (pre ++ [x]) W .normal a Wn := by
  subst hB4
  exact ⟨hK.from _, ⟨fun k' hk' => ho _ (by omega) (by omega) (by omega), ho _ (by omega) (by omega) (by omega), ho _ (by omega) (by omega) (by omega)⟩,
    firstI_next hacc he hr ((ho _ (by omega) (by omega) (by omega)).trans hm) ((ho _ (by omega) (by omega) (by omega)).trans hr1) t2 t3 hB (by omega)⟩

theorem first_fin {w Wd : World} {D : Nat} {a b : Int} (hD : w.heap.size + 4 ≤ D) (hK : Wd.heap[D]? = some (.deferred (some []))) (hR : Wd.heap[w.heap.size + 1]? = some (.cells #[.int .i64 0, .int .i64 0] 36 (0, 0))) (hB : Below w.heap.size w Wd) :
    ((Wd.setCell ⟨w.heap.size + 1, 0, none⟩ (.int .i64 a)).setCell ⟨w.heap.size + 1, 1, none⟩ (.int .i64 b)).heap[D]? = some (.deferred (some [])) ∧
    (((Wd.setCell ⟨w.heap.size + 1, 0, none⟩ (.int .i64 a)).setCell ⟨w.heap.size + 1, 1, none⟩ (.int .i64 b)).putObj D (.deferred none)).heap[w.heap.size + 1]? = some (.cells #[.int .i64 a, .int .i64 b] 36 (0, 0)) ∧
    Below w.heap.size w (((Wd.setCell ⟨w.heap.size + 1, 0, none⟩ (.int .i64 a)).setCell ⟨w.heap.size + 1, 1, none⟩ (.int .i64 b)).putObj D (.deferred none)) := by
  have hKe : ((Wd.setCell ⟨w.heap.size + 1, 0, none⟩ (.int .i64 a)).setCell ⟨w.heap.size + 1, 1, none⟩ (.int .i64 b)).heap[D]? = some (.deferred (some [])) := by
    rw [Below.heap_setCell _ _ _ _ (by dsimp only; omega), Below.heap_setCell _ _ _ _ (by dsimp only; omega)]
    exact hK
  refine ⟨hKe, (World.putObj_heap_other (by omega)).trans ?_, ?_⟩
  · simp [World.setCell, Array.getElem?_modify, hR]
  · exact ((hB.setCell (Nat.le_add_right _ 1) _).setCell (Nat.le_add_right _ 1) _).trans (belowK_b (w := w) (Nat.le_refl _) _ D _ _ (by omega) hKe rfl rfl)

set_option maxRecDepth 100000 in
set_option maxHeartbeats 4000000 in
theorem first_any (mo : Option Addr) (l : List ByteArray) (s : ByteArray) (fr : Int) (w : World) (hs : s.size ≤ 1000000000) (hf : -9223372036854775808 ≤ fr ∧ fr ≤ 9223372036854775807) (hl : l.length ≤ 1000000) (h : ∀ s' : ByteArray, ∃ xs, Src w (.pointer mo) s' xs l) :
    Calls Try.prog 15 #[.pointer mo, .string s, .int .i64 fr] w fun e W' => e = .returned (firstV (if (s.size : Int) ≤ max fr 0 then none else ((hitsL l (s.extract (max fr 0).toNat s.size)).head?.map fun x => (x.1 + (max fr 0).toNat, x.2)))) ∧ Below w.heap.size w W' := by
  refine (callsIn_wide (n := 5)).1 ?_
  have hmix : Try.prog.follows .mixedOrders = true := by kernel_rfl
  have hf1 := hf.1
  have hf2 := hf.2
  have HS := Lib.hid h
  clear h hf
  obtain ⟨f, hfm⟩ : ∃ f : Nat, max fr 0 = (f : Int) := ⟨(max fr 0).toNat, by omega⟩
  have hfb : (f : Int) ≤ 9223372036854775807 := by omega
  have HS := HS.out
  obtain ⟨R, hR⟩ : ∃ R, R = firstV (if (s.size : Int) ≤ max fr 0 then none else ((hitsL l (s.extract (max fr 0).toNat s.size)).head?.map fun x => (x.1 + (max fr 0).toNat, x.2))) := ⟨_, rfl⟩
  rw [← hR]
  rw [hfm] at hR
  have HR := Lib.hid hR
  clear hR
  by_cases hn : s.size ≤ f
  · refine callsIn_of_wp_marks Try.func15 rfl trivial ?_ rfl
    simp only [Try.ntmps15, List.size_toArray, List.length_cons, List.length_nil, Nat.reduceAdd, Nat.reduceSub, Array.replicate_succ, Array.replicate_zero, List.push_toArray, List.append_toArray, List.nil_append, List.cons_append]
    gi_wp2
    refine ⟨_, results_hit rfl _ _ (g := w.heap.size + 1) rfl (by rw [show w.heap.size + 1 = (w.alloc (.cells #[.pointer mo] 25)).heap.size from (World.size_alloc _ _).symm]; exact World.alloc_heap_new _ _), by rw [HR.out, if_pos (by omega)]; rfl, ((Below.refl _ _).alloc (Nat.le_refl _) _).alloc (by simp) _⟩
  · have hlt : f < s.size := by omega
    refine callsIn_of_wp_marks Try.func15 rfl trivial ?_ rfl
    simp only [Try.ntmps15, List.size_toArray, List.length_cons, List.length_nil, Nat.reduceAdd, Nat.reduceSub, Array.replicate_succ, Array.replicate_zero, List.push_toArray, List.append_toArray, List.nil_append, List.cons_append]
    gi_wp2
    obtain ⟨W4, hW4⟩ : ∃ W4, W4 = ((((w.alloc (.cells #[.pointer mo] 25)).alloc (.cells #[.int .i64 0, .int .i64 0] 36)).alloc (.cells #[.int .i64 0, .int .i64 0] 36)).alloc (.cells #[.bool false] 4)) := ⟨_, rfl⟩
    rw [← hW4]
    have hz : W4.heap.size = w.heap.size + 4 := by rw [hW4]; simp
    have hB4 : Below w.heap.size w W4 := by rw [hW4]; exact ((((Below.refl _ _).alloc (Nat.le_refl _) _).alloc (by simp) _).alloc (by simp; omega) _).alloc (by simp; omega) _
    have bM : Boxed W4 w.heap.size 25 (.pointer mo) := by rw [hW4]; exact (((Boxed.new w _ _).alloc _).alloc _).alloc _
    have bR : W4.heap[w.heap.size + 1]? = some (.cells #[.int .i64 0, .int .i64 0] 36 (0, 0)) := by
      have h := World.alloc_heap_new (w.alloc (.cells #[.pointer mo] 25)) (.cells #[.int .i64 0, .int .i64 0] 36)
      rw [World.size_alloc] at h
      rw [hW4, Below.heap_alloc _ _ _ (by simp), Below.heap_alloc _ _ _ (by simp)]
      exact h
    have bF : Boxed W4 (w.heap.size + 3) 4 (.bool false) := by
      have h := Boxed.new (((w.alloc (.cells #[.pointer mo] 25)).alloc (.cells #[.int .i64 0, .int .i64 0] 36)).alloc (.cells #[.int .i64 0, .int .i64 0] 36)) 4 (.bool false)
      rw [World.size_alloc, World.size_alloc, World.size_alloc] at h
      rw [hW4]
      exact h
    have bH : W4.heap[w.heap.size + 2]? = some (.cells #[.int .i64 0, .int .i64 0] 36 (0, 0)) := by
      have h := World.alloc_heap_new ((w.alloc (.cells #[.pointer mo] 25)).alloc (.cells #[.int .i64 0, .int .i64 0] 36)) (.cells #[.int .i64 0, .int .i64 0] 36)
      rw [World.size_alloc, World.size_alloc] at h
      rw [hW4, Below.heap_alloc _ _ _ (by simp)]
      exact h
    clear hW4
    have hc := bM.cell
    obtain ⟨s', hs'⟩ : ∃ s', s' = s.extract f s.size := ⟨_, rfl⟩
    have hs'b : s'.size ≤ 1000000000 := by rw [hs']; simp; omega
    have Hs' := Lib.hid hs'
    have hflt : (f : Int) ≤ (s.size : Int) := by omega
    clear hs'
    refine wpIn_region_head 4 (fun _ => trivial) hmix (by kernel_rfl) (by kernel_rfl) ?_
    simp only [List.take_succ_cons, List.take_zero, List.drop_succ_cons, List.drop_zero]
    repeat (go_big_quiet_step (fail))
    refine wpQuiet_nil ?_
    gi_wp2_with (refine ⟨trivial, ?_⟩; gi_at_call 24; refine (walk_in _ _ _ _).mono ?_; rintro e w' ⟨rfl, rfl⟩)
    rw [← Hs'.out]
    obtain ⟨xs, hX⟩ := HS s'
    have hzd : W4.drew.heap.size = w.heap.size + 4 := hz
    have hBd : Below (w.heap.size + 4) W4 W4.drew := ⟨rfl, rfl, rfl, Nat.le_refl _, fun _ _ => rfl⟩
    have hBd2 : Below (w.heap.size + 4) W4 ((W4.drew.alloc (.cells #[.pointer mo] 25)).alloc (.cells #[.string s'] 9)) := (hBd.alloc (by omega) _).alloc (by rw [World.size_alloc]; omega) _
    refine range_walk (.pointer mo) s' (by omega) xs l w hX W4.drew (by omega) (fun k hk => hB4.block k hk) (by rw [hzd]; rfl)
      (FirstI w mo l s') (fun c pre W => FirstI w mo l s' pre.dropLast W ∧ FirstBrk l s' pre ∧ c = .exit 0) ?own ?ownx ?start
      (fun x => { tmps := #[.pointer mo, .string s, .int .i64 (f : Int), .pointer (some ⟨w.heap.size, 0, none⟩), undef, undef, .pointer (some ⟨w.heap.size + 1, 0, none⟩), .bool false, .pointer (some ⟨w.heap.size + 1 + 1, 0, none⟩), .pointer (some ⟨w.heap.size + 1 + 1 + 1, 0, none⟩), .int .i64 (x.1.1 : Int), .int .i64 (x.1.2 : Int), undef, undef, .int .i64 fr, .int .i64 (f : Int), .int .i64 (f : Int), .string s, .int .i64 (s.size : Int), .bool false, undef, .agg #[.int .i64 0, .int .i64 0], .pointer mo, .string s, .int .i64 (f : Int), .string s', .func (.func 34) #[] #[.pointer (some ⟨w.heap.size + 4, 0, none⟩), .pointer (some ⟨w.heap.size + 4 + 1, 0, none⟩)], .int .i64 (x.1.1 : Int), .int .i64 (x.1.2 : Int), undef, undef, undef, undef, undef, undef, undef, undef, undef, undef, undef, undef, undef, undef, undef, undef, undef, undef, undef, undef, undef, undef, undef, undef, undef, undef, undef, undef, undef, undef, undef, undef, undef, undef, undef, undef, undef, undef, undef, undef, undef, undef, undef, undef, undef, undef, undef, undef, undef, undef, undef, undef, undef, undef, undef, undef, undef, undef, undef, undef, undef, undef, undef, undef, undef, undef, undef, undef, undef, undef, undef, undef, undef, undef, undef], defers := [] }) ?assign ?body ?done ?stop
    case own => rw [hzd]; exact firstI_own w mo l s' xs
    case ownx =>
      intro c pre X Y row h hg hr
      rw [hzd] at hr
      exact ⟨firstI_own w mo l s' xs pre.dropLast X Y row h.1 hg hr, h.2⟩
    case start =>
      have hbb := fun k (hk : k < w.heap.size + 4) => hBd2.block k hk
      exact ⟨⟨(hbb _ (by omega)).trans bM, (hbb _ (by omega)).trans bR⟩, ⟨(hbb _ (by omega)).trans bH, (hbb _ (by omega)).trans bF⟩, hB4.trans (hBd2.mono (by omega)), by rw [World.size_alloc, World.size_alloc]; omega⟩
    case assign =>
      intro l x W K hK
      gi_wp2
      exact hK
    case body =>
      rintro l' pre x W hI hlt
      obtain ⟨base, mp, bm, n, sg, scap, vs, lab, ends, sts, st, k, hmo, hM, hMd, hsl, hst, hxk, hx1, hks, hlab, rfl⟩ := hX.reads x
      cases hmo
      obtain ⟨⟨hm, hr1⟩, ⟨hh, hfd⟩, hB, hW6⟩ := hI
      have hM' := hM.below hB
      obtain ⟨wd, hwl, hwe, hwsf, hwmax⟩ := hMd.word hxk hst
      have hwls := (List.getElem?_eq_some_iff.1 hwl).1
      rw [← hMd.auto.len] at hwls
      obtain ⟨sw, hsw⟩ : ∃ t, sts[st.word]? = some t := ⟨_, List.getElem?_eq_getElem hwls⟩
      obtain ⟨vq, hvq⟩ := hM.val hsw
      have hdw := hMd.auto.depth _ _ _ hwl hsw
      have hdx := hMd.auto.depth _ _ _ hlab hst
      have hwlen := made_wl hMd hks hwe hwsf hwmax
      have hwle : wd.length ≤ k + 1 := by have := hwsf.length_le; rw [List.length_take] at this; omega
      have hwrow0 := hM.whi _ sw vq hsw hvq
      obtain ⟨ao, vm, vcp, hvqe⟩ : ∃ ao m cap, vq = .slice ao m cap := by
        rcases hwrow0.2 with ⟨h, _⟩ | ⟨g, cap, cur, h, _⟩
        · exact ⟨_, _, _, h⟩
        · exact ⟨_, _, _, h⟩
      have hvm : vm = sw.which.length := by
        rcases hwrow0.2 with ⟨h, h'⟩ | ⟨g, cap, cur, h, _⟩
        · rw [hvqe] at h; cases h; exact h'.symm
        · rw [hvqe] at h; cases h; rfl
      subst hvqe
      subst hvm
      have hwsm : (wd = [] ∧ sw.which = []) ∨ (wd ≠ [] ∧ ∃ r, sw.which = bestI l s' (k + 1 - wd.length) (k + 1) :: r) := by
        rcases hwe with h | h
        · subst h
          have h0 := (hMd.auto.root hwl).2 rfl
          rw [h0] at hsw
          exact .inl ⟨rfl, hMd.root_which hsw⟩
        · have hne := (hMd.ended_iff.1 h).1
          rw [hMd.which hwl hsw hne]
          exact .inr ⟨hne, hMd.best hks h hwsf⟩
      have hwz : wd = [] ↔ wl l s' (k + 1) = 0 := by rw [hwlen]; exact ⟨fun h => by rw [h]; rfl, List.eq_nil_of_length_eq_zero⟩
      have c2 := hM'.cell2
      have cw := hM'.st2 hst
      have cd := hM'.st0 hst
      have hql := (List.getElem?_eq_some_iff.1 hst).1
      have hDW : w.heap.size ≤ W.heap.size := hB.size
      have hc : W.cell? ⟨w.heap.size, 0, none⟩ = some (.pointer (some ⟨mp, 0, none⟩)) := by simp [World.cell?, hm]
      have hcf : W.cell? ⟨w.heap.size + 3, 0, none⟩ = some (.bool (firstR l s' (pre.map fun x => x.1.1)).isSome) := by simp [World.cell?, hfd]
      have hc0 : W.cell? ⟨w.heap.size + 2, 0, none⟩ = some (.int .i64 ((((firstR l s' (pre.map fun x => x.1.1)).getD (0, 0)).1 : Nat) : Int)) := by simp [World.cell?, hh]
      have hc1 : W.cell? ⟨w.heap.size + 2, 1, none⟩ = some (.int .i64 ((((firstR l s' (pre.map fun x => x.1.1)).getD (0, 0)).2 : Nat) : Int)) := by simp [World.cell?, hh]
      obtain ⟨acc, hacc⟩ : ∃ acc, firstR l s' (pre.map fun x => x.1.1) = acc := ⟨_, rfl⟩
      rw [hacc] at hcf hc0 hc1 hh hfd
      have Hacc := Lib.hid hacc
      have Hx1 := Lib.hid hx1
      clear hacc
      have HM := Lib.hid hM
      have HMd := Lib.hid hMd
      have HB := Lib.hid hB
      have Hst := Lib.hid hst
      have Hsw := Lib.hid hsw
      have Hvq := Lib.hid hvq
      have Hwlen := Lib.hid hwlen
      have Hwle := Lib.hid hwle
      have Hwz := Lib.hid hwz
      have Hdw := Lib.hid hdw
      have Hdx := Lib.hid hdx
      have Hwsm := Lib.hid hwsm
      clear hM hMd hB hM' hst hsw hvq hwlen hwle hwz hdw hdx hwsm hwl hwe hwsf hwmax hwrow0
      cases acc with
      | none =>
        simp only [Option.isSome_none, Option.getD_none] at hcf hc0 hc1 hh hfd
        gi_wp2
        refine wpIn_region_reads (fun _ => trivial) hmix (by kernel_rfl) (by kernel_rfl) ?_
        repeat (go_big_quiet_step (fail))
        refine wpQuiet_nil ?_
        gi_wp2
        obtain ⟨w6, hw6⟩ : ∃ w6, w6 = W.drew.drew := ⟨_, rfl⟩
        have hz6 : w6.heap.size = W.heap.size := by rw [hw6]; rfl
        have hB6 : Below W.heap.size W w6 := by rw [hw6]; exact ⟨rfl, rfl, rfl, Nat.le_refl _, fun _ _ => rfl⟩
        have hk6 : KeepsOthers W w6 := by rw [hw6]; exact (KeepsOthers.drew _).trans (KeepsOthers.drew _)
        obtain ⟨V, hV0, hV1⟩ : ∃ V : Nat → World, V 0 = w6 ∧ ∀ t, V (t + 1) = w6.alloc (.cells #[.int .i64 0, .int .i64 0, .int .i64 0, .slice none 0 0] 65) := ⟨fun t => match t with | 0 => w6 | _ + 1 => w6.alloc (.cells #[.int .i64 0, .int .i64 0, .int .i64 0, .slice none 0 0] 65), rfl, fun _ => rfl⟩
        have hVB : ∀ t, Below W.heap.size W (V t) := fun t => by
          match t with
          | 0 => rw [hV0]; exact hB6
          | t + 1 => rw [hV1]; exact hB6.alloc (by omega) _
        have hVM := fun t => (HM.out.below HB.out).below (hVB t)
        have r1 : ∀ t, (V t).cell? ⟨w.heap.size, 0, none⟩ = some (.pointer (some ⟨mp, 0, none⟩)) := fun t => (World.cell?_of_block (w := W) (a := ⟨w.heap.size, 0, none⟩) ((hVB t).block _ (Array.getElem?_eq_some_iff.1 hm).1)).trans hc
        have r2 := fun t => (hVM t).cell2
        have r3 := fun t => (hVM t).st2 Hst.out
        have r4 := fun t => (hVM t).st0 Hsw.out
        have r5 := fun t => (hVM t).st1 Hsw.out
        have r6 := fun t => (hVM t).st2 Hsw.out
        have r7 := fun t => (hVM t).st3 Hsw.out Hvq.out
        have zSt : (Try.prog.info? 65).map (fun i => i.zero) = some (some (.agg #[.int .i64 0, .int .i64 0, .int .i64 0, .slice none 0 0])) := by kernel_rfl
        have sSt : (Try.prog.info? 65).map (·.size) = some 4 := by kernel_rfl
        have HV0 := Lib.hid hV0
        have HV1 := Lib.hid hV1
        have HVB := Lib.hid hVB
        have HVM := Lib.hid hVM
        have HzSt := Lib.hid zSt
        have HsSt := Lib.hid sSt
        have HB6 := Lib.hid hB6
        have Hk6 := Lib.hid hk6
        have Hw6 := Lib.hid hw6
        clear hV0 hV1 hVB hVM zSt sSt hB6 hk6 hw6
        refine wpIn_region_stages [14, 15] (fun t => match t with | 0 => w6 | 1 => w6.alloc (.cells #[.int .i64 0, .int .i64 0, .int .i64 0, .slice none 0 0] 65) | _ + 2 => w6.alloc (.cells #[.int .i64 (sw.depth : Int), .int .i64 (sw.fall : Int), .int .i64 (sw.word : Int), .slice ao sw.which.length vcp] 65)) V 1 (fun _ => trivial) hmix (by kernel_rfl) (by kernel_rfl) (by kernel_rfl) (fun t ht => by
          match t, ht with
          | 0, _ => exact ⟨0, HV0.out.symm⟩
          | 1, _ => exact ⟨1, (HV1.out 0).symm⟩) Hw6.out ?_
        refine wpSt_quiet 14 (by decide) (by kernel_rfl) ?_
        simp only [List.take_succ_cons, List.take_zero, List.drop_succ_cons, List.drop_zero]
        repeat (go_big_quiet_step (fail))
        refine wpQuiet_nil ?_
        refine wpSt_eff (j := 0) (by decide) rfl (eff_alloc rfl rfl (run_alloc_zero HzSt.out w6)) ?_
        go_frame
        refine wpSt_eff (j := 1) (by decide) rfl (eff_storeCell rfl rfl rfl rfl (run_storeAt_new w6 _ _ _ HsSt.out rfl (all_oneCell_toArray (by intro v hv; simp at hv; rcases hv with rfl | rfl | rfl | rfl <;> rfl)))) ?_
        refine wpSt_done (wf := w6.alloc (.cells #[.int .i64 (sw.depth : Int), .int .i64 (sw.fall : Int), .int .i64 (sw.word : Int), .slice ao sw.which.length vcp] 65)) rfl ?_
        try go_frame
        obtain ⟨w9, hw9⟩ : ∃ w9, w9 = w6.alloc (.cells #[.int .i64 (sw.depth : Int), .int .i64 (sw.fall : Int), .int .i64 (sw.word : Int), .slice ao sw.which.length vcp] 65) := ⟨_, rfl⟩
        rw [← hw9]
        have hS9 : w9.heap[W.heap.size]? = some (.cells #[.int .i64 (sw.depth : Int), .int .i64 (sw.fall : Int), .int .i64 (sw.word : Int), .slice ao sw.which.length vcp] 65 (0, 0)) := by
          rw [hw9, ← hz6]
          exact World.alloc_heap_new _ _
        have hB9 : Below W.heap.size W w9 := by rw [hw9]; exact HB6.out.alloc (by omega) _
        have hk9 : KeepsOthers W w9 := by rw [hw9]; exact Hk6.out.trans (KeepsOthers.alloc _ _)
        have e0 : w9.cell? ⟨W.heap.size, 0, none⟩ = some (.int .i64 (sw.depth : Int)) := by simp [World.cell?, hS9]
        have e3 : w9.cell? ⟨W.heap.size, 3, none⟩ = some (.slice ao sw.which.length vcp) := by simp [World.cell?, hS9]
        have HB9 := Lib.hid hB9
        have Hk9 := Lib.hid hk9
        have hz9 : W.heap.size < w9.heap.size := (Array.getElem?_eq_some_iff.1 hS9).1
        clear hw9 hB9 hk9 hS9 r1 r2 r3 r4 r5 r6 r7
        by_cases hne : sw.which = []
        · have hl0 : sw.which.length = 0 := by rw [hne]; rfl
          have hb0 : ((sw.which.length : Int) == 0) = true := by rw [hl0]; rfl
          gi_wp2
          have hbk := fun k' (hk' : k' < W.heap.size) => HB9.out.block k' hk'
          refine ⟨Hk9.out.from _, ⟨fun k' hk' => hbk _ (by omega), hbk _ (by omega), hbk _ (by omega)⟩, ?_⟩
          have hw0 : wl l s' (k + 1) = 0 := by
            rcases Hwsm.out with h | ⟨_, r, h⟩
            · exact Hwz.out.1 h.1
            · rw [h] at hne
              cases hne
          refine firstI_next (acc := none) (r' := none) Hacc.out Hx1.out (by unfold firstStep; rw [if_pos hw0]) ((hbk _ (by omega)).trans hm) ((hbk _ (by omega)).trans hr1) ((hbk _ (by omega)).trans hh) ((hbk _ (by omega)).trans hfd) (HB.out.trans (HB9.out.mono (by omega))) (by omega)
        · have hl0 : ((sw.which.length : Int) == 0) = false := by rw [beq_eq_false_iff_ne]; intro h; exact hne (List.eq_nil_of_length_eq_zero (by omega))
          obtain ⟨hwne, r, hr⟩ : wd ≠ [] ∧ ∃ r, sw.which = bestI l s' (k + 1 - wd.length) (k + 1) :: r := Hwsm.out.resolve_left (fun h => hne h.2)
          have hlpos : 0 < sw.which.length := by rw [hr]; simp
          obtain ⟨gw, hgw, rfl⟩ : ∃ gw, W.cell? ⟨gw, 0, none⟩ = some (.int .i64 (bestI l s' (k + 1 - wd.length) (k + 1) : Int)) ∧ ao = some ⟨gw, 0, none⟩ := by
            have hrw := (HM.out.below HB.out).whi _ sw _ Hsw.out Hvq.out
            rcases hrw.2 with ⟨h, h'⟩ | ⟨g, cap, cur, h, _⟩
            · omega
            · cases h
              refine ⟨g, ?_, rfl⟩
              rw [World.ownsRow.cellAt hrw 0 (by omega)]
              unfold natCells
              rw [List.getElem?_map, hr]
              rfl
          have hgb : gw < W.heap.size := by
            rcases Nat.lt_or_ge gw W.heap.size with h | h
            · exact h
            · simp [World.cell?, Array.getElem?_eq_none h] at hgw
          obtain ⟨bi, hbi⟩ : ∃ bi, bestI l s' (k + 1 - wd.length) (k + 1) = bi := ⟨_, rfl⟩
          rw [hbi] at hr hgw
          have hstep : ∀ acc, firstStep l s' acc (k + 1) = better acc (k + 1 - wd.length, bi) := fun acc => by
            unfold firstStep
            rw [if_neg (fun h => hwne (Hwz.out.2 h)), Hwlen.out, hbi]
          have Hstep := Lib.hid hstep
          clear hbi hstep hwne
          have hdb : (sw.depth : Int) ≤ 1000000001 := by have := Hdw.out; have := Hwle.out; omega
          have hkb : (k : Int) ≤ 1000000000 := by omega
          have hsub : ((k : Int) + 1 - (sw.depth : Int)) = ((k + 1 - wd.length : Nat) : Int) := by have := Hdw.out; have := Hwle.out; omega
          have Hsub := Lib.hid hsub
          have Hr := Lib.hid hr
          clear hr hsub
          gi_wp2
          obtain ⟨w10, hw10⟩ : ∃ w10, w10 = w9.drew := ⟨_, rfl⟩
          have hz10 : w10.heap.size = w9.heap.size := by rw [hw10]; rfl
          have hB10 : Below w9.heap.size w9 w10 := by rw [hw10]; exact ⟨rfl, rfl, rfl, Nat.le_refl _, fun _ _ => rfl⟩
          obtain ⟨V2, hV0, hV1⟩ : ∃ V : Nat → World, V 0 = w10 ∧ ∀ t, V (t + 1) = w10.alloc (.cells #[.int .i64 0, .int .i64 0] 36) := ⟨fun t => match t with | 0 => w10 | _ + 1 => w10.alloc (.cells #[.int .i64 0, .int .i64 0] 36), rfl, fun _ => rfl⟩
          have hVB : ∀ t, Below w9.heap.size w9 (V2 t) := fun t => by
            match t with
            | 0 => rw [hV0]; exact hB10
            | t + 1 => rw [hV1]; exact hB10.alloc (by omega) _
          have q1 : ∀ t, (V2 t).cell? ⟨W.heap.size, 0, none⟩ = some (.int .i64 (sw.depth : Int)) := fun t => (World.cell?_of_block (w := w9) (a := ⟨W.heap.size, 0, none⟩) ((hVB t).block _ hz9)).trans e0
          have q2 : ∀ t, (V2 t).cell? ⟨W.heap.size, 3, none⟩ = some (.slice (some ⟨gw, 0, none⟩) sw.which.length vcp) := fun t => (World.cell?_of_block (w := w9) (a := ⟨W.heap.size, 3, none⟩) ((hVB t).block _ hz9)).trans e3
          have q3 : ∀ t, (V2 t).cell? ⟨gw, 0, none⟩ = some (.int .i64 (bi : Int)) := fun t => ((World.cell?_of_block (w := w9) (a := ⟨gw, 0, none⟩) ((hVB t).block _ (by dsimp only; omega))).trans (World.cell?_of_block (w := W) (a := ⟨gw, 0, none⟩) (HB9.out.block _ hgb))).trans hgw
          have zHt : (Try.prog.info? 36).map (fun i => i.zero) = some (some (.agg #[.int .i64 0, .int .i64 0])) := by kernel_rfl
          have sHt : (Try.prog.info? 36).map (·.size) = some 2 := by kernel_rfl
          have HV0' := Lib.hid hV0
          have HV1' := Lib.hid hV1
          have HzHt := Lib.hid zHt
          have HsHt := Lib.hid sHt
          have HB10 := Lib.hid hB10
          have Hw10 := Lib.hid hw10
          clear hV0 hV1 hVB zHt sHt hB10 hw10 e0 e3
          refine wpIn_region_stages [9, 10] (fun t => match t with | 0 => w10 | 1 => w10.alloc (.cells #[.int .i64 0, .int .i64 0] 36) | _ + 2 => w10.alloc (.cells #[.int .i64 ((k + 1 - wd.length : Nat) : Int), .int .i64 (bi : Int)] 36)) V2 1 (fun _ => trivial) hmix (by kernel_rfl) (by kernel_rfl) (by kernel_rfl) (fun t ht => by
            match t, ht with
            | 0, _ => exact ⟨0, HV0'.out.symm⟩
            | 1, _ => exact ⟨1, (HV1'.out 0).symm⟩) Hw10.out ?_
          refine wpSt_quiet 9 (by decide) (by kernel_rfl) ?_
          simp only [List.take_succ_cons, List.take_zero, List.drop_succ_cons, List.drop_zero]
          repeat (go_big_quiet_step (fail))
          refine wpQuiet_nil ?_
          refine wpSt_eff (j := 0) (by decide) rfl (eff_alloc rfl rfl (run_alloc_zero HzHt.out w10)) ?_
          go_frame
          refine wpSt_eff (j := 1) (by decide) rfl (eff_storeCell rfl rfl rfl rfl (by rw [Hsub.out]; exact run_storeAt_new w10 _ _ _ HsHt.out rfl (all_oneCell_toArray (by intro v hv; simp at hv; rcases hv with rfl | rfl <;> rfl)))) ?_
          refine wpSt_done (wf := w10.alloc (.cells #[.int .i64 ((k + 1 - wd.length : Nat) : Int), .int .i64 (bi : Int)] 36)) rfl ?_
          try go_frame
          obtain ⟨w11, hw11⟩ : ∃ w11, w11 = w10.alloc (.cells #[.int .i64 ((k + 1 - wd.length : Nat) : Int), .int .i64 (bi : Int)] 36) := ⟨_, rfl⟩
          rw [← hw11]
          have hS11 : w11.heap[w9.heap.size]? = some (.cells #[.int .i64 ((k + 1 - wd.length : Nat) : Int), .int .i64 (bi : Int)] 36 (0, 0)) := by
            rw [hw11, ← hz10]
            exact World.alloc_heap_new _ _
          have hB11 : Below w9.heap.size w9 w11 := by rw [hw11]; exact HB10.out.alloc (by omega) _
          have hBW : Below W.heap.size W w11 := HB9.out.trans (hB11.mono (by omega))
          have hk11 : KeepsOthers W w11 := by rw [hw11, Hw10.out]; exact Hk9.out.trans ((KeepsOthers.drew _).trans (KeepsOthers.alloc _ _))
          have bk := fun k' (hk' : k' < W.heap.size) => hBW.block k' hk'
          have e0 : w11.cell? ⟨w9.heap.size, 0, none⟩ = some (.int .i64 ((k + 1 - wd.length : Nat) : Int)) := by simp [World.cell?, hS11]
          have e1 : w11.cell? ⟨w9.heap.size, 1, none⟩ = some (.int .i64 (bi : Int)) := by simp [World.cell?, hS11]
          have cf : w11.cell? ⟨w.heap.size + 3, 0, none⟩ = some (.bool false) := (World.cell?_of_block (w := W) (a := ⟨w.heap.size + 3, 0, none⟩) (bk _ (by dsimp only; omega))).trans hcf
          have g0 : w11.frozen? ⟨w.heap.size + 2, 0, none⟩ = false := by simp [World.frozen?, (bk (w.heap.size + 2) (by omega)).trans hh]
          have g1 : w11.frozen? ⟨w.heap.size + 2, 1, none⟩ = false := by simp [World.frozen?, (bk (w.heap.size + 2) (by omega)).trans hh]
          have g2 : w11.frozen? ⟨w.heap.size + 3, 0, none⟩ = false := by simp [World.frozen?, (bk (w.heap.size + 3) (by omega)).trans hfd]
          have d0 : w11.cell? ⟨w.heap.size + 2, 0, none⟩ = some (.int .i64 ((0 : Nat) : Int)) := by simp [World.cell?, (bk (w.heap.size + 2) (by omega)).trans hh]
          have d1 : w11.cell? ⟨w.heap.size + 2, 1, none⟩ = some (.int .i64 ((0 : Nat) : Int)) := by simp [World.cell?, (bk (w.heap.size + 2) (by omega)).trans hh]
          have f0 : w11.heap[w.heap.size + 2]? = _ := (bk (w.heap.size + 2) (by omega)).trans hh
          have f1 : w11.heap[w.heap.size + 3]? = _ := (bk (w.heap.size + 3) (by omega)).trans hfd
          have hmb : w11.heap[w.heap.size]? = _ := (bk _ (by omega)).trans hm
          have hrb : w11.heap[w.heap.size + 1]? = _ := (bk _ (by omega)).trans hr1
          have hz11 : W.heap.size ≤ w11.heap.size := hBW.size
          have HBW := Lib.hid hBW
          have Hk11 := Lib.hid hk11
          have Hbk := Lib.hid bk
          have HS11 := Lib.hid hS11
          have Hf0 := Lib.hid f0
          have Hf1 := Lib.hid f1
          have Hmb := Lib.hid hmb
          have Hrb := Lib.hid hrb
          clear hw11 hS11 hB11 hBW hk11 bk f0 f1 hmb hrb q1 q2 q3
          gi_wp2
          obtain ⟨t2, t3, to, tk, ts⟩ := first_stored w11 w.heap.size _ _ ((k + 1 - wd.length : Nat) : Int) (bi : Int) Hf0.out Hf1.out rfl rfl
          exact first_close w _ l s' (by first | exact hzd | rfl) hW6 Hacc.out Hx1.out (Hstep.out _) (Hk11.out.trans tk) (fun k' hk' h2 h3 => (to k' h2 h3).trans (Hbk.out k' hk')) hm hr1 t2 t3 (by rw [ts]; exact hz11) ((((HB.out.trans (HBW.out.mono hDW)).setCell (Nat.le_add_right _ 2) _).setCell (Nat.le_add_right _ 2) _).setCell (Nat.le_add_right _ 3) _)
      | some f1 =>
        simp only [Option.isSome_some, Option.getD_some] at hcf hc0 hc1 hh hfd
        have hdle : st.depth ≤ k + 1 := by
          rw [Hdx.out]
          have := (longS_long (List.mem_of_getElem? HMd.out.auto.zero) ((wordOf s').take (k + 1))).2.1.length_le
          rw [List.length_take] at this
          omega
        have hkb1 : (k : Int) ≤ 1000000000 := by omega
        have hdb1 : (st.depth : Int) ≤ (k : Int) + 1 := by omega
        by_cases hbr : (f1.1 : Int) < (k : Int) + 1 - (st.depth : Int)
        · have hbr' := decide_eq_true hbr
          gi_wp2
          refine wpIn_region_reads (fun _ => trivial) hmix (by kernel_rfl) (by kernel_rfl) ?_
          repeat (go_big_quiet_step (fail))
          refine wpQuiet_nil ?_
          gi_wp2
          refine ⟨((KeepsOthers.drew W).from _), ?_, ?_, rfl⟩
          · rw [List.dropLast_concat]
            have h5 : Hid (firstR l s' (pre.map fun x => x.1.1) = some f1) := Hacc
            refine ⟨⟨hm, hr1⟩, ⟨?_, ?_⟩, HB.out.trans ⟨rfl, rfl, rfl, Nat.le_refl _, fun _ _ => rfl⟩, hW6⟩
            · rw [h5.out]; exact hh
            · rw [h5.out]; exact hfd
          · refine ⟨x, by simp, f1, by rw [List.dropLast_concat]; exact Hacc.out, fun a i e he hh' => ?_⟩
            rw [Hx1.out] at he
            have h6 := HMd.out.begins hks he hh'
            rw [← Hdx.out] at h6
            omega
        have hbr' := decide_eq_false hbr
        gi_wp2
        refine wpIn_region_reads (fun _ => trivial) hmix (by kernel_rfl) (by kernel_rfl) ?_
        repeat (go_big_quiet_step (fail))
        refine wpQuiet_nil ?_
        gi_wp2
        obtain ⟨w6, hw6⟩ : ∃ w6, w6 = W.drew.drew := ⟨_, rfl⟩
        have hz6 : w6.heap.size = W.heap.size := by rw [hw6]; rfl
        have hB6 : Below W.heap.size W w6 := by rw [hw6]; exact ⟨rfl, rfl, rfl, Nat.le_refl _, fun _ _ => rfl⟩
        have hk6 : KeepsOthers W w6 := by rw [hw6]; exact (KeepsOthers.drew _).trans (KeepsOthers.drew _)
        obtain ⟨V, hV0, hV1⟩ : ∃ V : Nat → World, V 0 = w6 ∧ ∀ t, V (t + 1) = w6.alloc (.cells #[.int .i64 0, .int .i64 0, .int .i64 0, .slice none 0 0] 65) := ⟨fun t => match t with | 0 => w6 | _ + 1 => w6.alloc (.cells #[.int .i64 0, .int .i64 0, .int .i64 0, .slice none 0 0] 65), rfl, fun _ => rfl⟩
        have hVB : ∀ t, Below W.heap.size W (V t) := fun t => by
          match t with
          | 0 => rw [hV0]; exact hB6
          | t + 1 => rw [hV1]; exact hB6.alloc (by omega) _
        have hVM := fun t => (HM.out.below HB.out).below (hVB t)
        have r1 : ∀ t, (V t).cell? ⟨w.heap.size, 0, none⟩ = some (.pointer (some ⟨mp, 0, none⟩)) := fun t => (World.cell?_of_block (w := W) (a := ⟨w.heap.size, 0, none⟩) ((hVB t).block _ (Array.getElem?_eq_some_iff.1 hm).1)).trans hc
        have r2 := fun t => (hVM t).cell2
        have r3 := fun t => (hVM t).st2 Hst.out
        have r4 := fun t => (hVM t).st0 Hsw.out
        have r5 := fun t => (hVM t).st1 Hsw.out
        have r6 := fun t => (hVM t).st2 Hsw.out
        have r7 := fun t => (hVM t).st3 Hsw.out Hvq.out
        have zSt : (Try.prog.info? 65).map (fun i => i.zero) = some (some (.agg #[.int .i64 0, .int .i64 0, .int .i64 0, .slice none 0 0])) := by kernel_rfl
        have sSt : (Try.prog.info? 65).map (·.size) = some 4 := by kernel_rfl
        have HV0 := Lib.hid hV0
        have HV1 := Lib.hid hV1
        have HVB := Lib.hid hVB
        have HVM := Lib.hid hVM
        have HzSt := Lib.hid zSt
        have HsSt := Lib.hid sSt
        have HB6 := Lib.hid hB6
        have Hk6 := Lib.hid hk6
        have Hw6 := Lib.hid hw6
        clear hV0 hV1 hVB hVM zSt sSt hB6 hk6 hw6
        refine wpIn_region_stages [14, 15] (fun t => match t with | 0 => w6 | 1 => w6.alloc (.cells #[.int .i64 0, .int .i64 0, .int .i64 0, .slice none 0 0] 65) | _ + 2 => w6.alloc (.cells #[.int .i64 (sw.depth : Int), .int .i64 (sw.fall : Int), .int .i64 (sw.word : Int), .slice ao sw.which.length vcp] 65)) V 1 (fun _ => trivial) hmix (by kernel_rfl) (by kernel_rfl) (by kernel_rfl) (fun t ht => by
          match t, ht with
          | 0, _ => exact ⟨0, HV0.out.symm⟩
          | 1, _ => exact ⟨1, (HV1.out 0).symm⟩) Hw6.out ?_
        refine wpSt_quiet 14 (by decide) (by kernel_rfl) ?_
        simp only [List.take_succ_cons, List.take_zero, List.drop_succ_cons, List.drop_zero]
        repeat (go_big_quiet_step (fail))
        refine wpQuiet_nil ?_
        refine wpSt_eff (j := 0) (by decide) rfl (eff_alloc rfl rfl (run_alloc_zero HzSt.out w6)) ?_
        go_frame
        refine wpSt_eff (j := 1) (by decide) rfl (eff_storeCell rfl rfl rfl rfl (run_storeAt_new w6 _ _ _ HsSt.out rfl (all_oneCell_toArray (by intro v hv; simp at hv; rcases hv with rfl | rfl | rfl | rfl <;> rfl)))) ?_
        refine wpSt_done (wf := w6.alloc (.cells #[.int .i64 (sw.depth : Int), .int .i64 (sw.fall : Int), .int .i64 (sw.word : Int), .slice ao sw.which.length vcp] 65)) rfl ?_
        try go_frame
        obtain ⟨w9, hw9⟩ : ∃ w9, w9 = w6.alloc (.cells #[.int .i64 (sw.depth : Int), .int .i64 (sw.fall : Int), .int .i64 (sw.word : Int), .slice ao sw.which.length vcp] 65) := ⟨_, rfl⟩
        rw [← hw9]
        have hS9 : w9.heap[W.heap.size]? = some (.cells #[.int .i64 (sw.depth : Int), .int .i64 (sw.fall : Int), .int .i64 (sw.word : Int), .slice ao sw.which.length vcp] 65 (0, 0)) := by
          rw [hw9, ← hz6]
          exact World.alloc_heap_new _ _
        have hB9 : Below W.heap.size W w9 := by rw [hw9]; exact HB6.out.alloc (by omega) _
        have hk9 : KeepsOthers W w9 := by rw [hw9]; exact Hk6.out.trans (KeepsOthers.alloc _ _)
        have e0 : w9.cell? ⟨W.heap.size, 0, none⟩ = some (.int .i64 (sw.depth : Int)) := by simp [World.cell?, hS9]
        have e3 : w9.cell? ⟨W.heap.size, 3, none⟩ = some (.slice ao sw.which.length vcp) := by simp [World.cell?, hS9]
        have HB9 := Lib.hid hB9
        have Hk9 := Lib.hid hk9
        have hz9 : W.heap.size < w9.heap.size := (Array.getElem?_eq_some_iff.1 hS9).1
        clear hw9 hB9 hk9 hS9 r1 r2 r3 r4 r5 r6 r7
        by_cases hne : sw.which = []
        · have hl0 : sw.which.length = 0 := by rw [hne]; rfl
          have hb0 : ((sw.which.length : Int) == 0) = true := by rw [hl0]; rfl
          gi_wp2
          have hbk := fun k' (hk' : k' < W.heap.size) => HB9.out.block k' hk'
          refine ⟨Hk9.out.from _, ⟨fun k' hk' => hbk _ (by omega), hbk _ (by omega), hbk _ (by omega)⟩, ?_⟩
          have hw0 : wl l s' (k + 1) = 0 := by
            rcases Hwsm.out with h | ⟨_, r, h⟩
            · exact Hwz.out.1 h.1
            · rw [h] at hne
              cases hne
          refine firstI_next (acc := some f1) (r' := some f1) Hacc.out Hx1.out (by unfold firstStep; rw [if_pos hw0]) ((hbk _ (by omega)).trans hm) ((hbk _ (by omega)).trans hr1) ((hbk _ (by omega)).trans hh) ((hbk _ (by omega)).trans hfd) (HB.out.trans (HB9.out.mono (by omega))) (by omega)
        · have hl0 : ((sw.which.length : Int) == 0) = false := by rw [beq_eq_false_iff_ne]; intro h; exact hne (List.eq_nil_of_length_eq_zero (by omega))
          obtain ⟨hwne, r, hr⟩ : wd ≠ [] ∧ ∃ r, sw.which = bestI l s' (k + 1 - wd.length) (k + 1) :: r := Hwsm.out.resolve_left (fun h => hne h.2)
          have hlpos : 0 < sw.which.length := by rw [hr]; simp
          obtain ⟨gw, hgw, rfl⟩ : ∃ gw, W.cell? ⟨gw, 0, none⟩ = some (.int .i64 (bestI l s' (k + 1 - wd.length) (k + 1) : Int)) ∧ ao = some ⟨gw, 0, none⟩ := by
            have hrw := (HM.out.below HB.out).whi _ sw _ Hsw.out Hvq.out
            rcases hrw.2 with ⟨h, h'⟩ | ⟨g, cap, cur, h, _⟩
            · omega
            · cases h
              refine ⟨g, ?_, rfl⟩
              rw [World.ownsRow.cellAt hrw 0 (by omega)]
              unfold natCells
              rw [List.getElem?_map, hr]
              rfl
          have hgb : gw < W.heap.size := by
            rcases Nat.lt_or_ge gw W.heap.size with h | h
            · exact h
            · simp [World.cell?, Array.getElem?_eq_none h] at hgw
          obtain ⟨bi, hbi⟩ : ∃ bi, bestI l s' (k + 1 - wd.length) (k + 1) = bi := ⟨_, rfl⟩
          rw [hbi] at hr hgw
          have hstep : ∀ acc, firstStep l s' acc (k + 1) = better acc (k + 1 - wd.length, bi) := fun acc => by
            unfold firstStep
            rw [if_neg (fun h => hwne (Hwz.out.2 h)), Hwlen.out, hbi]
          have Hstep := Lib.hid hstep
          clear hbi hstep hwne
          have hdb : (sw.depth : Int) ≤ 1000000001 := by have := Hdw.out; have := Hwle.out; omega
          have hkb : (k : Int) ≤ 1000000000 := by omega
          have hsub : ((k : Int) + 1 - (sw.depth : Int)) = ((k + 1 - wd.length : Nat) : Int) := by have := Hdw.out; have := Hwle.out; omega
          have Hsub := Lib.hid hsub
          have Hr := Lib.hid hr
          clear hr hsub
          gi_wp2
          obtain ⟨w10, hw10⟩ : ∃ w10, w10 = w9.drew := ⟨_, rfl⟩
          have hz10 : w10.heap.size = w9.heap.size := by rw [hw10]; rfl
          have hB10 : Below w9.heap.size w9 w10 := by rw [hw10]; exact ⟨rfl, rfl, rfl, Nat.le_refl _, fun _ _ => rfl⟩
          obtain ⟨V2, hV0, hV1⟩ : ∃ V : Nat → World, V 0 = w10 ∧ ∀ t, V (t + 1) = w10.alloc (.cells #[.int .i64 0, .int .i64 0] 36) := ⟨fun t => match t with | 0 => w10 | _ + 1 => w10.alloc (.cells #[.int .i64 0, .int .i64 0] 36), rfl, fun _ => rfl⟩
          have hVB : ∀ t, Below w9.heap.size w9 (V2 t) := fun t => by
            match t with
            | 0 => rw [hV0]; exact hB10
            | t + 1 => rw [hV1]; exact hB10.alloc (by omega) _
          have q1 : ∀ t, (V2 t).cell? ⟨W.heap.size, 0, none⟩ = some (.int .i64 (sw.depth : Int)) := fun t => (World.cell?_of_block (w := w9) (a := ⟨W.heap.size, 0, none⟩) ((hVB t).block _ hz9)).trans e0
          have q2 : ∀ t, (V2 t).cell? ⟨W.heap.size, 3, none⟩ = some (.slice (some ⟨gw, 0, none⟩) sw.which.length vcp) := fun t => (World.cell?_of_block (w := w9) (a := ⟨W.heap.size, 3, none⟩) ((hVB t).block _ hz9)).trans e3
          have q3 : ∀ t, (V2 t).cell? ⟨gw, 0, none⟩ = some (.int .i64 (bi : Int)) := fun t => ((World.cell?_of_block (w := w9) (a := ⟨gw, 0, none⟩) ((hVB t).block _ (by dsimp only; omega))).trans (World.cell?_of_block (w := W) (a := ⟨gw, 0, none⟩) (HB9.out.block _ hgb))).trans hgw
          have zHt : (Try.prog.info? 36).map (fun i => i.zero) = some (some (.agg #[.int .i64 0, .int .i64 0])) := by kernel_rfl
          have sHt : (Try.prog.info? 36).map (·.size) = some 2 := by kernel_rfl
          have HV0' := Lib.hid hV0
          have HV1' := Lib.hid hV1
          have HzHt := Lib.hid zHt
          have HsHt := Lib.hid sHt
          have HB10 := Lib.hid hB10
          have Hw10 := Lib.hid hw10
          clear hV0 hV1 hVB zHt sHt hB10 hw10 e0 e3
          refine wpIn_region_stages [9, 10] (fun t => match t with | 0 => w10 | 1 => w10.alloc (.cells #[.int .i64 0, .int .i64 0] 36) | _ + 2 => w10.alloc (.cells #[.int .i64 ((k + 1 - wd.length : Nat) : Int), .int .i64 (bi : Int)] 36)) V2 1 (fun _ => trivial) hmix (by kernel_rfl) (by kernel_rfl) (by kernel_rfl) (fun t ht => by
            match t, ht with
            | 0, _ => exact ⟨0, HV0'.out.symm⟩
            | 1, _ => exact ⟨1, (HV1'.out 0).symm⟩) Hw10.out ?_
          refine wpSt_quiet 9 (by decide) (by kernel_rfl) ?_
          simp only [List.take_succ_cons, List.take_zero, List.drop_succ_cons, List.drop_zero]
          repeat (go_big_quiet_step (fail))
          refine wpQuiet_nil ?_
          refine wpSt_eff (j := 0) (by decide) rfl (eff_alloc rfl rfl (run_alloc_zero HzHt.out w10)) ?_
          go_frame
          refine wpSt_eff (j := 1) (by decide) rfl (eff_storeCell rfl rfl rfl rfl (by rw [Hsub.out]; exact run_storeAt_new w10 _ _ _ HsHt.out rfl (all_oneCell_toArray (by intro v hv; simp at hv; rcases hv with rfl | rfl <;> rfl)))) ?_
          refine wpSt_done (wf := w10.alloc (.cells #[.int .i64 ((k + 1 - wd.length : Nat) : Int), .int .i64 (bi : Int)] 36)) rfl ?_
          try go_frame
          obtain ⟨w11, hw11⟩ : ∃ w11, w11 = w10.alloc (.cells #[.int .i64 ((k + 1 - wd.length : Nat) : Int), .int .i64 (bi : Int)] 36) := ⟨_, rfl⟩
          rw [← hw11]
          have hS11 : w11.heap[w9.heap.size]? = some (.cells #[.int .i64 ((k + 1 - wd.length : Nat) : Int), .int .i64 (bi : Int)] 36 (0, 0)) := by
            rw [hw11, ← hz10]
            exact World.alloc_heap_new _ _
          have hB11 : Below w9.heap.size w9 w11 := by rw [hw11]; exact HB10.out.alloc (by omega) _
          have hBW : Below W.heap.size W w11 := HB9.out.trans (hB11.mono (by omega))
          have hk11 : KeepsOthers W w11 := by rw [hw11, Hw10.out]; exact Hk9.out.trans ((KeepsOthers.drew _).trans (KeepsOthers.alloc _ _))
          have bk := fun k' (hk' : k' < W.heap.size) => hBW.block k' hk'
          have e0 : w11.cell? ⟨w9.heap.size, 0, none⟩ = some (.int .i64 ((k + 1 - wd.length : Nat) : Int)) := by simp [World.cell?, hS11]
          have e1 : w11.cell? ⟨w9.heap.size, 1, none⟩ = some (.int .i64 (bi : Int)) := by simp [World.cell?, hS11]
          have cf : w11.cell? ⟨w.heap.size + 3, 0, none⟩ = some (.bool true) := (World.cell?_of_block (w := W) (a := ⟨w.heap.size + 3, 0, none⟩) (bk _ (by dsimp only; omega))).trans hcf
          have g0 : w11.frozen? ⟨w.heap.size + 2, 0, none⟩ = false := by simp [World.frozen?, (bk (w.heap.size + 2) (by omega)).trans hh]
          have g1 : w11.frozen? ⟨w.heap.size + 2, 1, none⟩ = false := by simp [World.frozen?, (bk (w.heap.size + 2) (by omega)).trans hh]
          have g2 : w11.frozen? ⟨w.heap.size + 3, 0, none⟩ = false := by simp [World.frozen?, (bk (w.heap.size + 3) (by omega)).trans hfd]
          have d0 : w11.cell? ⟨w.heap.size + 2, 0, none⟩ = some (.int .i64 ((f1.1 : Nat) : Int)) := by simp [World.cell?, (bk (w.heap.size + 2) (by omega)).trans hh]
          have d1 : w11.cell? ⟨w.heap.size + 2, 1, none⟩ = some (.int .i64 ((f1.2 : Nat) : Int)) := by simp [World.cell?, (bk (w.heap.size + 2) (by omega)).trans hh]
          have f0 : w11.heap[w.heap.size + 2]? = _ := (bk (w.heap.size + 2) (by omega)).trans hh
          have f1 : w11.heap[w.heap.size + 3]? = _ := (bk (w.heap.size + 3) (by omega)).trans hfd
          have hmb : w11.heap[w.heap.size]? = _ := (bk _ (by omega)).trans hm
          have hrb : w11.heap[w.heap.size + 1]? = _ := (bk _ (by omega)).trans hr1
          have hz11 : W.heap.size ≤ w11.heap.size := hBW.size
          have HBW := Lib.hid hBW
          have Hk11 := Lib.hid hk11
          have Hbk := Lib.hid bk
          have HS11 := Lib.hid hS11
          have Hf0 := Lib.hid f0
          have Hf1 := Lib.hid f1
          have Hmb := Lib.hid hmb
          have Hrb := Lib.hid hrb
          clear hw11 hS11 hB11 hBW hk11 bk f0 f1 hmb hrb q1 q2 q3
          by_cases hA : ((k + 1 - wd.length : Nat) : Int) < (f1.1 : Int)
          · have hA' := decide_eq_true hA
            have BT : k + 1 - wd.length < f1.1 ∨ k + 1 - wd.length = f1.1 ∧ bi < f1.2 := .inl (Int.ofNat_lt.1 hA)
            gi_wp2
            obtain ⟨t2, t3, to, tk, ts⟩ := first_stored w11 w.heap.size _ _ ((k + 1 - wd.length : Nat) : Int) (bi : Int) Hf0.out Hf1.out rfl rfl
            exact first_close w _ l s' (by first | exact hzd | rfl) hW6 Hacc.out Hx1.out ((Hstep.out _).trans (better_take BT)) (Hk11.out.trans tk) (fun k' hk' h2 h3 => (to k' h2 h3).trans (Hbk.out k' hk')) hm hr1 t2 t3 (by rw [ts]; exact hz11) ((((HB.out.trans (HBW.out.mono hDW)).setCell (Nat.le_add_right _ 2) _).setCell (Nat.le_add_right _ 2) _).setCell (Nat.le_add_right _ 3) _)
          have hA' := decide_eq_false hA
          by_cases hE0 : (k + 1 - wd.length : Nat) = f1.1
          · have hE' : ((((k + 1 - wd.length : Nat) : Int)) == (f1.1 : Int)) = true := by rw [beq_iff_eq]; exact congrArg Int.ofNat hE0
            have HE := Lib.hid hE0
            clear hE0
            by_cases hL : (bi : Int) < (f1.2 : Int)
            · have hL' := decide_eq_true hL
              have BT : k + 1 - wd.length < f1.1 ∨ k + 1 - wd.length = f1.1 ∧ bi < f1.2 := .inr ⟨HE.out, Int.ofNat_lt.1 hL⟩
              gi_wp2
              obtain ⟨t2, t3, to, tk, ts⟩ := first_stored w11 w.heap.size _ _ ((k + 1 - wd.length : Nat) : Int) (bi : Int) Hf0.out Hf1.out rfl rfl
              exact first_close w _ l s' (by first | exact hzd | rfl) hW6 Hacc.out Hx1.out ((Hstep.out _).trans (better_take BT)) (Hk11.out.trans tk) (fun k' hk' h2 h3 => (to k' h2 h3).trans (Hbk.out k' hk')) hm hr1 t2 t3 (by rw [ts]; exact hz11) ((((HB.out.trans (HBW.out.mono hDW)).setCell (Nat.le_add_right _ 2) _).setCell (Nat.le_add_right _ 2) _).setCell (Nat.le_add_right _ 3) _)
            · have hL' := decide_eq_false hL
              have BK : ¬ (k + 1 - wd.length < f1.1 ∨ k + 1 - wd.length = f1.1 ∧ bi < f1.2) := fun h => h.elim (fun h => hA (Int.ofNat_lt.2 h)) (fun h => hL (Int.ofNat_lt.2 h.2))
              gi_wp2
              exact first_close w _ l s' (by first | exact hzd | rfl) hW6 Hacc.out Hx1.out ((Hstep.out _).trans (better_keep BK)) Hk11.out (fun k' hk' _ _ => Hbk.out k' hk') hm hr1 Hf0.out Hf1.out hz11 (HB.out.trans (HBW.out.mono hDW))
          · have hE' : ((((k + 1 - wd.length : Nat) : Int)) == (f1.1 : Int)) = false := by rw [beq_eq_false_iff_ne]; exact fun h => hE0 (Int.ofNat_inj.1 h)
            have BK : ¬ (k + 1 - wd.length < f1.1 ∨ k + 1 - wd.length = f1.1 ∧ bi < f1.2) := fun h => h.elim (fun h => hA (Int.ofNat_lt.2 h)) (fun h => hE0 h.1)
            gi_wp2
            exact first_close w _ l s' (by first | exact hzd | rfl) hW6 Hacc.out Hx1.out ((Hstep.out _).trans (better_keep BK)) Hk11.out (fun k' hk' _ _ => Hbk.out k' hk') hm hr1 Hf0.out Hf1.out hz11 (HB.out.trans (HBW.out.mono hDW))
    case done =>
      intro D W hD hI hK
      obtain ⟨⟨hm, hr1⟩, ⟨hh, hfd⟩, hB, hW6⟩ := hI
      rw [hX.first_all] at hh hfd
      obtain ⟨acc, hA⟩ : ∃ acc, (hitsL l s').head? = acc := ⟨_, rfl⟩
      rw [hA] at hh hfd
      have hRe : R = firstV (acc.map fun x => (x.1 + f, x.2)) := by
        have h := HR.out
        rw [if_neg (by omega), Int.toNat_natCast, ← Hs'.out, hA] at h
        exact h
      have hbnd : ∀ y, acc = some y → (y.1 : Int) + (f : Int) ≤ 1000000000 := fun y hy => by
        rw [hy] at hA
        obtain ⟨e, he⟩ := mem_hitsL.1 (head_min (hitsL_sorted _ _) hA).1
        have h1 := he.lt
        have h2 : s'.size = s.size - f := by rw [Hs'.out]; simp
        omega
      have hD7 : w.heap.size + 4 ≤ D := by rw [hzd] at hD; omega
      have HRe := Lib.hid hRe
      clear hRe hA
      rcases acc with _ | f1
      · simp only [Option.isSome_none, Option.getD_none] at hh hfd
        have hcf : W.cell? ⟨w.heap.size + 3, 0, none⟩ = some (.bool false) := by simp [World.cell?, hfd]
        have g2 := hh
        have g3 := hfd
        have g1 := hr1
        have gK := hK
        have gB := hB
        clear hm hr1 hh hfd hK hbnd
        gi_wp2
        have c0 : W.cell? ⟨w.heap.size + 2, 0, none⟩ = some (.int .i64 ((0 : Nat) : Int)) := by simp [World.cell?, g2]
        have c1 : W.cell? ⟨w.heap.size + 2, 1, none⟩ = some (.int .i64 ((0 : Nat) : Int)) := by simp [World.cell?, g2]
        have c3 : W.cell? ⟨w.heap.size + 3, 0, none⟩ = some (.bool false) := by simp [World.cell?, g3]
        have d0 : W.cell? ⟨w.heap.size + 1, 0, none⟩ = some (.int .i64 0) := by simp [World.cell?, g1]
        have d1 : W.cell? ⟨w.heap.size + 1, 1, none⟩ = some (.int .i64 0) := by simp [World.cell?, g1]
        have e0 : W.frozen? ⟨w.heap.size + 1, 0, none⟩ = false := by simp [World.frozen?, g1]
        have e1 : W.frozen? ⟨w.heap.size + 1, 1, none⟩ = false := by simp [World.frozen?, g1]
        obtain ⟨Wd, hWd⟩ : ∃ Wd, Wd = W.drew := ⟨_, rfl⟩
        have c0d : Wd.cell? ⟨w.heap.size + 2, 0, none⟩ = some (.int .i64 ((0 : Nat) : Int)) := by rw [hWd]; exact c0
        have c1d : Wd.cell? ⟨w.heap.size + 2, 1, none⟩ = some (.int .i64 ((0 : Nat) : Int)) := by rw [hWd]; exact c1
        have d0d : Wd.cell? ⟨w.heap.size + 1, 0, none⟩ = some (.int .i64 0) := by rw [hWd]; exact d0
        have d1d : Wd.cell? ⟨w.heap.size + 1, 1, none⟩ = some (.int .i64 0) := by rw [hWd]; exact d1
        have f0d : Wd.frozen? ⟨w.heap.size + 1, 0, none⟩ = false := by rw [hWd]; exact e0
        have f1d : Wd.frozen? ⟨w.heap.size + 1, 1, none⟩ = false := by rw [hWd]; exact e1
        have bFd : Wd.cell? ⟨w.heap.size + 3, 0, none⟩ = some (.bool false) := by rw [hWd]; exact c3
        refine wpIn_region_orders [[0, 1, 2, 3], [0, 2, 1, 3], [1, 0, 2, 3]] hmix (by kernel_rfl) ?_
        rw [← hWd]
        simp only [List.forall_mem_cons, pickOps, List.flatMap_cons, List.flatMap_nil, List.getElem?_toArray, List.getElem?_cons_zero, List.getElem?_cons_succ, Option.toList_some, List.cons_append, List.nil_append]
        have hKd : Wd.heap[D]? = some (.deferred (some [])) := by rw [hWd]; exact gK
        have hRd : Wd.heap[w.heap.size + 1]? = some (.cells #[.int .i64 0, .int .i64 0] 36 (0, 0)) := by rw [hWd]; exact g1
        have hBd3 : Below w.heap.size w Wd := by rw [hWd]; exact gB.trans ⟨rfl, rfl, rfl, Nat.le_refl _, fun _ _ => rfl⟩
        have HKd := Lib.hid hKd
        have HRd := Lib.hid hRd
        have HBd3 := Lib.hid hBd3
        clear hWd c0 c1 c3 d0 d1 e0 e1 g1 g2 g3 gK gB hKd hRd hBd3
        refine ⟨?_, ?_, ?_, by simp⟩
        all_goals gi_wp2
        all_goals
          have hFin := first_fin (a := ((0 : Nat) : Int)) (b := ((0 : Nat) : Int)) (Wd := Wd) hD7 HKd.out HRd.out HBd3.out
          refine ⟨by simp, .inl ⟨_, _, rfl, run_takeDeferred hFin.1, ?_⟩⟩
          exact ⟨_, results_hit rfl _ _ (g := w.heap.size + 1) rfl hFin.2.1, by rw [HRe.out]; rfl, hFin.2.2⟩
      · simp only [Option.isSome_some, Option.getD_some] at hh hfd
        have hcf : W.cell? ⟨w.heap.size + 3, 0, none⟩ = some (.bool true) := by simp [World.cell?, hfd]
        have hcA : W.cell? ⟨w.heap.size + 2, 0, none⟩ = some (.int .i64 (f1.1 : Int)) := by simp [World.cell?, hh]
        have hcZ : W.frozen? ⟨w.heap.size + 2, 0, none⟩ = false := by simp [World.frozen?, hh]
        have hb := hbnd f1 rfl
        have hn1 : (0 : Int) ≤ (f1.1 : Int) := Int.natCast_nonneg _
        have hn2 : (0 : Int) ≤ (f : Int) := Int.natCast_nonneg _
        obtain ⟨Wt, hWt⟩ : ∃ Wt, Wt = W.setCell ⟨w.heap.size + 2, 0, none⟩ (.int .i64 ((f1.1 : Int) + (f : Int))) := ⟨_, rfl⟩
        have g2 : Wt.heap[w.heap.size + 2]? = some (.cells #[.int .i64 ((f1.1 : Int) + (f : Int)), .int .i64 (f1.2 : Int)] 36 (0, 0)) := by rw [hWt]; simp [World.setCell, Array.getElem?_modify, hh]
        have go : ∀ k', k' ≠ w.heap.size + 2 → Wt.heap[k']? = W.heap[k']? := fun k' hk' => by rw [hWt]; exact Below.heap_setCell _ _ _ _ hk'
        have g3 := (go (w.heap.size + 3) (by omega)).trans hfd
        have g1 := (go (w.heap.size + 1) (by omega)).trans hr1
        have gK := (go D (by omega)).trans hK
        have gB : Below w.heap.size w Wt := by rw [hWt]; exact hB.setCell (Nat.le_add_right _ 2) _
        have HWt := Lib.hid hWt
        clear hm hr1 hh hfd hK hbnd go hWt
        gi_wp2
        rw [← HWt.out]
        have c0 : Wt.cell? ⟨w.heap.size + 2, 0, none⟩ = some (.int .i64 ((f1.1 : Int) + (f : Int))) := by simp [World.cell?, g2]
        have c1 : Wt.cell? ⟨w.heap.size + 2, 1, none⟩ = some (.int .i64 (f1.2 : Int)) := by simp [World.cell?, g2]
        have c3 : Wt.cell? ⟨w.heap.size + 3, 0, none⟩ = some (.bool true) := by simp [World.cell?, g3]
        have d0 : Wt.cell? ⟨w.heap.size + 1, 0, none⟩ = some (.int .i64 0) := by simp [World.cell?, g1]
        have d1 : Wt.cell? ⟨w.heap.size + 1, 1, none⟩ = some (.int .i64 0) := by simp [World.cell?, g1]
        have e0 : Wt.frozen? ⟨w.heap.size + 1, 0, none⟩ = false := by simp [World.frozen?, g1]
        have e1 : Wt.frozen? ⟨w.heap.size + 1, 1, none⟩ = false := by simp [World.frozen?, g1]
        obtain ⟨Wd, hWd⟩ : ∃ Wd, Wd = Wt.drew := ⟨_, rfl⟩
        have c0d : Wd.cell? ⟨w.heap.size + 2, 0, none⟩ = some (.int .i64 ((f1.1 : Int) + (f : Int))) := by rw [hWd]; exact c0
        have c1d : Wd.cell? ⟨w.heap.size + 2, 1, none⟩ = some (.int .i64 (f1.2 : Int)) := by rw [hWd]; exact c1
        have d0d : Wd.cell? ⟨w.heap.size + 1, 0, none⟩ = some (.int .i64 0) := by rw [hWd]; exact d0
        have d1d : Wd.cell? ⟨w.heap.size + 1, 1, none⟩ = some (.int .i64 0) := by rw [hWd]; exact d1
        have f0d : Wd.frozen? ⟨w.heap.size + 1, 0, none⟩ = false := by rw [hWd]; exact e0
        have f1d : Wd.frozen? ⟨w.heap.size + 1, 1, none⟩ = false := by rw [hWd]; exact e1
        have bFd : Wd.cell? ⟨w.heap.size + 3, 0, none⟩ = some (.bool true) := by rw [hWd]; exact c3
        refine wpIn_region_orders [[0, 1, 2, 3], [0, 2, 1, 3], [1, 0, 2, 3]] hmix (by kernel_rfl) ?_
        rw [← hWd]
        simp only [List.forall_mem_cons, pickOps, List.flatMap_cons, List.flatMap_nil, List.getElem?_toArray, List.getElem?_cons_zero, List.getElem?_cons_succ, Option.toList_some, List.cons_append, List.nil_append]
        have hKd : Wd.heap[D]? = some (.deferred (some [])) := by rw [hWd]; exact gK
        have hRd : Wd.heap[w.heap.size + 1]? = some (.cells #[.int .i64 0, .int .i64 0] 36 (0, 0)) := by rw [hWd]; exact g1
        have hBd3 : Below w.heap.size w Wd := by rw [hWd]; exact gB.trans ⟨rfl, rfl, rfl, Nat.le_refl _, fun _ _ => rfl⟩
        have HKd := Lib.hid hKd
        have HRd := Lib.hid hRd
        have HBd3 := Lib.hid hBd3
        clear hWd c0 c1 c3 d0 d1 e0 e1 g1 g2 g3 gK gB hKd hRd hBd3
        refine ⟨?_, ?_, ?_, by simp⟩
        all_goals gi_wp2
        all_goals
          have hFin := first_fin (a := ((f1.1 : Int) + (f : Int))) (b := (f1.2 : Int)) (Wd := Wd) hD7 HKd.out HRd.out HBd3.out
          refine ⟨by simp, .inl ⟨_, _, rfl, run_takeDeferred hFin.1, ?_⟩⟩
          exact ⟨_, results_hit rfl _ _ (g := w.heap.size + 1) rfl hFin.2.1, by rw [HRe.out]; rfl, hFin.2.2⟩
    case stop =>
      rintro D c k W hD hk ⟨hI, ⟨x, hx, f1, hf1', hl'⟩, rfl⟩ hK
      obtain ⟨⟨hm, hr1⟩, ⟨hh, hfd⟩, hB, hW6⟩ := hI
      rw [hf1', hX.first_stop hk hx hf1' hl'] at hh hfd
      clear hx hf1' hl'
      obtain ⟨acc, hA⟩ : ∃ acc, (hitsL l s').head? = acc := ⟨_, rfl⟩
      rw [hA] at hh hfd
      have hRe : R = firstV (acc.map fun x => (x.1 + f, x.2)) := by
        have h := HR.out
        rw [if_neg (by omega), Int.toNat_natCast, ← Hs'.out, hA] at h
        exact h
      have hbnd : ∀ y, acc = some y → (y.1 : Int) + (f : Int) ≤ 1000000000 := fun y hy => by
        rw [hy] at hA
        obtain ⟨e, he⟩ := mem_hitsL.1 (head_min (hitsL_sorted _ _) hA).1
        have h1 := he.lt
        have h2 : s'.size = s.size - f := by rw [Hs'.out]; simp
        omega
      have hD7 : w.heap.size + 4 ≤ D := by rw [hzd] at hD; omega
      have HRe := Lib.hid hRe
      clear hRe hA
      rcases acc with _ | f1
      · simp only [Option.isSome_none, Option.getD_none] at hh hfd
        have hcf : W.cell? ⟨w.heap.size + 3, 0, none⟩ = some (.bool false) := by simp [World.cell?, hfd]
        have g2 := hh
        have g3 := hfd
        have g1 := hr1
        have gK := hK
        have gB := hB
        clear hm hr1 hh hfd hK hbnd
        gi_wp2
        have c0 : W.cell? ⟨w.heap.size + 2, 0, none⟩ = some (.int .i64 ((0 : Nat) : Int)) := by simp [World.cell?, g2]
        have c1 : W.cell? ⟨w.heap.size + 2, 1, none⟩ = some (.int .i64 ((0 : Nat) : Int)) := by simp [World.cell?, g2]
        have c3 : W.cell? ⟨w.heap.size + 3, 0, none⟩ = some (.bool false) := by simp [World.cell?, g3]
        have d0 : W.cell? ⟨w.heap.size + 1, 0, none⟩ = some (.int .i64 0) := by simp [World.cell?, g1]
        have d1 : W.cell? ⟨w.heap.size + 1, 1, none⟩ = some (.int .i64 0) := by simp [World.cell?, g1]
        have e0 : W.frozen? ⟨w.heap.size + 1, 0, none⟩ = false := by simp [World.frozen?, g1]
        have e1 : W.frozen? ⟨w.heap.size + 1, 1, none⟩ = false := by simp [World.frozen?, g1]
        obtain ⟨Wd, hWd⟩ : ∃ Wd, Wd = W.drew := ⟨_, rfl⟩
        have c0d : Wd.cell? ⟨w.heap.size + 2, 0, none⟩ = some (.int .i64 ((0 : Nat) : Int)) := by rw [hWd]; exact c0
        have c1d : Wd.cell? ⟨w.heap.size + 2, 1, none⟩ = some (.int .i64 ((0 : Nat) : Int)) := by rw [hWd]; exact c1
        have d0d : Wd.cell? ⟨w.heap.size + 1, 0, none⟩ = some (.int .i64 0) := by rw [hWd]; exact d0
        have d1d : Wd.cell? ⟨w.heap.size + 1, 1, none⟩ = some (.int .i64 0) := by rw [hWd]; exact d1
        have f0d : Wd.frozen? ⟨w.heap.size + 1, 0, none⟩ = false := by rw [hWd]; exact e0
        have f1d : Wd.frozen? ⟨w.heap.size + 1, 1, none⟩ = false := by rw [hWd]; exact e1
        have bFd : Wd.cell? ⟨w.heap.size + 3, 0, none⟩ = some (.bool false) := by rw [hWd]; exact c3
        refine wpIn_region_orders [[0, 1, 2, 3], [0, 2, 1, 3], [1, 0, 2, 3]] hmix (by kernel_rfl) ?_
        rw [← hWd]
        simp only [List.forall_mem_cons, pickOps, List.flatMap_cons, List.flatMap_nil, List.getElem?_toArray, List.getElem?_cons_zero, List.getElem?_cons_succ, Option.toList_some, List.cons_append, List.nil_append]
        have hKd : Wd.heap[D]? = some (.deferred (some [])) := by rw [hWd]; exact gK
        have hRd : Wd.heap[w.heap.size + 1]? = some (.cells #[.int .i64 0, .int .i64 0] 36 (0, 0)) := by rw [hWd]; exact g1
        have hBd3 : Below w.heap.size w Wd := by rw [hWd]; exact gB.trans ⟨rfl, rfl, rfl, Nat.le_refl _, fun _ _ => rfl⟩
        have HKd := Lib.hid hKd
        have HRd := Lib.hid hRd
        have HBd3 := Lib.hid hBd3
        clear hWd c0 c1 c3 d0 d1 e0 e1 g1 g2 g3 gK gB hKd hRd hBd3
        refine ⟨?_, ?_, ?_, by simp⟩
        all_goals gi_wp2
        all_goals
          have hFin := first_fin (a := ((0 : Nat) : Int)) (b := ((0 : Nat) : Int)) (Wd := Wd) hD7 HKd.out HRd.out HBd3.out
          refine ⟨by simp, .inl ⟨_, _, rfl, run_takeDeferred hFin.1, ?_⟩⟩
          exact ⟨_, results_hit rfl _ _ (g := w.heap.size + 1) rfl hFin.2.1, by rw [HRe.out]; rfl, hFin.2.2⟩
      · simp only [Option.isSome_some, Option.getD_some] at hh hfd
        have hcf : W.cell? ⟨w.heap.size + 3, 0, none⟩ = some (.bool true) := by simp [World.cell?, hfd]
        have hcA : W.cell? ⟨w.heap.size + 2, 0, none⟩ = some (.int .i64 (f1.1 : Int)) := by simp [World.cell?, hh]
        have hcZ : W.frozen? ⟨w.heap.size + 2, 0, none⟩ = false := by simp [World.frozen?, hh]
        have hb := hbnd f1 rfl
        have hn1 : (0 : Int) ≤ (f1.1 : Int) := Int.natCast_nonneg _
        have hn2 : (0 : Int) ≤ (f : Int) := Int.natCast_nonneg _
        obtain ⟨Wt, hWt⟩ : ∃ Wt, Wt = W.setCell ⟨w.heap.size + 2, 0, none⟩ (.int .i64 ((f1.1 : Int) + (f : Int))) := ⟨_, rfl⟩
        have g2 : Wt.heap[w.heap.size + 2]? = some (.cells #[.int .i64 ((f1.1 : Int) + (f : Int)), .int .i64 (f1.2 : Int)] 36 (0, 0)) := by rw [hWt]; simp [World.setCell, Array.getElem?_modify, hh]
        have go : ∀ k', k' ≠ w.heap.size + 2 → Wt.heap[k']? = W.heap[k']? := fun k' hk' => by rw [hWt]; exact Below.heap_setCell _ _ _ _ hk'
        have g3 := (go (w.heap.size + 3) (by omega)).trans hfd
        have g1 := (go (w.heap.size + 1) (by omega)).trans hr1
        have gK := (go D (by omega)).trans hK
        have gB : Below w.heap.size w Wt := by rw [hWt]; exact hB.setCell (Nat.le_add_right _ 2) _
        have HWt := Lib.hid hWt
        clear hm hr1 hh hfd hK hbnd go hWt
        gi_wp2
        rw [← HWt.out]
        have c0 : Wt.cell? ⟨w.heap.size + 2, 0, none⟩ = some (.int .i64 ((f1.1 : Int) + (f : Int))) := by simp [World.cell?, g2]
        have c1 : Wt.cell? ⟨w.heap.size + 2, 1, none⟩ = some (.int .i64 (f1.2 : Int)) := by simp [World.cell?, g2]
        have c3 : Wt.cell? ⟨w.heap.size + 3, 0, none⟩ = some (.bool true) := by simp [World.cell?, g3]
        have d0 : Wt.cell? ⟨w.heap.size + 1, 0, none⟩ = some (.int .i64 0) := by simp [World.cell?, g1]
        have d1 : Wt.cell? ⟨w.heap.size + 1, 1, none⟩ = some (.int .i64 0) := by simp [World.cell?, g1]
        have e0 : Wt.frozen? ⟨w.heap.size + 1, 0, none⟩ = false := by simp [World.frozen?, g1]
        have e1 : Wt.frozen? ⟨w.heap.size + 1, 1, none⟩ = false := by simp [World.frozen?, g1]
        obtain ⟨Wd, hWd⟩ : ∃ Wd, Wd = Wt.drew := ⟨_, rfl⟩
        have c0d : Wd.cell? ⟨w.heap.size + 2, 0, none⟩ = some (.int .i64 ((f1.1 : Int) + (f : Int))) := by rw [hWd]; exact c0
        have c1d : Wd.cell? ⟨w.heap.size + 2, 1, none⟩ = some (.int .i64 (f1.2 : Int)) := by rw [hWd]; exact c1
        have d0d : Wd.cell? ⟨w.heap.size + 1, 0, none⟩ = some (.int .i64 0) := by rw [hWd]; exact d0
        have d1d : Wd.cell? ⟨w.heap.size + 1, 1, none⟩ = some (.int .i64 0) := by rw [hWd]; exact d1
        have f0d : Wd.frozen? ⟨w.heap.size + 1, 0, none⟩ = false := by rw [hWd]; exact e0
        have f1d : Wd.frozen? ⟨w.heap.size + 1, 1, none⟩ = false := by rw [hWd]; exact e1
        have bFd : Wd.cell? ⟨w.heap.size + 3, 0, none⟩ = some (.bool true) := by rw [hWd]; exact c3
        refine wpIn_region_orders [[0, 1, 2, 3], [0, 2, 1, 3], [1, 0, 2, 3]] hmix (by kernel_rfl) ?_
        rw [← hWd]
        simp only [List.forall_mem_cons, pickOps, List.flatMap_cons, List.flatMap_nil, List.getElem?_toArray, List.getElem?_cons_zero, List.getElem?_cons_succ, Option.toList_some, List.cons_append, List.nil_append]
        have hKd : Wd.heap[D]? = some (.deferred (some [])) := by rw [hWd]; exact gK
        have hRd : Wd.heap[w.heap.size + 1]? = some (.cells #[.int .i64 0, .int .i64 0] 36 (0, 0)) := by rw [hWd]; exact g1
        have hBd3 : Below w.heap.size w Wd := by rw [hWd]; exact gB.trans ⟨rfl, rfl, rfl, Nat.le_refl _, fun _ _ => rfl⟩
        have HKd := Lib.hid hKd
        have HRd := Lib.hid hRd
        have HBd3 := Lib.hid hBd3
        clear hWd c0 c1 c3 d0 d1 e0 e1 g1 g2 g3 gK gB hKd hRd hBd3
        refine ⟨?_, ?_, ?_, by simp⟩
        all_goals gi_wp2
        all_goals
          have hFin := first_fin (a := ((f1.1 : Int) + (f : Int))) (b := (f1.2 : Int)) (Wd := Wd) hD7 HKd.out HRd.out HBd3.out
          refine ⟨by simp, .inl ⟨_, _, rfl, run_takeDeferred hFin.1, ?_⟩⟩
          exact ⟨_, results_hit rfl _ _ (g := w.heap.size + 1) rfl hFin.2.1, by rw [HRe.out]; rfl, hFin.2.2⟩
end Go.Proofs.Ytpgiaofkabhgkaa
