/-
  The sort of hits.
-/
import Derived.Test.YtpgiaofkabhgkaaFindHits
import Derived.Test.YtpgiaofkabhgkaaSort
import Derived.StillTailTactics
namespace Go.Proofs.Ytpgiaofkabhgkaa
set_option linter.unusedVariables false
set_option linter.unusedSimpArgs false
open Go.RowKit Go.Shelf Go.Sort

def encH (x : Nat × Nat) : List Value := [.int .i64 (x.1 : Int), .int .i64 (x.2 : Int)]
theorem hitCells_at : ∀ (L : List (Nat × Nat)) (k : Nat) (x : Nat × Nat), L[k]? = some x → ∀ j, j < 2 → (hitCells L)[k * 2 + j]? = (encH x)[j]?
  | [], k, x, h, _, _ => by simp at h
  | a :: L, 0, x, h, j, hj => by
    simp at h
    subst h
    unfold hitCells
    rw [List.flatMap_cons, Nat.zero_mul, Nat.zero_add, List.getElem?_append_left (by simp; omega)]
    rfl
  | a :: L, k + 1, x, h, j, hj => by
    simp at h
    have := hitCells_at L k x h j hj
    unfold hitCells at this ⊢
    rw [List.flatMap_cons, List.getElem?_append_right (by simp; omega), ← this]
    congr 1
    simp
    omega
theorem flat_hits (L : List (Nat × Nat)) : (flatK encH 2 L.toArray).toList = hitCells L := by
  apply List.ext_getElem?
  intro t
  unfold flatK
  by_cases ht : t < L.length * 2
  · have hk : t / 2 < L.length := by omega
    have h1 := hitCells_at L (t / 2) L[t / 2] (List.getElem?_eq_getElem hk) (t % 2) (by omega)
    rw [show t / 2 * 2 + t % 2 = t from by omega] at h1
    rw [h1, Array.getElem?_toList, Array.getElem?_map, Array.getElem?_range]
    simp only [List.size_toArray, ht, if_true, Option.map_some]
    have h2 : (L.toArray)[t / 2]! = L[t / 2] := by simp [hk]
    rw [h2]
    have h3 : t % 2 < (encH L[t / 2]).length := by simp [encH]; omega
    rw [List.getElem?_eq_getElem h3]
    simp [h3]
  · rw [List.getElem?_eq_none (l := hitCells L) (by rw [hitCells_len]; omega), List.getElem?_eq_none (by rw [Array.length_toList, Array.size_map, Array.size_range, List.size_toArray]; omega)]

theorem row_holds {w : World} {base g cap : Nat} {L : List (Nat × Nat)} (h : w.ownsRow base 36 2 (.slice (some ⟨g, 0, none⟩) L.length cap) L.length (hitCells L)) : HoldsK encH 2 w g 0 L.toArray := by
  intro j hj
  rcases h.2 with ⟨hv, _⟩ | ⟨g', cap', cur, hv, hb, hg, _⟩
  · cases hv
  · cases hv
    have hj2 : j < L.length * 2 := by simpa [flatK] using hj
    rw [Nat.zero_add]
    refine ⟨?_, by simp [World.frozen?, hg]⟩
    rw [World.ownsRow.cellAt h j hj2, ← flat_hits, Array.getElem?_toList, Array.getElem?_eq_getElem hj, getElem!_pos (flatK encH 2 L.toArray) j hj]
    rfl
theorem row_sorted {w : World} {base g cap n : Nat} {os : Array Obj} {L L' : List (Nat × Nat)} (hl : L'.length = L.length) (h : w.ownsRow base 36 2 (.slice (some ⟨g, 0, none⟩) L.length cap) L.length (hitCells L)) :
    (sortWorldK encH 2 w g 0 n L'.toArray os).ownsRow base 36 2 (.slice (some ⟨g, 0, none⟩) L.length cap) L.length (hitCells L') ∧ w.grownBy (sortWorldK encH 2 w g 0 n L'.toArray os) (some g) := by
  rcases h.2 with ⟨hv, _⟩ | ⟨g', cap', cur, hv, hb, hg, h1, h2, h3, h4⟩
  · cases hv
  · cases hv
    have hgl : g < w.heap.size := (Array.getElem?_eq_some_iff.1 hg).1
    have hheap : (sortWorldK encH 2 w g 0 n L'.toArray os).heap[g]? = some (.cells (putCells id 0 (flatK encH 2 L'.toArray) cur) 36 (0, 0)) := by
      unfold sortWorldK
      rw [heap_grow_old _ _ (by simpa [putRowK, putRow, mapBlock, Sort.ahead] using hgl)]
      simp [putRowK, putRow, mapBlock, Sort.ahead, Array.getElem?_modify, hg, onCells]
    refine ⟨⟨by rw [hitCells_len, hl], .inr ⟨g, cap, _, rfl, hb, hheap, h1, h2, by simp [putCells, h3], ?_⟩⟩, ⟨rfl, rfl, rfl, by simp [sortWorldK, grow, putRowK, putRow, mapBlock, Sort.ahead], fun k hk hne => ?_⟩⟩
    · rw [← flat_hits L']
      apply List.ext_getElem?
      intro j
      have hfs : (flatK encH 2 L'.toArray).size = L.length * 2 := by simp [flatK, hl]
      by_cases hj : j < L.length * 2
      · rw [List.getElem?_take_of_lt hj, Array.getElem?_toList, Array.getElem?_toList]
        have hcs : j < cur.size := by rw [h3]; omega
        rw [Array.getElem?_eq_getElem (xs := flatK encH 2 L'.toArray) (by rw [hfs]; exact hj)]
        simp [putCells, hfs, hj, hcs]
      · rw [List.getElem?_take_eq_none (by omega), List.getElem?_eq_none (by rw [Array.length_toList, hfs]; omega)]
    · unfold sortWorldK
      rw [heap_grow_old _ _ (by simpa [putRowK, putRow, mapBlock, Sort.ahead] using hk)]
      have : g ≠ k := fun e => hne (by rw [e])
      simp [putRowK, putRow, mapBlock, Sort.ahead, Array.getElem?_modify, this]

/-- What the closure says of two hits. -/
def cfH (x y : Nat × Nat) : Int := if Lib.compareInt (x.1 : Int) (y.1 : Int) = 0 then Lib.compareInt (x.2 : Int) (y.2 : Int) else Lib.compareInt (x.1 : Int) (y.1 : Int)
theorem cfH_lt (x y : Nat × Nat) : ltOf cfH x y = true ↔ lexLt x y := by
  unfold ltOf cfH Lib.compareInt lexLt
  rw [decide_eq_true_iff]
  split <;> (try split) <;> (try split) <;> (try split) <;> (try split) <;> omega
theorem swoH : SWO (ltOf cfH) where
  irrefl x := by rw [Bool.eq_false_iff, Ne, cfH_lt]; unfold lexLt; omega
  trans x y z h1 h2 := by rw [cfH_lt] at *; unfold lexLt at *; omega
  ntrans x y z h1 h2 := by rw [Bool.eq_false_iff, Ne, cfH_lt] at *; unfold lexLt at *; omega
theorem totH (x y : Nat × Nat) (h1 : ltOf cfH x y = false) (h2 : ltOf cfH y x = false) : x = y := by
  rw [Bool.eq_false_iff, Ne, cfH_lt] at h1 h2
  unfold lexLt at h1 h2
  exact Prod.ext (by omega) (by omega)
/-- The sorted list is the list of all hits. -/
theorem sorted_hits {l : List ByteArray} {s : ByteArray} {L : List (Nat × Nat)} (hn : L.Nodup) (hm : ∀ x, x ∈ L ↔ x ∈ hitsL l s) : (L.mergeSort fun x y => !ltOf cfH y x) = hitsL l s := by
  have hp := List.mergeSort_perm L (fun x y => !ltOf cfH y x)
  refine sorted_ext _ _ ?_ (hitsL_sorted l s) (fun x => (hp.mem_iff).trans (hm x))
  have hs := List.pairwise_mergeSort (le := fun x y => !ltOf cfH y x) (fun a b c h1 h2 => by
    simp only [Bool.not_eq_true'] at h1 h2 ⊢
    exact swoH.ntrans _ _ _ h2 h1) (fun a b => by
    by_cases h : ltOf cfH b a = true
    · have : ltOf cfH a b = false := by
        rw [Bool.eq_false_iff, Ne, cfH_lt]
        rw [cfH_lt] at h
        unfold lexLt at *
        omega
      simp [this]
    · simp [h]) L
  have hnd : (L.mergeSort fun x y => !ltOf cfH y x).Nodup := hp.nodup_iff.2 hn
  rw [List.nodup_iff_pairwise_ne] at hnd
  refine (hs.and hnd).imp fun {a b} ⟨h1, h2⟩ => ?_
  simp only [Bool.not_eq_true'] at h1
  rcases hc : ltOf cfH a b with _ | _
  · exact absurd (totH a b hc h1) h2
  · exact (cfH_lt a b).1 hc

theorem compare_any (x y : Int) (w : World) : Calls Try.prog 28 #[.int .i64 x, .int .i64 y] w fun e w' => e = .returned (.int .i64 (Lib.compareInt x y)) ∧ w' = w := AnyG.cmp_Compare_int Try.cmpInt x y w

set_option maxRecDepth 100000 in
set_option maxHeartbeats 1000000 in
theorem or_any (b : Nat) (x y : Int) (w : World) (h0 : w.cell? ⟨b, 0, none⟩ = some (.int .i64 x)) (h1 : w.cell? ⟨b, 1, none⟩ = some (.int .i64 y)) :
    Calls Try.prog 27 #[.slice (some ⟨b, 0, none⟩) 2 2] w fun e w' => e = .returned (.int .i64 (if x = 0 then y else x)) ∧ w' = w := by
  obtain ⟨r, hr⟩ : ∃ r, r = (if x = 0 then y else x) := ⟨_, rfl⟩
  rw [← hr]
  by_cases hx : x = 0
  · rw [if_pos hx] at hr
    subst hr
    have ex : (x != 0) = false := by simp [hx]
    by_cases hy : r = 0
    · have ey : (r != 0) = false := by simp [hy]
      have Hy := Lib.hid hy
      clear hx hy
      go_enter Try.func27, Try.ntmps27
      go_wp2
      refine wp_loop_rounds 3 ?_
      rw [rounds_succ]
      go_wp2
      rw [rounds_succ]
      go_wp2
      rw [rounds_succ]
      go_wp2
      go_ret
      exact ⟨by rw [Hy.out]; rfl, rfl⟩
    · have ey : (r != 0) = true := by simp [hy]
      clear hx hy
      go_enter Try.func27, Try.ntmps27
      go_wp2
      refine wp_loop_rounds 2 ?_
      rw [rounds_succ]
      go_wp2
      rw [rounds_succ]
      go_wp2
      go_ret
      exact ⟨rfl, rfl⟩
  · rw [if_neg hx] at hr
    subst hr
    have ex : (r != 0) = true := by simp [hx]
    clear hx
    go_enter Try.func27, Try.ntmps27
    go_wp2
    refine wp_loop_rounds 1 ?_
    rw [rounds_succ]
    go_wp2
    go_ret
    exact ⟨rfl, rfl⟩

set_option maxRecDepth 100000 in
set_option maxHeartbeats 2000000 in
theorem closure_any (x y : Nat × Nat) (W : World) : Calls Try.prog 26 #[.agg #[.int .i64 (x.1 : Int), .int .i64 (x.2 : Int)], .agg #[.int .i64 (y.1 : Int), .int .i64 (y.2 : Int)]] W fun e w' => e = .returned (.int .i64 (cfH x y)) ∧ ∃ q os', w' = grow (W.drewN q) os' := by
  obtain ⟨c, hc⟩ : ∃ c, c = cfH x y := ⟨_, rfl⟩
  rw [← hc]
  obtain ⟨c1, hc1⟩ : ∃ c1, c1 = Lib.compareInt (x.1 : Int) (y.1 : Int) := ⟨_, rfl⟩
  obtain ⟨c2, hc2⟩ : ∃ c2, c2 = Lib.compareInt (x.2 : Int) (y.2 : Int) := ⟨_, rfl⟩
  have hcc : c = (if c1 = 0 then c2 else c1) := by rw [hc, hc1, hc2]; rfl
  have k1 := fun W' => compare_any (x.1 : Int) (y.1 : Int) W'
  have k2 := fun W' => compare_any (x.2 : Int) (y.2 : Int) W'
  rw [← hc1] at k1
  rw [← hc2] at k2
  have Hcc := Lib.hid hcc
  clear hcc hc hc1 hc2
  go_enter Try.func26, Try.ntmps26
  go_wp2
  obtain ⟨W1, hW1⟩ : ∃ W1, W1 = ((W.alloc (.cells #[.int .i64 (x.1 : Int), .int .i64 (x.2 : Int)] 36)).alloc (.cells #[.int .i64 (y.1 : Int), .int .i64 (y.2 : Int)] 36)) := ⟨_, rfl⟩
  rw [← hW1]
  have b0 : W1.heap[W.heap.size]? = some (.cells #[.int .i64 (x.1 : Int), .int .i64 (x.2 : Int)] 36 (0, 0)) := by
    rw [hW1, Below.heap_alloc _ _ _ (by simp)]
    exact World.alloc_heap_new _ _
  have b1 : W1.heap[W.heap.size + 1]? = some (.cells #[.int .i64 (y.1 : Int), .int .i64 (y.2 : Int)] 36 (0, 0)) := by
    rw [hW1]
    have h := World.alloc_heap_new (W.alloc (.cells #[.int .i64 (x.1 : Int), .int .i64 (x.2 : Int)] 36)) (.cells #[.int .i64 (y.1 : Int), .int .i64 (y.2 : Int)] 36)
    rw [World.size_alloc] at h
    exact h
  have e0 : W1.cell? ⟨W.heap.size, 0, none⟩ = some (.int .i64 (x.1 : Int)) := by simp [World.cell?, b0]
  have e1 : W1.cell? ⟨W.heap.size, 1, none⟩ = some (.int .i64 (x.2 : Int)) := by simp [World.cell?, b0]
  have e2 : W1.cell? ⟨W.heap.size + 1, 0, none⟩ = some (.int .i64 (y.1 : Int)) := by simp [World.cell?, b1]
  have e3 : W1.cell? ⟨W.heap.size + 1, 1, none⟩ = some (.int .i64 (y.2 : Int)) := by simp [World.cell?, b1]
  have Hw := Lib.hid hW1
  clear hW1 b0 b1
  refine wp_region_still_tail 10 (by kernel_rfl) (by kernel_rfl) ?_
  simp only [List.take_succ_cons, List.take_zero, List.drop_succ_cons, List.drop_zero]
  still_step
  still_step
  still_step
  still_step
  still_call (k1 _)
  still_step
  still_step
  still_step
  still_step
  still_call (k2 _)
  refine wpStill_nil ?_
  have kO : ∀ W2 : World, W2.cell? ⟨W1.heap.size, 0, none⟩ = some (.int .i64 c1) → W2.cell? ⟨W1.heap.size, 1, none⟩ = some (.int .i64 c2) → Calls Try.prog 27 #[.slice (some ⟨W1.heap.size, 0, none⟩) 2 2] W2 fun e w' => e = .returned (.int .i64 c) ∧ w' = W2 := fun W2 h1 h2 => by
    rw [Hcc.out]
    exact or_any _ _ _ _ h1 h2
  have hb2 : (W1.alloc (.cells #[.int .i64 c1, .int .i64 c2] 3)).drew.heap[W1.heap.size]? = some (.cells #[.int .i64 c1, .int .i64 c2] 3 (0, 0)) := World.alloc_heap_new W1 (.cells #[.int .i64 c1, .int .i64 c2] 3)
  have kC := kO (W1.alloc (.cells #[.int .i64 c1, .int .i64 c2] 3)).drew (by unfold World.cell?; rw [hb2]; rfl) (by unfold World.cell?; rw [hb2]; rfl)
  clear hb2 kO k1 k2 e0 e1 e2 e3
  go_wp2_with (go_at_call 27; refine kC.mono ?_; rintro e w' ⟨rfl, rfl⟩)
  go_ret
  refine ⟨rfl, 1, #[.cells #[.int .i64 (x.1 : Int), .int .i64 (x.2 : Int)] 36 (0, 0), .cells #[.int .i64 (y.1 : Int), .int .i64 (y.2 : Int)] 36 (0, 0), .cells #[.int .i64 c1, .int .i64 c2] 3 (0, 0)], ?_⟩
  rw [Hw.out]
  unfold grow World.alloc World.drew World.drewN
  congr 1

theorem sort_any {l : List ByteArray} {s : ByteArray} (L : List (Nat × Nat)) (v : Value) (W : World) (base : Nat) (hrow : W.ownsRow base 36 2 v L.length (hitCells L)) (hlen : L.length ≤ 1000000000000) (hn : L.Nodup) (hm : ∀ x, x ∈ L ↔ x ∈ hitsL l s) :
    Calls Try.prog 25 #[v, .func (.func 26) #[] #[]] W fun e w' => e = .returned (.tuple #[]) ∧ w'.ownsRow base 36 2 v (hitsL l s).length (hitCells (hitsL l s)) ∧ W.grownBy w' v.ownBlock := by
  have hsorted := sorted_hits hn hm
  rcases hrow.2 with ⟨h1, h2⟩ | ⟨g, cap, cur, h1, h2, h3, h4⟩
  · subst h1
    have hL : L = [] := List.length_eq_zero_iff.1 h2
    have h0 : hitsL l s = [] := by
      rw [hL] at hsorted
      rw [← hsorted]
      exact List.mergeSort_nil
    have h := AnyF.slices_SortFunc_none (P := Try.prog) (ρ := Try.sortHit_ren) { Try.sortHit with } none 0 (.func (.func 26) #[] #[]) W
    refine Calls.mono h ?_
    rintro e w' ⟨rfl, rfl⟩
    refine ⟨rfl, ?_, rfl, rfl, rfl, Nat.le_refl _, fun _ _ _ => rfl⟩
    rw [h0, ← hL]
    exact hrow
  · subst h1
    have eg : ∀ args w, (callFunc 26 args).run Try.prog w = .ok (.enter 26 args) w := enters_of Try.func26 (by kernel_rfl) rfl
    have h := AnyQ.slices_SortFunc_total (P := Try.prog) (ρ := Try.sortHit_ren) Try.sortHit 2 Try.isAgg36 Try.sizeOf36 encH (fun _ => rfl) (fun x v hv => by simp [encH] at hv; rcases hv with rfl | rfl <;> rfl) cfH swoH 26 #[] g 0 cap L.toArray W eg
      (fun m os dk _ x y => closure_any x y _) (row_holds hrow) (Array.getElem?_eq_some_iff.1 h3).1 (by simp; omega) totH
    rw [hsorted] at h
    refine Calls.mono h ?_
    rintro e w' ⟨rfl, n, os, rfl⟩
    have hl : (hitsL l s).length = L.length := by rw [← hsorted, List.length_mergeSort]
    obtain ⟨k1, k2⟩ := row_sorted (n := n) (os := os) hl hrow
    refine ⟨rfl, ?_, k2⟩
    rw [hl]
    exact k1

/-- Hits hands back the list of all hits, by where they begin, then by their pattern. -/
theorem hits_all (mo : Option Addr) (s : ByteArray) (xs : List (Nat × Nat)) (l : List ByteArray) (w : World) (hs : s.size ≤ 1000000000) (hl : (s.size + 2) * (l.length + 1) ≤ 1000000000000) (h : Src w (.pointer mo) s xs l) :
    Calls Try.prog 12 #[.pointer mo, .string s] w fun e W' => ∃ v, e = .returned v ∧ W'.ownsRow w.heap.size 36 2 v (hitsL l s).length (hitCells (hitsL l s)) ∧ Below w.heap.size w W' :=
  hits_any mo s xs l w hs hl h (fun L v W base h1 h2 h3 h4 => sort_any L v W base h1 h2 h3 h4)
end Go.Proofs.Ytpgiaofkabhgkaa
