/-
  Slices in memory, by their cells.
-/
import Derived.Test.YtahkfoaogcbecaaOwn
namespace Go.Proofs.Ytahkfoaogcbecaa
open Go.RowKit

/-- The slice value v reads as the cells xs in the world w. -/
def IsRow (w : World) (v : Value) (xs : List Value) : Prop :=
  (∃ ao cap, v = .slice ao 0 cap ∧ xs = []) ∨ (∃ (b cap : Nat), v = .slice (some ⟨b, 0, none⟩) xs.length cap ∧ b < w.heap.size ∧ ∀ j (h : j < xs.length), w.cell? ⟨b, j, none⟩ = some xs[j])
theorem IsRow.form {w : World} {v : Value} {xs : List Value} (h : IsRow w v xs) : ∃ ao cap, v = .slice ao xs.length cap := by
  rcases h with ⟨ao, cap, hv, rfl⟩ | ⟨b, cap, hv, _, _⟩
  · exact ⟨ao, cap, hv⟩
  · exact ⟨_, cap, hv⟩
theorem IsRow.some {w : World} {v : Value} {xs : List Value} (h : IsRow w v xs) (hne : xs ≠ []) : ∃ (b cap : Nat), v = .slice (some ⟨b, 0, none⟩) xs.length cap ∧ b < w.heap.size ∧ ∀ j (h : j < xs.length), w.cell? ⟨b, j, none⟩ = some xs[j] := by
  rcases h with ⟨ao, cap, hv, hx⟩ | h
  · exact absurd hx hne
  · exact h
theorem IsRow.of_owns {w : World} {base : Nat} {e : TypeId} {v : Value} {xs : List Value} {n : Nat} (h : w.ownsRow base e 1 v n xs) (hn : n = xs.length) : IsRow w v xs := by
  subst hn
  rcases h.2 with ⟨rfl, h0⟩ | ⟨g, cap, cur, rfl, _, hg, hle, hm, hs, ht⟩
  · exact .inl ⟨none, 0, rfl, List.eq_nil_of_length_eq_zero h0⟩
  · refine .inr ⟨g, cap, rfl, (Array.getElem?_eq_some_iff.1 hg).1, fun j hj => ?_⟩
    have := World.ownsRow.cellAt h j (by omega)
    rw [this]
    simp [hj]
theorem cells_below {w w' : World} {b : Nat} {xs : List Value} (hlt : b < w.heap.size) (hc : ∀ j (h : j < xs.length), w.cell? ⟨b, j, none⟩ = Option.some xs[j]) (hb : Below w.heap.size w w') : ∀ j (h : j < xs.length), w'.cell? ⟨b, j, none⟩ = Option.some xs[j] := by
  intro j hj
  rw [hb.cell (p := ⟨b, j, none⟩) hlt]
  exact hc j hj
end Go.Proofs.Ytahkfoaogcbecaa
