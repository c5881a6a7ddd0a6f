/-
  nuncio/nuncioref02's Runes, by its cells.
-/
import Derived.Test.YtahkfoaogcbecaaPlainQuoted
import Derived.Test.YtahkfoaogcbecaaRefIs
import Derived.Test.YtahkfoaogcbecaaRow
namespace Go.Proofs.Ytahkfoaogcbecaa
set_option linter.unusedVariables false
set_option linter.unusedSimpArgs false
open Go.RowKit

def runeV (r : Nat) : Value := .int .i64 (r : Int)
/-- The numbers L lie in the block that ao names, a block of ints. -/
def RowJ (w : World) (ao : Option Addr) (L : List Nat) : Prop := ∀ j r, L[j]? = some r → ∃ b cur, ao = some ⟨b, 0, none⟩ ∧ w.heap[b]? = some (.cells cur 3) ∧ w.cell? ⟨b, j, none⟩ = some (runeV r)
theorem RowJ.below {w w' : World} {ao : Option Addr} {L : List Nat} (h : RowJ w ao L) (hb : Below w.heap.size w w') : RowJ w' ao L := fun j r hj => by
  obtain ⟨b, cur, h1, h2, h3⟩ := h j r hj
  have hlt := (Array.getElem?_eq_some_iff.1 h2).1
  exact ⟨b, cur, h1, (hb.block b hlt).trans h2, by rw [World.cell?_of_block (hb.block b hlt)]; exact h3⟩
/-- Behind an append to a row of another kind. -/
theorem RowJ.grown {w w' : World} {ao : Option Addr} {L : List Nat} {base e size n : Nat} {v : Value} {xs : List Value} (h : RowJ w ao L) (hrow : w.ownsRow base e size v n xs) (he : 3 ≠ e) (hg : w.grownBy w' v.ownBlock) : RowJ w' ao L := fun j r hj => by
  obtain ⟨b, cur, h1, h2, h3⟩ := h j r hj
  have hlt := (Array.getElem?_eq_some_iff.1 h2).1
  have hk : w'.heap[b]? = w.heap[b]? := hg.block b hlt (fun e' => by
    rcases hrow.2 with ⟨rfl, _⟩ | ⟨g, cap, cur', rfl, _, hgb, _⟩
    · simp [Value.ownBlock] at e'
    · obtain rfl : g = b := by simpa [Value.ownBlock] using e'.symm
      rw [hgb] at h2
      cases h2
      exact he rfl)
  exact ⟨b, cur, h1, hk.trans h2, by rw [World.cell?_of_block hk]; exact h3⟩
theorem refRunesK_any (s : ByteArray) (w : World) (hs : s.size ≤ 100000) :
    Calls Try.prog 21 #[.string s] w fun e w' => (∃ ao cap, e = .returned (.slice ao (runesJ s.data.toList).length cap) ∧ RowJ w' ao (runesJ s.data.toList)) ∧ Below w.heap.size w w' := by
  refine (refRunes_any s w (by omega)).mono ?_
  rintro e w' ⟨v, rfl, hown, hb⟩
  refine ⟨?_, hb⟩
  have hr := IsRow.of_owns hown (by rw [List.length_map])
  have hmap : (stps s.data.toList).map intV = (runesJ s.data.toList).map runeV := by unfold runesJ; rw [List.map_map]; rfl
  have hlen : (stps s.data.toList).length = (runesJ s.data.toList).length := by unfold runesJ; rw [List.length_map]
  rcases hown.2 with ⟨hv, h0⟩ | ⟨g, cap, cur, hv, _, hg, _⟩
  · have h0' : runesJ s.data.toList = [] := List.eq_nil_of_length_eq_zero (by omega)
    exact ⟨none, 0, by rw [hv, h0']; rfl, fun j r h => by rw [h0'] at h; simp at h⟩
  · refine ⟨some ⟨g, 0, none⟩, cap, by rw [hv, hlen], fun j r hj => ⟨g, cur, rfl, hg, ?_⟩⟩
    have hjl : j < (runesJ s.data.toList).length := by
      by_cases hj2 : j < (runesJ s.data.toList).length
      · exact hj2
      · rw [List.getElem?_eq_none (by omega)] at hj; cases hj
    rw [hv] at hown
    rw [World.ownsRow.cellAt hown j (by omega), hmap, List.getElem?_map, hj]
    rfl
/-- The runes of a text, as a slice, and their cells. -/
theorem refRunesJ_any (s : ByteArray) (w : World) (hs : s.size ≤ 100000) :
    Calls Try.prog 21 #[.string s] w fun e w' => (∃ ao cap, e = .returned (.slice ao (runesJ s.data.toList).length cap) ∧ ∀ j r, (runesJ s.data.toList)[j]? = some r → ∃ b, ao = some ⟨b, 0, none⟩ ∧ b < w'.heap.size ∧ w'.cell? ⟨b, j, none⟩ = some (runeV r)) ∧ Below w.heap.size w w' := by
  refine (refRunesK_any s w hs).mono ?_
  rintro e w' ⟨⟨ao, cap, rfl, h⟩, hb⟩
  refine ⟨⟨ao, cap, rfl, fun j r hj => ?_⟩, hb⟩
  obtain ⟨b, cur, h1, h2, h3⟩ := h j r hj
  exact ⟨b, h1, (Array.getElem?_eq_some_iff.1 h2).1, h3⟩
end Go.Proofs.Ytahkfoaogcbecaa
