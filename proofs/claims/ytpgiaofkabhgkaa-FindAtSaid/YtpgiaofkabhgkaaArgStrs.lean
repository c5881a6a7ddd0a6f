/-
  A slice of strings that came in.
-/
import Derived.Test.YtpgiaofkabhgkaaChecked
import Derived.WalkKit
import Derived.Handy
import Derived.SliceStrings
import Derived.Carry
import Derived.OpenShut
namespace Go.Proofs.Ytpgiaofkabhgkaa
set_option linter.unusedVariables false
set_option linter.unusedSimpArgs false
open Go.RowKit

/-- What the walk is told of a slice of strings that came in. -/
def ArgStrs (w : World) (v : Value) (l : List ByteArray) : Prop :=
  (∃ ao cap, v = .slice ao 0 cap ∧ l = []) ∨ (∃ (b off cap : Nat), v = .slice (some ⟨b, off, none⟩) l.length cap ∧ 0 < l.length ∧ l.length ≤ cap ∧ cap ≤ maxLen ∧ b < w.heap.size ∧ ∀ j (h : j < l.length), w.cell? ⟨b, off + j, none⟩ = some (.string l[j]) ∧ l[j].size ≤ maxLen)

theorem addr_add (b off j : Nat) : Addr.add ⟨b, off, none⟩ j = ⟨b, off + j, none⟩ := by
  by_cases h : j = 0
  · subst h; simp [Addr.add]
  · simp [Addr.add, h]
set_option maxRecDepth 100000 in
theorem argStrs_open {H : Type} {enc : TypeId × Value → H} {W : World} {base : Nat} {v : Value} {d : DataW H} {ps : List MemPlace} (hok : Value.okWide Try.prog W .any base 22 v) (h : DataW.Trod enc Try.prog W 0 (fun _ => true) true 22 v d ps) : ∃ l, ArgStrs W v l := by
  obtain ⟨a0, len, cap, rfl⟩ := WideShapes.okWide_slice Try.underlying22 hok
  obtain ⟨fuel, hf⟩ := h
  rcases ChangeShapes.open_strings Try.underlying22 Try.underlying9 (by kernel_rfl) hf with ⟨hcs, _⟩ | ⟨x, len', cap', ss, hcs, _, hl, hm, hz, _, hcell, hws⟩
  · simp [Value.cells] at hcs
    obtain ⟨rfl, rfl, rfl⟩ := hcs
    exact ⟨[], .inl ⟨_, _, rfl, rfl⟩⟩
  · simp [Value.cells] at hcs
    obtain ⟨rfl, rfl, rfl⟩ := hcs
    simp at hz
    rcases Nat.eq_zero_or_pos len with rfl | hpos
    · exact ⟨[], .inl ⟨_, _, rfl, rfl⟩⟩
    · obtain ⟨b, off, spot⟩ := x
      have hc0 := hcell 0 (by omega)
      have hspot : spot = none := by simpa [Addr.add] using World.cell?_spot hc0
      subst hspot
      have hlt := World.block_lt_of_cell? W _ hc0
      have hlen : (ss.take len).length = len := by rw [List.length_take, hz]; omega
      refine ⟨ss.take len, .inr ⟨b, off, cap, by rw [hlen], by omega, by omega, hm, by simpa [Addr.add] using hlt, fun j hj => ?_⟩⟩
      rw [hlen] at hj
      have hc := hcell j (by omega)
      have e : (ss.take len)[j]'(by rw [hlen]; exact hj) = ss.getD j ByteArray.empty := by
        rw [List.getElem_take, List.getD_eq_getElem?_getD, List.getElem?_eq_getElem (by omega)]; rfl
      refine ⟨?_, ?_⟩
      · rw [e, ← hc, addr_add]
      · rw [e, List.getD_eq_getElem?_getD, List.getElem?_eq_getElem (by omega)]
        exact hws _ (List.getElem_mem _)

end Go.Proofs.Ytpgiaofkabhgkaa
