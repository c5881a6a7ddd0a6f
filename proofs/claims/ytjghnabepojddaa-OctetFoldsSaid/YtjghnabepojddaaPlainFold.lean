/-
  Plain lemmas on folding: no program.
-/
import Derived.Test.YtjghnabepojddaaPlainCut
import Derived.Lib.AppendStr
namespace Go.Proofs.Ytjghnabepojddaa
open Go.RowKit

def smallI (c : Int) : Int := if 65 ≤ c ∧ c ≤ 90 then c + 32 else c
def small8 (c : UInt8) : UInt8 := if 65 ≤ c.toNat ∧ c.toNat ≤ 90 then c + 32 else c
theorem small8_toNat (c : UInt8) : ((small8 c).toNat : Int) = smallI (c.toNat : Int) := by
  unfold small8 smallI
  by_cases h : 65 ≤ c.toNat ∧ c.toNat ≤ 90
  · rw [if_pos h, if_pos (by omega)]
    rw [UInt8.toNat_add]
    simp
    omega
  · rw [if_neg h, if_neg (by omega)]
theorem small8_idem (c : UInt8) : small8 (small8 c) = small8 c := by
  have h1 := small8_toNat c
  have h2 := small8_toNat (small8 c)
  apply UInt8.toNat_inj.1
  rw [h1] at h2
  have : smallI (smallI (c.toNat : Int)) = smallI (c.toNat : Int) := by
    unfold smallI
    by_cases h : 65 ≤ (c.toNat : Int) ∧ (c.toNat : Int) ≤ 90
    · rw [if_pos h, if_neg (by omega)]
    · rw [if_neg h, if_neg h]
  omega
/-- A string, folded. -/
def foldB (s : ByteArray) : ByteArray := ⟨(s.data.toList.map small8).toArray⟩
theorem foldB_size (s : ByteArray) : (foldB s).size = s.size := by
  show (s.data.toList.map small8).toArray.size = s.data.size
  simp
theorem foldB_at (s : ByteArray) (k : Nat) (h : k < s.size) (h' : k < (foldB s).size) : (foldB s)[k] = small8 s[k] := by
  have e : (foldB s).data = s.data.map small8 := by apply Array.toList_inj.1; simp [foldB]
  show (foldB s).data[k]'h' = small8 s.data[k]
  simp only [e, Array.getElem_map]
theorem foldB_idem (s : ByteArray) : foldB (foldB s) = foldB s := by
  apply bytes_ext
  unfold foldB
  simp [small8_idem]
theorem bytes_eq_of_at {x y : ByteArray} (h : x.size = y.size) (e : ∀ k (h1 : k < x.size) (h2 : k < y.size), x[k] = y[k]) : x = y := by
  apply ByteArray.ext
  apply Array.ext h
  exact e
/-- The cells of a string that is folded up to k. -/
def foldRow (s : ByteArray) (k : Nat) : Array Value := ((Lib.strCells (foldB s)).take k ++ List.replicate (s.size - k) (Value.int .u8 0)).toArray
theorem foldRow_zero (s : ByteArray) : foldRow s 0 = Array.replicate s.size (Value.int .u8 0) := by simp [foldRow]
theorem foldCells_at (s : ByteArray) (k : Nat) (h : k < s.size) : (Lib.strCells (foldB s))[k]? = some (.int .u8 (smallI (s[k].toNat : Int))) := by
  unfold Lib.strCells
  have hk : k < (foldB s).data.toList.length := by rw [← Lib.size_eq, foldB_size]; exact h
  rw [List.getElem?_map, List.getElem?_eq_getElem hk, ← small8_toNat, ← foldB_at s k h (by rw [foldB_size]; exact h)]
  rfl
theorem foldRow_set (s : ByteArray) (k : Nat) (h : k < s.size) : (foldRow s k).setIfInBounds k (.int .u8 (smallI (s[k].toNat : Int))) = foldRow s (k + 1) := by
  have hl : (Lib.strCells (foldB s)).length = s.size := by rw [Lib.strCells_length, foldB_size]
  have hc := foldCells_at s k h
  unfold foldRow
  apply Array.toList_inj.1
  simp only [Array.toList_setIfInBounds]
  rw [List.set_append_right _ _ (by rw [List.length_take, hl]; omega), List.length_take, hl, Nat.min_eq_left (by omega), Nat.sub_self, show s.size - k = (s.size - (k + 1)) + 1 from by omega, List.replicate_succ, List.set_cons_zero]
  rw [List.take_add_one, hc]
  simp
theorem foldRow_at (s : ByteArray) (k : Nat) (h : k < s.size) : (foldRow s k)[k]? = some (.int .u8 0) := by
  have hl : (Lib.strCells (foldB s)).length = s.size := by rw [Lib.strCells_length, foldB_size]
  unfold foldRow
  rw [List.getElem?_toArray, List.getElem?_append_right (by rw [List.length_take, hl]; omega), List.length_take, hl, Nat.min_eq_left (by omega), Nat.sub_self, List.getElem?_replicate, if_pos (by omega)]
theorem foldRow_end (s : ByteArray) : foldRow s s.size = (Lib.strCells (foldB s)).toArray := by
  have hl : (Lib.strCells (foldB s)).length = s.size := by rw [Lib.strCells_length, foldB_size]
  unfold foldRow
  rw [List.take_of_length_le (by omega), Nat.sub_self]
  simp
theorem foldRow_size (s : ByteArray) (k : Nat) (h : k ≤ s.size) : (foldRow s k).size = s.size := by
  have hl : (Lib.strCells (foldB s)).length = s.size := by rw [Lib.strCells_length, foldB_size]
  unfold foldRow
  simp [hl]
  omega
end Go.Proofs.Ytjghnabepojddaa
