/-
  Plain lemmas on trimming: no program.
-/
import Derived.Test.YtjghnabepojddaaPlainCut
namespace Go.Proofs.Ytjghnabepojddaa
open Go.RowKit

def blankB (c : Int) : Bool := c == 32 || c == 9
def bl (c : UInt8) : Bool := blankB (c.toNat : Int)
/-- A string without the blanks at its beginning; at its end. -/
def lead (l : List UInt8) : List UInt8 := l.dropWhile bl
def tail_ (l : List UInt8) : List UInt8 := (l.reverse.dropWhile bl).reverse
def trimB (s : ByteArray) : ByteArray := ⟨(tail_ (lead s.data.toList)).toArray⟩
theorem lead_cons (c : UInt8) (l : List UInt8) (h : bl c = true) : lead (c :: l) = lead l := by unfold lead; rw [List.dropWhile_cons, if_pos h]
theorem lead_stop (c : UInt8) (l : List UInt8) (h : bl c = false) : lead (c :: l) = c :: l := by unfold lead; rw [List.dropWhile_cons, if_neg (by rw [h]; simp)]
theorem tail_snoc (c : UInt8) (l : List UInt8) (h : bl c = true) : tail_ (l ++ [c]) = tail_ l := by
  unfold tail_
  rw [List.reverse_append]
  show ((c :: l.reverse).dropWhile bl).reverse = _
  rw [List.dropWhile_cons, if_pos h]
theorem tail_stop (c : UInt8) (l : List UInt8) (h : bl c = false) : tail_ (l ++ [c]) = l ++ [c] := by
  unfold tail_
  rw [List.reverse_append]
  show ((c :: l.reverse).dropWhile bl).reverse = _
  rw [List.dropWhile_cons, if_neg (by rw [h]; simp)]
  simp
theorem ex_list (s : ByteArray) (a b : Nat) : (s.extract a b).data.toList = (s.data.toList.drop a).take (b - a) := Lib.extract_data s a b
/-- The bytes from f to t. -/
def cutL (s : ByteArray) (f t : Nat) : List UInt8 := (s.extract f t).data.toList
theorem cutL_cons (s : ByteArray) (f t : Nat) (h : f < t) (ht : t ≤ s.size) : cutL s f t = (s[f]'(by omega)) :: cutL s (f + 1) t := by
  unfold cutL
  rw [ex_list, ex_list, List.drop_eq_getElem_cons (by rw [← Lib.size_eq]; omega), show t - f = (t - (f + 1)) + 1 from by omega, List.take_succ_cons]
  rfl
theorem cutL_snoc (s : ByteArray) (f t : Nat) (h : f < t) (ht : t ≤ s.size) : cutL s f t = cutL s f (t - 1) ++ [s[t - 1]'(by omega)] := by
  unfold cutL
  rw [ex_list, ex_list, show t - f = (t - 1 - f) + 1 from by omega, List.take_succ_eq_append_getElem (by rw [List.length_drop, ← Lib.size_eq]; omega)]
  congr 2
  rw [List.getElem_drop]
  simp only [show f + (t - 1 - f) = t - 1 from by omega]
  rfl
theorem cutL_none (s : ByteArray) (f : Nat) : cutL s f f = [] := by
  unfold cutL; rw [ex_list]; simp
theorem cutL_all (s : ByteArray) : cutL s 0 s.size = s.data.toList := by
  unfold cutL; rw [ex_list, List.drop_zero, List.take_of_length_le (by rw [← Lib.size_eq]; omega)]
theorem cutL_back (s : ByteArray) (f t : Nat) : s.extract f t = ⟨(cutL s f t).toArray⟩ := bytes_of_list rfl
/-- A string's length; 0 of any other value: a loop's measure. -/
def strLen : Value → Nat | .string y => y.size | _ => 0
theorem list_cons_at (y : ByteArray) (h : 0 < y.size) : y.data.toList = y[0] :: (y.extract 1 y.size).data.toList := by
  have := cutL_cons y 0 y.size h (Nat.le_refl _)
  rw [cutL_all] at this
  exact this
theorem list_snoc_at (y : ByteArray) (h : 0 < y.size) : y.data.toList = (y.extract 0 (y.size - 1)).data.toList ++ [y[y.size - 1]] := by
  have := cutL_snoc y 0 y.size h (Nat.le_refl _)
  rw [cutL_all] at this
  exact this
end Go.Proofs.Ytjghnabepojddaa
