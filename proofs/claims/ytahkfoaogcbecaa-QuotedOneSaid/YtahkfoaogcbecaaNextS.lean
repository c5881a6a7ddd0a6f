/-
  A step of a text: what stands at an offset, in mathematics and as a value (no function of a program).
-/
import Derived.Test.YtahkfoaogcbecaaRefBytes
import Derived.Test.YtahkfoaogcbecaaPlainNext
namespace Go.Proofs.Ytahkfoaogcbecaa
open Go.RowKit

/-- What stands at offset k of s. -/
def nxS (s : ByteArray) (k : Nat) : Nat × Nat := nxL (s.data.toList.drop k)
def bt (s : ByteArray) (k : Nat) : Nat := (s.data.toList.getD k 0).toNat
theorem bt_lt (s : ByteArray) (k : Nat) : bt s k < 256 := (s.data.toList.getD k 0).toNat_lt
theorem bt_at (s : ByteArray) (k : Nat) (h : k < s.size) : s[k].toNat = bt s k := by
  unfold bt
  rw [List.getD_eq_getElem?_getD, List.getElem?_eq_getElem (by simpa using h)]
  rfl
theorem nxS_dec (s : ByteArray) (k : Nat) : nxS s k = dec (s.size - k) (bt s k) (bt s (k + 1)) (bt s (k + 2)) (bt s (k + 3)) := by
  unfold nxS nxL bt
  simp [List.getD_eq_getElem?_getD]
/-- The value of a step of Next, as it lies in a tuple. -/
def nxV (x : Nat × Nat) : Value := .tuple #[.int .i32 (x.1 : Int), .int .i64 (x.2 : Int)]
theorem nxS_ok (s : ByteArray) (k : Nat) (h : k < s.size) : isRune (nxS s k).1 ∧ 1 ≤ (nxS s k).2 ∧ (nxS s k).2 ≤ 4 := by
  have := nxL_size (s.data.toList.drop k) (by rw [Ne, List.drop_eq_nil_iff]; simpa using h)
  exact ⟨nxL_rune _, this.1, this.2.1⟩
theorem nxS_le (s : ByteArray) (k : Nat) (h : k < s.size) : k + (nxS s k).2 ≤ s.size := by
  have := (nxL_size (s.data.toList.drop k) (by rw [Ne, List.drop_eq_nil_iff]; simpa using h)).2.2
  rw [List.length_drop] at this
  have h2 : (nxS s k).2 ≤ s.data.toList.length - k := this
  simp at h2
  omega
/-- Is a step a bad byte? -/
def badS (x : Nat × Nat) : Bool := x.1 == 65533 && x.2 == 1
def nxVI (x : Nat × Nat) : Value := .tuple #[.int .i64 (x.1 : Int), .int .i64 (x.2 : Int)]
theorem okL_step (s : ByteArray) (k : Nat) (hk : k < s.size) : okL (s.data.toList.drop k) = (!badS (nxS s k) && okL (s.data.toList.drop (k + (nxS s k).2))) := by
  unfold okL
  rw [stps_cons _ (by rw [Ne, List.drop_eq_nil_iff]; simpa using hk), List.drop_drop]
  rfl
theorem drop_size (s : ByteArray) : s.data.toList.drop s.size = [] := by simp [List.drop_eq_nil_iff]
theorem stps_step (s : ByteArray) (k : Nat) (hk : k < s.size) : stps (s.data.toList.drop k) = nxS s k :: stps (s.data.toList.drop (k + (nxS s k).2)) := by
  rw [stps_cons _ (by rw [Ne, List.drop_eq_nil_iff]; simpa using hk), List.drop_drop]
  rfl
end Go.Proofs.Ytahkfoaogcbecaa
