/-
  Plain lemmas on decimal digits: no program.
-/
import Derived.WalkKit
import Derived.Lib.Hide
import Derived.IntWalk
namespace Go.Proofs.Ytjghnabepojddaa
open Go.RowKit

def dg (d : Nat) : UInt8 := (48 + d).toUInt8
theorem dg_toNat (d : Nat) (h : d < 10) : (dg d).toNat = 48 + d := by unfold dg; simp; omega
/-- A number's decimal digits. -/
def digs (n : Nat) : List UInt8 := if n < 10 then [dg n] else digs (n / 10) ++ [dg (n % 10)]
termination_by n
decreasing_by omega
theorem digs_lt (n : Nat) (h : n < 10) : digs n = [dg n] := by rw [digs, if_pos h]
theorem digs_ge (n : Nat) (h : 10 ≤ n) : digs n = digs (n / 10) ++ [dg (n % 10)] := by rw [digs, if_neg (by omega)]
/-- The same, nothing for 0. -/
def digs0 (n : Nat) : List UInt8 := if n = 0 then [] else digs n
theorem digs0_zero : digs0 0 = [] := rfl
theorem digs0_pos (n : Nat) (h : 0 < n) : digs0 n = digs0 (n / 10) ++ [dg (n % 10)] := by
  unfold digs0
  rw [if_neg (by omega)]
  by_cases h1 : n < 10
  · rw [digs_lt n h1, if_pos (by omega), Nat.mod_eq_of_lt h1]; rfl
  · rw [digs_ge n (by omega), if_neg (by omega)]
theorem digs0_eq (n : Nat) (h : 0 < n) : digs0 n = digs n := by unfold digs0; rw [if_neg (by omega)]
theorem digs_eq (n : Nat) : digs n = digs0 (n / 10) ++ [dg (n % 10)] := by
  by_cases h : 0 < n
  · rw [← digs0_eq n h, digs0_pos n h]
  · have : n = 0 := by omega
    subst this
    rw [digs_lt 0 (by omega)]; rfl
theorem digs_ne (n : Nat) : digs n ≠ [] := by rw [digs_eq]; simp
theorem digs_len (k n : Nat) (hk : 0 < k) (h : n < 10 ^ k) : (digs n).length ≤ k := by
  induction k generalizing n with
  | zero => omega
  | succ k ih =>
    by_cases h1 : n < 10
    · rw [digs_lt n h1]; simp
    · rw [digs_ge n (by omega)]
      rw [Nat.pow_succ] at h
      rcases Nat.eq_zero_or_pos k with h0 | h0
      · subst h0; simp at h; omega
      · have := ih (n / 10) h0 (by omega)
        simp; omega
theorem digs_len19 (n : Nat) (h : n ≤ 9223372036854775808) : (digs n).length ≤ 19 := digs_len 19 n (by omega) (by omega)
theorem digs_len20 (n : Nat) (h : n < 18446744073709551616) : (digs n).length ≤ 20 := digs_len 20 n (by omega) (by omega)
/-- A number's text. -/
def textOf (n : Int) : ByteArray := ⟨(if n < 0 then 45 :: digs n.natAbs else digs n.natAbs).toArray⟩
theorem negWrap (n : Int) (h0 : -9223372036854775808 ≤ n) (hn : n < 0) : IntKind.u64.wrap (-IntKind.u64.wrap n) = ((n.natAbs : Nat) : Int) := by
  simp only [IntKind.wrap_u64]; omega

/-- The twenty cells of a text that is written from its end. -/
def txtRow (l : List UInt8) : Array Value := (List.replicate (20 - l.length) (Value.int .u8 0) ++ l.map fun c => Value.int .u8 (c.toNat : Int)).toArray
theorem txtRow_size (l : List UInt8) (h : l.length ≤ 20) : (txtRow l).size = 20 := by simp [txtRow]; omega
theorem txtRow_nil : txtRow [] = #[.int .u8 0, .int .u8 0, .int .u8 0, .int .u8 0, .int .u8 0, .int .u8 0, .int .u8 0, .int .u8 0, .int .u8 0, .int .u8 0, .int .u8 0, .int .u8 0, .int .u8 0, .int .u8 0, .int .u8 0, .int .u8 0, .int .u8 0, .int .u8 0, .int .u8 0, .int .u8 0] := rfl
theorem txtRow_set (l : List UInt8) (a : Nat) (c : UInt8) (h : a + 1 + l.length = 20) : (txtRow l).setIfInBounds a (.int .u8 (c.toNat : Int)) = txtRow (c :: l) := by
  unfold txtRow
  rw [show 20 - l.length = a + 1 from by omega]
  apply Array.toList_inj.1
  simp only [Array.toList_setIfInBounds, List.length_cons]
  rw [List.set_append_left _ _ (by simp), show 20 - (l.length + 1) = a from by omega]
  rw [show List.replicate (a + 1) (Value.int IntKind.u8 0) = List.replicate a (Value.int IntKind.u8 0) ++ [Value.int IntKind.u8 0] from List.replicate_succ']
  rw [List.set_append_right _ _ (by simp)]
  simp
theorem txtRow_at (l : List UInt8) (a j : Nat) (h : a + l.length = 20) (hj : j < l.length) : (txtRow l)[a + j]? = some (.int .u8 (l[j].toNat : Int)) := by
  unfold txtRow
  rw [show 20 - l.length = a from by omega]
  simp
  rw [List.getElem?_append_right (by simp)]
  simp [hj]
theorem txtRow_head (l : List UInt8) (a : Nat) (h : a + l.length = 20) (ha : 1 ≤ a) : (txtRow l)[a - 1]? = some (.int .u8 0) := by
  unfold txtRow
  rw [show 20 - l.length = a from by omega, List.getElem?_toArray, List.getElem?_append_left (by rw [List.length_replicate]; omega), List.getElem?_replicate, if_pos (by omega)]
/-- The loop's relation: what is written, and what is left. -/
def txtInv (m : Nat) (l : List UInt8) (a r : Nat) : Prop := a + l.length = 20 ∧ (a < 20 → digs m = digs0 r ++ l) ∧ (a = 20 → r = m)
theorem txtInv_start (m : Nat) : txtInv m [] 20 m := ⟨rfl, fun h => by omega, fun _ => rfl⟩
theorem txtInv_room {m : Nat} {l : List UInt8} {a r : Nat} (h : txtInv m l a r) (hl : (digs m).length ≤ 19) : 1 ≤ a ∧ a ≤ 20 := by
  obtain ⟨h1, h2, h3⟩ := h
  refine ⟨?_, by omega⟩
  by_cases ha : a = 20
  · omega
  · rw [h2 (by omega)] at hl
    simp at hl; omega
theorem txtInv_step {m : Nat} {l : List UInt8} {a r : Nat} (h : txtInv m l a r) (ha : 1 ≤ a) (hc : 0 < r ∨ a = 20) : txtInv m (dg (r % 10) :: l) (a - 1) (r / 10) := by
  obtain ⟨h1, h2, h3⟩ := h
  refine ⟨by simp; omega, fun _ => ?_, fun _ => by omega⟩
  by_cases h20 : a = 20
  · rw [← h3 h20]
    have : l = [] := by cases l with | nil => rfl | cons x y => simp at h1; omega
    subst this
    exact digs_eq r
  · rw [h2 (by omega), digs0_pos r (by omega)]
    simp
theorem txtInv_end {m : Nat} {l : List UInt8} {a : Nat} (h : txtInv m l a 0) (ha : a ≠ 20) : l = digs m := by
  obtain ⟨h1, h2, h3⟩ := h
  have := h2 (by omega)
  rw [this]; rfl
end Go.Proofs.Ytjghnabepojddaa
