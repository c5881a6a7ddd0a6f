/-
  Plain lemmas on cutting a byte string: no program.
-/
import Derived.WalkKit
import Derived.Lib.Hide
import Derived.Lib.Strings
namespace Go.Proofs.Ytahkfoaogcbecaa
set_option linter.unusedVariables false
set_option linter.unusedSimpArgs false
open Go.RowKit

/-- What is cut off when k bytes are read, and where the part that is under way begins. -/
def cutTo (s : ByteArray) (b : Int) : Nat → List ByteArray × Nat
  | 0 => ([], 0)
  | k + 1 => if h : k < s.size then if (s[k].toNat : Int) = b then ((cutTo s b k).1 ++ [s.extract (cutTo s b k).2 k], k + 1) else cutTo s b k else cutTo s b k
theorem cutTo_hit {s : ByteArray} {b : Int} {k : Nat} (h : k < s.size) (e : (s[k].toNat : Int) = b) : cutTo s b (k + 1) = ((cutTo s b k).1 ++ [s.extract (cutTo s b k).2 k], k + 1) := by
  rw [cutTo, dif_pos h, if_pos e]
theorem cutTo_miss {s : ByteArray} {b : Int} {k : Nat} (h : k < s.size) (e : (s[k].toNat : Int) ≠ b) : cutTo s b (k + 1) = cutTo s b k := by
  rw [cutTo, dif_pos h, if_neg e]
theorem cutTo_le (s : ByteArray) (b : Int) (k : Nat) : (cutTo s b k).2 ≤ k ∧ (cutTo s b k).1.length ≤ k := by
  induction k with
  | zero => simp [cutTo]
  | succ k ih =>
    rw [cutTo]
    split
    · split
      · simp; omega
      · omega
    · omega
def cutParts (s : ByteArray) (b : Int) : List ByteArray := (cutTo s b s.size).1 ++ [s.extract (cutTo s b s.size).2 s.size]
theorem cutParts_len (s : ByteArray) (b : Int) : (cutParts s b).length ≤ s.size + 1 := by
  have := (cutTo_le s b s.size).2
  simp [cutParts]; omega
/-- Strings that are not too long. -/
abbrev SmallB := { x : ByteArray // x.size ≤ 281474976710656 }
theorem size_ex_le (s : ByteArray) (a b : Nat) : (s.extract a b).size ≤ s.size := by simp; omega
/-- A cut's own law: what is cut off, joined by what it was cut by, and what is under way, is what was read. -/
def joinL (by_ : List UInt8) : List (List UInt8) → List UInt8
  | [] => []
  | [x] => x
  | x :: y :: r => x ++ by_ ++ joinL by_ (y :: r)
theorem joinL_snoc (by_ : List UInt8) : ∀ (l : List (List UInt8)) (x : List UInt8), joinL by_ (l ++ [x]) = (l.map (· ++ by_)).flatten ++ x
  | [], x => by simp [joinL]
  | [y], x => by simp [joinL]
  | y :: z :: r, x => by
    have := joinL_snoc by_ (z :: r) x
    rw [List.cons_append, List.cons_append, joinL]
    rw [List.cons_append] at this
    rw [this]
    simp
theorem cutTo_flat (s : ByteArray) (b : UInt8) (k : Nat) (hk : k ≤ s.size) :
    ((cutTo s (b.toNat : Int) k).1.map (fun x => x.data.toList ++ [b])).flatten = s.data.toList.take (cutTo s (b.toNat : Int) k).2 := by
  induction k with
  | zero => simp [cutTo]
  | succ k ih =>
    have ih := ih (by omega)
    have hle := (cutTo_le s (b.toNat : Int) k).1
    by_cases e : (s[k].toNat : Int) = (b.toNat : Int)
    · rw [cutTo_hit (by omega) e]
      simp only [List.map_append, List.flatten_append, List.map_cons, List.map_nil, List.flatten_cons, List.flatten_nil, List.append_nil]
      rw [ih]
      have eb : s[k] = b := UInt8.toNat_inj.1 (by omega)
      have e1 : s.data.toList.take (k + 1) = s.data.toList.take k ++ [b] := by
        rw [List.take_succ_eq_append_getElem (by simpa using (by omega : k < s.size)), ← eb]; rfl
      rw [e1, Lib.extract_data, ← List.append_assoc]
      congr 1
      rw [← List.take_append_drop (cutTo s (b.toNat : Int) k).2 (s.data.toList.take k), List.take_take, Nat.min_eq_left hle, List.drop_take]
    · rw [cutTo_miss (by omega) e]
      exact ih
theorem joinL_cut (s : ByteArray) (b : UInt8) : joinL [b] ((cutParts s (b.toNat : Int)).map (·.data.toList)) = s.data.toList := by
  unfold cutParts
  rw [List.map_append, List.map_cons, List.map_nil, joinL_snoc, List.map_map]
  have h := cutTo_flat s b s.size (Nat.le_refl _)
  rw [show ((fun x => x ++ [b]) ∘ fun x : ByteArray => x.data.toList) = fun x : ByteArray => x.data.toList ++ [b] from rfl, h, Lib.extract_data]
  have := Lib.size_eq s
  rw [List.take_of_length_le (l := s.data.toList.drop _) (by simp), List.take_append_drop]
theorem bytes_ext {x y : ByteArray} (h : x.data.toList = y.data.toList) : x = y := ByteArray.ext (Array.toList_inj.1 h)
theorem bytes_beq (x y : ByteArray) : (x.toList == y.toList) = decide (x = y) := by
  rw [Lib.toList_data, Lib.toList_data]
  by_cases h : x = y
  · subst h; simp
  · have : ¬ x.data.toList = y.data.toList := fun e => h (bytes_ext e)
    rw [decide_eq_false h]
    simpa using fun e => this (by rw [e])
theorem bytes_beq_same {x y : ByteArray} (h : x = y) : (x.toList == y.toList) = true := by rw [bytes_beq, decide_eq_true h]
theorem bytes_beq_other {x y : ByteArray} (h : ¬ x = y) : (x.toList == y.toList) = false := by rw [bytes_beq, decide_eq_false h]
/-- The strings l, joined by b. -/
def joinB (b : ByteArray) (l : List ByteArray) : ByteArray := ⟨(joinL b.data.toList (l.map (·.data.toList))).toArray⟩
theorem joinL_one (by_ x : List UInt8) : joinL by_ [x] = x := rfl
theorem joinL_more (by_ : List UInt8) : ∀ (l : List (List UInt8)) (x : List UInt8), l ≠ [] → joinL by_ (l ++ [x]) = joinL by_ l ++ by_ ++ x
  | [], _, h => absurd rfl h
  | [y], x, _ => by simp [joinL]
  | y :: z :: r, x, _ => by
    have := joinL_more by_ (z :: r) x (by simp)
    rw [List.cons_append, List.cons_append, joinL]
    rw [List.cons_append] at this
    rw [this, joinL]
    simp
theorem joinB_zero (b : ByteArray) (l : List ByteArray) : joinB b (l.take 0) = ⟨#[]⟩ := rfl
theorem bytes_of_list {x : ByteArray} {l : List UInt8} (h : x.data.toList = l) : x = ⟨l.toArray⟩ := bytes_ext (by simpa using h)
theorem joinB_first (b : ByteArray) (l : List ByteArray) (h : 0 < l.length) : joinB b (l.take 1) = l[0] := by
  have : l.take 1 = [l[0]] := by
    rw [show 1 = 0 + 1 from rfl, List.take_succ_eq_append_getElem h]; rfl
  rw [this]
  exact (bytes_of_list rfl).symm
theorem append_data (x y : ByteArray) : (x ++ y).data.toList = x.data.toList ++ y.data.toList := by simp
theorem joinB_succ (b : ByteArray) (l : List ByteArray) (k : Nat) (h : k < l.length) (h0 : 0 < k) : joinB b (l.take (k + 1)) = joinB b (l.take k) ++ b ++ l[k] := by
  apply bytes_ext
  rw [append_data, append_data]
  unfold joinB
  simp only []
  rw [List.take_succ_eq_append_getElem h, List.map_append, List.map_cons, List.map_nil, joinL_more _ _ _ (by intro e; have := congrArg List.length e; rw [List.length_map, List.length_take, List.length_nil] at this; omega)]
theorem joinB_size_step (b : ByteArray) (l : List ByteArray) (k : Nat) (h : k < l.length) : (joinB b (l.take k)).size ≤ (joinB b (l.take (k + 1))).size := by
  rcases Nat.eq_zero_or_pos k with rfl | h0
  · rw [joinB_zero]; exact Nat.zero_le _
  · rw [joinB_succ b l k h h0, ByteArray.size_append, ByteArray.size_append]; omega
theorem joinB_size_le (b : ByteArray) (l : List ByteArray) (k : Nat) (h : k ≤ l.length) : (joinB b (l.take k)).size ≤ (joinB b l).size := by
  have : ∀ d k, k + d = l.length → (joinB b (l.take k)).size ≤ (joinB b l).size := by
    intro d
    induction d with
    | zero => intro k hk; rw [List.take_of_length_le (by omega)]; exact Nat.le_refl _
    | succ d ih => intro k hk; exact Nat.le_trans (joinB_size_step b l k (by omega)) (ih (k + 1) (by omega))
  exact this (l.length - k) k (by omega)
theorem joinB_cut (s : ByteArray) (b : UInt8) : joinB ⟨#[b]⟩ (cutParts s (b.toNat : Int)) = s := by
  unfold joinB
  exact (bytes_of_list (joinL_cut s b).symm).symm
end Go.Proofs.Ytahkfoaogcbecaa
