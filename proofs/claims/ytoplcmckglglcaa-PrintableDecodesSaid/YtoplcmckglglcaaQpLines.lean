/-
  Quoted-printable text by its codes: a line of codes, and where it ends.
-/
import Derived.Test.YtoplcmckglglcaaQpCodes
namespace Go.Proofs.Ytoplcmckglglcaa
set_option linter.unusedVariables false
set_option linter.unusedSimpArgs false
open Go.RowKit

/-- What is printed of codes, behind n bytes of a line. -/
def encC (n : Nat) : List (List UInt8) → List UInt8
  | [] => []
  | x :: r => if x = [13, 10] then x ++ encC 0 r else if 75 < n + x.length then 61 :: 13 :: 10 :: (x ++ encC x.length r) else x ++ encC (n + x.length) r
theorem encQ_marks (l : List UInt8) : ∀ n, encQ n l = encC n (marksQ l) := by
  induction l with
  | nil => intro n; rfl
  | cons c r ih =>
    intro n
    rw [encQ, marksQ, encC]
    unfold markQ
    by_cases h10 : c.toNat = 10
    · rw [if_pos h10, if_pos h10, if_pos rfl, ih]
      rfl
    · rw [if_neg h10, if_neg h10]
      have hne : codeQ c r ≠ [13, 10] := fun e => by
        have := codeQ_len c r
        rw [e] at this
        simp at this
      rw [if_neg hne, ih, ih]
theorem encC_line (r : List (List UInt8)) (pre : List (List UInt8)) : ∀ n, (∀ x ∈ pre, x ≠ [13, 10]) → n + pre.flatten.length ≤ 75 → encC n (pre ++ r) = pre.flatten ++ encC (n + pre.flatten.length) r := by
  induction pre with
  | nil => intro n _ _; rfl
  | cons x pre ih =>
    intro n hx hn
    rw [List.flatten_cons, List.length_append] at hn
    rw [List.cons_append, encC, if_neg (hx x (by simp)), if_neg (by omega), ih _ (fun y hy => hx y (by simp [hy])) (by omega), List.flatten_cons, List.length_append, List.append_assoc, Nat.add_assoc]

theorem marksQ_drop (l : List UInt8) : ∀ n, (marksQ l).drop n = marksQ (l.drop n) := by
  induction l with
  | nil => intro n; rw [List.drop_nil, marksQ, List.drop_nil]
  | cons c r ih =>
    intro n
    cases n with
    | zero => rfl
    | succ n => rw [marksQ, List.drop_succ_cons, List.drop_succ_cons, ih]

def codesL (pre : List CodeV) : List (List UInt8) := pre.map fun x => x.1.data.toList
/-- The codes, one behind another. -/
def catC (pre : List CodeV) : ByteArray := ⟨(codesL pre).flatten.toArray⟩
theorem catC_data (pre : List CodeV) : (catC pre).data.toList = (codesL pre).flatten := rfl
theorem catC_size (pre : List CodeV) : (catC pre).size = (codesL pre).flatten.length := rfl
theorem catC_snoc (pre : List CodeV) (x : CodeV) : catC (pre ++ [x]) = catC pre ++ x.1 := by
  refine bytes_ext ?_
  rw [append_data, catC_data, catC_data]
  simp [codesL]
theorem catC_len (pre : List CodeV) : pre.length ≤ (catC pre).size ∧ (catC pre).size ≤ 3 * pre.length := by
  induction pre with
  | nil => exact ⟨Nat.le_refl _, Nat.le_refl _⟩
  | cons x pre ih =>
    have h := x.2
    have hx : x.1.data.toList.length = x.1.size := rfl
    rw [catC_size] at ih ⊢
    rw [show codesL (x :: pre) = x.1.data.toList :: codesL pre from rfl, List.flatten_cons, List.length_append, List.length_cons]
    omega

def crlf : ByteArray := ⟨#[13, 10]⟩
def softB : ByteArray := ⟨#[61, 13, 10]⟩
/-- Codes that stand in one line. -/
def InLine (pre : List CodeV) : Prop := (∀ x ∈ pre, x.1 ≠ crlf) ∧ (catC pre).size ≤ 75
theorem InLine.nil : InLine [] := ⟨(fun _ h => by cases h), Nat.zero_le _⟩
theorem InLine.snoc {pre : List CodeV} {x : CodeV} (h : InLine pre) (hx : x.1 ≠ crlf) (hn : (catC pre).size + x.1.size ≤ 75) : InLine (pre ++ [x]) := by
  refine ⟨fun y hy => ?_, by rw [catC_snoc, ByteArray.size_append]; exact hn⟩
  rcases List.mem_append.1 hy with hy | hy
  · exact h.1 y hy
  · rw [List.mem_singleton] at hy; rw [hy]; exact hx
theorem InLine.codes {pre : List CodeV} (h : InLine pre) : ∀ x ∈ codesL pre, x ≠ [13, 10] := by
  intro x hx e
  obtain ⟨y, hy, rfl⟩ := List.mem_map.1 hx
  exact h.1 y hy (bytes_ext e)

/-- How a line ends: by a line end, or where no place is left. -/
def Jump (O : ByteArray) (k : Nat) (q : List CodeV) (O' : ByteArray) (k' : Nat) : Prop :=
  ∃ pre x, q = pre ++ [x] ∧ InLine pre ∧ ((x.1 = crlf ∧ O' = (O ++ catC pre) ++ crlf ∧ k' = k + pre.length + 1) ∨ (x.1 ≠ crlf ∧ 75 < (catC pre).size + x.1.size ∧ O' = (O ++ catC pre) ++ softB ∧ k' = k + pre.length))

theorem jump_right {s O O' E : ByteArray} {k k' : Nat} {q : List CodeV} (hu : UpC s k q) (hj : Jump O k q O' k') (hO : O.size ≤ 6 * k) (hE : E.data.toList = O.data.toList ++ encQ 0 (s.data.toList.drop k)) :
    E.data.toList = O'.data.toList ++ encQ 0 (s.data.toList.drop k') ∧ k < k' ∧ k' ≤ s.size ∧ O'.size ≤ 6 * k' := by
  obtain ⟨pre, x, rfl, hl, h⟩ := hj
  obtain ⟨hu1, hu2⟩ := hu
  have hpc := catC_len pre
  have hx := x.2
  rw [List.length_append] at hu2 hu1
  rw [encQ_marks, ← hu1, List.map_append, List.append_assoc, show (List.map (fun x : CodeV => x.1.data.toList) pre) = codesL pre from rfl, encC_line _ _ 0 hl.codes (by have := hl.2; rw [catC_size] at this; omega)] at hE
  have hxc : x.1.data.toList ≠ [13, 10] ↔ x.1 ≠ crlf := ⟨fun h e => h (by rw [e]; rfl), fun h e => h (bytes_ext e)⟩
  rcases h with ⟨hc, rfl, rfl⟩ | ⟨hc, hn, rfl, rfl⟩
  · refine ⟨?_, by omega, by simp at hu2; omega, ?_⟩
    · rw [hE]
      simp only [List.map_cons, List.map_nil, List.cons_append, List.nil_append]
      rw [encC, if_pos (by rw [hc]; rfl), append_data, append_data, catC_data, hc, encQ_marks]
      simp [crlf, Nat.add_assoc]
    · rw [ByteArray.size_append, ByteArray.size_append, show crlf.size = 2 from rfl]; omega
  · refine ⟨?_, by omega, by simp at hu2; omega, ?_⟩
    · have hE0 : marksQ (s.data.toList.drop (k + pre.length)) = x.1.data.toList :: marksQ (s.data.toList.drop (k + (pre.length + 1))) := by
        have h1 := congrArg (List.drop pre.length) hu1
        rw [marksQ_drop, List.drop_drop, List.map_append, List.append_assoc, List.drop_append_of_le_length (by simp), List.drop_of_length_le (by simp)] at h1
        exact h1.symm
      rw [hE, encQ_marks, hE0]
      simp only [List.map_cons, List.map_nil, List.cons_append, List.nil_append]
      have hxs : x.1.data.toList.length = x.1.size := rfl
      rw [encC, if_neg (hxc.2 hc), if_pos (by rw [hxs]; rw [catC_size] at hn; omega), encC, if_neg (hxc.2 hc), if_neg (by omega), append_data, append_data, catC_data]
      simp [softB]
    · rw [ByteArray.size_append, ByteArray.size_append, show softB.size = 3 from rfl]; omega

theorem done_right {s O E : ByteArray} {k : Nat} {ys : List CodeV} (hu : UpC s k ys) (hk : k + ys.length = s.size) (hl : InLine ys) (hE : E.data.toList = O.data.toList ++ encQ 0 (s.data.toList.drop k)) : O ++ catC ys = E := by
  refine bytes_ext ?_
  rw [hE, encQ_marks, ← hu.1, hk, List.drop_eq_nil_of_le (by exact Nat.le_refl _), append_data, catC_data, show (List.map (fun x : CodeV => x.1.data.toList) ys) = codesL ys from rfl, encC_line _ _ 0 hl.codes (by have := hl.2; rw [catC_size] at this; omega)]
  simp [marksQ, encC]
end Go.Proofs.Ytoplcmckglglcaa
