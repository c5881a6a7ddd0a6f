/-
  Plain lemmas on reading decimal numbers: no program.
-/
import Derived.Test.YtjghnabepojddaaPlainNum
import Derived.Test.YtjghnabepojddaaPlainTrim
namespace Go.Proofs.Ytjghnabepojddaa
open Go.RowKit

theorem snocInd {α : Type} {P : List α → Prop} (h0 : P []) (h1 : ∀ l c, P l → P (l ++ [c])) (l : List α) : P l := by
  have h : ∀ l : List α, P l.reverse := by
    intro l
    induction l with
    | nil => exact h0
    | cons a l ih => rw [List.reverse_cons]; exact h1 _ _ ih
  have := h l.reverse
  rwa [List.reverse_reverse] at this
def valD (l : List UInt8) : Nat := l.foldl (fun a c => 10 * a + (c.toNat - 48)) 0
theorem valD_snoc (l : List UInt8) (c : UInt8) : valD (l ++ [c]) = 10 * valD l + (c.toNat - 48) := by unfold valD; rw [List.foldl_append]; rfl
def allDig (l : List UInt8) : Prop := ∀ c ∈ l, 48 ≤ c.toNat ∧ c.toNat ≤ 57
theorem allDig_nil : allDig [] := fun _ h => by cases h
theorem allDig_snoc {l : List UInt8} {c : UInt8} (h : allDig l) (hc : 48 ≤ c.toNat ∧ c.toNat ≤ 57) : allDig (l ++ [c]) := fun x hx => by
  rcases List.mem_append.1 hx with h' | h'
  · exact h x h'
  · rw [List.mem_singleton.1 h']; exact hc
theorem allDig_front {l : List UInt8} {c : UInt8} (h : allDig (l ++ [c])) : allDig l ∧ 48 ≤ c.toNat ∧ c.toNat ≤ 57 :=
  ⟨fun x hx => h x (List.mem_append_left _ hx), h c (List.mem_append_right _ (List.mem_singleton.2 rfl))⟩
theorem valD_lt (l : List UInt8) : allDig l → valD l < 10 ^ l.length := by
  refine snocInd (P := fun l => allDig l → valD l < 10 ^ l.length) ?_ ?_ l
  · intro _; simp [valD]
  · intro l c ih h
    obtain ⟨h1, h2⟩ := allDig_front h
    have := ih h1
    rw [valD_snoc, List.length_append, List.length_singleton, Nat.pow_succ]
    omega
theorem digs_ind {P : Nat → Prop} (h : ∀ n, (10 ≤ n → P (n / 10)) → P n) (n : Nat) : P n := by
  induction n using Nat.strongRecOn with
  | _ n ih => exact h n (fun h10 => ih (n / 10) (by omega))
theorem dg_bd (d : Nat) (h : d < 10) : 48 ≤ (dg d).toNat ∧ (dg d).toNat ≤ 57 := by rw [dg_toNat d h]; omega
theorem digs_all (n : Nat) : allDig (digs n) := by
  refine digs_ind (P := fun n => allDig (digs n)) (fun n ih => ?_) n
  by_cases h : n < 10
  · rw [digs_lt n h]; exact allDig_snoc (l := []) allDig_nil (dg_bd n h)
  · rw [digs_ge n (by omega)]; exact allDig_snoc (ih (by omega)) (dg_bd _ (by omega))
theorem valD_digs (n : Nat) : valD (digs n) = n := by
  refine digs_ind (P := fun n => valD (digs n) = n) (fun n ih => ?_) n
  by_cases h : n < 10
  · rw [digs_lt n h]
    have := valD_snoc [] (dg n)
    rw [List.nil_append] at this
    rw [this, dg_toNat n h]; simp [valD]
  · rw [digs_ge n (by omega), valD_snoc, ih (by omega), dg_toNat _ (by omega)]; omega
theorem digs_head (n : Nat) (h : 0 < n) (r : List UInt8) : digs n ≠ 48 :: r := by
  refine digs_ind (P := fun n => 0 < n → ∀ r, digs n ≠ 48 :: r) (fun n ih => ?_) n h r
  intro h r
  by_cases h10 : n < 10
  · rw [digs_lt n h10]
    intro e
    have e1 : dg n = 48 := by injection e
    have := dg_toNat n h10
    rw [e1] at this
    simp at this; omega
  · rw [digs_ge n (by omega)]
    intro e
    cases hd : digs (n / 10) with
    | nil => exact digs_ne _ hd
    | cons a t =>
      rw [hd, List.cons_append] at e
      have e1 : a = 48 := by injection e
      exact ih (by omega) (by omega) t (by rw [hd, e1])
theorem dg_back (c : UInt8) (h : 48 ≤ c.toNat ∧ c.toNat ≤ 57) : dg (c.toNat - 48) = c := by
  apply UInt8.toNat_inj.1
  rw [dg_toNat _ (by omega)]; omega
/-- A list of digits without a leading zero is its number's digits. -/
theorem digs_valD (l : List UInt8) : l ≠ [] → allDig l → (l.length = 1 ∨ ∀ r, l ≠ 48 :: r) → digs (valD l) = l := by
  refine snocInd (P := fun l => l ≠ [] → allDig l → (l.length = 1 ∨ ∀ r, l ≠ 48 :: r) → digs (valD l) = l) ?_ ?_ l
  · intro h; exact absurd rfl h
  · intro l c ih _ hd hz
    obtain ⟨h1, h2⟩ := allDig_front hd
    by_cases hl : l = []
    · subst hl
      have := valD_snoc [] c
      rw [this]
      show digs (10 * 0 + (c.toNat - 48)) = _
      rw [digs_lt _ (by omega), Nat.mul_zero, Nat.zero_add, dg_back c h2]; rfl
    · have hz' : ∀ r, l ≠ 48 :: r := by
        intro r e
        rcases hz with hz | hz
        · rw [List.length_append] at hz
          have : l.length = 0 := by simp at hz; simp [hz]
          exact hl (List.eq_nil_of_length_eq_zero this)
        · exact hz (r ++ [c]) (by rw [e]; rfl)
      have ih' := ih hl h1 (.inr hz')
      have hv : 0 < valD l := by
        rcases Nat.eq_zero_or_pos (valD l) with h0 | h0
        · rw [h0, digs_lt 0 (by omega)] at ih'
          exact absurd ih'.symm (hz' [])
        · exact h0
      rw [valD_snoc, digs_ge _ (by omega), show (10 * valD l + (c.toNat - 48)) / 10 = valD l from by omega, show (10 * valD l + (c.toNat - 48)) % 10 = c.toNat - 48 from by omega, ih', dg_back c h2]

/-- In the range of int64. -/
def In64 (n : Int) : Prop := -9223372036854775808 ≤ n ∧ n ≤ 9223372036854775807
theorem digs_inj {m n : Nat} (h : digs m = digs n) : m = n := by rw [← valD_digs m, h, valD_digs]
theorem textOf_list (n : Int) : (textOf n).data.toList = if n < 0 then 45 :: digs n.natAbs else digs n.natAbs := by unfold textOf; simp
theorem digs_not45 (n : Nat) (r : List UInt8) : digs n ≠ 45 :: r := fun e => by
  have := digs_all n 45 (by rw [e]; exact List.mem_cons_self)
  simp at this
theorem textOf_inj {m n : Int} (h : textOf m = textOf n) : m = n := by
  have e := congrArg (fun x : ByteArray => x.data.toList) h
  simp only [textOf_list] at e
  by_cases hm : m < 0 <;> by_cases hn : n < 0
  · rw [if_pos hm, if_pos hn] at e
    have := digs_inj (List.cons.inj e).2; omega
  · rw [if_pos hm, if_neg hn] at e
    exact absurd e.symm (digs_not45 _ _)
  · rw [if_neg hm, if_pos hn] at e
    exact absurd e (digs_not45 _ _)
  · rw [if_neg hm, if_neg hn] at e
    have := digs_inj e; omega
open Classical in
/-- The number whose text s is, if there is one. -/
noncomputable def numOf (s : ByteArray) : Option Int := if h : ∃ n, In64 n ∧ textOf n = s then some (Classical.choose h) else none
theorem numOf_some {s : ByteArray} {n : Int} (h1 : In64 n) (h2 : textOf n = s) : numOf s = some n := by
  have hex : ∃ n, In64 n ∧ textOf n = s := ⟨n, h1, h2⟩
  unfold numOf
  rw [dif_pos hex]
  have := Classical.choose_spec hex
  rw [textOf_inj (this.2.trans h2.symm)]
theorem numOf_none {s : ByteArray} (h : ∀ n, In64 n → textOf n ≠ s) : numOf s = none := by
  unfold numOf
  rw [dif_neg (fun ⟨n, h1, h2⟩ => h n h1 h2)]
/-- What Number answers. -/
noncomputable def numRes (s : ByteArray) : Value := .tuple #[.int .i64 ((numOf s).getD 0), .bool (numOf s).isSome]
theorem numRes_some {s : ByteArray} {n : Int} (h1 : In64 n) (h2 : textOf n = s) : numRes s = .tuple #[.int .i64 n, .bool true] := by unfold numRes; rw [numOf_some h1 h2]; rfl
theorem numRes_none {s : ByteArray} (h : ∀ n, In64 n → textOf n ≠ s) : numRes s = .tuple #[.int .i64 0, .bool false] := by unfold numRes; rw [numOf_none h]; rfl
theorem numRes_form (s : ByteArray) : ∃ n b, numRes s = .tuple #[.int .i64 n, .bool b] := ⟨_, _, rfl⟩
/-- What magnitude takes. -/
def magOk (l : List UInt8) : Prop := l ≠ [] ∧ l.length ≤ 19 ∧ (l.length = 1 ∨ ∀ r, l ≠ 48 :: r) ∧ allDig l
theorem isEmpty_false (s : ByteArray) (h : 0 < s.size) : s.toList.isEmpty = false := by
  rw [Lib.toList_data]
  rw [Lib.size_eq] at h
  cases hl : s.data.toList with
  | nil => rw [hl] at h; simp at h
  | cons a r => rfl
theorem byte_zero (s : ByteArray) (h : s.size = 0) : s = ⟨#[]⟩ := ByteArray.ext (Array.eq_empty_of_size_eq_zero (by rw [show s.data.size = s.size from rfl]; exact h))
theorem cutL_step (s : ByteArray) (f k : Nat) (hf : f ≤ k) (h : k < s.size) : cutL s f (k + 1) = cutL s f k ++ [s[k]] := by
  have := cutL_snoc s f (k + 1) (by omega) (by omega)
  simpa using this
theorem valD_19 {l : List UInt8} (h : magOk l) : valD l ≤ 9999999999999999999 := by
  have h1 := valD_lt l h.2.2.2
  have h2 : 10 ^ l.length ≤ 10 ^ 19 := Nat.pow_le_pow_right (by omega) h.2.1
  omega
theorem valD_step_19 {l : List UInt8} (h : allDig l) (hl : l.length ≤ 18) : valD l ≤ 999999999999999999 := by
  have h1 := valD_lt l h
  have h2 : 10 ^ l.length ≤ 10 ^ 18 := Nat.pow_le_pow_right (by omega) hl
  omega
theorem cutL_len (s : ByteArray) (f k : Nat) (h : k ≤ s.size) : (cutL s f k).length = k - f := by
  unfold cutL
  rw [ex_list, List.length_take, List.length_drop, ← Lib.size_eq]; omega
theorem cutL_mem (s : ByteArray) (f k : Nat) (hf : f ≤ k) (h : k < s.size) : s[k] ∈ cutL s f s.size := by
  unfold cutL
  rw [ex_list]
  rw [List.take_of_length_le (by rw [List.length_drop, ← Lib.size_eq]; omega)]
  have : s.data.toList.drop f = (s.data.toList.drop f).take (k - f) ++ s[k] :: s.data.toList.drop (k + 1) := by
    have e := List.take_append_drop (k - f) (s.data.toList.drop f)
    have e2 : s.data.toList.drop k = s[k] :: s.data.toList.drop (k + 1) := List.drop_eq_getElem_cons (by rw [← Lib.size_eq]; omega)
    rw [List.drop_drop, show f + (k - f) = k from by omega, e2] at e
    exact e.symm
  rw [this]
  exact List.mem_append_right _ List.mem_cons_self
end Go.Proofs.Ytjghnabepojddaa
