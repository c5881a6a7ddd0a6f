/-
  HTML's character references, in mathematics: what is written (escL), which reference begins a text (oneL), what a text stands for (decE), that reading undoes writing, and that what is written is safe (safeE).
-/
import Derived.Test.YtdahfgjmihffbaaPlainUtf
namespace Go.Proofs.Ytdahfgjmihffbaa
set_option linter.unusedVariables false
set_option linter.unusedSimpArgs false

/-- A byte, as it is written. -/
def escB (attr : Bool) (c : UInt8) : List UInt8 :=
  if c.toNat = 38 then [38, 97, 109, 112, 59]
  else if c.toNat = 60 then [38, 108, 116, 59]
  else if c.toNat = 62 then [38, 103, 116, 59]
  else if c.toNat = 34 then [38, 113, 117, 111, 116, 59]
  else if c.toNat = 39 then [38, 35, 51, 57, 59]
  else if attr = true ∧ c.toNat = 9 then [38, 35, 57, 59]
  else if attr = true ∧ c.toNat = 10 then [38, 35, 49, 48, 59]
  else [c]
def escL (attr : Bool) (l : List UInt8) : List UInt8 := l.flatMap (escB attr)
theorem escL_nil (attr : Bool) : escL attr [] = [] := rfl
theorem escL_cons (attr : Bool) (c : UInt8) (r : List UInt8) : escL attr (c :: r) = escB attr c ++ escL attr r := by unfold escL; rw [List.flatMap_cons]
theorem escL_snoc (attr : Bool) (l : List UInt8) (c : UInt8) : escL attr (l ++ [c]) = escL attr l ++ escB attr c := by unfold escL; rw [List.flatMap_append]; simp
theorem escB_len (attr : Bool) (c : UInt8) : 1 ≤ (escB attr c).length ∧ (escB attr c).length ≤ 6 := by
  unfold escB
  repeat' split
  all_goals simp
theorem escL_len (attr : Bool) (l : List UInt8) : (escL attr l).length ≤ 6 * l.length := by
  induction l with
  | nil => simp [escL_nil]
  | cons c r ih =>
    have := escB_len attr c
    rw [escL_cons, List.length_append, List.length_cons]
    omega

/-- A digit's number, of a base. -/
def digE (c base : Nat) : Option Nat :=
  let n := if 48 ≤ c ∧ c ≤ 57 then c - 48 else if 65 ≤ c ∧ c ≤ 70 then c - 65 + 10 else if 97 ≤ c ∧ c ≤ 102 then c - 97 + 10 else 16
  if n < base then some n else none
/-- The number and the size, where i digits have been read, n is their number, and k bytes more may be looked at. -/
def numE (base : Nat) : Nat → Nat → Nat → List UInt8 → Nat × Nat
  | 0, _, _, _ => (0, 0)
  | _ + 1, _, _, [] => (0, 0)
  | k + 1, i, n, c :: r => if c.toNat = 59 ∧ 0 < i then (n, i + 1) else match digE c.toNat base with
    | none => (0, 0)
    | some d => numE base k (i + 1) (n * base + d) r
/-- What a number, its size and what stands ahead of it make. -/
def refE (ahead : Nat) (p : Nat × Nat) : Option (List UInt8 × Nat) := if p.2 = 0 ∨ p.1 = 0 ∨ ¬ isRune p.1 then none else some (encL p.1, ahead + p.2)
/-- The reference that begins the text: the bytes it stands for, and its length. -/
def oneL (l : List UInt8) : Option (List UInt8 × Nat) :=
  if List.isPrefixOf [38, 97, 109, 112, 59] l then some ([38], 5)
  else if List.isPrefixOf [38, 108, 116, 59] l then some ([60], 4)
  else if List.isPrefixOf [38, 103, 116, 59] l then some ([62], 4)
  else if List.isPrefixOf [38, 113, 117, 111, 116, 59] l then some ([34], 6)
  else if List.isPrefixOf [38, 35, 120] l then refE 3 (numE 16 7 0 0 (l.drop 3))
  else if List.isPrefixOf [38, 35] l then refE 2 (numE 10 8 0 0 (l.drop 2))
  else none
theorem numE_size (base : Nat) : ∀ (k i n : Nat) (l : List UInt8), (numE base k i n l).2 ≤ i + l.length := by
  intro k
  induction k with
  | zero => intro i n l; simp [numE]
  | succ k ih =>
    intro i n l
    cases l with
    | nil => simp [numE]
    | cons c r =>
      rw [numE]
      split
      · simp only [List.length_cons]; omega
      · split
        · simp
        · have := ih (i + 1) (n * base + ‹Nat›) r
          simp only [List.length_cons]
          omega
theorem pre_len {p l : List UInt8} (h : List.isPrefixOf p l = true) : p.length ≤ l.length := (List.isPrefixOf_iff_prefix.1 h).length_le
theorem refE_size {a : Nat} {p : Nat × Nat} {b : List UInt8} {n m : Nat} (h : refE a p = some (b, n)) (hp : p.2 ≤ m) (h0 : 0 < a) : 0 < n ∧ n ≤ a + m := by
  unfold refE at h
  split at h
  · cases h
  · injection h with h
    injection h with _ h
    omega
theorem oneL_size {l b : List UInt8} {n : Nat} (h : oneL l = some (b, n)) : 0 < n ∧ n ≤ l.length := by
  unfold oneL at h
  split at h
  · have := pre_len ‹_›
    simp at h this; omega
  · split at h
    · have := pre_len ‹_›
      simp at h this; omega
    · split at h
      · have := pre_len ‹_›
        simp at h this; omega
      · split at h
        · have := pre_len ‹_›
          simp at h this; omega
        · split at h
          · have h1 := pre_len ‹_›
            have h2 := numE_size 16 7 0 0 (l.drop 3)
            rw [List.length_drop] at h2
            have := refE_size h h2 (by decide)
            simp at h1
            omega
          · split at h
            · have h1 := pre_len ‹_›
              have h2 := numE_size 10 8 0 0 (l.drop 2)
              rw [List.length_drop] at h2
              have := refE_size h h2 (by decide)
              simp at h1
              omega
            · cases h
/-- A byte that may not stand for itself. -/
def markE (c : UInt8) : Bool := decide (c.toNat = 38) || (decide (c.toNat = 60) || (decide (c.toNat = 62) || (decide (c.toNat = 34) || decide (c.toNat = 39))))
theorem oneL_other {c : UInt8} (r : List UInt8) (h : c.toNat ≠ 38) : oneL (c :: r) = none := by
  have hc : ((38 : UInt8) == c) = false := by rw [beq_eq_false_iff_ne]; intro e; exact h (by rw [← e]; rfl)
  unfold oneL
  simp [List.isPrefixOf, hc]
theorem oneL_nil : oneL [] = none := by simp [oneL, List.isPrefixOf]

def decE (l : List UInt8) : Option (List UInt8) :=
  match l with
  | [] => some []
  | c :: r => match h : oneL (c :: r) with
    | some (b, n) => (decE ((c :: r).drop n)).map (b ++ ·)
    | none => if markE c then none else (decE r).map (c :: ·)
termination_by l.length
decreasing_by
  · have := oneL_size h
    simp only [List.length_drop, List.length_cons] at this ⊢
    omega
  · simp only [List.length_cons]; omega
theorem decE_nil : decE [] = some [] := by rw [decE]
theorem decE_one {c : UInt8} {r b : List UInt8} {n : Nat} (h : oneL (c :: r) = some (b, n)) : decE (c :: r) = (decE ((c :: r).drop n)).map (b ++ ·) := by
  rw [decE]
  split
  · rename_i b' n' h'
    rw [h] at h'
    cases h'
    rfl
  · rename_i h'
    rw [h] at h'
    cases h'
theorem decE_own {c : UInt8} {r : List UInt8} (h : oneL (c :: r) = none) (hm : markE c = false) : decE (c :: r) = (decE r).map (c :: ·) := by
  rw [decE]
  split
  · rename_i h'
    rw [h] at h'
    cases h'
  · rw [if_neg (by rw [hm]; decide)]
theorem decE_bad {c : UInt8} {r : List UInt8} (h : oneL (c :: r) = none) (hm : markE c = true) : decE (c :: r) = none := by
  rw [decE]
  split
  · rename_i h'
    rw [h] at h'
    cases h'
  · rw [if_pos hm]

theorem one_amp (x : List UInt8) : oneL ([38, 97, 109, 112, 59] ++ x) = some ([38], 5) := by simp [oneL, List.isPrefixOf]
theorem one_lt (x : List UInt8) : oneL ([38, 108, 116, 59] ++ x) = some ([60], 4) := by simp [oneL, List.isPrefixOf]
theorem one_gt (x : List UInt8) : oneL ([38, 103, 116, 59] ++ x) = some ([62], 4) := by simp [oneL, List.isPrefixOf]
theorem one_quot (x : List UInt8) : oneL ([38, 113, 117, 111, 116, 59] ++ x) = some ([34], 6) := by simp [oneL, List.isPrefixOf]
theorem one_39 (x : List UInt8) : oneL ([38, 35, 51, 57, 59] ++ x) = some ([39], 5) := by simp [oneL, List.isPrefixOf, numE, digE, refE, isRune, encL]
theorem one_9 (x : List UInt8) : oneL ([38, 35, 57, 59] ++ x) = some ([9], 4) := by simp [oneL, List.isPrefixOf, numE, digE, refE, isRune, encL]
theorem one_10 (x : List UInt8) : oneL ([38, 35, 49, 48, 59] ++ x) = some ([10], 5) := by simp [oneL, List.isPrefixOf, numE, digE, refE, isRune, encL]

theorem escB_own {attr : Bool} {c : UInt8} (h38 : c.toNat ≠ 38) (h60 : c.toNat ≠ 60) (h62 : c.toNat ≠ 62) (h34 : c.toNat ≠ 34) (h39 : c.toNat ≠ 39) (h9 : ¬(attr = true ∧ c.toNat = 9)) (h10 : ¬(attr = true ∧ c.toNat = 10)) : escB attr c = [c] := by
  unfold escB
  rw [if_neg h38, if_neg h60, if_neg h62, if_neg h34, if_neg h39, if_neg h9, if_neg h10]
theorem byte_is {c : UInt8} {n : Nat} (h : c.toNat = n) (hn : n < 256) : c = UInt8.ofNat n := UInt8.toNat_inj.1 (by rw [h]; simp; omega)
/-- A byte is written as a reference that stands for it, or as itself, and then it is no mark. -/
theorem escB_is (attr : Bool) (c : UInt8) : (∃ t, escB attr c = 38 :: t ∧ ∀ x, oneL (escB attr c ++ x) = some ([c], (escB attr c).length)) ∨ (escB attr c = [c] ∧ c.toNat ≠ 38 ∧ markE c = false ∧ ¬(attr = true ∧ (c.toNat = 9 ∨ c.toNat = 10))) := by
  by_cases h38 : c.toNat = 38
  · have e : escB attr c = [38, 97, 109, 112, 59] := by unfold escB; rw [if_pos h38]
    rw [e, byte_is h38 (by decide)]
    exact .inl ⟨_, rfl, one_amp⟩
  by_cases h60 : c.toNat = 60
  · have e : escB attr c = [38, 108, 116, 59] := by unfold escB; rw [if_neg h38, if_pos h60]
    rw [e, byte_is h60 (by decide)]
    exact .inl ⟨_, rfl, one_lt⟩
  by_cases h62 : c.toNat = 62
  · have e : escB attr c = [38, 103, 116, 59] := by unfold escB; rw [if_neg h38, if_neg h60, if_pos h62]
    rw [e, byte_is h62 (by decide)]
    exact .inl ⟨_, rfl, one_gt⟩
  by_cases h34 : c.toNat = 34
  · have e : escB attr c = [38, 113, 117, 111, 116, 59] := by unfold escB; rw [if_neg h38, if_neg h60, if_neg h62, if_pos h34]
    rw [e, byte_is h34 (by decide)]
    exact .inl ⟨_, rfl, one_quot⟩
  by_cases h39 : c.toNat = 39
  · have e : escB attr c = [38, 35, 51, 57, 59] := by unfold escB; rw [if_neg h38, if_neg h60, if_neg h62, if_neg h34, if_pos h39]
    rw [e, byte_is h39 (by decide)]
    exact .inl ⟨_, rfl, one_39⟩
  by_cases h9 : attr = true ∧ c.toNat = 9
  · have e : escB attr c = [38, 35, 57, 59] := by unfold escB; rw [if_neg h38, if_neg h60, if_neg h62, if_neg h34, if_neg h39, if_pos h9]
    rw [e, byte_is h9.2 (by decide)]
    exact .inl ⟨_, rfl, one_9⟩
  by_cases h10 : attr = true ∧ c.toNat = 10
  · have e : escB attr c = [38, 35, 49, 48, 59] := by unfold escB; rw [if_neg h38, if_neg h60, if_neg h62, if_neg h34, if_neg h39, if_neg h9, if_pos h10]
    rw [e, byte_is h10.2 (by decide)]
    exact .inl ⟨_, rfl, one_10⟩
  · refine .inr ⟨escB_own h38 h60 h62 h34 h39 h9 h10, h38, ?_, ?_⟩
    · unfold markE
      simp [h38, h60, h62, h34, h39]
    · rintro ⟨ha, h | h⟩
      · exact h9 ⟨ha, h⟩
      · exact h10 ⟨ha, h⟩
theorem dec_escB (attr : Bool) (c : UInt8) (x : List UInt8) : decE (escB attr c ++ x) = (decE x).map (c :: ·) := by
  rcases escB_is attr c with ⟨t, ht, h1⟩ | ⟨h, h38, hm, _⟩
  · have h2 := h1 x
    have h3 : (escB attr c ++ x).drop (escB attr c).length = x := List.drop_left
    rw [ht] at h2 h3 ⊢
    have h4 : 38 :: t ++ x = 38 :: (t ++ x) := rfl
    rw [h4] at h2 h3 ⊢
    rw [decE_one h2, h3]
    rfl
  · rw [h]
    exact decE_own (oneL_other x h38) hm
/-- Reading undoes writing. -/
theorem dec_escL (attr : Bool) (l : List UInt8) : decE (escL attr l) = some l := by
  induction l with
  | nil => rw [escL_nil, decE_nil]
  | cons c r ih => rw [escL_cons, dec_escB, ih]; rfl

/-- May a byte stand in what is written? -/
def okE (attr : Bool) (c : UInt8) : Bool := !decide (c.toNat = 60) && (!decide (c.toNat = 62) && (!decide (c.toNat = 34) && (!decide (c.toNat = 39) && !(attr && (decide (c.toNat = 9) || decide (c.toNat = 10))))))
def safeE (attr : Bool) : List UInt8 → Bool
  | [] => true
  | c :: r => okE attr c && (!decide (c.toNat = 38) || (oneL (c :: r)).isSome) && safeE attr r
theorem safe_plain {attr : Bool} {c : UInt8} {r : List UInt8} (h38 : c.toNat ≠ 38) (ho : okE attr c = true) (hr : safeE attr r = true) : safeE attr (c :: r) = true := by
  rw [safeE, ho, hr, decide_eq_false h38]
  rfl
theorem safe_all {attr : Bool} {t x : List UInt8} (h : ∀ c ∈ t, c.toNat ≠ 38 ∧ okE attr c = true) (hx : safeE attr x = true) : safeE attr (t ++ x) = true := by
  induction t with
  | nil => exact hx
  | cons c r ih =>
    have hc := h c (List.mem_cons_self ..)
    exact safe_plain hc.1 hc.2 (ih fun d hd => h d (List.mem_cons_of_mem _ hd))
theorem escB_tail (attr : Bool) (c : UInt8) (t : List UInt8) (h : escB attr c = 38 :: t) (hc : c.toNat ≠ 38 ∨ t ≠ []) : ∀ d ∈ t, d.toNat ≠ 38 ∧ okE attr d = true := by
  unfold escB at h
  repeat' split at h
  all_goals
    injection h with h1 h2
    subst h2
    intro d hd
    simp at hd
  all_goals first
    | (rcases hd with rfl | rfl | rfl | rfl | rfl <;> cases attr <;> exact ⟨by decide, by decide⟩)
    | (rcases hd with rfl | rfl | rfl | rfl <;> cases attr <;> exact ⟨by decide, by decide⟩)
    | (rcases hd with rfl | rfl | rfl <;> cases attr <;> exact ⟨by decide, by decide⟩)
theorem safe_escL (attr : Bool) (l : List UInt8) : safeE attr (escL attr l) = true := by
  induction l with
  | nil => rfl
  | cons c r ih =>
    rw [escL_cons]
    rcases escB_is attr c with ⟨t, ht, h1⟩ | ⟨h, h38, hm, h910⟩
    · have h2 := h1 (escL attr r)
      have htl := escB_tail attr c t ht (.inr ?_)
      · rw [ht] at h2 ⊢
        have h4 : 38 :: t ++ escL attr r = 38 :: (t ++ escL attr r) := rfl
        rw [h4] at h2 ⊢
        rw [safeE, h2, safe_all htl ih]
        cases attr <;> rfl
      · intro e
        subst e
        have h5 := h1 []
        rw [ht] at h5
        revert h5
        simp [oneL, List.isPrefixOf]
    · rw [h]
      refine safe_plain h38 ?_ ih
      unfold markE at hm
      unfold okE
      simp at hm
      simp [hm]
      cases attr with
      | false => exact .inl rfl
      | true => exact .inr ⟨fun h9 => h910 ⟨rfl, .inl h9⟩, fun h10 => h910 ⟨rfl, .inr h10⟩⟩
end Go.Proofs.Ytdahfgjmihffbaa
