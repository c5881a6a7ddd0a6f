/-
  Digits read greedily, up to so many, in mathematics; and that a reference's number (numE) is what they make where a semicolon follows. What is written in place of a byte (refN).
-/
import Derived.Test.YtdahfgjmihffbaaRefNumbered
namespace Go.Proofs.Ytdahfgjmihffbaa
set_option linter.unusedVariables false
set_option linter.unusedSimpArgs false

/-- The digits' number and how many they are. -/
def scanE (base : Nat) : Nat → Nat → List UInt8 → Nat × Nat
  | 0, n, _ => (n, 0)
  | _ + 1, n, [] => (n, 0)
  | k + 1, n, c :: r => match digE c.toNat base with
    | none => (n, 0)
    | some d => ((scanE base k (n * base + d) r).1, (scanE base k (n * base + d) r).2 + 1)
theorem scanE_zero (base n : Nat) (l : List UInt8) : scanE base 0 n l = (n, 0) := by cases l <;> rfl
theorem scanE_nil (base k n : Nat) : scanE base k n [] = (n, 0) := by cases k <;> rfl
theorem scanE_none {base n : Nat} {c : UInt8} (k : Nat) (r : List UInt8) (h : digE c.toNat base = none) : scanE base k n (c :: r) = (n, 0) := by
  cases k with
  | zero => rfl
  | succ k => rw [scanE, h]
theorem scanE_some {base n d : Nat} {c : UInt8} (k : Nat) (r : List UInt8) (h : digE c.toNat base = some d) : scanE base (k + 1) n (c :: r) = ((scanE base k (n * base + d) r).1, (scanE base k (n * base + d) r).2 + 1) := by rw [scanE, h]
theorem scanE_none_read (base : Nat) : ∀ (k n : Nat) (l : List UInt8), (scanE base k n l).2 = 0 → (scanE base k n l).1 = n := by
  intro k n l h
  cases k with
  | zero => rw [scanE_zero]
  | succ k =>
    cases l with
    | nil => rfl
    | cons c r =>
      cases hd : digE c.toNat base with
      | none => rw [scanE_none _ _ hd]
      | some d => rw [scanE_some _ _ hd] at h; cases h
theorem scanE_le (base : Nat) : ∀ (k n : Nat) (l : List UInt8), (scanE base k n l).2 ≤ l.length := by
  intro k
  induction k with
  | zero => intro n l; rw [scanE_zero]; exact Nat.zero_le _
  | succ k ih =>
    intro n l
    cases l with
    | nil => exact Nat.zero_le _
    | cons c r =>
      cases hd : digE c.toNat base with
      | none => rw [scanE_none _ _ hd]; exact Nat.zero_le _
      | some d =>
        rw [scanE_some _ _ hd, List.length_cons]
        exact Nat.succ_le_succ (ih _ _)
theorem semi_head (c : UInt8) (r : List UInt8) : List.isPrefixOf [59] (c :: r) = decide (c.toNat = 59) := by
  show ((59 : UInt8) == c && List.isPrefixOf [] r) = _
  rw [Bool.eq_iff_iff]
  simp only [List.isPrefixOf, Bool.and_true, beq_iff_eq, decide_eq_true_iff]
  rw [← UInt8.toNat_inj]
  exact ⟨fun h => h.symm, fun h => h.symm⟩
theorem digE_semi (base : Nat) (hb : base ≤ 16) : digE 59 base = none := digE_no hb (by decide) (by decide) (by decide)
theorem num_scan {base : Nat} (hb : base ≤ 16) : ∀ (k i n : Nat) (l : List UInt8), numE base (k + 1) i n l = if List.isPrefixOf [59] (l.drop (scanE base k n l).2) = true ∧ 0 < i + (scanE base k n l).2 then ((scanE base k n l).1, i + (scanE base k n l).2 + 1) else (0, 0) := by
  intro k
  induction k with
  | zero =>
    intro i n l
    rw [scanE_zero]
    cases l with
    | nil => rfl
    | cons c r =>
      rw [numE, List.drop_zero, semi_head]
      by_cases h : c.toNat = 59 ∧ 0 < i
      · rw [if_pos h, if_pos ⟨by simpa using h.1, by omega⟩]; rfl
      · rw [if_neg h, if_neg (by simp only [decide_eq_true_eq, Nat.add_zero]; exact h)]
        cases digE c.toNat base <;> rfl
  | succ k ih =>
    intro i n l
    cases l with
    | nil => rfl
    | cons c r =>
      rw [numE]
      cases hd : digE c.toNat base with
      | none =>
        rw [scanE_none _ _ hd, List.drop_zero, semi_head]
        by_cases h : c.toNat = 59 ∧ 0 < i
        · rw [if_pos h, if_pos ⟨by simpa using h.1, by omega⟩]; rfl
        · rw [if_neg h, if_neg (by simp only [decide_eq_true_eq, Nat.add_zero]; exact h)]
      | some d =>
        have h59 : ¬ (c.toNat = 59 ∧ 0 < i) := fun h => by rw [h.1, digE_semi base hb] at hd; cases hd
        rw [if_neg h59, scanE_some _ _ hd]
        dsimp only
        rw [ih (i + 1) (n * base + d) r, List.drop_succ_cons]
        rw [show i + 1 + (scanE base k (n * base + d) r).2 = i + ((scanE base k (n * base + d) r).2 + 1) from by omega]
/-- A reference by number, read so. -/
theorem ref_scan {base : Nat} (hb : base ≤ 16) (a k m j : Nat) (l : List UInt8) (h : scanE base k 0 l = (m, j)) :
    refE a (numE base (k + 1) 0 0 l) = if (m ≠ 0 ∧ isRune m) ∧ List.isPrefixOf [59] (l.drop j) = true then some (encL m, a + j + 1) else none := by
  have h0 := scanE_none_read base k 0 l
  have hn := num_scan hb k 0 0 l
  rw [h] at h0 hn
  dsimp only at h0 hn
  by_cases hs : List.isPrefixOf [59] (l.drop j) = true
  · by_cases hj : 0 < 0 + j
    · rw [if_pos ⟨hs, hj⟩] at hn
      rw [hn]
      unfold refE
      dsimp only
      by_cases hm : m ≠ 0 ∧ isRune m
      · rw [if_neg (by rintro (h2 | h2 | h2); (· omega); (· exact hm.1 h2); (· exact h2 hm.2)), if_pos ⟨hm, hs⟩]
        rw [show a + (0 + j + 1) = a + j + 1 from by omega]
      · rw [if_neg (c := (m ≠ 0 ∧ isRune m) ∧ _) (fun h2 => hm h2.1), if_pos]
        by_cases h2 : m = 0
        · exact .inr (.inl h2)
        · exact .inr (.inr fun h3 => hm ⟨h2, h3⟩)
    · rw [if_neg (fun h2 => hj h2.2)] at hn
      rw [hn, if_neg (fun h2 => h2.1.1 (h0 (by omega)))]
      rfl
  · rw [if_neg (fun h2 => hs h2.1)] at hn
    rw [hn, if_neg (fun h2 => hs h2.2)]
    rfl

/-- What is written in place of a byte; nothing where it stays as it is. -/
def refN (attr : Bool) (n : Nat) : List UInt8 :=
  if attr = true ∧ n = 9 then [38, 35, 57, 59]
  else if attr = true ∧ n = 10 then [38, 35, 49, 48, 59]
  else if n = 38 then [38, 97, 109, 112, 59]
  else if n = 60 then [38, 108, 116, 59]
  else if n = 62 then [38, 103, 116, 59]
  else if n = 34 then [38, 113, 117, 111, 116, 59]
  else if n = 39 then [38, 35, 51, 57, 59]
  else []
theorem escB_refN (attr : Bool) (c : UInt8) : escB attr c = if refN attr c.toNat = [] then [c] else refN attr c.toNat := by
  unfold escB refN
  generalize c.toNat = n
  by_cases h9 : attr = true ∧ n = 9
  · obtain ⟨h, rfl⟩ := h9
    subst h
    rfl
  by_cases h10 : attr = true ∧ n = 10
  · obtain ⟨h, rfl⟩ := h10
    subst h
    rfl
  rw [if_neg h9, if_neg h10, if_neg h9, if_neg h10]
  repeat' split
  all_goals first
    | rfl
    | contradiction
end Go.Proofs.Ytdahfgjmihffbaa
