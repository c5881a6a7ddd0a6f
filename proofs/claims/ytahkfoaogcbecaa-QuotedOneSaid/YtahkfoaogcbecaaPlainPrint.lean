/-
  Quoted-printable text, in mathematics: what is printed (encQ), what is read (decQ), that reading undoes printing, and what its lines are.
-/
import Derived.Test.YtahkfoaogcbecaaPlain
namespace Go.Proofs.Ytahkfoaogcbecaa
set_option linter.unusedVariables false
set_option linter.unusedSimpArgs false

def plainQ (c : UInt8) : Bool := decide (33 ≤ c.toNat) && decide (c.toNat ≤ 126) && !decide (c.toNat = 61)
def blankQ (c : UInt8) : Bool := decide (c.toNat = 32) || decide (c.toNat = 9)
/-- Is there a first byte, and is it none of 10? -/
def goesOn : List UInt8 → Bool
  | [] => false
  | d :: _ => !decide (d.toNat = 10)
def pairL (c : UInt8) : List UInt8 := [hexU (c.toNat / 16), hexU (c.toNat % 16)]
/-- The code of a byte that is no 10, with what follows it. -/
def codeQ (c : UInt8) (r : List UInt8) : List UInt8 := if plainQ c || blankQ c && goesOn r then [c] else 61 :: pairL c
/-- What is printed behind n bytes of a line. -/
def encQ (n : Nat) : List UInt8 → List UInt8
  | [] => []
  | c :: r => if c.toNat = 10 then 13 :: 10 :: encQ 0 r else if 75 < n + (codeQ c r).length then 61 :: 13 :: 10 :: (codeQ c r ++ encQ (codeQ c r).length r) else codeQ c r ++ encQ (n + (codeQ c r).length) r
theorem codeQ_len (c : UInt8) (r : List UInt8) : (codeQ c r).length = 1 ∨ (codeQ c r).length = 3 := by
  unfold codeQ
  split
  · exact .inl rfl
  · exact .inr rfl
theorem encQ_len (l : List UInt8) : ∀ n, (encQ n l).length ≤ 6 * l.length := by
  induction l with
  | nil => intro n; simp [encQ]
  | cons c r ih =>
    intro n
    have h := codeQ_len c r
    rw [encQ]
    split
    · have := ih 0
      simp only [List.length_cons]
      omega
    · split
      · have := ih (codeQ c r).length
        simp only [List.length_cons, List.length_append]
        omega
      · have := ih (n + (codeQ c r).length)
        simp only [List.length_cons, List.length_append]
        omega

def headIs (l : List UInt8) (n : Nat) : Bool := match l with
  | [] => false
  | d :: _ => decide (d.toNat = n)
/-- The byte whose two hexadecimal digits are first. -/
def hex2 : List UInt8 → Option UInt8
  | x :: y :: _ => if hexI (x.toNat : Int) < 16 ∧ hexI (y.toNat : Int) < 16 then some (16 * hexI (x.toNat : Int) + hexI (y.toNat : Int)).toNat.toUInt8 else none
  | _ => none
def decQ (l : List UInt8) : Option (List UInt8) :=
  match l with
  | [] => some []
  | c :: r =>
    if c.toNat = 13 then (if headIs r 10 then (decQ (r.drop 1)).map (10 :: ·) else none)
    else if c.toNat = 61 then
      (if headIs r 13 && headIs (r.drop 1) 10 then decQ (r.drop 2)
       else match hex2 r with
        | some b => (decQ (r.drop 2)).map (b :: ·)
        | none => none)
    else if plainQ c || blankQ c then (decQ r).map (c :: ·) else none
termination_by l.length
decreasing_by all_goals (simp only [List.length_cons, List.length_drop]; omega)

theorem decQ_nil : decQ [] = some [] := by rw [decQ]
theorem decQ_end (r : List UInt8) : decQ (13 :: 10 :: r) = (decQ r).map (10 :: ·) := by
  rw [decQ]
  rfl
theorem decQ_soft (r : List UInt8) : decQ (61 :: 13 :: 10 :: r) = decQ r := by
  rw [decQ]
  rfl
theorem decQ_hex {x y b : UInt8} (r : List UInt8) (h : hex2 (x :: y :: r) = some b) (hx : x.toNat ≠ 13) : decQ (61 :: x :: y :: r) = (decQ r).map (b :: ·) := by
  rw [decQ]
  rw [if_neg (by decide), if_pos (by decide), if_neg (by simp [headIs, hx]), h]
  rfl
theorem decQ_own {c : UInt8} (r : List UInt8) (h13 : c.toNat ≠ 13) (h61 : c.toNat ≠ 61) (h : (plainQ c || blankQ c) = true) : decQ (c :: r) = (decQ r).map (c :: ·) := by
  rw [decQ, if_neg h13, if_neg h61, if_pos h]
theorem decQ_alone {c : UInt8} (r : List UInt8) (h13 : c.toNat = 13) (h : headIs r 10 = false) : decQ (c :: r) = none := by
  rw [decQ, if_pos h13, if_neg (by simp [h])]
theorem decQ_nohex {c : UInt8} (r : List UInt8) (h61 : c.toNat = 61) (hs : (headIs r 13 && headIs (r.drop 1) 10) = false) (h : hex2 r = none) : decQ (c :: r) = none := by
  rw [decQ, if_neg (by omega), if_pos h61, if_neg (by rw [hs]; decide), h]
theorem decQ_odd {c : UInt8} (r : List UInt8) (h13 : c.toNat ≠ 13) (h61 : c.toNat ≠ 61) (h : (plainQ c || blankQ c) = false) : decQ (c :: r) = none := by
  rw [decQ, if_neg h13, if_neg h61, if_neg (by rw [h]; decide)]

theorem hex2_pair (c : UInt8) (r : List UInt8) : hex2 (pairL c ++ r) = some c := by
  have h := c.toNat_lt
  show hex2 (hexU (c.toNat / 16) :: hexU (c.toNat % 16) :: r) = some c
  rw [show hex2 (hexU (c.toNat / 16) :: hexU (c.toNat % 16) :: r) = if hexI ((hexU (c.toNat / 16)).toNat : Int) < 16 ∧ hexI ((hexU (c.toNat % 16)).toNat : Int) < 16 then some (16 * hexI ((hexU (c.toNat / 16)).toNat : Int) + hexI ((hexU (c.toNat % 16)).toNat : Int)).toNat.toUInt8 else none from rfl]
  rw [hexI_U _ (by omega), hexI_U _ (by omega), if_pos (by omega)]
  congr 1
  rw [show ((16 : Int) * ((c.toNat / 16 : Nat) : Int) + ((c.toNat % 16 : Nat) : Int)).toNat = c.toNat from by omega]
  exact UInt8.toNat_inj.1 (by simp)
theorem hexU_bd (n : Nat) (h : n < 16) : 48 ≤ (hexU n).toNat ∧ (hexU n).toNat ≤ 70 ∧ (hexU n).toNat ≠ 61 := by
  have : ∀ k : Fin 16, 48 ≤ (hexU k.1).toNat ∧ (hexU k.1).toNat ≤ 70 ∧ (hexU k.1).toNat ≠ 61 := by decide
  exact this ⟨n, h⟩
theorem dec_code (c : UInt8) (r x : List UInt8) (h10 : c.toNat ≠ 10) : decQ (codeQ c r ++ x) = (decQ x).map (c :: ·) := by
  unfold codeQ
  split
  · rename_i h
    refine decQ_own x ?_ ?_ ?_
    · intro e; simp [plainQ, blankQ, e] at h
    · intro e; simp [plainQ, blankQ, e] at h
    · revert h; cases plainQ c <;> cases blankQ c <;> simp
  · have hl := c.toNat_lt
    have h1 := hexU_bd (c.toNat / 16) (by omega)
    refine decQ_hex (x := hexU (c.toNat / 16)) (y := hexU (c.toNat % 16)) x ?_ (by omega)
    exact hex2_pair c x
/-- Reading undoes printing. -/
theorem dec_encQ (l : List UInt8) : ∀ n, decQ (encQ n l) = some l := by
  induction l with
  | nil => intro n; rw [encQ, decQ_nil]
  | cons c r ih =>
    intro n
    rw [encQ]
    split
    · rename_i h
      rw [decQ_end, ih]
      have : c = 10 := UInt8.toNat_inj.1 h
      rw [this]
      rfl
    · rename_i h
      split
      · rw [decQ_soft, dec_code c r _ h, ih]; rfl
      · rw [dec_code c r _ h, ih]; rfl

/-- Are the lines right, with n bytes of the line before, and p the byte before (0: none)? -/
def lineQ : Nat → Nat → List UInt8 → Bool
  | n, p, [] => !decide (p = 32) && !decide (p = 9)
  | n, p, c :: r =>
    if c.toNat = 13 then headIs r 10 && (!decide (p = 32) && !decide (p = 9)) && lineQ n 13 r
    else if c.toNat = 10 then decide (p = 13) && lineQ 0 10 r
    else decide (n + 1 ≤ 76) && (decide (c.toNat ≤ 126) && (decide (32 ≤ c.toNat) || decide (c.toNat = 9))) && lineQ (n + 1) c.toNat r
theorem lineQ_own {c : UInt8} {n p : Nat} {r : List UInt8} (h : c.toNat = 9 ∨ 32 ≤ c.toNat) (hi : c.toNat ≤ 126) (hn : n + 1 ≤ 76) (hr : lineQ (n + 1) c.toNat r = true) : lineQ n p (c :: r) = true := by
  rw [lineQ, if_neg (by omega), if_neg (by omega), hr]
  simp [hn, hi]
  omega
theorem lineQ_end {n p : Nat} {r : List UInt8} (h32 : p ≠ 32) (h9 : p ≠ 9) (hr : lineQ 0 10 r = true) : lineQ n p (13 :: 10 :: r) = true := by
  rw [lineQ, if_pos (by decide), lineQ, if_neg (by decide), if_pos (by decide), hr]
  simp [headIs, h32, h9]
theorem lineQ_code {c : UInt8} {r x : List UInt8} {n p : Nat} (h10 : c.toNat ≠ 10) (hn : n + (codeQ c r).length ≤ 75) (hx : ∀ q : Nat, ((q = 32 ∨ q = 9) → goesOn r = true) → lineQ (n + (codeQ c r).length) q x = true) : lineQ n p (codeQ c r ++ x) = true := by
  have hl := c.toNat_lt
  unfold codeQ at hx hn ⊢
  split
  · rename_i h
    rw [if_pos h] at hx hn
    have hn' : n + 1 ≤ 75 := hn
    refine lineQ_own ?_ ?_ (by omega) (hx _ ?_)
    · simp [plainQ, blankQ] at h; omega
    · simp [plainQ, blankQ] at h; omega
    · intro hb
      have hp : plainQ c = false := by unfold plainQ; simp; omega
      rw [hp] at h
      simp at h
      exact h.2
  · rename_i h
    rw [if_neg h] at hx hn
    have hn' : n + 3 ≤ 75 := hn
    have h1 := hexU_bd (c.toNat / 16) (by omega)
    have h2 := hexU_bd (c.toNat % 16) (by omega)
    refine lineQ_own (c := 61) (.inr (by decide)) (by decide) (by omega) ?_
    refine lineQ_own (c := hexU (c.toNat / 16)) (.inr (by omega)) (by omega) (by omega) ?_
    refine lineQ_own (c := hexU (c.toNat % 16)) (.inr (by omega)) (by omega) (by omega) ?_
    exact hx _ (fun hb => by omega)
theorem lineQ_enc (l : List UInt8) : ∀ n p : Nat, n ≤ 75 → ((p = 32 ∨ p = 9) → goesOn l = true) → lineQ n p (encQ n l) = true := by
  induction l with
  | nil =>
    intro n p hn hp
    have h : ¬(p = 32 ∨ p = 9) := fun h => by simpa [goesOn] using hp h
    rw [encQ, lineQ]
    simp
    omega
  | cons c r ih =>
    intro n p hn hp
    have hcl := codeQ_len c r
    rw [encQ]
    split
    · rename_i h
      have hb : ¬(p = 32 ∨ p = 9) := fun hb => by simpa [goesOn, h] using hp hb
      exact lineQ_end (by omega) (by omega) (ih 0 10 (by omega) (by omega))
    · rename_i h
      split
      · refine lineQ_own (c := 61) (.inr (by decide)) (by decide) (by omega) ?_
        refine lineQ_end (by decide) (by decide) ?_
        refine lineQ_code h (by omega) (fun q hq => ?_)
        rw [Nat.zero_add]
        exact ih _ q (by omega) hq
      · refine lineQ_code h (by omega) (fun q hq => ?_)
        exact ih _ q (by omega) hq
end Go.Proofs.Ytahkfoaogcbecaa
