/-
  The content of JSON strings, in mathematics: what is written (escJ, writeJ), what stands first (oneJ), what is read (decJ), that reading undoes writing, and that what is written is safe.
-/
import Derived.Test.YtahkfoaogcbecaaPlainPrint
import Derived.Test.YtahkfoaogcbecaaPlainUtf
namespace Go.Proofs.Ytahkfoaogcbecaa
set_option linter.unusedVariables false
set_option linter.unusedSimpArgs false

/-- The letter of a rune's short escape. -/
def shortE (r : Nat) : Option UInt8 := if r = 34 then some 34 else if r = 92 then some 92 else if r = 8 then some 98 else if r = 12 then some 102 else if r = 10 then some 110 else if r = 13 then some 114 else if r = 9 then some 116 else none
/-- The rune of a short escape's letter. -/
def shortD (e : Nat) : Option Nat := if e = 34 then some 34 else if e = 92 then some 92 else if e = 98 then some 8 else if e = 102 then some 12 else if e = 110 then some 10 else if e = 114 then some 13 else if e = 116 then some 9 else if e = 47 then some 47 else none
/-- Is a rune written by four digits? -/
def longE (r : Nat) : Bool := decide (r < 32) || decide (r = 38) || decide (r = 60) || decide (r = 62) || (decide (127 ≤ r) && decide (r ≤ 159)) || decide (r = 8232) || decide (r = 8233)
def fourL (r : Nat) : List UInt8 := pairL (UInt8.ofNat (r / 256)) ++ pairL (UInt8.ofNat (r % 256))
/-- A rune, as it is written. -/
def escJ (r : Nat) : List UInt8 := match shortE r with
  | some e => [92, e]
  | none => if longE r then 92 :: 117 :: fourL r else encL r
def writeR (rs : List Nat) : List UInt8 := rs.flatMap escJ
def runesJ (l : List UInt8) : List Nat := (stps l).map (·.1)
def writeJ (l : List UInt8) : List UInt8 := writeR (runesJ l)
/-- A text with each bad byte as the bytes of 65533. -/
def wholeJ (l : List UInt8) : List UInt8 := (runesJ l).flatMap encL
theorem runesJ_ok (l : List UInt8) : ∀ r ∈ runesJ l, isRune r := by
  intro r hr
  obtain ⟨x, hx, rfl⟩ := List.mem_map.1 hr
  exact stps_runes l x hx
theorem whole_same {l : List UInt8} (h : okL l = true) : wholeJ l = l := by
  have := (ok_back l h).1
  unfold wholeJ runesJ
  rw [List.flatMap_map]
  exact this

theorem fourL_len (r : Nat) : (fourL r).length = 4 := rfl
theorem escJ_len (r : Nat) : 1 ≤ (escJ r).length ∧ (escJ r).length ≤ 6 := by
  unfold escJ
  split
  · simp
  · split
    · simp [fourL_len]
    · rw [encL_len]; split <;> (try split) <;> (try split) <;> omega
theorem runesJ_len (l : List UInt8) : (runesJ l).length ≤ l.length := by unfold runesJ; rw [List.length_map]; exact stps_len _ l (Nat.le_refl _)
theorem writeR_len (rs : List Nat) : (writeR rs).length ≤ 6 * rs.length := by
  induction rs with
  | nil => simp [writeR]
  | cons r rs ih =>
    have := escJ_len r
    unfold writeR at ih ⊢
    rw [List.flatMap_cons, List.length_append, List.length_cons]
    omega
theorem writeJ_len (l : List UInt8) : (writeJ l).length ≤ 6 * l.length := by
  have h1 := writeR_len (runesJ l)
  have h2 := runesJ_len l
  unfold writeJ
  omega

/-- The number of an escape of four digits at the head. -/
def unitJ (l : List UInt8) : Option Nat := if List.isPrefixOf [92, 117] l then (match hex2 (l.drop 2), hex2 (l.drop 4) with | some a, some b => some (256 * a.toNat + b.toNat) | _, _ => none) else none
theorem unitJ_lt {l : List UInt8} {n : Nat} (h : unitJ l = some n) : n < 65536 := by
  unfold unitJ at h
  split at h
  · split at h
    · rename_i a b _ _
      cases h
      have := a.toNat_lt
      have := b.toNat_lt
      omega
    · cases h
  · cases h
theorem unitJ_four (r : Nat) (hr : r < 65536) (x : List UInt8) : unitJ (92 :: 117 :: fourL r ++ x) = some r := by
  unfold unitJ
  rw [if_pos (by simp [List.isPrefixOf])]
  have e2 : (92 :: 117 :: fourL r ++ x).drop 2 = pairL (UInt8.ofNat (r / 256)) ++ (pairL (UInt8.ofNat (r % 256)) ++ x) := by simp [fourL]
  have e4 : (92 :: 117 :: fourL r ++ x).drop 4 = pairL (UInt8.ofNat (r % 256)) ++ x := by
    rw [show (4 : Nat) = 2 + 2 from rfl, ← List.drop_drop, e2, show (2 : Nat) = (pairL (UInt8.ofNat (r / 256))).length from rfl, List.drop_left]
  rw [e2, e4, hex2_pair, hex2_pair]
  simp only [UInt8.toNat_ofNat']
  congr 1
  omega
/-- What an escape that is no short one, at the head, stands for. -/
def wideJ (l : List UInt8) : Option (Nat × Nat) :=
  match unitJ l with
  | none => none
  | some a =>
    if 55296 ≤ a ∧ a ≤ 56319 then
      (match unitJ (l.drop 6) with
       | some b => if 56320 ≤ b ∧ b ≤ 57343 then some (65536 + 1024 * (a - 55296) + (b - 56320), 12) else none
       | none => none)
    else if isRune a then some (a, 6) else none
/-- What stands first: the rune, and how many bytes it takes. -/
def oneJ : List UInt8 → Option (Nat × Nat)
  | [] => none
  | c :: r =>
    if c.toNat ≠ 92 then (if (nxL (c :: r)).1 < 32 ∨ (nxL (c :: r)).1 = 34 ∨ ((nxL (c :: r)).1 = 65533 ∧ (nxL (c :: r)).2 = 1) then none else some (nxL (c :: r)))
    else match r with
      | [] => wideJ (c :: r)
      | e :: t => match shortD e.toNat with
        | some v => some (v, 2)
        | none => wideJ (c :: e :: t)
theorem oneJ_own {c : UInt8} (r : List UInt8) (h : c.toNat ≠ 92) : oneJ (c :: r) = if (nxL (c :: r)).1 < 32 ∨ (nxL (c :: r)).1 = 34 ∨ ((nxL (c :: r)).1 = 65533 ∧ (nxL (c :: r)).2 = 1) then none else some (nxL (c :: r)) := if_pos h
theorem oneJ_end {c : UInt8} (h : c.toNat = 92) : oneJ [c] = wideJ [c] := if_neg (fun e => e h)
theorem oneJ_esc {c : UInt8} (e : UInt8) (t : List UInt8) (h : c.toNat = 92) : oneJ (c :: e :: t) = match shortD e.toNat with
    | some v => some (v, 2)
    | none => wideJ (c :: e :: t) := if_neg (fun e => e h)
theorem shortD_lt (e : UInt8) {v : Nat} (h : shortD e.toNat = some v) : v < 128 := by
  have : ∀ k : Fin 256, (shortD k.1).all (fun v => decide (v < 128)) = true := by decide +kernel
  have h2 := this ⟨e.toNat, e.toNat_lt⟩
  simpa [h] using h2
theorem hex2_len2 {r : List UInt8} {b : UInt8} (h : hex2 r = some b) : 2 ≤ r.length := by
  match r, h with
  | _ :: _ :: _, _ => simp
theorem unitJ_len {l : List UInt8} {n : Nat} (h : unitJ l = some n) : 6 ≤ l.length := by
  unfold unitJ at h
  split at h
  · split at h
    · rename_i a b h1 h2
      have := hex2_len2 h2
      rw [List.length_drop] at this
      omega
    · cases h
  · cases h
theorem wideJ_size {l : List UInt8} {v n : Nat} (h : wideJ l = some (v, n)) : 1 ≤ n ∧ n ≤ l.length ∧ n ≤ 12 ∧ isRune v := by
  unfold wideJ at h
  split at h
  · cases h
  · rename_i a ha
    have h6 := unitJ_len ha
    split at h
    · split at h
      · rename_i b hb
        have h12 := unitJ_len hb
        rw [List.length_drop] at h12
        split at h
        · simp only [Option.some.injEq, Prod.mk.injEq] at h
          obtain ⟨h1, h2⟩ := h
          unfold isRune
          omega
        · cases h
      · cases h
    · split at h
      · rename_i hr
        cases h
        exact ⟨by omega, h6, by omega, hr⟩
      · cases h
theorem oneJ_size {l : List UInt8} {v n : Nat} (h : oneJ l = some (v, n)) : 1 ≤ n ∧ n ≤ l.length ∧ n ≤ 12 ∧ isRune v := by
  cases l with
  | nil => cases h
  | cons c r =>
    by_cases h92 : c.toNat = 92
    · cases r with
      | nil => rw [oneJ_end h92] at h; exact wideJ_size h
      | cons e t =>
        rw [oneJ_esc e t h92] at h
        split at h
        · rename_i v' hv
          cases h
          have := shortD_lt e hv
          exact ⟨by omega, by simp, by omega, .inl (by omega)⟩
        · exact wideJ_size h
    · rw [oneJ_own r h92] at h
      split at h
      · cases h
      · have hs := nxL_size (c :: r) (by simp)
        have hr := nxL_rune (c :: r)
        injection h with h
        rw [h] at hs hr
        exact ⟨hs.1, hs.2.2, by omega, hr⟩
def decJ (l : List UInt8) : Option (List UInt8) :=
  match l with
  | [] => some []
  | c :: r => match h : oneJ (c :: r) with
    | none => none
    | some (v, n) => (decJ ((c :: r).drop n)).map (encL v ++ ·)
termination_by l.length
decreasing_by
  have := oneJ_size h
  rw [List.length_drop, List.length_cons] at *
  omega
theorem decJ_nil : decJ [] = some [] := by rw [decJ]
theorem decJ_one {c : UInt8} {r : List UInt8} {v n : Nat} (h : oneJ (c :: r) = some (v, n)) : decJ (c :: r) = (decJ ((c :: r).drop n)).map (encL v ++ ·) := by
  rw [decJ]
  split
  · rename_i h2; rw [h] at h2; cases h2
  · rename_i v2 n2 h2; rw [h] at h2; cases h2; rfl
theorem decJ_bad {c : UInt8} {r : List UInt8} (h : oneJ (c :: r) = none) : decJ (c :: r) = none := by
  rw [decJ]
  split
  · rfl
  · rename_i v2 n2 h2; rw [h] at h2; cases h2

theorem encL_head (r : Nat) (hr : isRune r) : ∃ c t, encL r = c :: t ∧ (r < 128 → c.toNat = r) ∧ (128 ≤ r → 192 ≤ c.toNat) := by
  unfold isRune at hr
  unfold encL
  split
  · exact ⟨_, _, rfl, fun h => by simp; omega, fun h => by omega⟩
  · split
    · exact ⟨_, _, rfl, fun h => by omega, fun h => by simp; omega⟩
    · split
      · exact ⟨_, _, rfl, fun h => by omega, fun h => by simp; omega⟩
      · exact ⟨_, _, rfl, fun h => by omega, fun h => by simp; omega⟩
theorem one_enc (r : Nat) (x : List UInt8) (hr : isRune r) (h32 : 32 ≤ r) (h34 : r ≠ 34) (h92 : r ≠ 92) : oneJ (encL r ++ x) = some (r, (encL r).length) := by
  have hn := nxL_enc r x hr
  obtain ⟨c, t, he, h1, h2⟩ := encL_head r hr
  have hl := encL_len r
  have hc : c.toNat ≠ 92 := by
    by_cases h : r < 128
    · rw [h1 h]; exact h92
    · have := h2 (by omega); omega
  rw [he] at hn hl ⊢
  rw [List.cons_append] at hn ⊢
  rw [oneJ_own _ hc, hn, if_neg ?_]
  dsimp only
  rintro (h | h | ⟨h, h'⟩)
  · omega
  · omega
  · rw [h', h] at hl
    simp at hl
theorem one_short (r : Nat) (e : UInt8) (x : List UInt8) (h : shortE r = some e) : oneJ ([92, e] ++ x) = some (r, 2) := by
  unfold shortE at h
  repeat' split at h
  all_goals first
    | (rename_i hr; subst hr; injection h with h; subst h; rfl)
    | cases h
theorem one_long (r : Nat) (x : List UInt8) (hs : shortE r = none) (h : longE r = true) : oneJ (92 :: 117 :: fourL r ++ x) = some (r, 6) := by
  have hr : r < 55296 := by
    unfold longE at h
    simp at h
    omega
  have hu := unitJ_four r (by omega) x
  rw [List.cons_append, List.cons_append] at hu ⊢
  rw [oneJ_esc 117 _ (by decide)]
  show wideJ (92 :: 117 :: (fourL r ++ x)) = _
  unfold wideJ
  rw [hu]
  show (if 55296 ≤ r ∧ r ≤ 56319 then _ else if isRune r then some (r, 6) else none) = _
  rw [if_neg (by omega), if_pos (.inl hr)]
theorem one_escJ (r : Nat) (x : List UInt8) (hr : isRune r) : oneJ (escJ r ++ x) = some (r, (escJ r).length) := by
  unfold escJ
  split
  · rename_i e he
    exact one_short r e x he
  · rename_i hs
    split
    · rename_i hl
      rw [one_long r x hs hl]
      rfl
    · rename_i hl
      have h32 : 32 ≤ r := by
        simp [longE] at hl
        omega
      refine one_enc r x hr h32 ?_ ?_
      · intro e; subst e; cases hs
      · intro e; subst e; cases hs
theorem escJ_cons (r : Nat) : ∃ c t, escJ r = c :: t := by
  have := escJ_len r
  cases h : escJ r with
  | nil => rw [h] at this; simp at this
  | cons c t => exact ⟨c, t, rfl⟩
/-- Reading undoes writing. -/
theorem dec_writeR (rs : List Nat) (h : ∀ r ∈ rs, isRune r) : decJ (writeR rs) = some (rs.flatMap encL) := by
  induction rs with
  | nil => exact decJ_nil
  | cons r rs ih =>
    have h1 := one_escJ r (writeR rs) (h r (by simp))
    have e : writeR (r :: rs) = escJ r ++ writeR rs := by unfold writeR; rw [List.flatMap_cons]
    rw [e]
    obtain ⟨c, t, hc⟩ := escJ_cons r
    rw [hc] at h1
    rw [hc, List.cons_append] at *
    rw [decJ_one h1, ← List.cons_append, List.drop_left, ih (fun r' h' => h r' (by simp [h'])), List.flatMap_cons]
    rfl
theorem dec_writeJ (l : List UInt8) : decJ (writeJ l) = some (wholeJ l) := dec_writeR _ (runesJ_ok l)

/-- Is a byte of what is written allowed? -/
def okJ (c : UInt8) : Bool := decide (32 ≤ c.toNat) && !decide (c.toNat = 38) && !decide (c.toNat = 60) && !decide (c.toNat = 62) && !decide (c.toNat = 127)
theorem hexU_okJ (n : Nat) (h : n < 16) : okJ (hexU n) = true := by
  have : ∀ k : Fin 16, okJ (hexU k.1) = true := by decide
  exact this ⟨n, h⟩
theorem pairL_okJ (c : UInt8) : ∀ b ∈ pairL c, okJ b = true := by
  have hl := c.toNat_lt
  intro b hb
  simp only [pairL, List.mem_cons, List.not_mem_nil, or_false] at hb
  rcases hb with rfl | rfl
  · exact hexU_okJ _ (by omega)
  · exact hexU_okJ _ (by omega)
theorem encL_okJ (r : Nat) (hr : isRune r) (h32 : 32 ≤ r) (hl : longE r = false) : ∀ b ∈ encL r, okJ b = true := by
  have hne : r ≠ 38 ∧ r ≠ 60 ∧ r ≠ 62 ∧ r ≠ 127 := by
    simp [longE] at hl
    omega
  unfold isRune at hr
  have key : ∀ n : Nat, 32 ≤ n % 256 → n % 256 ≠ 38 → n % 256 ≠ 60 → n % 256 ≠ 62 → n % 256 ≠ 127 → okJ (UInt8.ofNat n) = true := by
    intro n a b c d e
    simp [okJ, a, b, c, d, e]
  intro b hb
  unfold encL at hb
  repeat' split at hb
  all_goals simp only [List.mem_cons, List.not_mem_nil, or_false] at hb
  · subst hb; exact key _ (by omega) (by omega) (by omega) (by omega) (by omega)
  · rcases hb with rfl | rfl <;> exact key _ (by omega) (by omega) (by omega) (by omega) (by omega)
  · rcases hb with rfl | rfl | rfl <;> exact key _ (by omega) (by omega) (by omega) (by omega) (by omega)
  · rcases hb with rfl | rfl | rfl | rfl <;> exact key _ (by omega) (by omega) (by omega) (by omega) (by omega)
theorem escJ_okJ (r : Nat) (hr : isRune r) : ∀ b ∈ escJ r, okJ b = true := by
  intro b hb
  unfold escJ at hb
  split at hb
  · rename_i e he
    unfold shortE at he
    repeat' split at he
    all_goals first
      | (injection he with he
         subst he
         simp only [List.mem_cons, List.not_mem_nil, or_false] at hb
         rcases hb with rfl | rfl <;> decide)
      | cases he
  · rename_i hs
    split at hb
    · rename_i hl
      simp only [fourL, List.mem_cons, List.mem_append] at hb
      rcases hb with rfl | rfl | hb | hb
      · decide
      · decide
      · exact pairL_okJ _ b hb
      · exact pairL_okJ _ b hb
    · rename_i hl
      have hl' : longE r = false := by simpa using hl
      have h32 : 32 ≤ r := by
        simp [longE] at hl
        omega
      exact encL_okJ r hr h32 hl' b hb
theorem writeJ_okJ (l : List UInt8) : ∀ b ∈ writeJ l, okJ b = true := by
  intro b hb
  obtain ⟨r, hr, hb⟩ := List.mem_flatMap.1 hb
  exact escJ_okJ r (runesJ_ok l r hr) b hb
/-- What is written is runes, encoded. -/
theorem ascii_enc (l : List UInt8) (h : ∀ b ∈ l, b.toNat < 128) : ∃ rs : List Nat, (∀ r ∈ rs, isRune r) ∧ rs.flatMap encL = l := by
  refine ⟨l.map UInt8.toNat, fun r hr => ?_, ?_⟩
  · obtain ⟨b, hb, rfl⟩ := List.mem_map.1 hr
    have := h b hb
    exact .inl (by omega)
  · induction l with
    | nil => rfl
    | cons b l ih =>
      have hb := h b (by simp)
      rw [List.map_cons, List.flatMap_cons, ih fun c hc => h c (by simp [hc])]
      unfold encL
      rw [if_pos hb]
      simp
theorem hexU_ascii (n : Nat) (h : n < 16) : (hexU n).toNat < 128 := by
  have : ∀ k : Fin 16, (hexU k.1).toNat < 128 := by decide
  exact this ⟨n, h⟩
theorem pairL_ascii (c : UInt8) : ∀ b ∈ pairL c, b.toNat < 128 := by
  have hl := c.toNat_lt
  intro b hb
  simp only [pairL, List.mem_cons, List.not_mem_nil, or_false] at hb
  rcases hb with rfl | rfl
  · exact hexU_ascii _ (by omega)
  · exact hexU_ascii _ (by omega)
theorem escJ_enc (r : Nat) (hr : isRune r) : ∃ rs : List Nat, (∀ q ∈ rs, isRune q) ∧ rs.flatMap encL = escJ r := by
  unfold escJ
  split
  · rename_i e he
    refine ascii_enc _ fun b hb => ?_
    unfold shortE at he
    repeat' split at he
    all_goals first
      | (injection he with he
         subst he
         simp only [List.mem_cons, List.not_mem_nil, or_false] at hb
         rcases hb with rfl | rfl <;> decide)
      | cases he
  · split
    · refine ascii_enc _ fun b hb => ?_
      simp only [fourL, List.mem_cons, List.mem_append] at hb
      rcases hb with rfl | rfl | hb | hb
      · decide
      · decide
      · exact pairL_ascii _ b hb
      · exact pairL_ascii _ b hb
    · exact ⟨[r], fun q hq => by simp at hq; rw [hq]; exact hr, by simp⟩
theorem writeR_enc (rs : List Nat) (h : ∀ r ∈ rs, isRune r) : ∃ qs : List Nat, (∀ q ∈ qs, isRune q) ∧ qs.flatMap encL = writeR rs := by
  induction rs with
  | nil => exact ⟨[], by simp, rfl⟩
  | cons r rs ih =>
    obtain ⟨q1, h1, e1⟩ := escJ_enc r (h r (by simp))
    obtain ⟨q2, h2, e2⟩ := ih fun r' h' => h r' (by simp [h'])
    refine ⟨q1 ++ q2, fun q hq => ?_, ?_⟩
    · rcases List.mem_append.1 hq with hq | hq
      · exact h1 q hq
      · exact h2 q hq
    · rw [List.flatMap_append, e1, e2]
      unfold writeR
      rw [List.flatMap_cons]
theorem writeJ_okL (l : List UInt8) : okL (writeJ l) = true := by
  obtain ⟨qs, h, e⟩ := writeR_enc (runesJ l) (runesJ_ok l)
  unfold writeJ
  rw [← e]
  exact okL_enc qs h
end Go.Proofs.Ytahkfoaogcbecaa
