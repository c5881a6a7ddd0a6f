/-
  Plain mathematics of UTF-8: what stands at the head of a list of bytes, its steps, its encodings.
-/
import GoSem.Core.Utf8
namespace Go.Proofs.Ytahkfoaogcbecaa

/-- A rune. -/
def isRune (r : Nat) : Prop := r < 55296 ∨ (57343 < r ∧ r ≤ 1114111)
instance (r : Nat) : Decidable (isRune r) := by unfold isRune; infer_instance
/-- Its encoding. -/
def encL (r : Nat) : List UInt8 :=
  if r < 128 then [UInt8.ofNat r]
  else if r < 2048 then [UInt8.ofNat (192 + r / 64), UInt8.ofNat (128 + r % 64)]
  else if r < 65536 then [UInt8.ofNat (224 + r / 4096), UInt8.ofNat (128 + r / 64 % 64), UInt8.ofNat (128 + r % 64)]
  else [UInt8.ofNat (240 + r / 262144), UInt8.ofNat (128 + r / 4096 % 64), UInt8.ofNat (128 + r / 64 % 64), UInt8.ofNat (128 + r % 64)]
def lo2 (b0 : Nat) : Nat := if b0 = 224 then 160 else if b0 = 240 then 144 else 128
def hi2 (b0 : Nat) : Nat := if b0 = 237 then 159 else if b0 = 244 then 143 else 191
/-- What stands at the head of n bytes that begin b0, b1, b2, b3. -/
def dec (n b0 b1 b2 b3 : Nat) : Nat × Nat :=
  if b0 < 128 then (b0, 1)
  else if 194 ≤ b0 ∧ b0 < 224 ∧ 2 ≤ n ∧ 128 ≤ b1 ∧ b1 ≤ 191 then ((b0 - 192) * 64 + (b1 - 128), 2)
  else if 224 ≤ b0 ∧ b0 < 240 ∧ 3 ≤ n ∧ lo2 b0 ≤ b1 ∧ b1 ≤ hi2 b0 ∧ 128 ≤ b2 ∧ b2 ≤ 191 then ((b0 - 224) * 4096 + (b1 - 128) * 64 + (b2 - 128), 3)
  else if 240 ≤ b0 ∧ b0 < 245 ∧ 4 ≤ n ∧ lo2 b0 ≤ b1 ∧ b1 ≤ hi2 b0 ∧ 128 ≤ b2 ∧ b2 ≤ 191 ∧ 128 ≤ b3 ∧ b3 ≤ 191 then ((b0 - 240) * 262144 + (b1 - 128) * 4096 + (b2 - 128) * 64 + (b3 - 128), 4)
  else (65533, 1)

theorem dec1 {n b0 b1 b2 b3 : Nat} (h : b0 < 128) : dec n b0 b1 b2 b3 = (b0, 1) := by unfold dec; rw [if_pos h]
theorem dec2 {n b0 b1 b2 b3 : Nat} (h : 194 ≤ b0 ∧ b0 < 224 ∧ 2 ≤ n ∧ 128 ≤ b1 ∧ b1 ≤ 191) : dec n b0 b1 b2 b3 = ((b0 - 192) * 64 + (b1 - 128), 2) := by
  unfold dec; rw [if_neg (by omega), if_pos h]
theorem dec3 {n b0 b1 b2 b3 : Nat} (h : 224 ≤ b0 ∧ b0 < 240 ∧ 3 ≤ n ∧ lo2 b0 ≤ b1 ∧ b1 ≤ hi2 b0 ∧ 128 ≤ b2 ∧ b2 ≤ 191) :
    dec n b0 b1 b2 b3 = ((b0 - 224) * 4096 + (b1 - 128) * 64 + (b2 - 128), 3) := by
  unfold dec; rw [if_neg (by omega), if_neg (by omega), if_pos h]
theorem dec4 {n b0 b1 b2 b3 : Nat} (h : 240 ≤ b0 ∧ b0 < 245 ∧ 4 ≤ n ∧ lo2 b0 ≤ b1 ∧ b1 ≤ hi2 b0 ∧ 128 ≤ b2 ∧ b2 ≤ 191 ∧ 128 ≤ b3 ∧ b3 ≤ 191) :
    dec n b0 b1 b2 b3 = ((b0 - 240) * 262144 + (b1 - 128) * 4096 + (b2 - 128) * 64 + (b3 - 128), 4) := by
  unfold dec; rw [if_neg (by omega), if_neg (by omega), if_neg (by omega), if_pos h]
theorem lo2_is (b0 : Nat) : (b0 = 224 ∧ lo2 b0 = 160) ∨ (b0 = 240 ∧ lo2 b0 = 144) ∨ (b0 ≠ 224 ∧ b0 ≠ 240 ∧ lo2 b0 = 128) := by
  unfold lo2
  by_cases h : b0 = 224
  · rw [if_pos h]; omega
  · rw [if_neg h]
    by_cases k : b0 = 240
    · rw [if_pos k]; omega
    · rw [if_neg k]; omega
theorem hi2_is (b0 : Nat) : (b0 = 237 ∧ hi2 b0 = 159) ∨ (b0 = 244 ∧ hi2 b0 = 143) ∨ (b0 ≠ 237 ∧ b0 ≠ 244 ∧ hi2 b0 = 191) := by
  unfold hi2
  by_cases h : b0 = 237
  · rw [if_pos h]; omega
  · rw [if_neg h]
    by_cases k : b0 = 244
    · rw [if_pos k]; omega
    · rw [if_neg k]; omega
theorem lo2_ge (b0 : Nat) : 128 ≤ lo2 b0 := by have := lo2_is b0; omega
theorem hi2_le (b0 : Nat) : hi2 b0 ≤ 191 := by have := hi2_is b0; omega
theorem dec_shape (n b0 b1 b2 b3 : Nat) :
    (b0 < 128 ∧ dec n b0 b1 b2 b3 = (b0, 1)) ∨
    ((194 ≤ b0 ∧ b0 < 224 ∧ 2 ≤ n ∧ 128 ≤ b1 ∧ b1 ≤ 191) ∧ dec n b0 b1 b2 b3 = ((b0 - 192) * 64 + (b1 - 128), 2)) ∨
    ((224 ≤ b0 ∧ b0 < 240 ∧ 3 ≤ n ∧ lo2 b0 ≤ b1 ∧ b1 ≤ hi2 b0 ∧ 128 ≤ b2 ∧ b2 ≤ 191) ∧ dec n b0 b1 b2 b3 = ((b0 - 224) * 4096 + (b1 - 128) * 64 + (b2 - 128), 3)) ∨
    ((240 ≤ b0 ∧ b0 < 245 ∧ 4 ≤ n ∧ lo2 b0 ≤ b1 ∧ b1 ≤ hi2 b0 ∧ 128 ≤ b2 ∧ b2 ≤ 191 ∧ 128 ≤ b3 ∧ b3 ≤ 191) ∧ dec n b0 b1 b2 b3 = ((b0 - 240) * 262144 + (b1 - 128) * 4096 + (b2 - 128) * 64 + (b3 - 128), 4)) ∨
    dec n b0 b1 b2 b3 = (65533, 1) := by
  unfold dec
  split
  · exact .inl ⟨by assumption, rfl⟩
  · split
    · exact .inr (.inl ⟨by assumption, rfl⟩)
    · split
      · exact .inr (.inr (.inl ⟨by assumption, rfl⟩))
      · split
        · exact .inr (.inr (.inr (.inl ⟨by assumption, rfl⟩)))
        · exact .inr (.inr (.inr (.inr rfl)))
theorem dec_bad {n b0 b1 b2 b3 : Nat} (h1 : ¬ b0 < 128) (h2 : ¬ (194 ≤ b0 ∧ b0 < 224 ∧ 2 ≤ n ∧ 128 ≤ b1 ∧ b1 ≤ 191))
    (h3 : ¬ (224 ≤ b0 ∧ b0 < 240 ∧ 3 ≤ n ∧ lo2 b0 ≤ b1 ∧ b1 ≤ hi2 b0 ∧ 128 ≤ b2 ∧ b2 ≤ 191))
    (h4 : ¬ (240 ≤ b0 ∧ b0 < 245 ∧ 4 ≤ n ∧ lo2 b0 ≤ b1 ∧ b1 ≤ hi2 b0 ∧ 128 ≤ b2 ∧ b2 ≤ 191 ∧ 128 ≤ b3 ∧ b3 ≤ 191)) : dec n b0 b1 b2 b3 = (65533, 1) := by
  unfold dec; rw [if_neg h1, if_neg h2, if_neg h3, if_neg h4]
/-- The rune of a step is one. -/
theorem dec_rune (n b0 b1 b2 b3 : Nat) : isRune (dec n b0 b1 b2 b3).1 := by
  rcases dec_shape n b0 b1 b2 b3 with ⟨h, e⟩ | ⟨h, e⟩ | ⟨h, e⟩ | ⟨h, e⟩ | e <;> rw [e] <;> unfold isRune <;> dsimp only
  · omega
  · omega
  · have := lo2_is b0; have := hi2_is b0; omega
  · have := lo2_is b0; have := hi2_is b0; omega
  · omega
theorem dec_size (n b0 b1 b2 b3 : Nat) (hn : 1 ≤ n) : 1 ≤ (dec n b0 b1 b2 b3).2 ∧ (dec n b0 b1 b2 b3).2 ≤ 4 ∧ (dec n b0 b1 b2 b3).2 ≤ n := by
  rcases dec_shape n b0 b1 b2 b3 with ⟨h, e⟩ | ⟨h, e⟩ | ⟨h, e⟩ | ⟨h, e⟩ | e <;> rw [e] <;> dsimp only <;> omega

/-- What stands at the head of l. -/
def nxL (l : List UInt8) : Nat × Nat := dec l.length (l.getD 0 0).toNat (l.getD 1 0).toNat (l.getD 2 0).toNat (l.getD 3 0).toNat
theorem nxL_size (l : List UInt8) (h : l ≠ []) : 1 ≤ (nxL l).2 ∧ (nxL l).2 ≤ 4 ∧ (nxL l).2 ≤ l.length := dec_size _ _ _ _ _ (List.length_pos_iff.2 h)
theorem nxL_rune (l : List UInt8) : isRune (nxL l).1 := dec_rune _ _ _ _ _

theorem encL_len (r : Nat) : (encL r).length = if r < 128 then 1 else if r < 2048 then 2 else if r < 65536 then 3 else 4 := by
  unfold encL; split <;> (try split) <;> (try split) <;> rfl
theorem encL_ne (r : Nat) : encL r ≠ [] := by
  intro h
  have := encL_len r
  rw [h] at this
  simp only [List.length_nil] at this
  split at this <;> (try split at this) <;> (try split at this) <;> omega

/-- An encoding at the head is read as its rune. -/
theorem nxL_enc (r : Nat) (t : List UInt8) (hr : isRune r) : nxL (encL r ++ t) = (r, (encL r).length) := by
  unfold isRune at hr
  rw [encL_len]
  unfold nxL encL
  by_cases h1 : r < 128
  · rw [if_pos h1, if_pos h1]
    simp only [List.cons_append, List.nil_append, List.getD_cons_zero, UInt8.toNat_ofNat']
    rw [dec1 (by omega)]
    exact Prod.ext (by dsimp only; omega) rfl
  · rw [if_neg h1, if_neg h1]
    by_cases h2 : r < 2048
    · rw [if_pos h2, if_pos h2]
      simp only [List.cons_append, List.nil_append, List.getD_cons_zero, List.getD_cons_succ, List.length_cons, UInt8.toNat_ofNat']
      rw [dec2 (by omega)]
      exact Prod.ext (by dsimp only; omega) rfl
    · rw [if_neg h2, if_neg h2]
      by_cases h3 : r < 65536
      · rw [if_pos h3, if_pos h3]
        simp only [List.cons_append, List.nil_append, List.getD_cons_zero, List.getD_cons_succ, List.length_cons, UInt8.toNat_ofNat']
        have := lo2_is ((224 + r / 4096) % 2 ^ 8)
        have := hi2_is ((224 + r / 4096) % 2 ^ 8)
        rw [dec3 (by omega)]
        exact Prod.ext (by dsimp only; omega) rfl
      · rw [if_neg h3, if_neg h3]
        simp only [List.cons_append, List.nil_append, List.getD_cons_zero, List.getD_cons_succ, List.length_cons, UInt8.toNat_ofNat']
        have := lo2_is ((240 + r / 262144) % 2 ^ 8)
        have := hi2_is ((240 + r / 262144) % 2 ^ 8)
        rw [dec4 (by omega)]
        exact Prod.ext (by dsimp only; omega) rfl

theorem takeU1 : ∀ l : List UInt8, 0 < l.length → l.take 1 = [l.getD 0 0]
  | _ :: _, _ => by simp
theorem takeU2 : ∀ l : List UInt8, 1 < l.length → l.take 2 = [l.getD 0 0, l.getD 1 0]
  | [_], h => by simp at h
  | _ :: _ :: _, _ => by simp
theorem takeU3 : ∀ l : List UInt8, 2 < l.length → l.take 3 = [l.getD 0 0, l.getD 1 0, l.getD 2 0]
  | [_], h => by simp at h
  | [_, _], h => by simp at h
  | _ :: _ :: _ :: _, _ => by simp
theorem takeU4 : ∀ l : List UInt8, 3 < l.length → l.take 4 = [l.getD 0 0, l.getD 1 0, l.getD 2 0, l.getD 3 0]
  | [_], h => by simp at h
  | [_, _], h => by simp at h
  | [_, _, _], h => by simp at h
  | _ :: _ :: _ :: _ :: _, _ => by simp
theorem byteEq {a : Nat} {x : UInt8} (h : a = x.toNat) : UInt8.ofNat a = x := by subst h; simp

/-- A step: bad, or its rune's encoding. -/
theorem enc_nxL (l : List UInt8) (hne : l ≠ []) : nxL l = (65533, 1) ∨ (encL (nxL l).1 = l.take (nxL l).2 ∧ (encL (nxL l).1).length = (nxL l).2) := by
  have hl : 0 < l.length := List.length_pos_iff.2 hne
  have k0 := (l.getD 0 0).toNat_lt
  have k1 := (l.getD 1 0).toNat_lt
  have k2 := (l.getD 2 0).toNat_lt
  have k3 := (l.getD 3 0).toNat_lt
  suffices h : nxL l = (65533, 1) ∨ encL (nxL l).1 = l.take (nxL l).2 by
    rcases h with h | h
    · exact .inl h
    · exact .inr ⟨h, by rw [h, List.length_take]; have := nxL_size l hne; omega⟩
  unfold nxL
  rcases dec_shape l.length (l.getD 0 0).toNat (l.getD 1 0).toNat (l.getD 2 0).toNat (l.getD 3 0).toNat with ⟨h, e⟩ | ⟨h, e⟩ | ⟨h, e⟩ | ⟨h, e⟩ | e <;> rw [e] <;> dsimp only
  · right
    unfold encL
    rw [if_pos h, takeU1 l hl, byteEq rfl]
  · right
    unfold encL
    rw [if_neg (by omega), if_pos (by omega), takeU2 l (by omega), byteEq (x := l.getD 0 0) (by omega), byteEq (x := l.getD 1 0) (by omega)]
  · right
    have hlo := lo2_ge (l.getD 0 0).toNat
    have hhi := hi2_le (l.getD 0 0).toNat
    have hr : 2048 ≤ ((l.getD 0 0).toNat - 224) * 4096 + ((l.getD 1 0).toNat - 128) * 64 + ((l.getD 2 0).toNat - 128) := by
      have := lo2_is (l.getD 0 0).toNat
      have := hi2_is (l.getD 0 0).toNat
      omega
    unfold encL
    rw [if_neg (by omega), if_neg (by omega), if_pos (by omega), takeU3 l (by omega), byteEq (x := l.getD 0 0) (by omega), byteEq (x := l.getD 1 0) (by omega), byteEq (x := l.getD 2 0) (by omega)]
  · right
    have hlo := lo2_ge (l.getD 0 0).toNat
    have hhi := hi2_le (l.getD 0 0).toNat
    have hr : 65536 ≤ ((l.getD 0 0).toNat - 240) * 262144 + ((l.getD 1 0).toNat - 128) * 4096 + ((l.getD 2 0).toNat - 128) * 64 + ((l.getD 3 0).toNat - 128) := by
      have := lo2_is (l.getD 0 0).toNat
      have := hi2_is (l.getD 0 0).toNat
      omega
    unfold encL
    rw [if_neg (by omega), if_neg (by omega), if_neg (by omega), takeU4 l (by omega), byteEq (x := l.getD 0 0) (by omega), byteEq (x := l.getD 1 0) (by omega), byteEq (x := l.getD 2 0) (by omega), byteEq (x := l.getD 3 0) (by omega)]
  · exact .inl rfl

/-! ### Steps -/
def stpsF : Nat → List UInt8 → List (Nat × Nat)
  | 0, _ => []
  | f + 1, l => if l.isEmpty then [] else nxL l :: stpsF f (l.drop (nxL l).2)
/-- The steps of l. -/
def stps (l : List UInt8) : List (Nat × Nat) := stpsF l.length l
theorem stpsF_nil (f : Nat) : stpsF f [] = [] := by cases f <;> rfl
theorem stpsF_fuel : ∀ (f g : Nat) (l : List UInt8), l.length ≤ f → l.length ≤ g → stpsF f l = stpsF g l
  | f, g, [], _, _ => by rw [stpsF_nil, stpsF_nil]
  | 0, _, _ :: _, h, _ => by simp at h
  | _, 0, _ :: _, _, h => by simp at h
  | f + 1, g + 1, a :: l, hf, hg => by
    have hs := nxL_size (a :: l) (by simp)
    unfold stpsF
    simp only [List.isEmpty_cons, Bool.false_eq_true, if_false]
    rw [stpsF_fuel f g _ (by rw [List.length_drop]; omega) (by rw [List.length_drop]; omega)]
theorem stps_nil : stps [] = [] := rfl
theorem stps_cons (l : List UInt8) (h : l ≠ []) : stps l = nxL l :: stps (l.drop (nxL l).2) := by
  have hs := nxL_size l h
  obtain ⟨f, hf⟩ : ∃ f, l.length = f + 1 := ⟨l.length - 1, by omega⟩
  have hi : l.isEmpty = false := by simpa using h
  have e : stps l = nxL l :: stpsF f (l.drop (nxL l).2) := by
    show stpsF l.length l = _
    rw [hf, stpsF, hi]
    rfl
  rw [e]
  unfold stps
  rw [stpsF_fuel f (l.drop (nxL l).2).length _ (by rw [List.length_drop]; omega) (Nat.le_refl _)]
theorem stps_len : ∀ (n : Nat) (l : List UInt8), l.length ≤ n → (stps l).length ≤ l.length
  | 0, l, h => by have : l = [] := List.eq_nil_of_length_eq_zero (by omega); subst this; simp [stps_nil]
  | n + 1, l, h => by
    by_cases hne : l = []
    · subst hne; simp [stps_nil]
    · have hs := nxL_size l hne
      rw [stps_cons l hne, List.length_cons]
      have := stps_len n (l.drop (nxL l).2) (by rw [List.length_drop]; omega)
      rw [List.length_drop] at this
      omega
/-- A property of every suffix that holds at the end and is carried back over a step. -/
theorem stps_ind {p : List UInt8 → Prop} (h0 : p []) (hs : ∀ l, l ≠ [] → p (l.drop (nxL l).2) → p l) : ∀ l, p l := by
  intro l
  suffices h : ∀ (n : Nat) (l : List UInt8), l.length ≤ n → p l from h l.length l (Nat.le_refl _)
  intro n
  induction n with
  | zero => intro l h; have : l = [] := List.eq_nil_of_length_eq_zero (by omega); subst this; exact h0
  | succ n ih =>
    intro l h
    by_cases hne : l = []
    · subst hne; exact h0
    · have := nxL_size l hne
      exact hs l hne (ih _ (by rw [List.length_drop]; omega))
/-- How many bytes steps take. -/
def sumS : List (Nat × Nat) → Nat
  | [] => 0
  | x :: t => x.2 + sumS t
theorem sumS_append (a b : List (Nat × Nat)) : sumS (a ++ b) = sumS a + sumS b := by
  induction a with
  | nil => simp [sumS]
  | cons x t ih => simp only [List.cons_append, sumS, ih]; omega
theorem sumS_stps : ∀ l, sumS (stps l) = l.length := by
  refine stps_ind rfl fun l h ih => ?_
  have := nxL_size l h
  rw [stps_cons l h]
  simp only [sumS, ih, List.length_drop]
  omega
/-- The steps behind the first ones. -/
theorem stps_split : ∀ (l : List UInt8) (pre t : List (Nat × Nat)), stps l = pre ++ t → t = stps (l.drop (sumS pre)) := by
  refine stps_ind (fun pre t h => ?_) fun l hne ih pre t h => ?_
  · rw [stps_nil] at h
    have := List.append_eq_nil_iff.1 h.symm
    rw [this.1, this.2]
    rfl
  · cases pre with
    | nil => simpa [sumS] using h.symm
    | cons x pre =>
      rw [stps_cons l hne] at h
      simp only [List.cons_append, List.cons.injEq] at h
      obtain ⟨rfl, h⟩ := h
      have := ih pre t h
      rw [List.drop_drop] at this
      exact this
/-- Runes written, and read again. -/
theorem stps_enc : ∀ (rs : List Nat), (∀ r ∈ rs, isRune r) → stps (rs.flatMap encL) = rs.map fun r => (r, (encL r).length)
  | [], _ => rfl
  | r :: rs, h => by
    have hr := h r (by simp)
    have e := nxL_enc r (rs.flatMap encL) hr
    rw [List.flatMap_cons, stps_cons _ (by simp [encL_ne]), e]
    simp only [List.map_cons, List.drop_left]
    rw [stps_enc rs fun r' h' => h r' (by simp [h'])]

/-- No bad byte. -/
def okL (l : List UInt8) : Bool := (stps l).all fun x => !(x.1 == 65533 && x.2 == 1)
theorem okL_enc (rs : List Nat) (h : ∀ r ∈ rs, isRune r) : okL (rs.flatMap encL) = true := by
  unfold okL
  rw [stps_enc rs h, List.all_map, List.all_eq_true]
  intro r _
  simp only [Function.comp, encL_len, Bool.not_eq_true', Bool.and_eq_false_iff, beq_eq_false_iff_ne, ne_eq]
  by_cases hr : r = 65533
  · subst hr; right; decide
  · exact .inl hr
/-- Without a bad byte, a text is its runes' encodings. -/
theorem ok_back : ∀ l, okL l = true → (stps l).flatMap (fun x => encL x.1) = l ∧ ∀ x ∈ stps l, (encL x.1).length = x.2 := by
  refine stps_ind (fun _ => ⟨rfl, by simp [stps_nil]⟩) fun l hne ih h => ?_
  unfold okL at h ih
  rw [stps_cons l hne] at h ⊢
  rw [List.all_cons, Bool.and_eq_true] at h
  obtain ⟨i1, i2⟩ := ih h.2
  rcases enc_nxL l hne with he | ⟨he, hl⟩
  · rw [he] at h; exact absurd h.1 (by decide)
  · refine ⟨?_, ?_⟩
    · rw [List.flatMap_cons, i1, he, List.take_append_drop]
    · intro x hx
      rcases List.mem_cons.1 hx with rfl | hx
      · exact hl
      · exact i2 x hx
theorem stps_runes : ∀ l, ∀ x ∈ stps l, isRune x.1 := by
  refine stps_ind (by simp [stps_nil]) fun l hne ih => ?_
  rw [stps_cons l hne]
  intro x hx
  rcases List.mem_cons.1 hx with rfl | hx
  · exact nxL_rune l
  · exact ih x hx
end Go.Proofs.Ytahkfoaogcbecaa
