/-
  Plain mathematics of sanitizing.
-/
import Derived.Test.YtpeplejpcdadgaaPlainFront
namespace Go.Proofs.Ytpeplejpcdadgaa

/-- What can't be displayed. -/
def ctlN (r : Nat) : Bool := decide ((r < 32 ∧ r ≠ 9 ∧ r ≠ 10) ∨ (127 ≤ r ∧ r ≤ 159))
/-- Does a byte 10 stand at k? -/
def tenAt (l : List UInt8) (k : Nat) : Bool := decide (k < l.length) && (l.getD k 0).toNat == 10
/-- The runes that a step becomes, k being the offset behind it. -/
def outR (l : List UInt8) (k r : Nat) : List Nat := if r = 13 then (if tenAt l k then [] else [10]) else [if ctlN r then 65533 else r]
def clnR (l : List UInt8) : Nat → List (Nat × Nat) → List Nat
  | _, [] => []
  | k, x :: t => outR l (k + x.2) x.1 ++ clnR l (k + x.2) t
/-- The sanitized text. -/
def cleanL (l : List UInt8) : List UInt8 := (clnR l 0 (stps l)).flatMap encL
theorem clnR_snoc (l : List UInt8) : ∀ (pre : List (Nat × Nat)) (k : Nat) (x : Nat × Nat), clnR l k (pre ++ [x]) = clnR l k pre ++ outR l (k + sumS pre + x.2) x.1
  | [], k, x => by simp [clnR, sumS]
  | y :: pre, k, x => by
    rw [List.cons_append, clnR, clnR, clnR_snoc l pre (k + y.2) x, List.append_assoc]
    simp only [sumS]
    rw [show k + y.2 + sumS pre + x.2 = k + (y.2 + sumS pre) + x.2 from by omega]
theorem outR_ok (l : List UInt8) (k r : Nat) (hr : isRune r) : ∀ q ∈ outR l k r, isRune q ∧ ctlN q = false := by
  intro q hq
  unfold outR at hq
  split at hq
  · split at hq
    · simp at hq
    · obtain rfl := List.mem_singleton.1 hq
      exact ⟨by decide, by decide⟩
  · obtain rfl := List.mem_singleton.1 hq
    split
    · exact ⟨by decide, by decide⟩
    · exact ⟨hr, by simpa using ‹¬ ctlN r = true›⟩
theorem clnR_ok (l : List UInt8) : ∀ (t : List (Nat × Nat)) (k : Nat), (∀ x ∈ t, isRune x.1) → ∀ q ∈ clnR l k t, isRune q ∧ ctlN q = false
  | [], _, _ => by simp [clnR]
  | x :: t, k, h => by
    intro q hq
    rw [clnR] at hq
    rcases List.mem_append.1 hq with hq | hq
    · exact outR_ok l _ _ (h x (by simp)) q hq
    · exact clnR_ok l t _ (fun y hy => h y (by simp [hy])) q hq
theorem ctl_13 {q : Nat} (h : ctlN q = false) : q ≠ 13 := by intro e; subst e; exact absurd h (by decide)
theorem clnR_same (l : List UInt8) : ∀ (rs : List Nat) (k : Nat), (∀ q ∈ rs, ctlN q = false) → clnR l k (rs.map fun r => (r, (encL r).length)) = rs
  | [], _, _ => rfl
  | r :: rs, k, h => by
    have hr := h r (by simp)
    rw [List.map_cons, clnR, clnR_same l rs _ fun q hq => h q (by simp [hq])]
    unfold outR
    rw [if_neg (ctl_13 hr), hr]
    rfl
theorem clean_ok (l : List UInt8) : ∀ q ∈ clnR l 0 (stps l), isRune q ∧ ctlN q = false := clnR_ok l _ _ (stps_runes l)
theorem okL_clean (l : List UInt8) : okL (cleanL l) = true := okL_enc _ fun q hq => (clean_ok l q hq).1
theorem clean_clean (l : List UInt8) : cleanL (cleanL l) = cleanL l := by
  obtain ⟨rs, hrs⟩ : ∃ rs, rs = clnR l 0 (stps l) := ⟨_, rfl⟩
  have h := clean_ok l
  unfold cleanL
  rw [← hrs] at h ⊢
  rw [stps_enc rs fun q hq => (h q hq).1, clnR_same _ rs 0 fun q hq => (h q hq).2]
theorem encL_bytes (r : Nat) (hr : isRune r) (hc : ctlN r = false) : ∀ b ∈ encL r, b.toNat ≠ 13 ∧ 9 ≤ b.toNat ∧ b.toNat ≠ 127 := by
  intro b hb
  have hc' := of_decide_eq_false hc
  unfold isRune at hr
  unfold encL at hb
  split at hb
  · simp only [List.mem_cons, List.not_mem_nil, or_false] at hb
    rw [hb, UInt8.toNat_ofNat']
    omega
  · split at hb
    · simp only [List.mem_cons, List.not_mem_nil, or_false] at hb
      rcases hb with hb | hb <;> rw [hb, UInt8.toNat_ofNat'] <;> omega
    · split at hb
      · simp only [List.mem_cons, List.not_mem_nil, or_false] at hb
        rcases hb with hb | hb | hb <;> rw [hb, UInt8.toNat_ofNat'] <;> omega
      · simp only [List.mem_cons, List.not_mem_nil, or_false] at hb
        rcases hb with hb | hb | hb | hb <;> rw [hb, UInt8.toNat_ofNat'] <;> omega
theorem clean_bytes (l : List UInt8) : ∀ b ∈ cleanL l, b.toNat ≠ 13 ∧ 9 ≤ b.toNat ∧ b.toNat ≠ 127 := by
  intro b hb
  obtain ⟨r, hr, hb⟩ := List.mem_flatMap.1 hb
  have := clean_ok l r hr
  exact encL_bytes r this.1 this.2 b hb
theorem outR_len (l : List UInt8) (k r : Nat) : ((outR l k r).flatMap encL).length ≤ 4 := by
  have h : ∀ q, (encL q).length ≤ 4 := fun q => by rw [encL_len]; split <;> (try split) <;> (try split) <;> omega
  unfold outR
  split
  · split
    · simp
    · rw [List.flatMap_cons, List.flatMap_nil, List.append_nil]; exact h _
  · rw [List.flatMap_cons, List.flatMap_nil, List.append_nil]; exact h _
theorem clnR_len (l : List UInt8) : ∀ (t : List (Nat × Nat)) (k : Nat), ((clnR l k t).flatMap encL).length ≤ 4 * t.length
  | [], _ => by simp [clnR]
  | x :: t, k => by
    have := outR_len l (k + x.2) x.1
    have := clnR_len l t (k + x.2)
    rw [clnR, List.flatMap_append, List.length_append, List.length_cons]
    omega
theorem cleanL_len (l : List UInt8) : (cleanL l).length ≤ 4 * l.length := by
  have := clnR_len l (stps l) 0
  have := stps_len _ l (Nat.le_refl _)
  unfold cleanL
  omega
end Go.Proofs.Ytpeplejpcdadgaa
