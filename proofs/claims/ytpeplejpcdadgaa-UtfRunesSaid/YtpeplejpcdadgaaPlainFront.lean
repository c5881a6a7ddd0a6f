/-
  Plain mathematics of a front: how many bytes the first steps take that have room.
-/
import Derived.Test.YtpeplejpcdadgaaPlainUtf
namespace Go.Proofs.Ytpeplejpcdadgaa

/-- How many bytes the steps take, from k on, that end at most at 'most'. -/
def frontLen (most : Int) : Nat → List (Nat × Nat) → Nat
  | k, [] => k
  | k, x :: t => if most < ((k + x.2 : Nat) : Int) then k else frontLen most (k + x.2) t
theorem frontLen_fit (most : Int) : ∀ (pre t : List (Nat × Nat)) (k : Nat), (((k + sumS pre : Nat) : Int) ≤ most ∨ pre = []) → frontLen most k (pre ++ t) = frontLen most (k + sumS pre) t
  | [], t, k, _ => by simp [sumS]
  | x :: pre, t, k, h => by
    have h' : ((k + sumS (x :: pre) : Nat) : Int) ≤ most := by
      rcases h with h | h
      · exact h
      · cases h
    simp only [sumS] at h'
    rw [List.cons_append, frontLen, if_neg (by omega), frontLen_fit most pre t (k + x.2) (.inl (by omega))]
    simp only [sumS]
    congr 1
    omega
theorem frontLen_stop (most : Int) (pre t : List (Nat × Nat)) (x : Nat × Nat) (h : ((sumS pre : Nat) : Int) ≤ most ∨ pre = []) (hx : most < ((sumS pre + x.2 : Nat) : Int)) : frontLen most 0 (pre ++ x :: t) = sumS pre := by
  rw [frontLen_fit most pre (x :: t) 0 (by simpa using h), frontLen, if_pos (by omega)]
  omega
theorem frontLen_all (most : Int) (pre : List (Nat × Nat)) (h : ((sumS pre : Nat) : Int) ≤ most ∨ pre = []) : frontLen most 0 pre = sumS pre := by
  have := frontLen_fit most pre [] 0 (by simpa using h)
  rw [List.append_nil] at this
  rw [this, frontLen]
  omega
theorem frontLen_le (most : Int) : ∀ (t : List (Nat × Nat)) (k : Nat), k ≤ frontLen most k t ∧ frontLen most k t ≤ k + sumS t ∧ ((frontLen most k t : Int) ≤ most ∨ frontLen most k t = k)
  | [], k => by simp [frontLen, sumS]
  | x :: t, k => by
    rw [frontLen]
    have ih := frontLen_le most t (k + x.2)
    simp only [sumS]
    split
    · exact ⟨Nat.le_refl _, by omega, .inr rfl⟩
    · refine ⟨by omega, by omega, ?_⟩
      rcases ih.2.2 with h | h
      · exact .inl h
      · left; rw [h]; omega
/-- The front ends behind a step. -/
theorem frontLen_pre (most : Int) : ∀ (t : List (Nat × Nat)) (k : Nat), ∃ a b, t = a ++ b ∧ frontLen most k t = k + sumS a
  | [], k => ⟨[], [], rfl, rfl⟩
  | x :: t, k => by
    rw [frontLen]
    split
    · exact ⟨[], x :: t, rfl, rfl⟩
    · obtain ⟨a, b, h1, h2⟩ := frontLen_pre most t (k + x.2)
      exact ⟨x :: a, b, by rw [h1]; rfl, by rw [h2]; simp only [sumS]; omega⟩
/-- A front of a text without a bad byte has none. -/
theorem front_ok (most : Int) (l : List UInt8) (h : okL l = true) : okL (l.take (frontLen most 0 (stps l))) = true := by
  obtain ⟨a, b, h1, h2⟩ := frontLen_pre most (stps l) 0
  obtain ⟨e1, e2⟩ := ok_back l h
  rw [h2, Nat.zero_add]
  rw [h1] at e1 e2
  have hl : (a.flatMap fun x => encL x.1).length = sumS a := by
    have : ∀ c : List (Nat × Nat), (∀ x ∈ c, (encL x.1).length = x.2) → (c.flatMap fun x => encL x.1).length = sumS c := by
      intro c
      induction c with
      | nil => intro _; rfl
      | cons x c ih => intro hc; rw [List.flatMap_cons, List.length_append, hc x (by simp), ih fun y hy => hc y (by simp [hy])]; rfl
    exact this a fun x hx => e2 x (by simp [hx])
  have ht : l.take (sumS a) = (a.map (·.1)).flatMap encL := by
    rw [← e1, List.flatMap_append, ← hl, List.take_left, List.flatMap_map]
  rw [ht]
  refine okL_enc _ fun r hr => ?_
  obtain ⟨x, hx, rfl⟩ := List.mem_map.1 hr
  exact stps_runes l x (by rw [h1]; simp [hx])
end Go.Proofs.Ytpeplejpcdadgaa
