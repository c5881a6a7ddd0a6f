/-
  Plain mathematics of the reference's way to read a rune: the number that so many bytes would be.
-/
import Derived.Test.YtahkfoaogcbecaaPlainUtf
namespace Go.Proofs.Ytahkfoaogcbecaa

/-- What is taken from the first byte of an encoding of so many bytes. -/
def leadN (z : Nat) : Int := if z = 2 then 192 else if z = 3 then 224 else if z = 4 then 240 else 0
/-- The number that is gathered behind so many bytes. -/
def pvN (z : Nat) (b : Nat → Nat) : Nat → Int
  | 0 => 0
  | 1 => (b 0 : Int) - leadN z
  | i + 2 => 64 * pvN z b (i + 1) + (b (i + 1) : Int) - 128
theorem leadN_bd (z : Nat) : 0 ≤ leadN z ∧ leadN z ≤ 240 := by unfold leadN; repeat' split
                                                               all_goals omega
theorem pvN_bd (z : Nat) (b : Nat → Nat) (hb : ∀ i, b i < 256) : ∀ i, 1 ≤ i → -(260 * 64 ^ (i - 1) - 3 : Int) ≤ pvN z b i ∧ pvN z b i ≤ 260 * 64 ^ (i - 1) - 3
  | 0, h => by omega
  | 1, _ => by
    have h1 := leadN_bd z
    have h2 := hb 0
    show -(260 * 64 ^ 0 - 3 : Int) ≤ (b 0 : Int) - leadN z ∧ (b 0 : Int) - leadN z ≤ 260 * 64 ^ 0 - 3
    omega
  | i + 2, _ => by
    have ih := pvN_bd z b hb (i + 1) (by omega)
    have h2 := hb (i + 1)
    rw [show i + 1 - 1 = i from by omega] at ih
    rw [show i + 2 - 1 = i + 1 from by omega, show (64 : Int) ^ (i + 1) = 64 ^ i * 64 from Int.pow_succ _ _]
    show _ ≤ 64 * pvN z b (i + 1) + (b (i + 1) : Int) - 128 ∧ 64 * pvN z b (i + 1) + (b (i + 1) : Int) - 128 ≤ _
    generalize pvN z b (i + 1) = p at *
    generalize (64 : Int) ^ i = q at *
    omega
theorem pvN_bd4 (z : Nat) (b : Nat → Nat) (hb : ∀ i, b i < 256) (i : Nat) (h1 : 1 ≤ i) (h4 : i ≤ 4) : -100000000 ≤ pvN z b i ∧ pvN z b i ≤ 100000000 := by
  have h := pvN_bd z b hb i h1
  obtain rfl | rfl | rfl | rfl : i = 1 ∨ i = 2 ∨ i = 3 ∨ i = 4 := by omega
  all_goals simp only [Nat.reduceSub, Int.reducePow] at h; omega

/-- So many bytes at the head of l are an encoding. -/
def fitsL (l : List UInt8) (z : Nat) : Prop := ∃ r : Nat, isRune r ∧ pvN z (fun j => (l.getD j 0).toNat) z = (r : Int) ∧ encL r = l.take z
theorem nx_fits {l : List UInt8} {z r : Nat} (hr : isRune r) (he : encL r = l.take z) (hz : z ≤ l.length) : nxL l = (r, z) := by
  have h := nxL_enc r (l.drop z) hr
  rw [he, List.take_append_drop, List.length_take, Nat.min_eq_left hz] at h
  exact h
theorem pv_enc (r : Nat) (t : List UInt8) (hr : isRune r) : pvN (encL r).length (fun j => ((encL r ++ t).getD j 0).toNat) (encL r).length = (r : Int) := by
  unfold isRune at hr
  rw [encL_len]
  unfold encL
  by_cases h1 : r < 128
  · rw [if_pos h1, if_pos h1]
    show (((UInt8.ofNat r).toNat : Nat) : Int) - 0 = r
    rw [UInt8.toNat_ofNat']
    omega
  · rw [if_neg h1, if_neg h1]
    by_cases h2 : r < 2048
    · rw [if_pos h2, if_pos h2]
      show 64 * ((((UInt8.ofNat (192 + r / 64)).toNat : Nat) : Int) - 192) + (((UInt8.ofNat (128 + r % 64)).toNat : Nat) : Int) - 128 = r
      simp only [UInt8.toNat_ofNat']
      omega
    · rw [if_neg h2, if_neg h2]
      by_cases h3 : r < 65536
      · rw [if_pos h3, if_pos h3]
        show 64 * (64 * ((((UInt8.ofNat (224 + r / 4096)).toNat : Nat) : Int) - 224) + (((UInt8.ofNat (128 + r / 64 % 64)).toNat : Nat) : Int) - 128) + (((UInt8.ofNat (128 + r % 64)).toNat : Nat) : Int) - 128 = r
        simp only [UInt8.toNat_ofNat']
        omega
      · rw [if_neg h3, if_neg h3]
        show 64 * (64 * (64 * ((((UInt8.ofNat (240 + r / 262144)).toNat : Nat) : Int) - 240) + (((UInt8.ofNat (128 + r / 4096 % 64)).toNat : Nat) : Int) - 128) + (((UInt8.ofNat (128 + r / 64 % 64)).toNat : Nat) : Int) - 128) + (((UInt8.ofNat (128 + r % 64)).toNat : Nat) : Int) - 128 = r
        simp only [UInt8.toNat_ofNat']
        omega
/-- Where no number of bytes fits, a bad byte stands. -/
theorem nx_none (l : List UInt8) (hne : l ≠ []) (h : ∀ z, 1 ≤ z → z ≤ 4 → z ≤ l.length → ¬ fitsL l z) : nxL l = (65533, 1) := by
  rcases enc_nxL l hne with he | ⟨he, hlen⟩
  · exact he
  · exfalso
    have hs := nxL_size l hne
    refine h (nxL l).2 hs.1 hs.2.1 hs.2.2 ⟨(nxL l).1, nxL_rune l, ?_, he⟩
    have := pv_enc (nxL l).1 (l.drop (nxL l).2) (nxL_rune l)
    rw [hlen, he, List.take_append_drop] at this
    exact this
end Go.Proofs.Ytahkfoaogcbecaa
