/-
  Plain lemmas: no program.
-/
import Derived.WalkKit
import Derived.Lib.Hide
import Derived.Lib.Strings
namespace Go.Proofs.Ytahkfoaogcbecaa
open Go.RowKit

/-- The upper-case hexadecimal digit of n < 16. -/
def hexU (n : Nat) : UInt8 := if n < 10 then (48 + n).toUInt8 else (55 + n).toUInt8
def hexS : ByteArray := ⟨#[48, 49, 50, 51, 52, 53, 54, 55, 56, 57, 65, 66, 67, 68, 69, 70]⟩
def pairOf (c : Int) : ByteArray := ⟨#[hexU (c / 16).toNat, hexU (c % 16).toNat]⟩
theorem hexAt (n : Int) (h0 : 0 ≤ n) (h1 : n < 16) (h : n.toNat < hexS.size) : hexS[n.toNat] = hexU n.toNat := by
  obtain ⟨k, rfl⟩ := Int.eq_ofNat_of_zero_le h0
  have hk : k < 16 := by omega
  have : ∀ k : Fin 16, hexS[k.1]'(by have := k.2; simp [hexS, ByteArray.size]) = hexU k.1 := by decide
  exact this ⟨k, hk⟩
theorem hexEx (n : Int) (h0 : 0 ≤ n) (h1 : n < 16) : hexS.extract n.toNat (n + 1).toNat = ⟨#[hexU n.toNat]⟩ := by
  obtain ⟨k, rfl⟩ := Int.eq_ofNat_of_zero_le h0
  have hk : k < 16 := by omega
  have : ∀ k : Fin 16, hexS.extract k.1 (k.1 + 1) = ⟨#[hexU k.1]⟩ := by decide
  have h2 := this ⟨k, hk⟩
  rw [show ((k : Int) + 1).toNat = k + 1 from by omega]
  exact h2
theorem pairOf_ex (c : Int) (h0 : 0 ≤ c) (h1 : c ≤ 255) : hexS.extract (c / 16).toNat (c / 16 + 1).toNat ++ hexS.extract (c % 16).toNat (c % 16 + 1).toNat = pairOf c := by
  rw [hexEx _ (by omega) (by omega), hexEx _ (by omega) (by omega)]
  rfl
theorem pairOf_at (c : Int) (h0 : 0 ≤ c) (h1 : c ≤ 255) (p : (c / 16).toNat < hexS.size) (q : (c % 16).toNat < hexS.size) : (⟨#[hexS[(c / 16).toNat], hexS[(c % 16).toNat]]⟩ : ByteArray) = pairOf c := by
  rw [hexAt _ (by omega) (by omega), hexAt _ (by omega) (by omega)]
  rfl
/-- A hexadecimal digit's number; 16: it is none. -/
def hexI (c : Int) : Int := if 48 ≤ c ∧ c ≤ 57 then c - 48 else if 65 ≤ c ∧ c ≤ 70 then c - 65 + 10 else if 97 ≤ c ∧ c ≤ 102 then c - 97 + 10 else 16
theorem hexI_bd (c : Int) : 0 ≤ hexI c ∧ hexI c ≤ 16 := by unfold hexI; split <;> (try split) <;> (try split) <;> omega
def hexOk (c : Int) : Bool := decide (hexI c < 16)
def hexV (c : Int) : Int := if hexI c < 16 then hexI c else 0
theorem hexV_bd (c : Int) : 0 ≤ hexV c ∧ hexV c ≤ 15 := by unfold hexV; have := hexI_bd c; split <;> omega
theorem hexI_U (n : Nat) (h : n < 16) : hexI ((hexU n).toNat : Int) = n := by
  have : ∀ k : Fin 16, hexI ((hexU k.1).toNat : Int) = k.1 := by decide
  exact this ⟨n, h⟩
/-- The byte whose two digits stand at offset 'at'. -/
def byteAt (s : ByteArray) (at_ : Int) : Option Int :=
  if h : 0 ≤ at_ ∧ at_ ≤ (s.size : Int) - 2 then
    if hexI ((s[at_.toNat]'(by omega)).toNat : Int) < 16 ∧ hexI ((s[at_.toNat + 1]'(by omega)).toNat : Int) < 16 then
      some (16 * hexI ((s[at_.toNat]'(by omega)).toNat : Int) + hexI ((s[at_.toNat + 1]'(by omega)).toNat : Int)) else none
  else none
theorem byteAt_out (s : ByteArray) (at_ : Int) (h : ¬(0 ≤ at_ ∧ at_ ≤ (s.size : Int) - 2)) : byteAt s at_ = none := dif_neg h
theorem byteAt_in (s : ByteArray) (k : Nat) (h0 : k < s.size) (h1 : k + 1 < s.size) : byteAt s (k : Int) = if hexI (s[k].toNat : Int) < 16 ∧ hexI (s[k + 1].toNat : Int) < 16 then some (16 * hexI (s[k].toNat : Int) + hexI (s[k + 1].toNat : Int)) else none := by
  unfold byteAt
  rw [dif_pos (by omega)]
  simp
theorem byteAt_pair (c : Int) (h0 : 0 ≤ c) (h1 : c ≤ 255) : byteAt (pairOf c) 0 = some c := by
  have e := byteAt_in (pairOf c) 0 (by simp [pairOf, ByteArray.size]) (by simp [pairOf, ByteArray.size])
  rw [show ((0 : Nat) : Int) = 0 from rfl] at e
  rw [e]
  have ea : (pairOf c)[0]'(by simp [pairOf, ByteArray.size]) = hexU (c / 16).toNat := rfl
  have eb : (pairOf c)[0 + 1]'(by simp [pairOf, ByteArray.size]) = hexU (c % 16).toNat := rfl
  rw [ea, eb, hexI_U _ (by omega), hexI_U _ (by omega), if_pos (by omega)]
  congr 1
  omega
end Go.Proofs.Ytahkfoaogcbecaa
