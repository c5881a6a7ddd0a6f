/-
  nuncio/entity: One.
-/
import Derived.Test.YtdahfgjmihffbaaEntNumber

namespace Go.Proofs.Ytdahfgjmihffbaa
set_option linter.unusedVariables false
set_option linter.unusedSimpArgs false
open Go.RowKit

/-- The reference at an offset. -/
def oneAt (s : ByteArray) (a : Int) : Option (List UInt8 × Nat) := if 0 ≤ a ∧ a ≤ (s.size : Int) then oneL (s.data.toList.drop a.toNat) else none

theorem pre_hex (l : List UInt8) : List.isPrefixOf [38, 35, 120] l = (List.isPrefixOf [38, 35] l && List.isPrefixOf [120] (l.drop 2)) := by
  rcases l with _ | ⟨a, _ | ⟨b, _ | ⟨c, r⟩⟩⟩
  · rfl
  · show (_ && false) = ((_ && false) && _)
    simp
  · show ((38 : UInt8) == a && ((35 : UInt8) == b && false)) = (((38 : UInt8) == a && ((35 : UInt8) == b && true)) && false)
    simp
  · show ((38 : UInt8) == a && ((35 : UInt8) == b && ((120 : UInt8) == c && true))) = (((38 : UInt8) == a && ((35 : UInt8) == b && true)) && ((120 : UInt8) == c && true))
    simp [Bool.and_assoc]

set_option maxRecDepth 100000 in
set_option maxHeartbeats 4000000 in
theorem one_any (w : World) (s : ByteArray) (a : Int) (hs : s.size ≤ 100000) (h0 : -9223372036854775808 ≤ a) (h1 : a ≤ 9223372036854775807) :
    Calls Try.prog 13 #[.string s, .int .i64 a] w fun e w' => e = .returned (oneV (oneAt s a)) ∧ Below w.heap.size w w' := by
  obtain ⟨R, hR⟩ : ∃ R, R = oneV (oneAt s a) := ⟨_, rfl⟩
  rw [← hR]
  unfold oneAt at hR
  have k1 := fun (W : World) => octBegins_any s ⟨#[38, 97, 109, 112, 59]⟩ a W (by omega) (by decide)
  have k2 := fun (W : World) => octBegins_any s ⟨#[38, 108, 116, 59]⟩ a W (by omega) (by decide)
  have k3 := fun (W : World) => octBegins_any s ⟨#[38, 103, 116, 59]⟩ a W (by omega) (by decide)
  have k4 := fun (W : World) => octBegins_any s ⟨#[38, 113, 117, 111, 116, 59]⟩ a W (by omega) (by decide)
  have k5 := fun (W : World) => octBegins_any s ⟨#[38, 35]⟩ a W (by omega) (by decide)
  by_cases h : 0 ≤ a ∧ a ≤ (s.size : Int)
  · rw [if_pos h] at hR
    obtain ⟨p, rfl⟩ := Int.eq_ofNat_of_zero_le h.1
    have hp : p ≤ s.size := by omega
    rw [begins_pre s _ p hp] at k1 k2 k3 k4 k5
    rw [Int.toNat_natCast] at hR
    have hsl : s.data.toList.length = s.size := rfl
    have kN := fun (W : World) (h2 : p + 2 ≤ s.size) => numbered_any W s p hs h2
    rw [show s.data.toList.drop (p + 3) = (s.data.toList.drop p).drop 3 from by rw [List.drop_drop], show s.data.toList.drop (p + 2) = (s.data.toList.drop p).drop 2 from by rw [List.drop_drop]] at kN
    have hll : (s.data.toList.drop p).length = s.size - p := by rw [List.length_drop, hsl]
    obtain ⟨l, hl⟩ : ∃ l, l = s.data.toList.drop p := ⟨_, rfl⟩
    rw [← hl] at k1 k2 k3 k4 k5 kN hR hll
    unfold oneL at hR
    rw [pre_hex] at hR
    clear hl h
    by_cases c1 : List.isPrefixOf [38, 97, 109, 112, 59] l = true
    · rw [if_pos c1] at hR
      have hR2 : R = .tuple #[.string ⟨#[38]⟩, .int .i64 5, .bool true] := hR
      subst hR2
      rw [show List.isPrefixOf (⟨#[38, 97, 109, 112, 59]⟩ : ByteArray).data.toList l = true from c1] at k1
      clear hR c1 k2 k3 k4 k5 kN hll
      go_enter Try.func13, Try.ntmps13
      go_wp2_with fail
      refine (k1 _).mono ?_
      rintro e w2 ⟨rfl, rfl⟩
      go_wp2
      go_ret3
      exact ⟨rfl, Below.refl _ _⟩
    rw [if_neg c1] at hR
    rw [show List.isPrefixOf (⟨#[38, 97, 109, 112, 59]⟩ : ByteArray).data.toList l = false from by rw [Bool.not_eq_true] at c1; exact c1] at k1
    by_cases c2 : List.isPrefixOf [38, 108, 116, 59] l = true
    · rw [if_pos c2] at hR
      have hR2 : R = .tuple #[.string ⟨#[60]⟩, .int .i64 4, .bool true] := hR
      subst hR2
      rw [show List.isPrefixOf (⟨#[38, 108, 116, 59]⟩ : ByteArray).data.toList l = true from c2] at k2
      clear hR c1 c2 k3 k4 k5 kN hll
      go_enter Try.func13, Try.ntmps13
      go_wp2_with fail
      refine (k1 _).mono ?_
      rintro e w2 ⟨rfl, rfl⟩
      go_wp2_with fail
      refine (k2 _).mono ?_
      rintro e w2 ⟨rfl, rfl⟩
      go_wp2
      go_ret3
      exact ⟨rfl, Below.refl _ _⟩
    rw [if_neg c2] at hR
    rw [show List.isPrefixOf (⟨#[38, 108, 116, 59]⟩ : ByteArray).data.toList l = false from by rw [Bool.not_eq_true] at c2; exact c2] at k2
    by_cases c3 : List.isPrefixOf [38, 103, 116, 59] l = true
    · rw [if_pos c3] at hR
      have hR2 : R = .tuple #[.string ⟨#[62]⟩, .int .i64 4, .bool true] := hR
      subst hR2
      rw [show List.isPrefixOf (⟨#[38, 103, 116, 59]⟩ : ByteArray).data.toList l = true from c3] at k3
      clear hR c1 c2 c3 k4 k5 kN hll
      go_enter Try.func13, Try.ntmps13
      go_wp2_with fail
      refine (k1 _).mono ?_
      rintro e w2 ⟨rfl, rfl⟩
      go_wp2_with fail
      refine (k2 _).mono ?_
      rintro e w2 ⟨rfl, rfl⟩
      go_wp2_with fail
      refine (k3 _).mono ?_
      rintro e w2 ⟨rfl, rfl⟩
      go_wp2
      go_ret3
      exact ⟨rfl, Below.refl _ _⟩
    rw [if_neg c3] at hR
    rw [show List.isPrefixOf (⟨#[38, 103, 116, 59]⟩ : ByteArray).data.toList l = false from by rw [Bool.not_eq_true] at c3; exact c3] at k3
    by_cases c4 : List.isPrefixOf [38, 113, 117, 111, 116, 59] l = true
    · rw [if_pos c4] at hR
      have hR2 : R = .tuple #[.string ⟨#[34]⟩, .int .i64 6, .bool true] := hR
      subst hR2
      rw [show List.isPrefixOf (⟨#[38, 113, 117, 111, 116, 59]⟩ : ByteArray).data.toList l = true from c4] at k4
      clear hR c1 c2 c3 c4 k5 kN hll
      go_enter Try.func13, Try.ntmps13
      go_wp2_with fail
      refine (k1 _).mono ?_
      rintro e w2 ⟨rfl, rfl⟩
      go_wp2_with fail
      refine (k2 _).mono ?_
      rintro e w2 ⟨rfl, rfl⟩
      go_wp2_with fail
      refine (k3 _).mono ?_
      rintro e w2 ⟨rfl, rfl⟩
      go_wp2_with fail
      refine (k4 _).mono ?_
      rintro e w2 ⟨rfl, rfl⟩
      go_wp2
      go_ret3
      exact ⟨rfl, Below.refl _ _⟩
    rw [if_neg c4] at hR
    rw [show List.isPrefixOf (⟨#[38, 113, 117, 111, 116, 59]⟩ : ByteArray).data.toList l = false from by rw [Bool.not_eq_true] at c4; exact c4] at k4
    by_cases c5 : List.isPrefixOf [38, 35] l = true
    · have h2 := pre_len c5
      have kN2 := fun (W : World) => kN W (by rw [hll] at h2; simp at h2; omega)
      have hR2 : R = oneV (if List.isPrefixOf [120] (l.drop 2) = true then refE 3 (numE 16 7 0 0 (l.drop 3)) else refE 2 (numE 10 8 0 0 (l.drop 2))) := by
        rw [hR]
        rw [c5, Bool.true_and]
        rfl
      rw [← hR2] at kN2
      rw [show List.isPrefixOf (⟨#[38, 35]⟩ : ByteArray).data.toList l = true from c5] at k5
      obtain ⟨b, n, t, hb⟩ : ∃ (b : ByteArray) (n : Nat) (t : Bool), R = .tuple #[.string b, .int .i64 (n : Int), .bool t] := by
        rw [hR2]
        split
        all_goals
          generalize refE _ _ = o
          cases o with
          | none => exact ⟨_, 0, _, rfl⟩
          | some p => exact ⟨_, _, _, rfl⟩
      subst hb
      clear hR hR2 c1 c2 c3 c4 c5 kN h2 hll
      go_enter Try.func13, Try.ntmps13
      go_wp2_with fail
      refine (k1 _).mono ?_
      rintro e w2 ⟨rfl, rfl⟩
      go_wp2_with fail
      refine (k2 _).mono ?_
      rintro e w2 ⟨rfl, rfl⟩
      go_wp2_with fail
      refine (k3 _).mono ?_
      rintro e w2 ⟨rfl, rfl⟩
      go_wp2_with fail
      refine (k4 _).mono ?_
      rintro e w2 ⟨rfl, rfl⟩
      go_wp2_with fail
      refine (k5 _).mono ?_
      rintro e w2 ⟨rfl, rfl⟩
      go_wp2_with fail
      refine (kN2 _).mono ?_
      rintro e w2 ⟨rfl, hb2⟩
      go_wp2
      go_ret3
      exact ⟨rfl, hb2⟩
    · rw [Bool.not_eq_true] at c5
      rw [c5, Bool.false_and] at hR
      have hR2 : R = .tuple #[.string ⟨#[]⟩, .int .i64 0, .bool false] := hR
      subst hR2
      rw [show List.isPrefixOf (⟨#[38, 35]⟩ : ByteArray).data.toList l = false from c5] at k5
      clear hR c1 c2 c3 c4 c5 kN hll
      go_enter Try.func13, Try.ntmps13
      go_wp2_with fail
      refine (k1 _).mono ?_
      rintro e w2 ⟨rfl, rfl⟩
      go_wp2_with fail
      refine (k2 _).mono ?_
      rintro e w2 ⟨rfl, rfl⟩
      go_wp2_with fail
      refine (k3 _).mono ?_
      rintro e w2 ⟨rfl, rfl⟩
      go_wp2_with fail
      refine (k4 _).mono ?_
      rintro e w2 ⟨rfl, rfl⟩
      go_wp2_with fail
      refine (k5 _).mono ?_
      rintro e w2 ⟨rfl, rfl⟩
      go_wp2
      go_ret3
      exact ⟨rfl, Below.refl _ _⟩
  · rw [if_neg h] at hR
    have hR2 : R = .tuple #[.string ⟨#[]⟩, .int .i64 0, .bool false] := hR
    subst hR2
    have hb : ∀ q, beginsB s q a = false := fun q => by unfold beginsB; rw [if_neg (by omega)]
    rw [hb] at k1 k2 k3 k4 k5
    clear hR h hb
    go_enter Try.func13, Try.ntmps13
    go_wp2_with fail
    refine (k1 _).mono ?_
    rintro e w2 ⟨rfl, rfl⟩
    go_wp2_with fail
    refine (k2 _).mono ?_
    rintro e w2 ⟨rfl, rfl⟩
    go_wp2_with fail
    refine (k3 _).mono ?_
    rintro e w2 ⟨rfl, rfl⟩
    go_wp2_with fail
    refine (k4 _).mono ?_
    rintro e w2 ⟨rfl, rfl⟩
    go_wp2_with fail
    refine (k5 _).mono ?_
    rintro e w2 ⟨rfl, rfl⟩
    go_wp2
    go_ret3
    exact ⟨rfl, Below.refl _ _⟩
end Go.Proofs.Ytdahfgjmihffbaa
