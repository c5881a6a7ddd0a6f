/-
  Contracts of nuncio/octet.Byte and of its reference.
-/
import Derived.Test.YtahkfoaogcbecaaOctHex
import Derived.IntWalk
namespace Go.Proofs.Ytahkfoaogcbecaa
open Go.RowKit

/-- What Byte answers. -/
def byteRes (s : ByteArray) (at_ : Int) : Value := .tuple #[.int .u8 ((byteAt s at_).getD 0), .bool (byteAt s at_).isSome]
theorem byteRes_none {s : ByteArray} {at_ : Int} (h : byteAt s at_ = none) : byteRes s at_ = .tuple #[.int .u8 0, .bool false] := by unfold byteRes; rw [h]; rfl
theorem byteRes_some {s : ByteArray} {at_ x : Int} (h : byteAt s at_ = some x) : byteRes s at_ = .tuple #[.int .u8 x, .bool true] := by unfold byteRes; rw [h]; rfl

theorem orDigits (x y : Int) (hx : 0 ≤ x ∧ x ≤ 15) (hy : 0 ≤ y ∧ y ≤ 15) : bits BinOp.or IntKind.u8 (x * 16 % 256) y = 16 * x + y := by
  obtain ⟨a, rfl⟩ := Int.eq_ofNat_of_zero_le hx.1
  obtain ⟨b, rfl⟩ := Int.eq_ofNat_of_zero_le hy.1
  have : ∀ (a b : Fin 16), bits BinOp.or IntKind.u8 (((a.1 : Nat) : Int) * 16 % 256) ((b.1 : Nat) : Int) = 16 * ((a.1 : Nat) : Int) + ((b.1 : Nat) : Int) := by decide
  exact this ⟨a, by omega⟩ ⟨b, by omega⟩

set_option maxHeartbeats 400000 in
theorem octByte_out (s : ByteArray) (at_ : Int) (w : World) (hs : s.size ≤ 9223372036854775807) (h : ¬(0 ≤ at_ ∧ at_ ≤ (s.size : Int) - 2)) :
    Calls Try.prog 42 #[.string s, .int .i64 at_] w fun e w' => e = .returned (byteRes s at_) ∧ w = w' := by
  rw [byteRes_none (byteAt_out s at_ h)]
  by_cases h0 : at_ < 0
  · go_enter Try.func42, Try.ntmps42
    go_wp2
    go_ret2
    exact ⟨rfl, rfl⟩
  · have h1 : (s.size : Int) - 2 < at_ := by omega
    clear h
    go_enter Try.func42, Try.ntmps42
    go_wp2
    go_ret2
    exact ⟨rfl, rfl⟩

set_option maxHeartbeats 400000 in
theorem octByte_in (s : ByteArray) (k : Nat) (w : World) (hs : s.size ≤ 9223372036854775807) (h0 : k < s.size) (h1 : k + 1 < s.size) :
    Calls Try.prog 42 #[.string s, .int .i64 (k : Int)] w fun e w' => e = .returned (byteRes s k) ∧ w = w' := by
  have hb := byteAt_in s k h0 h1
  have u0 : s[k].toNat ≤ 255 := by have := s[k].toNat_lt; omega
  have u1 : s[k + 1].toNat ≤ 255 := by have := s[k + 1].toNat_lt; omega
  have h2 : (k : Int) ≤ (s.size : Int) - 2 := by omega
  obtain ⟨r, hr⟩ : ∃ r, r = byteRes s k := ⟨_, rfl⟩
  rw [← hr]
  have Hr := Lib.hid hr
  have Hb := Lib.hid hb
  clear hr hb
  go_enter Try.func42, Try.ntmps42
  go_wp2_with (go_at_call 43; refine (hexValue_any _ _ (by omega) (by omega)).mono ?_; rintro e w' ⟨rfl, rfl⟩)
  all_goals go_ret2
  all_goals refine ⟨?_, rfl⟩
  all_goals rw [Hr.out]
  · have h3 : hexOk (s[k].toNat : Int) = false := by simpa using ‹(!hexOk (s[k].toNat : Int)) = true›
    rw [byteRes_none (by rw [Hb.out, if_neg (by unfold hexOk at h3; have := of_decide_eq_false h3; omega)])]
    rfl
  · have h3 : hexOk (s[k + 1].toNat : Int) = false := by simpa using ‹(!hexOk (s[k + 1].toNat : Int)) = true›
    rw [byteRes_none (by rw [Hb.out, if_neg (by unfold hexOk at h3; have := of_decide_eq_false h3; omega)])]
    rfl
  · have h3 : hexOk (s[k].toNat : Int) = true := by simpa using ‹(!hexOk (s[k].toNat : Int)) = false›
    have h4 : hexOk (s[k + 1].toNat : Int) = true := by simpa using ‹(!hexOk (s[k + 1].toNat : Int)) = false›
    unfold hexOk at h3 h4
    have h5 := of_decide_eq_true h3
    have h6 := of_decide_eq_true h4
    rw [byteRes_some (by rw [Hb.out, if_pos ⟨h5, h6⟩])]
    show Ending.returned (.tuple #[.int .u8 (bits BinOp.or IntKind.u8 (hexV (s[k].toNat : Int) * 16 % 256) (hexV (s[k + 1].toNat : Int))), .bool true]) = _
    rw [orDigits _ _ (hexV_bd _) (hexV_bd _)]
    unfold hexV
    rw [if_pos h5, if_pos h6]

set_option maxHeartbeats 400000 in
theorem octByte_any (s : ByteArray) (at_ : Int) (w : World) (hs : s.size ≤ 9223372036854775807) :
    Calls Try.prog 42 #[.string s, .int .i64 at_] w fun e w' => e = .returned (byteRes s at_) ∧ w = w' := by
  by_cases h : 0 ≤ at_ ∧ at_ ≤ (s.size : Int) - 2
  · obtain ⟨k, rfl⟩ := Int.eq_ofNat_of_zero_le h.1
    exact octByte_in s k w hs (by omega) (by omega)
  · exact octByte_out s at_ w hs h

set_option maxHeartbeats 400000 in
theorem refByte_out (s : ByteArray) (at_ : Int) (w : World) (hs : s.size ≤ 9223372036854775807) (h : ¬(0 ≤ at_ ∧ at_ ≤ (s.size : Int) - 2)) :
    Calls Try.prog 37 #[.string s, .int .i64 at_] w fun e w' => e = .returned (byteRes s at_) ∧ ∃ n, w' = w.drewN n := by
  rw [byteRes_none (byteAt_out s at_ h)]
  by_cases h0 : at_ < 0
  · go_enter Try.func37, Try.ntmps37
    go_wp2
    go_ret2
    exact ⟨rfl, 0, rfl⟩
  · have h1 : (s.size : Int) - 2 < at_ := by omega
    clear h
    go_enter Try.func37, Try.ntmps37
    go_wp2
    go_ret2
    exact ⟨rfl, 0, rfl⟩

set_option maxHeartbeats 400000 in
theorem refByte_in (s : ByteArray) (k : Nat) (w : World) (hs : s.size ≤ 9223372036854775807) (h0 : k < s.size) (h1 : k + 1 < s.size) :
    Calls Try.prog 37 #[.string s, .int .i64 (k : Int)] w fun e w' => e = .returned (byteRes s k) ∧ ∃ n, w' = w.drewN n := by
  have hb := byteAt_in s k h0 h1
  have u0 : s[k].toNat ≤ 255 := by have := s[k].toNat_lt; omega
  have u1 : s[k + 1].toNat ≤ 255 := by have := s[k + 1].toNat_lt; omega
  have h2 : (k : Int) ≤ (s.size : Int) - 2 := by omega
  have b0 := hexI_bd (s[k].toNat : Int)
  have b1 := hexI_bd (s[k + 1].toNat : Int)
  obtain ⟨r, hr⟩ : ∃ r, r = byteRes s k := ⟨_, rfl⟩
  rw [← hr]
  have Hr := Lib.hid hr
  have Hb := Lib.hid hb
  clear hr hb
  have e2 : (0 : Int) ≤ (k : Int) + 1 := by omega
  have e3 : (k : Int) + 1 < (s.size : Int) := by omega
  have e1 : IntKind.i64.wrap ((k : Int) + 1) = (k : Int) + 1 := IntWalk.i64_in _ (by omega)
  have e4 : ((k : Int) + 1).toNat = k + 1 := by omega
  by_cases c0 : 15 < hexI (s[k].toNat : Int)
  · go_enter Try.func37, Try.ntmps37
    go_wp2
    go_quiet ((go_at_call 40; exact Calls.quiet_of_same ((refDigit_any _ _ (by omega) (by omega)).mono fun _ _ ⟨a, b⟩ => ⟨a, b.symm⟩)))
    go_wp2
    go_ret2
    refine ⟨?_, _, rfl⟩
    rw [Hr.out, byteRes_none (by rw [Hb.out, if_neg (by omega)])]
    rfl
  · have c0' : hexI (s[k].toNat : Int) ≤ 15 := by omega
    by_cases c1 : 15 < hexI (s[k + 1].toNat : Int)
    · go_enter Try.func37, Try.ntmps37
      go_wp2
      go_quiet ((go_at_call 40; exact Calls.quiet_of_same ((refDigit_any _ _ (by omega) (by omega)).mono fun _ _ ⟨a, b⟩ => ⟨a, b.symm⟩)))
      go_wp2
      go_ret2
      refine ⟨?_, _, rfl⟩
      rw [Hr.out, byteRes_none (by rw [Hb.out, if_neg (by omega)])]
      rfl
    · have c1' : hexI (s[k + 1].toNat : Int) ≤ 15 := by omega
      go_enter Try.func37, Try.ntmps37
      go_wp2
      go_quiet ((go_at_call 40; exact Calls.quiet_of_same ((refDigit_any _ _ (by omega) (by omega)).mono fun _ _ ⟨a, b⟩ => ⟨a, b.symm⟩)))
      go_wp2
      go_ret2
      refine ⟨?_, _, rfl⟩
      rw [Hr.out, byteRes_some (by rw [Hb.out, if_pos (by omega)])]
      rfl

set_option maxHeartbeats 400000 in
theorem refByte_any (s : ByteArray) (at_ : Int) (w : World) (hs : s.size ≤ 9223372036854775807) :
    Calls Try.prog 37 #[.string s, .int .i64 at_] w fun e w' => e = .returned (byteRes s at_) ∧ ∃ n, w' = w.drewN n := by
  by_cases h : 0 ≤ at_ ∧ at_ ≤ (s.size : Int) - 2
  · obtain ⟨k, rfl⟩ := Int.eq_ofNat_of_zero_le h.1
    exact refByte_in s k w hs (by omega) (by omega)
  · exact refByte_out s at_ w hs h
end Go.Proofs.Ytahkfoaogcbecaa

