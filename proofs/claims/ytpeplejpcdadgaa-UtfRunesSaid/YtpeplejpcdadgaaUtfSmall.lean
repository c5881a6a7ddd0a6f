/-
  Contracts of the small functions of nuncio/utf and of its reference.
-/
import Derived.WalkKit
import Derived.Below
import Derived.Lib.Hide
import Derived.WalkLawsBesides
import Derived.Test.YtpeplejpcdadgaaRows
import Derived.Test.YtpeplejpcdadgaaPlainUtf
namespace Go.Proofs.Ytpeplejpcdadgaa
open Go.RowKit

theorem ret_int {k : IntKind} {a b : Int} (h : a = b) : Ending.returned (.int k a) = .returned (.int k b) := by rw [h]
def lenI (b : Int) : Int := if b < 128 then 1 else if b < 194 then 0 else if b < 224 then 2 else if b < 240 then 3 else if b < 245 then 4 else 0
set_option maxHeartbeats 400000 in
theorem length_any (b : Int) (w : World) (h0 : 0 ≤ b) (h1 : b ≤ 255) :
    Calls Try.prog 24 #[.int .u8 b] w fun e w' => e = .returned (.int .i64 (lenI b)) ∧ w = w' := by
  obtain ⟨r, hr⟩ : ∃ r, r = lenI b := ⟨_, rfl⟩
  rw [← hr]
  have Hr := Lib.hid hr
  clear hr
  go_enter Try.func24, Try.ntmps24
  go_wp2
  all_goals go_ret
  all_goals refine ⟨?_, rfl⟩
  all_goals rw [Hr.out]
  all_goals refine ret_int ?_
  all_goals unfold lenI
  all_goals (repeat' split)
  all_goals omega
theorem second_any (b : Nat) (w : World) (h1 : b ≤ 255) :
    Calls Try.prog 25 #[.int .u8 (b : Int)] w fun e w' => e = .returned (.tuple #[.int .u8 (lo2 b : Nat), .int .u8 (hi2 b : Nat)]) ∧ w = w' := by
  rcases lo2_is b with ⟨rfl, hl⟩ | ⟨rfl, hl⟩ | ⟨n1, n2, hl⟩
  · have hh : hi2 224 = 191 := rfl
    rw [hl, hh]
    go_enter Try.func25, Try.ntmps25
    go_wp2
    go_ret2
    exact ⟨rfl, rfl⟩
  · have hh : hi2 240 = 191 := rfl
    rw [hl, hh]
    go_enter Try.func25, Try.ntmps25
    go_wp2
    go_ret2
    exact ⟨rfl, rfl⟩
  · have e1 : ((b : Int) == 224) = false := by simp; omega
    have e2 : ((b : Int) == 240) = false := by simp; omega
    rcases hi2_is b with ⟨rfl, hh⟩ | ⟨rfl, hh⟩ | ⟨m1, m2, hh⟩
    · rw [hl, hh]
      clear hl hh
      go_enter Try.func25, Try.ntmps25
      go_wp2
      go_ret2
      exact ⟨rfl, rfl⟩
    · rw [hl, hh]
      clear hl hh
      go_enter Try.func25, Try.ntmps25
      go_wp2
      go_ret2
      exact ⟨rfl, rfl⟩
    · have e3 : ((b : Int) == 237) = false := by simp; omega
      have e4 : ((b : Int) == 244) = false := by simp; omega
      rw [hl, hh]
      clear hl hh
      go_enter Try.func25, Try.ntmps25
      go_wp2
      go_ret2
      exact ⟨rfl, rfl⟩

/-- Is n a rune? -/
def runeB (n : Int) : Bool := decide ((0 ≤ n ∧ n < 55296) ∨ (57343 < n ∧ n ≤ 1114111))
theorem runeB_valid (n : Int) : Utf8.valid n = runeB n := validRune_eq n

set_option maxHeartbeats 400000 in
theorem refRune_any (n : Int) (w : World) (h0 : -9223372036854775808 ≤ n) (h1 : n ≤ 9223372036854775807) :
    Calls Try.prog 14 #[.int .i64 n] w fun e w' => e = .returned (.bool (runeB n)) ∧ w = w' := by
  obtain ⟨r, hr⟩ : ∃ r, r = runeB n := ⟨_, rfl⟩
  rw [← hr]
  have Hr := Lib.hid hr
  clear hr
  by_cases a : 0 ≤ n
  · by_cases b : n ≤ 1114111
    · by_cases c : 55296 ≤ n
      · by_cases d : n ≤ 57343
        · go_enter Try.func14, Try.ntmps14
          go_wp2
          go_ret
          refine ⟨?_, rfl⟩
          rw [Hr.out, show runeB n = false from decide_eq_false (by omega)]; rfl
        · have d' : 57343 < n := by omega
          go_enter Try.func14, Try.ntmps14
          go_wp2
          go_ret
          refine ⟨?_, rfl⟩
          rw [Hr.out, show runeB n = true from decide_eq_true (by omega)]; rfl
      · have c' : n < 55296 := by omega
        go_enter Try.func14, Try.ntmps14
        go_wp2
        go_ret
        refine ⟨?_, rfl⟩
        rw [Hr.out, show runeB n = true from decide_eq_true (by omega)]; rfl
    · have b' : 1114111 < n := by omega
      go_enter Try.func14, Try.ntmps14
      go_wp2
      go_ret
      refine ⟨?_, rfl⟩
      rw [Hr.out, show runeB n = false from decide_eq_false (by omega)]; rfl
  · have a' : n < 0 := by omega
    go_enter Try.func14, Try.ntmps14
    go_wp2
    go_ret
    refine ⟨?_, rfl⟩
    rw [Hr.out, show runeB n = false from decide_eq_false (by omega)]; rfl

theorem utfBytes_any (n : Int) (w : World) :
    Calls Try.prog 12 #[.int .i32 n] w fun e w' => e = .returned (.string (Utf8.encode n)) ∧ w = w' := by
  go_enter Try.func12, Try.ntmps12
  go_wp2
  go_ret
  exact ⟨rfl, rfl⟩
end Go.Proofs.Ytpeplejpcdadgaa
