/-
  Contracts of the small functions of nuncio/utf and of its reference.
-/
import Derived.WalkKit
import Derived.Below
import Derived.Lib.Hide
import Derived.WalkLawsBesides
import Derived.Test.YtahkfoaogcbecaaRows
import Derived.Test.YtahkfoaogcbecaaPlainUtf
import Derived.Test.YtahkfoaogcbecaaRune
namespace Go.Proofs.Ytahkfoaogcbecaa
open Go.RowKit

theorem ret_int {k : IntKind} {a b : Int} (h : a = b) : Ending.returned (.int k a) = .returned (.int k b) := by rw [h]
def lenI (b : Int) : Int := if b < 128 then 1 else if b < 194 then 0 else if b < 224 then 2 else if b < 240 then 3 else if b < 245 then 4 else 0
set_option maxHeartbeats 400000 in
theorem length_any (b : Int) (w : World) (h0 : 0 ≤ b) (h1 : b ≤ 255) :
    Calls Try.prog 33 #[.int .u8 b] w fun e w' => e = .returned (.int .i64 (lenI b)) ∧ w = w' := by
  obtain ⟨r, hr⟩ : ∃ r, r = lenI b := ⟨_, rfl⟩
  rw [← hr]
  have Hr := Lib.hid hr
  clear hr
  go_enter Try.func33, Try.ntmps33
  go_wp2
  all_goals go_ret
  all_goals refine ⟨?_, rfl⟩
  all_goals rw [Hr.out]
  all_goals refine ret_int ?_
  all_goals unfold lenI
  all_goals (repeat' split)
  all_goals omega
theorem second_any (b : Nat) (w : World) (h1 : b ≤ 255) :
    Calls Try.prog 34 #[.int .u8 (b : Int)] w fun e w' => e = .returned (.tuple #[.int .u8 (lo2 b : Nat), .int .u8 (hi2 b : Nat)]) ∧ w = w' := by
  rcases lo2_is b with ⟨rfl, hl⟩ | ⟨rfl, hl⟩ | ⟨n1, n2, hl⟩
  · have hh : hi2 224 = 191 := rfl
    rw [hl, hh]
    go_enter Try.func34, Try.ntmps34
    go_wp2
    go_ret2
    exact ⟨rfl, rfl⟩
  · have hh : hi2 240 = 191 := rfl
    rw [hl, hh]
    go_enter Try.func34, Try.ntmps34
    go_wp2
    go_ret2
    exact ⟨rfl, rfl⟩
  · have e1 : ((b : Int) == 224) = false := by simp; omega
    have e2 : ((b : Int) == 240) = false := by simp; omega
    rcases hi2_is b with ⟨rfl, hh⟩ | ⟨rfl, hh⟩ | ⟨m1, m2, hh⟩
    · rw [hl, hh]
      clear hl hh
      go_enter Try.func34, Try.ntmps34
      go_wp2
      go_ret2
      exact ⟨rfl, rfl⟩
    · rw [hl, hh]
      clear hl hh
      go_enter Try.func34, Try.ntmps34
      go_wp2
      go_ret2
      exact ⟨rfl, rfl⟩
    · have e3 : ((b : Int) == 237) = false := by simp; omega
      have e4 : ((b : Int) == 244) = false := by simp; omega
      rw [hl, hh]
      clear hl hh
      go_enter Try.func34, Try.ntmps34
      go_wp2
      go_ret2
      exact ⟨rfl, rfl⟩
end Go.Proofs.Ytahkfoaogcbecaa
