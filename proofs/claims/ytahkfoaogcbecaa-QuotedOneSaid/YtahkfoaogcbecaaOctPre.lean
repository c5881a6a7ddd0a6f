/-
  The contract of nuncio/octet.Begins, for seats that reach no more of octet's cutting.
-/
import Derived.Test.YtahkfoaogcbecaaBegins
namespace Go.Proofs.Ytahkfoaogcbecaa
set_option linter.unusedVariables false
set_option linter.unusedSimpArgs false
open Go.RowKit

set_option maxHeartbeats 1000000 in
theorem octBegins_any (s p : ByteArray) (at_ : Int) (w : World) (hs : s.size ≤ 100000000000000) (hp : p.size ≤ 100000000000000) :
    Calls Try.prog 41 #[.string s, .string p, .int .i64 at_] w fun e w' => e = .returned (.bool (beginsB s p at_)) ∧ w = w' := by
  obtain ⟨B, hB⟩ : ∃ B, B = beginsB s p at_ := ⟨_, rfl⟩
  rw [← hB]
  have HB := Lib.hid hB
  clear hB
  by_cases c1 : at_ < 0
  · have hb : B = false := by rw [HB.out]; unfold beginsB; rw [if_neg (by omega)]
    subst hb
    go_enter Try.func41, Try.ntmps41
    go_wp2
    go_ret
    exact ⟨rfl, rfl⟩
  · have c1' : 0 ≤ at_ := by omega
    by_cases c2 : (s.size : Int) < at_
    · have hb : B = false := by rw [HB.out]; unfold beginsB; rw [if_neg (by omega)]
      subst hb
      clear c1
      go_enter Try.func41, Try.ntmps41
      go_wp2
      go_ret
      exact ⟨rfl, rfl⟩
    · have c2' : at_ ≤ (s.size : Int) := by omega
      by_cases c3 : (s.size : Int) - at_ < (p.size : Int)
      · have hb : B = false := by rw [HB.out]; unfold beginsB; rw [if_neg (by omega)]
        subst hb
        clear c1 c2
        go_enter Try.func41, Try.ntmps41
        go_wp2
        go_ret
        exact ⟨rfl, rfl⟩
      · have c3' : (p.size : Int) ≤ (s.size : Int) - at_ := by omega
        obtain ⟨k, rfl⟩ := Int.eq_ofNat_of_zero_le c1'
        have hb : B = decide (s.extract k (k + p.size) = p) := by rw [HB.out]; unfold beginsB; rw [if_pos ⟨c1', c2', c3'⟩]; simp
        have Hb := Lib.hid hb
        have hq := bytes_beq (s.extract k (k + p.size)) p
        clear c1 c2 c3 hb
        go_enter Try.func41, Try.ntmps41
        go_wp2
        go_ret
        exact ⟨by rw [Hb.out]; rfl, rfl⟩
end Go.Proofs.Ytahkfoaogcbecaa
