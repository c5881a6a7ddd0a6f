/-
  nuncio/nuncioref01's Begins.
-/
import Derived.Test.YtahkfoaogcbecaaRows
import Derived.WalkKit
import Derived.Below
import Derived.Lib.Hide
import Derived.Test.YtahkfoaogcbecaaPlainCut
import Derived.Handy
import Derived.WalkLawsBesides
import Derived.WalkSpells
namespace Go.Proofs.Ytahkfoaogcbecaa
set_option linter.unusedVariables false
set_option linter.unusedSimpArgs false
open Go.RowKit

def beginsB (s p : ByteArray) (at_ : Int) : Bool := if 0 ≤ at_ ∧ at_ ≤ (s.size : Int) ∧ (p.size : Int) ≤ (s.size : Int) - at_ then decide (s.extract at_.toNat (at_.toNat + p.size) = p) else false

set_option maxRecDepth 100000 in
set_option maxHeartbeats 1000000 in
theorem refBegins_any (s p : ByteArray) (at_ : Int) (w : World) (hs : s.size ≤ 100000000000000) (hp : p.size ≤ 100000000000000) :
    Calls Try.prog 28 #[.string s, .string p, .int .i64 at_] w fun e w' => e = .returned (.bool (beginsB s p at_)) ∧ w = w' := by
  obtain ⟨B, hB⟩ : ∃ B, B = beginsB s p at_ := ⟨_, rfl⟩
  rw [← hB]
  have HB := Lib.hid hB
  clear hB
  by_cases c1 : at_ < 0
  · have hb : B = false := by rw [HB.out]; unfold beginsB; rw [if_neg (by omega)]
    subst hb
    go_enter Try.func28, Try.ntmps28
    go_wp2
    go_ret
    exact ⟨rfl, rfl⟩
  · have c1' : 0 ≤ at_ := by omega
    by_cases c2 : (s.size : Int) < at_
    · have hb : B = false := by rw [HB.out]; unfold beginsB; rw [if_neg (by omega)]
      subst hb
      clear c1
      go_enter Try.func28, Try.ntmps28
      go_wp2
      go_ret
      exact ⟨rfl, rfl⟩
    · have c2' : at_ ≤ (s.size : Int) := by omega
      by_cases c3 : (s.size : Int) - at_ < (p.size : Int)
      · have hb : B = false := by rw [HB.out]; unfold beginsB; rw [if_neg (by omega)]
        subst hb
        clear c1 c2
        go_enter Try.func28, Try.ntmps28
        go_wp2
        go_ret
        exact ⟨rfl, rfl⟩
      · have c3' : (p.size : Int) ≤ (s.size : Int) - at_ := by omega
        obtain ⟨k, rfl⟩ := Int.eq_ofNat_of_zero_le c1'
        have hb : B = decide (s.extract k (k + p.size) = p) := by rw [HB.out]; unfold beginsB; rw [if_pos ⟨c1', c2', c3'⟩]; simp
        have Hb := Lib.hid hb
        have hq := bytes_beq (s.extract k (k + p.size)) p
        clear c1 c2 c3 hb
        go_enter Try.func28, Try.ntmps28
        go_wp2
        go_ret
        exact ⟨by rw [Hb.out]; rfl, rfl⟩

theorem begins_pre (s p : ByteArray) (i : Nat) (hi : i ≤ s.size) : beginsB s p (i : Int) = p.data.toList.isPrefixOf (s.data.toList.drop i) := by
  have hsl : s.data.toList.length = s.size := rfl
  have hpl : p.data.toList.length = p.size := rfl
  rw [Bool.eq_iff_iff, List.isPrefixOf_iff_prefix, List.prefix_iff_eq_take]
  unfold beginsB
  by_cases h : (p.size : Int) ≤ (s.size : Int) - (i : Int)
  · rw [if_pos ⟨by omega, by omega, h⟩, decide_eq_true_iff]
    have e : (s.extract i (i + p.size)).data.toList = (s.data.toList.drop i).take p.data.toList.length := by
      rw [ByteArray.data_extract, Array.toList_extract, List.extract_eq_take_drop, hpl]
      congr 1
      omega
    rw [Int.toNat_natCast]
    constructor
    · intro h2
      rw [← e, h2]
    · intro h2
      exact bytes_ext (by rw [e, ← h2])
  · rw [if_neg (by omega)]
    refine ⟨(fun h2 => by cases h2), fun h2 => ?_⟩
    have := congrArg List.length h2
    rw [List.length_take, List.length_drop] at this
    omega
end Go.Proofs.Ytahkfoaogcbecaa
