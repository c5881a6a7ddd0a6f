/-
  nuncio/nuncioref01's Begins, nuncio/nuncioref03's Stands and Hits.
-/
import Derived.Test.YtpgiaofkabhgkaaFindNobody
import Derived.Test.YtpgiaofkabhgkaaRefFits
import Derived.Handy
import Derived.WalkLawsBesides
import Derived.WalkSpells
namespace Go.Proofs.Ytpgiaofkabhgkaa
set_option linter.unusedVariables false
set_option linter.unusedSimpArgs false
open Go.RowKit

def beginsB (s p : ByteArray) (at_ : Int) : Bool := if 0 ≤ at_ ∧ at_ ≤ (s.size : Int) ∧ (p.size : Int) ≤ (s.size : Int) - at_ then decide (s.extract at_.toNat (at_.toNat + p.size) = p) else false

set_option maxRecDepth 100000 in
set_option maxHeartbeats 1000000 in
theorem refBegins_any (s p : ByteArray) (at_ : Int) (w : World) (hs : s.size ≤ 100000000000000) (hp : p.size ≤ 100000000000000) :
    Calls Try.prog 39 #[.string s, .string p, .int .i64 at_] w fun e w' => e = .returned (.bool (beginsB s p at_)) ∧ w = w' := by
  obtain ⟨B, hB⟩ : ∃ B, B = beginsB s p at_ := ⟨_, rfl⟩
  rw [← hB]
  have HB := Lib.hid hB
  clear hB
  by_cases c1 : at_ < 0
  · have hb : B = false := by rw [HB.out]; unfold beginsB; rw [if_neg (by omega)]
    subst hb
    go_enter Try.func39, Try.ntmps39
    go_wp2
    go_ret
    exact ⟨rfl, rfl⟩
  · have c1' : 0 ≤ at_ := by omega
    by_cases c2 : (s.size : Int) < at_
    · have hb : B = false := by rw [HB.out]; unfold beginsB; rw [if_neg (by omega)]
      subst hb
      clear c1
      go_enter Try.func39, Try.ntmps39
      go_wp2
      go_ret
      exact ⟨rfl, rfl⟩
    · have c2' : at_ ≤ (s.size : Int) := by omega
      by_cases c3 : (s.size : Int) - at_ < (p.size : Int)
      · have hb : B = false := by rw [HB.out]; unfold beginsB; rw [if_neg (by omega)]
        subst hb
        clear c1 c2
        go_enter Try.func39, Try.ntmps39
        go_wp2
        go_ret
        exact ⟨rfl, rfl⟩
      · have c3' : (p.size : Int) ≤ (s.size : Int) - at_ := by omega
        obtain ⟨k, rfl⟩ := Int.eq_ofNat_of_zero_le c1'
        have hb : B = decide (s.extract k (k + p.size) = p) := by rw [HB.out]; unfold beginsB; rw [if_pos ⟨c1', c2', c3'⟩]; simp
        have Hb := Lib.hid hb
        have hq := bytes_beq (s.extract k (k + p.size)) p
        clear c1 c2 c3 hb
        go_enter Try.func39, Try.ntmps39
        go_wp2
        go_ret
        exact ⟨by rw [Hb.out]; rfl, rfl⟩

theorem bytes_ext' {x y : ByteArray} (h : wordOf x = wordOf y) : x = y := bytes_ext h
theorem extract_word (s : ByteArray) (a n : Nat) : wordOf (s.extract a (a + n)) = ((wordOf s).drop a).take n := by
  unfold wordOf
  rw [Lib.extract_data]
  first | rfl | (congr 1; omega) | simp
theorem stand_begins (s p : ByteArray) (a : Nat) (hp : 0 < p.size) (ha : a ≤ s.size) : beginsB s p (a : Int) = standB p s a := by
  rw [Bool.eq_iff_iff]
  unfold beginsB standB
  rw [Bool.and_eq_true, decide_eq_true_eq, List.isPrefixOf_iff_prefix, List.prefix_iff_eq_take, wordOf_len, ← extract_word]
  constructor
  · intro h
    split at h
    · have h := of_decide_eq_true h
      simp only [Int.toNat_natCast] at h
      exact ⟨hp, by rw [h]⟩
    · cases h
  · rintro ⟨_, h⟩
    have hsz := congrArg List.length h
    rw [extract_word, List.length_take, List.length_drop, wordOf_len, wordOf_len] at hsz
    rw [if_pos (by omega)]
    simp only [Int.toNat_natCast]
    exact decide_eq_true (bytes_ext' h.symm)
theorem standB_none (s p : ByteArray) (a : Nat) (hp : p.size = 0) : standB p s a = false := by unfold standB; rw [hp]; rfl

set_option maxRecDepth 100000 in
set_option maxHeartbeats 1000000 in
theorem stands_any (s p : ByteArray) (a : Nat) (w : World) (hs : s.size ≤ 100000000000000) (hp : p.size ≤ 100000000000000) (ha : a ≤ s.size) :
    Calls Try.prog 29 #[.string s, .string p, .int .i64 (a : Int)] w fun e w' => e = .returned (.bool (standB p s a)) ∧ w = w' := by
  obtain ⟨B, hB⟩ : ∃ B, B = standB p s a := ⟨_, rfl⟩
  rw [← hB]
  by_cases h0 : p.size = 0
  · have hb : B = false := by rw [hB, standB_none s p a h0]
    subst hb
    clear hB
    go_enter Try.func29, Try.ntmps29
    go_wp2
    go_ret
    exact ⟨rfl, rfl⟩
  · have kb := fun W => refBegins_any s p (a : Int) W hs hp
    rw [stand_begins s p a (by omega) ha, ← hB] at kb
    have hp1 : 0 < p.size := by omega
    clear hB
    go_enter Try.func29, Try.ntmps29
    go_wp2_with (go_at_call 39; refine (kb _).mono ?_; rintro e w' ⟨rfl, rfl⟩)
    go_ret
    exact ⟨rfl, rfl⟩
end Go.Proofs.Ytpgiaofkabhgkaa
