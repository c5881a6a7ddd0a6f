/-
  nuncio/nuncioref07's One.
-/
import Derived.Test.YtahkfoaogcbecaaRefQuotedOne
namespace Go.Proofs.Ytahkfoaogcbecaa
set_option linter.unusedVariables false
set_option linter.unusedSimpArgs false
open Go.RowKit

def oneJV : Option (Nat × Nat) → Value
  | some (r, n) => .tuple #[.int .i64 (r : Int), .int .i64 (n : Int), .bool true]
  | none => .tuple #[.int .i64 0, .int .i64 0, .bool false]
/-- What stands at an offset, wherever it lies. -/
def oneJAt (s : ByteArray) (a : Int) : Option (Nat × Nat) := if 0 ≤ a ∧ a < (s.size : Int) then oneJ (s.data.toList.drop a.toNat) else none

theorem refOneJ_out (w : World) (s : ByteArray) (a : Int) (hs : s.size ≤ 100000) (h : ¬(0 ≤ a ∧ a < (s.size : Int))) :
    Calls Try.prog 15 #[.string s, .int .i64 a] w fun e w' => e = .returned (oneJV none) ∧ w = w' := by
  by_cases h0 : a < 0
  · clear h
    go_enter Try.func15, Try.ntmps15
    go_wp2_with fail
    go_ret3
    exact ⟨rfl, rfl⟩
  · have h1 : 0 ≤ a := by omega
    have h2 : (s.size : Int) ≤ a := by omega
    clear h h0
    go_enter Try.func15, Try.ntmps15
    go_wp2_with fail
    go_ret3
    exact ⟨rfl, rfl⟩

set_option maxRecDepth 100000 in
set_option maxHeartbeats 4000000 in
theorem refOneJ_own (w : World) (s : ByteArray) (k : Nat) (hs : s.size ≤ 100000) (hlt : k < s.size) (h92 : s[k].toNat ≠ 92) :
    Calls Try.prog 15 #[.string s, .int .i64 (k : Int)] w fun e w' => e = .returned (oneJV (oneJ (s.data.toList.drop k))) ∧ Below w.heap.size w w' := by
  obtain ⟨c, hc⟩ : ∃ c, c = s[k] := ⟨_, rfl⟩
  have hc' : s[k].toNat = c.toNat := by rw [hc]
  rw [← hc] at h92
  have hdr : s.data.toList.drop k = c :: s.data.toList.drop (k + 1) := by
    rw [List.drop_eq_getElem_cons (by exact hlt), hc]
    rfl
  have kN := fun (W : World) => refNext_in s k W (by omega) hlt
  obtain ⟨R, hR⟩ : ∃ R, R = oneJ (s.data.toList.drop k) := ⟨_, rfl⟩
  rw [← hR]
  have hok := nxS_ok s k hlt
  have hnx : nxS s k = nxL (s.data.toList.drop k) := rfl
  rw [hnx] at kN hok
  rw [hdr, oneJ_own _ h92, ← hdr] at hR
  generalize nxL (s.data.toList.drop k) = x at kN hR hok
  obtain ⟨r, n⟩ := x
  have kN2 : ∀ W : World, Calls Try.prog 24 #[.string s, .int .i64 (k : Int)] W fun e w' => e = .returned (.tuple #[.int .i64 (r : Int), .int .i64 (n : Int)]) ∧ Below W.heap.size W w' := kN
  have e92 : ((c.toNat : Int) == 92) = false := by rw [beq_eq_false_iff_ne]; omega
  have f92 : ((c.toNat : Int) != 92) = true := by rw [bne, e92]; rfl
  dsimp only at hR hok
  have hr2 : r ≤ 1114111 := by have := hok.1; unfold isRune at this; omega
  clear hc hdr kN hnx h92 hok
  by_cases h32 : r < 32
  · rw [if_pos (.inl h32)] at hR
    subst hR
    have d32 : decide ((r : Int) < 32) = true := decide_eq_true (by omega)
    go_enter Try.func15, Try.ntmps15
    go_wp2_with fail
    refine (kN2 _).mono ?_
    rintro e w2 ⟨rfl, hb2⟩
    go_wp2_with fail
    go_ret3
    exact ⟨rfl, hb2⟩
  · have d32 : decide ((r : Int) < 32) = false := decide_eq_false (by omega)
    by_cases h34 : r = 34
    · rw [if_pos (.inr (.inl h34))] at hR
      subst hR
      subst h34
      clear d32 h32
      go_enter Try.func15, Try.ntmps15
      go_wp2_with fail
      refine (kN2 _).mono ?_
      rintro e w2 ⟨rfl, hb2⟩
      go_wp2_with fail
      go_ret3
      exact ⟨rfl, hb2⟩
    · have e34 : ((r : Int) == 34) = false := by rw [beq_eq_false_iff_ne]; omega
      by_cases hbad : r = 65533
      · by_cases h1 : n = 1
        · rw [if_pos (.inr (.inr ⟨hbad, h1⟩))] at hR
          subst hR
          subst hbad
          subst h1
          clear d32 h32 e34 h34
          go_enter Try.func15, Try.ntmps15
          go_wp2_with fail
          refine (kN2 _).mono ?_
          rintro e w2 ⟨rfl, hb2⟩
          go_wp2_with fail
          go_ret3
          exact ⟨rfl, hb2⟩
        · rw [if_neg (by omega)] at hR
          subst hR
          subst hbad
          have e1 : ((n : Int) == 1) = false := by rw [beq_eq_false_iff_ne]; omega
          clear d32 h32 e34 h34 h1
          go_enter Try.func15, Try.ntmps15
          go_wp2_with fail
          refine (kN2 _).mono ?_
          rintro e w2 ⟨rfl, hb2⟩
          go_wp2_with fail
          go_ret3
          exact ⟨rfl, hb2⟩
      · rw [if_neg (by omega)] at hR
        subst hR
        have e65 : ((r : Int) == 65533) = false := by rw [beq_eq_false_iff_ne]; omega
        clear h32 h34 hbad
        go_enter Try.func15, Try.ntmps15
        go_wp2_with fail
        refine (kN2 _).mono ?_
        rintro e w2 ⟨rfl, hb2⟩
        go_wp2_with fail
        go_ret3
        exact ⟨rfl, hb2⟩
end Go.Proofs.Ytahkfoaogcbecaa
