/-
  nuncio/nuncioref05's Plain and piece.
-/
import Derived.Test.YtoplcmckglglcaaPlainPrint
import Derived.Test.YtoplcmckglglcaaBegins
import Derived.Test.YtoplcmckglglcaaOctByte
namespace Go.Proofs.Ytoplcmckglglcaa
set_option linter.unusedVariables false
set_option linter.unusedSimpArgs false
open Go.RowKit

theorem conv1q (w : World) (x : UInt8) : (convert 28 9 (.slice (some ⟨w.heap.size, 0, none⟩) 1 1)).run Try.prog (w.alloc (.cells #[.int .u8 ↑x.toNat] 5)) = .ok (.string ⟨#[x]⟩) (w.alloc (.cells #[.int .u8 ↑x.toNat] 5)) := by
  have := run_convert_bytes_back (P := Try.prog) (w.alloc (.cells #[.int .u8 ↑x.toNat] 5)) 28 9 5 ⟨w.heap.size, 0, none⟩ 1 [x] Try.underlying28 Try.underlying5 Try.underlying9 ?_
  · simpa using this
  · intro j hj
    match j, hj with
    | 0, _ => simp [Addr.add]

theorem refPlain_any (w : World) (c : UInt8) : Calls Try.prog 20 #[.int .u8 (c.toNat : Int)] w fun e w' => e = .returned (.bool (plainQ c)) ∧ w = w' := by
  have hl := c.toNat_lt
  obtain ⟨R, hR⟩ : ∃ R, R = plainQ c := ⟨_, rfl⟩
  rw [← hR]
  unfold plainQ at hR
  by_cases h1 : 33 ≤ c.toNat
  · by_cases h2 : c.toNat ≤ 126
    · by_cases h3 : c.toNat = 61
      · obtain rfl : R = false := by rw [hR]; simp [h3]
        rw [h3]
        clear hR
        go_enter Try.func20, Try.ntmps20
        go_wp2
        go_ret
        exact ⟨rfl, rfl⟩
      · obtain rfl : R = true := by rw [hR]; simp [h1, h2, h3]
        have e1 : ((c.toNat : Int) == 61) = false := by rw [beq_eq_false_iff_ne]; omega
        have e2 : ((c.toNat : Int) != 61) = true := by rw [bne, e1]; rfl
        clear hR
        go_enter Try.func20, Try.ntmps20
        go_wp2
        go_ret
        exact ⟨rfl, rfl⟩
    · obtain rfl : R = false := by rw [hR]; simp [h2]
      clear hR
      go_enter Try.func20, Try.ntmps20
      go_wp2
      go_ret
      exact ⟨rfl, rfl⟩
  · obtain rfl : R = false := by rw [hR]; simp [h1]
    clear hR
    go_enter Try.func20, Try.ntmps20
    go_wp2
    go_ret
    exact ⟨rfl, rfl⟩

theorem below_drewQ (B : Nat) (w : World) (n : Nat) : Below B w (w.drewN n) := ⟨rfl, rfl, rfl, Nat.le_refl _, fun _ _ => rfl⟩
theorem goesOn_at (s : ByteArray) (i : Nat) (h : i + 1 < s.size) : goesOn (s.data.toList.drop (i + 1)) = !decide (s[i + 1].toNat = 10) := by
  rw [List.drop_eq_getElem_cons (by exact h)]
  rfl
theorem goesOn_end (s : ByteArray) (i : Nat) (h : ¬ i + 1 < s.size) : goesOn (s.data.toList.drop (i + 1)) = false := by
  rw [List.drop_eq_nil_of_le (by show s.size ≤ _; omega)]
  rfl
theorem pairOf_L (c : UInt8) : pairOf (c.toNat : Int) = ⟨(pairL c).toArray⟩ := by
  unfold pairOf pairL
  rw [show ((c.toNat : Int) / 16).toNat = c.toNat / 16 from by omega, show ((c.toNat : Int) % 16).toNat = c.toNat % 16 from by omega]

set_option maxRecDepth 100000 in
set_option maxHeartbeats 2000000 in
theorem refPiece_any (w : World) (s : ByteArray) (i : Nat) (hi : i < s.size) (hs : s.size ≤ 100000) :
    Calls Try.prog 17 #[.string s, .int .i64 (i : Int)] w fun e w' => e = .returned (.string ⟨(codeQ s[i] (s.data.toList.drop (i + 1))).toArray⟩) ∧ Below w.heap.size w w' := by
  obtain ⟨c, hc⟩ : ∃ c, c = s[i] := ⟨_, rfl⟩
  rw [← hc]
  have hc' : s[i].toNat = c.toNat := by rw [hc]
  have hl := c.toNat_lt
  obtain ⟨R, hR⟩ : ∃ R, R = codeQ c (s.data.toList.drop (i + 1)) := ⟨_, rfl⟩
  rw [← hR]
  unfold codeQ at hR
  have kP := fun (W : World) => refPlain_any W c
  have kR := fun (W : World) => refPair_any (c.toNat : Int) W (by omega) (by omega)
  have kc := fun (W : World) => conv1q W c
  clear hc
  by_cases hp : plainQ c = true
  · have hR2 : R = [c] := by rw [hR, hp]; rfl
    rw [hp] at kP
    subst hR2
    have hpl : 33 ≤ c.toNat := by unfold plainQ at hp; simp at hp; omega
    have h32 : ((c.toNat : Int) == 32) = false := by rw [beq_eq_false_iff_ne]; omega
    have h9 : ((c.toNat : Int) == 9) = false := by rw [beq_eq_false_iff_ne]; omega
    clear hR hp
    go_enter Try.func17, Try.ntmps17
    go_wp2_with fail
    refine (kP _).mono ?_
    rintro e w2 ⟨rfl, rfl⟩
    go_wp2
    go_ret
    exact ⟨rfl, (Below.refl _ _).alloc (Nat.le_refl _) _⟩
  · have hp' : plainQ c = false := by simpa using hp
    rw [hp'] at kP hR
    rw [Bool.false_or] at hR
    clear hp hp'
    by_cases hb : c.toNat = 32 ∨ c.toNat = 9
    · have hbq : blankQ c = true := by unfold blankQ; simp; omega
      rw [hbq, Bool.true_and] at hR
      by_cases hlt : i + 1 < s.size
      · rw [goesOn_at s i hlt] at hR
        obtain ⟨d, hd⟩ : ∃ d, d = s[i + 1] := ⟨_, rfl⟩
        have hd' : s[i + 1].toNat = d.toNat := by rw [hd]
        rw [← hd] at hR
        have hltI : decide ((i : Int) < (s.size : Int) - 1) = true := decide_eq_true (by omega)
        have hiI : ((i : Int) + 1).toNat = i + 1 := by omega
        clear hd
        by_cases h10 : d.toNat = 10
        · have hR2 : R = 61 :: pairL c := by rw [hR]; simp [h10]
          have hE : (⟨#[61]⟩ : ByteArray) ++ pairOf (c.toNat : Int) = ⟨R.toArray⟩ := by rw [pairOf_L, hR2]; exact bytes_ext (by simp)
          rw [h10] at hd'
          clear hR hR2 hbq h10
          rcases hb with hb | hb
          all_goals
            rw [hb] at hc' kP kR kc hE
            go_enter Try.func17, Try.ntmps17
            go_wp2_with fail
            refine (kP _).mono ?_
            rintro e w2 ⟨rfl, rfl⟩
            go_wp2_with fail
            refine (kR _).mono ?_
            rintro e w3 ⟨rfl, n, rfl⟩
            go_wp2
            go_ret
            exact ⟨by rw [← hE]; rfl, below_drewQ _ _ _⟩
        · have hR2 : R = [c] := by rw [hR]; simp [h10]
          have e10 : ((d.toNat : Int) == 10) = false := by rw [beq_eq_false_iff_ne]; omega
          have f10 : ((d.toNat : Int) != 10) = true := by rw [bne, e10]; rfl
          subst hR2
          clear hR hbq h10
          rcases hb with hb | hb
          all_goals
            rw [hb] at hc' kP kR kc
            simp only [Int.cast_ofNat_Int] at kc
            go_enter Try.func17, Try.ntmps17
            go_wp2_with fail
            refine (kP _).mono ?_
            rintro e w2 ⟨rfl, rfl⟩
            go_wp2
            go_ret
            exact ⟨rfl, (Below.refl _ _).alloc (Nat.le_refl _) _⟩
      · rw [goesOn_end s i hlt] at hR
        have hR2 : R = 61 :: pairL c := hR
        have hltI : decide ((i : Int) < (s.size : Int) - 1) = false := decide_eq_false (by omega)
        have hE : (⟨#[61]⟩ : ByteArray) ++ pairOf (c.toNat : Int) = ⟨R.toArray⟩ := by rw [pairOf_L, hR2]; exact bytes_ext (by simp)
        clear hR hR2 hbq
        rcases hb with hb | hb
        all_goals
          rw [hb] at hc' kP kR kc hE
          go_enter Try.func17, Try.ntmps17
          go_wp2_with fail
          refine (kP _).mono ?_
          rintro e w2 ⟨rfl, rfl⟩
          go_wp2_with fail
          refine (kR _).mono ?_
          rintro e w3 ⟨rfl, n, rfl⟩
          go_wp2
          go_ret
          exact ⟨by rw [← hE]; rfl, below_drewQ _ _ _⟩
    · have hbq : blankQ c = false := by unfold blankQ; simp; omega
      rw [hbq] at hR
      have hR2 : R = 61 :: pairL c := hR
      have hE : (⟨#[61]⟩ : ByteArray) ++ pairOf (c.toNat : Int) = ⟨R.toArray⟩ := by rw [pairOf_L, hR2]; exact bytes_ext (by simp)
      have h32 : ((c.toNat : Int) == 32) = false := by rw [beq_eq_false_iff_ne]; omega
      have h9 : ((c.toNat : Int) == 9) = false := by rw [beq_eq_false_iff_ne]; omega
      clear hR hR2 hbq hb
      go_enter Try.func17, Try.ntmps17
      go_wp2_with fail
      refine (kP _).mono ?_
      rintro e w2 ⟨rfl, rfl⟩
      go_wp2_with fail
      refine (kR _).mono ?_
      rintro e w3 ⟨rfl, n, rfl⟩
      go_wp2
      go_ret
      exact ⟨by rw [← hE]; rfl, below_drewQ _ _ _⟩
end Go.Proofs.Ytoplcmckglglcaa
