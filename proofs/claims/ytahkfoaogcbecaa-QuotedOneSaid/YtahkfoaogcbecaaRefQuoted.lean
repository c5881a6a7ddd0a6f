/-
  nuncio/nuncioref07's short, four and written.
-/
import Derived.Test.YtahkfoaogcbecaaPlainQuoted
import Derived.Test.YtahkfoaogcbecaaOctByte
import Derived.Test.YtahkfoaogcbecaaRefBytes
import Derived.Test.YtahkfoaogcbecaaPlainCut
import Derived.Below
import Derived.WalkKit
import Derived.WalkMore
import Derived.Laws.NewBlocks
import Derived.Deep.RegionHeld
namespace Go.Proofs.Ytahkfoaogcbecaa
set_option linter.unusedVariables false
set_option linter.unusedSimpArgs false
open Go.RowKit

theorem below_drewJ (B : Nat) (w : World) (n : Nat) : Below B w (w.drewN n) := ⟨rfl, rfl, rfl, Nat.le_refl _, fun _ _ => rfl⟩
def shortRow : Array Value := #[.int .i64 34, .int .i64 92, .int .i64 8, .int .i64 12, .int .i64 10, .int .i64 13, .int .i64 9]
theorem refShort_any (w : World) :
    Calls Try.prog 27 #[] w fun e w' => e = .returned (.tuple #[.slice (some ⟨w.heap.size, 0, none⟩) 7 7, .string ⟨#[34, 92, 98, 102, 110, 114, 116]⟩]) ∧ w' = w.alloc (.cells shortRow 3) := by
  go_enter Try.func27, Try.ntmps27
  go_wp2
  go_ret2
  exact ⟨rfl, rfl⟩
theorem pairOf_LJ (n : Nat) (h : n < 256) : pairOf (n : Int) = ⟨(pairL (UInt8.ofNat n)).toArray⟩ := by
  unfold pairOf pairL
  rw [show ((n : Int) / 16).toNat = n / 16 from by omega, show ((n : Int) % 16).toNat = n % 16 from by omega, show (UInt8.ofNat n).toNat = n from by simp; omega]

set_option maxHeartbeats 2000000 in
theorem refFourI_any (w : World) (n : Int) (h0 : 0 ≤ n) (hn : n < 65536) :
    Calls Try.prog 32 #[.int .i64 n] w fun e w' => e = .returned (.string (pairOf (n / 256) ++ pairOf (n % 256))) ∧ ∃ k, w' = w.drewN k := by
  have kA := fun (W : World) => refPair_any (n / 256) W (by omega) (by omega)
  have kB := fun (W : World) => refPair_any (n % 256) W (by omega) (by omega)
  have e1 : IntKind.u8.wrap (n / 256) = n / 256 := by rw [IntKind.wrap_u8]; omega
  have e2 : IntKind.u8.wrap (n % 256) = n % 256 := by rw [IntKind.wrap_u8]; omega
  have s1 : (pairOf (n / 256)).size = 2 := rfl
  have s2 : (pairOf (n % 256)).size = 2 := rfl
  have b0 : 0 ≤ n / 256 := by omega
  have b1 : n / 256 < 256 := by omega
  have b2 : 0 ≤ n % 256 := by omega
  have b3 : n % 256 < 256 := by omega
  go_enter Try.func32, Try.ntmps32
  go_wp2_with fail
  refine (kA _).mono ?_
  rintro e w2 ⟨rfl, k1, rfl⟩
  go_wp2_with fail
  refine (kB _).mono ?_
  rintro e w3 ⟨rfl, k2, rfl⟩
  go_wp2_with fail
  go_ret
  exact ⟨rfl, k1 + k2, rfl⟩
theorem refFour_any (w : World) (n : Nat) (hn : n < 65536) :
    Calls Try.prog 32 #[.int .i64 (n : Int)] w fun e w' => e = .returned (.string ⟨(fourL n).toArray⟩) ∧ ∃ k, w' = w.drewN k := by
  have h := refFourI_any w (n : Int) (by omega) (by omega)
  have hE : pairOf ((n : Int) / 256) ++ pairOf ((n : Int) % 256) = ⟨(fourL n).toArray⟩ := by
    rw [show (n : Int) / 256 = ((n / 256 : Nat) : Int) from by omega, show (n : Int) % 256 = ((n % 256 : Nat) : Int) from by omega, pairOf_LJ _ (by omega), pairOf_LJ _ (by omega)]
    exact bytes_ext (by simp [fourL])
  rw [hE] at h
  exact h

theorem shortE_is (r : Nat) : (r = 34 ∧ shortE r = some 34) ∨ (r = 92 ∧ shortE r = some 92) ∨ (r = 8 ∧ shortE r = some 98) ∨ (r = 12 ∧ shortE r = some 102) ∨ (r = 10 ∧ shortE r = some 110) ∨ (r = 13 ∧ shortE r = some 114) ∨ (r = 9 ∧ shortE r = some 116) ∨ (r ≠ 34 ∧ r ≠ 92 ∧ r ≠ 8 ∧ r ≠ 12 ∧ r ≠ 10 ∧ r ≠ 13 ∧ r ≠ 9 ∧ shortE r = none) := by
  unfold shortE
  repeat' split
  all_goals first
    | omega
    | simp_all

set_option maxRecDepth 100000 in
set_option maxHeartbeats 4000000 in
theorem refEscJ_any (w : World) (r : Nat) (hr : isRune r) :
    Calls Try.prog 22 #[.int .i64 (r : Int)] w fun e w' => e = .returned (.string ⟨(escJ r).toArray⟩) ∧ Below w.heap.size w w' := by
  have hr2 : r ≤ 1114111 := by unfold isRune at hr; omega
  have kF := fun (W : World) (h : r < 65536) => refFour_any W r h
  have kB := fun (W : World) => refBytes_any (r : Int) W (by omega) (by omega)
  rw [encode_rune r hr] at kB
  obtain ⟨E, hE⟩ : ∃ E : ByteArray, E = ⟨(escJ r).toArray⟩ := ⟨_, rfl⟩
  rw [← hE]
  unfold escJ at hE
  have kS := fun (W : World) => refShort_any W
  go_enter Try.func22, Try.ntmps22
  go_wp2_with fail
  refine (kS _).mono ?_
  rintro e w2 ⟨rfl, rfl⟩
  have c0 : (w.alloc (.cells shortRow 3)).cell? ⟨w.heap.size, 0, none⟩ = some (.int .i64 34) := by rw [World.cell?_alloc_at _ _ _ _ rfl]; rfl
  have c1 : (w.alloc (.cells shortRow 3)).cell? ⟨w.heap.size, 1, none⟩ = some (.int .i64 92) := by rw [World.cell?_alloc_at _ _ _ _ rfl]; rfl
  have c2 : (w.alloc (.cells shortRow 3)).cell? ⟨w.heap.size, 2, none⟩ = some (.int .i64 8) := by rw [World.cell?_alloc_at _ _ _ _ rfl]; rfl
  have c3 : (w.alloc (.cells shortRow 3)).cell? ⟨w.heap.size, 3, none⟩ = some (.int .i64 12) := by rw [World.cell?_alloc_at _ _ _ _ rfl]; rfl
  have c4 : (w.alloc (.cells shortRow 3)).cell? ⟨w.heap.size, 4, none⟩ = some (.int .i64 10) := by rw [World.cell?_alloc_at _ _ _ _ rfl]; rfl
  have c5 : (w.alloc (.cells shortRow 3)).cell? ⟨w.heap.size, 5, none⟩ = some (.int .i64 13) := by rw [World.cell?_alloc_at _ _ _ _ rfl]; rfl
  have c6 : (w.alloc (.cells shortRow 3)).cell? ⟨w.heap.size, 6, none⟩ = some (.int .i64 9) := by rw [World.cell?_alloc_at _ _ _ _ rfl]; rfl
  have hb2 : Below w.heap.size w (w.alloc (.cells shortRow 3)) := (Below.refl _ _).alloc (Nat.le_refl _) _
  generalize w.alloc (.cells shortRow 3) = W2 at c0 c1 c2 c3 c4 c5 c6 hb2 ⊢
  clear kS
  go_wp2_with fail
  go_loopw [5] (fun iv wr => ∃ i : Nat, iv = .int .i64 (i : Int) ∧ i ≤ 7 ∧ Hid ((1 ≤ i → r ≠ 34) ∧ (2 ≤ i → r ≠ 92) ∧ (3 ≤ i → r ≠ 8) ∧ (4 ≤ i → r ≠ 12) ∧ (5 ≤ i → r ≠ 10) ∧ (6 ≤ i → r ≠ 13) ∧ (7 ≤ i → r ≠ 9)) ∧ wr = W2) (fun iv wr => 7 - (intOf iv).toNat)
  case atStart => exact ⟨0, rfl, by omega, Lib.hid ⟨by omega, by omega, by omega, by omega, by omega, by omega, by omega⟩, rfl⟩
  case round =>
    obtain ⟨i, rfl, hi, HP, hwr⟩ := hrel
    subst hwr
    rcases (show i = 0 ∨ i = 1 ∨ i = 2 ∨ i = 3 ∨ i = 4 ∨ i = 5 ∨ i = 6 ∨ i = 7 by omega) with rfl | rfl | rfl | rfl | rfl | rfl | rfl | rfl
    · by_cases h : r = 34
      · subst h
        go_wp2
        go_ret
        exact ⟨by rw [hE]; rfl, hb2⟩
      · have e1 : ((34 : Int) == (r : Int)) = false := by rw [beq_eq_false_iff_ne]; omega
        have Hp := HP.out
        have HP2 : Hid ((1 ≤ 0 + 1 → r ≠ 34) ∧ (2 ≤ 0 + 1 → r ≠ 92) ∧ (3 ≤ 0 + 1 → r ≠ 8) ∧ (4 ≤ 0 + 1 → r ≠ 12) ∧ (5 ≤ 0 + 1 → r ≠ 10) ∧ (6 ≤ 0 + 1 → r ≠ 13) ∧ (7 ≤ 0 + 1 → r ≠ 9)) := Lib.hid ⟨by omega, by omega, by omega, by omega, by omega, by omega, by omega⟩
        clear Hp h HP
        go_wp2
        go_roundw
        case rel => exact ⟨0 + 1, by go_num, by omega, HP2, trivial⟩
        case measure => simp [intOf]
    · by_cases h : r = 92
      · subst h
        go_wp2
        go_ret
        exact ⟨by rw [hE]; rfl, hb2⟩
      · have e1 : ((92 : Int) == (r : Int)) = false := by rw [beq_eq_false_iff_ne]; omega
        have Hp := HP.out
        have HP2 : Hid ((1 ≤ 1 + 1 → r ≠ 34) ∧ (2 ≤ 1 + 1 → r ≠ 92) ∧ (3 ≤ 1 + 1 → r ≠ 8) ∧ (4 ≤ 1 + 1 → r ≠ 12) ∧ (5 ≤ 1 + 1 → r ≠ 10) ∧ (6 ≤ 1 + 1 → r ≠ 13) ∧ (7 ≤ 1 + 1 → r ≠ 9)) := Lib.hid ⟨by omega, by omega, by omega, by omega, by omega, by omega, by omega⟩
        clear Hp h HP
        go_wp2
        go_roundw
        case rel => exact ⟨1 + 1, by go_num, by omega, HP2, trivial⟩
        case measure => simp [intOf]
    · by_cases h : r = 8
      · subst h
        go_wp2
        go_ret
        exact ⟨by rw [hE]; rfl, hb2⟩
      · have e1 : ((8 : Int) == (r : Int)) = false := by rw [beq_eq_false_iff_ne]; omega
        have Hp := HP.out
        have HP2 : Hid ((1 ≤ 2 + 1 → r ≠ 34) ∧ (2 ≤ 2 + 1 → r ≠ 92) ∧ (3 ≤ 2 + 1 → r ≠ 8) ∧ (4 ≤ 2 + 1 → r ≠ 12) ∧ (5 ≤ 2 + 1 → r ≠ 10) ∧ (6 ≤ 2 + 1 → r ≠ 13) ∧ (7 ≤ 2 + 1 → r ≠ 9)) := Lib.hid ⟨by omega, by omega, by omega, by omega, by omega, by omega, by omega⟩
        clear Hp h HP
        go_wp2
        go_roundw
        case rel => exact ⟨2 + 1, by go_num, by omega, HP2, trivial⟩
        case measure => simp [intOf]
    · by_cases h : r = 12
      · subst h
        go_wp2
        go_ret
        exact ⟨by rw [hE]; rfl, hb2⟩
      · have e1 : ((12 : Int) == (r : Int)) = false := by rw [beq_eq_false_iff_ne]; omega
        have Hp := HP.out
        have HP2 : Hid ((1 ≤ 3 + 1 → r ≠ 34) ∧ (2 ≤ 3 + 1 → r ≠ 92) ∧ (3 ≤ 3 + 1 → r ≠ 8) ∧ (4 ≤ 3 + 1 → r ≠ 12) ∧ (5 ≤ 3 + 1 → r ≠ 10) ∧ (6 ≤ 3 + 1 → r ≠ 13) ∧ (7 ≤ 3 + 1 → r ≠ 9)) := Lib.hid ⟨by omega, by omega, by omega, by omega, by omega, by omega, by omega⟩
        clear Hp h HP
        go_wp2
        go_roundw
        case rel => exact ⟨3 + 1, by go_num, by omega, HP2, trivial⟩
        case measure => simp [intOf]
    · by_cases h : r = 10
      · subst h
        go_wp2
        go_ret
        exact ⟨by rw [hE]; rfl, hb2⟩
      · have e1 : ((10 : Int) == (r : Int)) = false := by rw [beq_eq_false_iff_ne]; omega
        have Hp := HP.out
        have HP2 : Hid ((1 ≤ 4 + 1 → r ≠ 34) ∧ (2 ≤ 4 + 1 → r ≠ 92) ∧ (3 ≤ 4 + 1 → r ≠ 8) ∧ (4 ≤ 4 + 1 → r ≠ 12) ∧ (5 ≤ 4 + 1 → r ≠ 10) ∧ (6 ≤ 4 + 1 → r ≠ 13) ∧ (7 ≤ 4 + 1 → r ≠ 9)) := Lib.hid ⟨by omega, by omega, by omega, by omega, by omega, by omega, by omega⟩
        clear Hp h HP
        go_wp2
        go_roundw
        case rel => exact ⟨4 + 1, by go_num, by omega, HP2, trivial⟩
        case measure => simp [intOf]
    · by_cases h : r = 13
      · subst h
        go_wp2
        go_ret
        exact ⟨by rw [hE]; rfl, hb2⟩
      · have e1 : ((13 : Int) == (r : Int)) = false := by rw [beq_eq_false_iff_ne]; omega
        have Hp := HP.out
        have HP2 : Hid ((1 ≤ 5 + 1 → r ≠ 34) ∧ (2 ≤ 5 + 1 → r ≠ 92) ∧ (3 ≤ 5 + 1 → r ≠ 8) ∧ (4 ≤ 5 + 1 → r ≠ 12) ∧ (5 ≤ 5 + 1 → r ≠ 10) ∧ (6 ≤ 5 + 1 → r ≠ 13) ∧ (7 ≤ 5 + 1 → r ≠ 9)) := Lib.hid ⟨by omega, by omega, by omega, by omega, by omega, by omega, by omega⟩
        clear Hp h HP
        go_wp2
        go_roundw
        case rel => exact ⟨5 + 1, by go_num, by omega, HP2, trivial⟩
        case measure => simp [intOf]
    · by_cases h : r = 9
      · subst h
        go_wp2
        go_ret
        exact ⟨by rw [hE]; rfl, hb2⟩
      · have e1 : ((9 : Int) == (r : Int)) = false := by rw [beq_eq_false_iff_ne]; omega
        have Hp := HP.out
        have HP2 : Hid ((1 ≤ 6 + 1 → r ≠ 34) ∧ (2 ≤ 6 + 1 → r ≠ 92) ∧ (3 ≤ 6 + 1 → r ≠ 8) ∧ (4 ≤ 6 + 1 → r ≠ 12) ∧ (5 ≤ 6 + 1 → r ≠ 10) ∧ (6 ≤ 6 + 1 → r ≠ 13) ∧ (7 ≤ 6 + 1 → r ≠ 9)) := Lib.hid ⟨by omega, by omega, by omega, by omega, by omega, by omega, by omega⟩
        clear Hp h HP
        go_wp2
        go_roundw
        case rel => exact ⟨6 + 1, by go_num, by omega, HP2, trivial⟩
        case measure => simp [intOf]
    · have Hp := HP.out
      have hno : shortE r = none := by
        rcases shortE_is r with h | h | h | h | h | h | h | h
        all_goals first
          | exact h.2.2.2.2.2.2.2
          | exact absurd h.1 (by omega)
      rw [hno] at hE
      clear Hp HP hno
      by_cases hl : longE r = true
      · rw [hl] at hE
        have hlt : r < 65536 := by
          unfold longE at hl
          simp at hl
          omega
        have kG := fun (W : World) => kF W hlt
        obtain ⟨F, hF⟩ : ∃ F : ByteArray, F = ⟨(fourL r).toArray⟩ := ⟨_, rfl⟩
        have hFs : F.size = 4 := by rw [hF]; rfl
        have hE2 : (⟨#[92, 117]⟩ : ByteArray) ++ F = E := by rw [hE, hF]; exact bytes_ext (by simp)
        rw [← hF] at kG
        have HE2 := Lib.hid hE2
        clear hE hE2 hF kF kB
        rcases (show r < 32 ∨ r = 38 ∨ r = 60 ∨ r = 62 ∨ (127 ≤ r ∧ r ≤ 159) ∨ r = 8232 ∨ r = 8233 by unfold longE at hl; simp at hl; omega) with h | h | h | h | ⟨h, h'⟩ | h | h
        all_goals try (subst h)
        all_goals clear hl
        all_goals try (
          have e38 : ((r : Int) == 38) = false := by rw [beq_eq_false_iff_ne]; omega
          have e60 : ((r : Int) == 60) = false := by rw [beq_eq_false_iff_ne]; omega
          have e62 : ((r : Int) == 62) = false := by rw [beq_eq_false_iff_ne]; omega
          have e8232 : ((r : Int) == 8232) = false := by rw [beq_eq_false_iff_ne]; omega
          have e8233 : ((r : Int) == 8233) = false := by rw [beq_eq_false_iff_ne]; omega)
        all_goals try first
          | (have d159 : decide ((r : Int) ≤ 159) = true := decide_eq_true (by omega))
        all_goals
          go_wp2_with fail
          refine (kG _).mono ?_
          rintro e w4 ⟨rfl, k4, rfl⟩
          go_wp2_with fail
          go_ret
          exact ⟨by rw [← HE2.out]; rfl, hb2.trans (below_drewJ _ _ _)⟩
      · have hl' : longE r = false := by simpa using hl
        rw [hl'] at hE
        have hq : 32 ≤ r ∧ r ≠ 38 ∧ r ≠ 60 ∧ r ≠ 62 ∧ (r < 127 ∨ 159 < r) ∧ r ≠ 8232 ∧ r ≠ 8233 := by
          unfold longE at hl'
          simp at hl'
          omega
        obtain ⟨h32, h38, h60, h62, hmid, h8232, h8233⟩ := hq
        have d32 : decide ((r : Int) < 32) = false := decide_eq_false (by omega)
        have e38 : ((r : Int) == 38) = false := by rw [beq_eq_false_iff_ne]; omega
        have e60 : ((r : Int) == 60) = false := by rw [beq_eq_false_iff_ne]; omega
        have e62 : ((r : Int) == 62) = false := by rw [beq_eq_false_iff_ne]; omega
        have e8232 : ((r : Int) == 8232) = false := by rw [beq_eq_false_iff_ne]; omega
        have e8233 : ((r : Int) == 8233) = false := by rw [beq_eq_false_iff_ne]; omega
        have HE2 := Lib.hid hE
        clear hE hl hl' h38 h60 h62 h8232 h8233 kF
        rcases hmid with h | h
        · have d127 : decide ((r : Int) ≥ 127) = false := decide_eq_false (by omega)
          go_wp2_with fail
          refine (kB _).mono ?_
          rintro e w4 ⟨rfl, hb4⟩
          go_wp2_with fail
          go_ret
          exact ⟨by rw [HE2.out]; rfl, hb2.trans (hb4.mono hb2.size)⟩
        · have d159 : decide ((r : Int) ≤ 159) = false := decide_eq_false (by omega)
          go_wp2_with fail
          refine (kB _).mono ?_
          rintro e w4 ⟨rfl, hb4⟩
          go_wp2_with fail
          go_ret
          exact ⟨by rw [HE2.out]; rfl, hb2.trans (hb4.mono hb2.size)⟩
end Go.Proofs.Ytahkfoaogcbecaa
