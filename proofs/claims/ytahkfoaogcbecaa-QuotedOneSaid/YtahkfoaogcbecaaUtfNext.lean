/-
  The contract of nuncio/utf.Next.
-/
import Derived.BigQuiet
import Derived.Deep.QuietTactic
import Derived.IntWalk
import Derived.Laws.Bits
import Derived.Test.YtahkfoaogcbecaaUtfBytes
import Derived.Test.YtahkfoaogcbecaaNextS
namespace Go.Proofs.Ytahkfoaogcbecaa
open Go.RowKit

set_option maxHeartbeats 400000 in
set_option maxRecDepth 100000 in
theorem utfNext_out (s : ByteArray) (at_ : Int) (w : World) (_hs : s.size ≤ 9223372036854775807) (h : ¬(0 ≤ at_ ∧ at_ < (s.size : Int))) :
    Calls Try.prog 25 #[.string s, .int .i64 at_] w fun e w' => e = .returned (.tuple #[.int .i32 0, .int .i64 0]) ∧ w = w' := by
  by_cases h0 : at_ < 0
  · go_enter Try.func25, Try.ntmps25
    go_wp2
    go_ret2
    exact ⟨rfl, rfl⟩
  · have h1 : (s.size : Int) ≤ at_ := by omega
    clear h
    go_enter Try.func25, Try.ntmps25
    go_wp2
    go_ret2
    exact ⟨rfl, rfl⟩

theorem lenI_is (b : Int) : (b < 128 ∧ lenI b = 1) ∨ (128 ≤ b ∧ b < 194 ∧ lenI b = 0) ∨ (194 ≤ b ∧ b < 224 ∧ lenI b = 2) ∨ (224 ≤ b ∧ b < 240 ∧ lenI b = 3) ∨ (240 ≤ b ∧ b < 245 ∧ lenI b = 4) ∨ (245 ≤ b ∧ lenI b = 0) := by
  unfold lenI
  repeat' split
  all_goals omega

set_option maxRecDepth 100000 in
set_option maxHeartbeats 400000 in
theorem utfNext_one (s : ByteArray) (k : Nat) (w : World) (hs : s.size ≤ 9223372036854775807) (h0 : k < s.size) (h1 : lenI (s[k].toNat : Int) = 1) :
    Calls Try.prog 25 #[.string s, .int .i64 (k : Int)] w fun e w' => e = .returned (nxV (nxS s k)) ∧ w = w' := by
  have u0 : s[k].toNat ≤ 255 := by have := s[k].toNat_lt; omega
  have u1 : 0 ≤ (s[k].toNat : Int) := by omega
  have u2 : (s[k].toNat : Int) ≤ 255 := by omega
  have hr : nxV (nxS s k) = .tuple #[.int .i32 (s[k].toNat : Int), .int .i64 1] := by
    rw [nxS_dec, dec1 (by rw [← bt_at s k h0]; have := lenI_is (s[k].toNat : Int); omega), bt_at s k h0]
    rfl
  rw [hr]
  have H1 := Lib.hid h1
  have k2 : (k : Int) < (s.size : Int) := by omega
  clear hr h1
  go_enter Try.func25, Try.ntmps25
  go_wp2_with fail
  refine (length_any _ _ u1 u2).mono ?_
  rw [H1.out]
  rintro e w' ⟨rfl, rfl⟩
  go_wp2
  go_ret2
  exact ⟨rfl, rfl⟩

set_option maxRecDepth 100000 in
set_option maxHeartbeats 400000 in
theorem utfNext_short (s : ByteArray) (k : Nat) (w : World) (hs : s.size ≤ 9223372036854775807) (h0 : k < s.size) (h1 : lenI (s[k].toNat : Int) = 0 ∨ (s.size : Int) - k < lenI (s[k].toNat : Int)) :
    Calls Try.prog 25 #[.string s, .int .i64 (k : Int)] w fun e w' => e = .returned (nxV (nxS s k)) ∧ w = w' := by
  have u0 : s[k].toNat ≤ 255 := by have := s[k].toNat_lt; omega
  have u1 : 0 ≤ (s[k].toNat : Int) := by omega
  have u2 : (s[k].toNat : Int) ≤ 255 := by omega
  have hr : nxV (nxS s k) = .tuple #[.int .i32 65533, .int .i64 1] := by
    have hb := bt_at s k h0
    have hl := lenI_is (s[k].toNat : Int)
    rw [nxS_dec, dec_bad (by omega) (by omega) (by omega) (by omega)]
    rfl
  rw [hr]
  obtain ⟨L, hL⟩ : ∃ L, L = lenI (s[k].toNat : Int) := ⟨_, rfl⟩
  have HL := Lib.hid hL
  rw [← hL] at h1
  have k2 : (k : Int) < (s.size : Int) := by omega
  have l1 : L = 0 ∨ (2 ≤ L ∧ L ≤ 4 ∧ (s.size : Int) - k < L) := by
    have hl := lenI_is (s[k].toNat : Int)
    omega
  clear hr hL h1
  rcases l1 with rfl | ⟨l1, l2, l3⟩
  · go_enter Try.func25, Try.ntmps25
    go_wp2_with fail
    refine (length_any _ _ u1 u2).mono ?_
    rw [← HL.out]
    rintro e w' ⟨rfl, rfl⟩
    go_wp2
    go_ret2
    exact ⟨rfl, rfl⟩
  · have l4 : (L == 0) = false := by simp; omega
    go_enter Try.func25, Try.ntmps25
    go_wp2_with fail
    refine (length_any _ _ u1 u2).mono ?_
    rw [← HL.out]
    rintro e w' ⟨rfl, rfl⟩
    go_wp2
    go_ret2
    exact ⟨rfl, rfl⟩

/-- What Next has gathered behind j bytes of an encoding of L. -/
def accN (L : Nat) (b : Nat → Nat) : Nat → Nat
  | 0 => 0
  | 1 => b 0 % 2 ^ (7 - L)
  | j + 2 => accN L b (j + 1) * 64 + b (j + 1) % 64
def loJ (b : Nat → Nat) (j : Nat) : Nat := if j = 1 then lo2 (b 0) else 128
def hiJ (b : Nat → Nat) (j : Nat) : Nat := if j = 1 then hi2 (b 0) else 191
theorem i32Eq {a b : Int} (h : a = b) : Value.int .i32 a = .int .i32 b := by rw [h]

/-- What holds ahead of byte j of an encoding of L bytes. -/
def StepInv (L : Nat) (b : Nat → Nat) (j a l h : Nat) : Prop := 1 ≤ j ∧ a = accN L b j ∧ l = loJ b j ∧ h = hiJ b j ∧ ∀ i, 1 ≤ i → i < j → loJ b i ≤ b i ∧ b i ≤ hiJ b i
theorem accN_lt (L : Nat) (b : Nat → Nat) (hL : 2 ≤ L) : ∀ j, 1 ≤ j → accN L b j < 64 ^ j
  | 0, h => by omega
  | 1, _ => by
    have : 2 ^ (7 - L) ≤ 2 ^ 5 := Nat.pow_le_pow_right (by omega) (by omega)
    have h2 : 0 < 2 ^ (7 - L) := Nat.two_pow_pos _
    show b 0 % 2 ^ (7 - L) < 64 ^ 1
    have := Nat.mod_lt (b 0) h2
    omega
  | j + 2, _ => by
    have := accN_lt L b hL (j + 1) (by omega)
    show accN L b (j + 1) * 64 + b (j + 1) % 64 < 64 ^ (j + 2)
    rw [Nat.pow_succ]
    omega
theorem stepInv_bound {L : Nat} {b : Nat → Nat} {j a l h : Nat} (hi : StepInv L b j a l h) (hL : 2 ≤ L) (hj : j ≤ 3) : a < 262144 := by
  have h1 := accN_lt L b hL j hi.1
  have : 64 ^ j ≤ 64 ^ 3 := Nat.pow_le_pow_right (by omega) hj
  rw [hi.2.1]
  omega
theorem stepInv_next {L : Nat} {b : Nat → Nat} {j a l h : Nat} (hi : StepInv L b j a l h) (h1 : l ≤ b j) (h2 : b j ≤ h) : StepInv L b (j + 1) (a * 64 + b j % 64) 128 191 := by
  obtain ⟨i1, rfl, rfl, rfl, i5⟩ := hi
  obtain ⟨j, rfl⟩ : ∃ i, j = i + 1 := ⟨j - 1, by omega⟩
  refine ⟨by omega, rfl, by unfold loJ; rw [if_neg (by omega)], by unfold hiJ; rw [if_neg (by omega)], fun i hi hlt => ?_⟩
  by_cases he : i = j + 1
  · subst he; exact ⟨h1, h2⟩
  · exact i5 i hi (by omega)
/-- The end of an encoding: what Next has gathered is what stands there. -/
theorem stepInv_end {L n : Nat} {b : Nat → Nat} {a l h : Nat} (hi : StepInv L b L a l h) (hl : lenI (b 0 : Int) = (L : Int)) (hL : 2 ≤ L ∧ L ≤ 4) (hn : L ≤ n) (_hb : b 0 < 256) :
    dec n (b 0) (b 1) (b 2) (b 3) = (a, L) := by
  obtain ⟨i1, rfl, rfl, rfl, i5⟩ := hi
  have hs := lenI_is (b 0 : Int)
  obtain rfl | rfl | rfl : L = 2 ∨ L = 3 ∨ L = 4 := by omega
  · have h1 := i5 1 (by omega) (by omega)
    simp only [loJ, hiJ, if_true] at h1
    have := lo2_is (b 0)
    have := hi2_is (b 0)
    rw [dec2 (by omega)]
    refine Prod.ext ?_ rfl
    show _ = b 0 % 32 * 64 + b 1 % 64
    dsimp only
    omega
  · have h1 := i5 1 (by omega) (by omega)
    have h2 := i5 2 (by omega) (by omega)
    simp only [loJ, hiJ, if_true] at h1
    simp only [loJ, hiJ, show (2 : Nat) ≠ 1 from by omega, if_false] at h2
    have := lo2_is (b 0)
    have := hi2_is (b 0)
    rw [dec3 (by omega)]
    refine Prod.ext ?_ rfl
    show _ = (b 0 % 16 * 64 + b 1 % 64) * 64 + b 2 % 64
    dsimp only
    omega
  · have h1 := i5 1 (by omega) (by omega)
    have h2 := i5 2 (by omega) (by omega)
    have h3 := i5 3 (by omega) (by omega)
    simp only [loJ, hiJ, if_true] at h1
    simp only [loJ, hiJ, show (2 : Nat) ≠ 1 from by omega, if_false] at h2
    simp only [loJ, hiJ, show (3 : Nat) ≠ 1 from by omega, if_false] at h3
    have := lo2_is (b 0)
    have := hi2_is (b 0)
    rw [dec4 (by omega)]
    refine Prod.ext ?_ rfl
    show _ = ((b 0 % 8 * 64 + b 1 % 64) * 64 + b 2 % 64) * 64 + b 3 % 64
    dsimp only
    omega
/-- A byte that may not follow: a bad byte stands there. -/
theorem stepInv_bad {L n : Nat} {b : Nat → Nat} {j a l h : Nat} (hi : StepInv L b j a l h) (hl : lenI (b 0 : Int) = (L : Int)) (hL : 2 ≤ L ∧ L ≤ 4) (hj : j < L) (_hb : b 0 < 256) (hx : b j < l ∨ h < b j) :
    dec n (b 0) (b 1) (b 2) (b 3) = (65533, 1) := by
  obtain ⟨i1, rfl, rfl, rfl, i5⟩ := hi
  have hs := lenI_is (b 0 : Int)
  have := lo2_is (b 0)
  have := hi2_is (b 0)
  obtain rfl | rfl | rfl : j = 1 ∨ j = 2 ∨ j = 3 := by omega
  · simp only [loJ, hiJ, if_true] at hx
    exact dec_bad (by omega) (by omega) (by omega) (by omega)
  · simp only [loJ, hiJ, show (2 : Nat) ≠ 1 from by omega, if_false] at hx
    exact dec_bad (by omega) (by omega) (by omega) (by omega)
  · simp only [loJ, hiJ, show (3 : Nat) ≠ 1 from by omega, if_false] at hx
    exact dec_bad (by omega) (by omega) (by omega) (by omega)
theorem i32_mask (i : Nat) (hi : i ≤ 31) (x : Nat) (h : x ≤ 255) : bits BinOp.and IntKind.i32 (x : Int) (2 ^ i - 1) = ((x % 2 ^ i : Nat) : Int) := by
  rw [bits_mask .i32 31 (by decide) wraps_i32 i hi (x : Int) (by omega) (by omega)]
  simp

set_option maxRecDepth 100000 in
set_option maxHeartbeats 1000000 in
theorem utfNext_L2 (s : ByteArray) (k : Nat) (w : World) (hs : s.size ≤ 9223372036854775807) (h0 : k < s.size) (h1 : lenI (s[k].toNat : Int) = 2) (hroom : k + 2 ≤ s.size) :
    Calls Try.prog 25 #[.string s, .int .i64 (k : Int)] w fun e w' => e = .returned (nxV (nxS s k)) ∧ ∃ n, w' = w.drewN n := by
  have u0 : s[k].toNat ≤ 255 := by have := s[k].toNat_lt; omega
  have u1 : 0 ≤ (s[k].toNat : Int) := by omega
  have u2 : (s[k].toNat : Int) ≤ 255 := by omega
  obtain ⟨b, hb⟩ : ∃ b : Nat → Nat, b = fun j => bt s (k + j) := ⟨_, rfl⟩
  have hb0 : b 0 = s[k].toNat := by rw [hb, bt_at]; rfl
  have hdec : nxS s k = dec (s.size - k) (b 0) (b 1) (b 2) (b 3) := by rw [hb]; exact nxS_dec s k
  have k2 : (k : Int) < (s.size : Int) := by omega
  have k3 : decide ((k : Int) < 0) = false := by simp
  have l3 : (2 : Int) ≤ (s.size : Int) - k := by omega
  have Hd := Lib.hid hdec
  have H1 := Lib.hid h1
  have Hb := Lib.hid hb
  have Hb0 := Lib.hid hb0
  clear hb hdec h1 hb0
  obtain ⟨r, hr⟩ : ∃ r, r = nxV (nxS s k) := ⟨_, rfl⟩
  rw [← hr]
  have Hr := Lib.hid hr
  clear hr
  go_enter Try.func25, Try.ntmps25
  go_wp2_with fail
  refine (length_any _ _ u1 u2).mono ?_
  rw [H1.out]
  rintro e w' ⟨rfl, rfl⟩
  go_wp2
  go_quiet (fail)
  go_wp2_with fail
  refine (second_any _ _ u0).mono ?_
  rintro e w' ⟨rfl, rfl⟩
  go_wp2
  go_loop [4, 5, 6, 7, 8] (fun rr sz lo hi i => ∃ m a l h : Nat, k + 1 ≤ m ∧ m ≤ k + 2 ∧ i = .int .i64 (m : Int) ∧ rr = .int .i32 (a : Int) ∧ sz = .int .i64 2 ∧ lo = .int .u8 (l : Int) ∧ hi = .int .u8 (h : Int) ∧ StepInv 2 b (m - k) a l h ∧ h ≤ 255 ∧ l ≤ 255)
    (fun _ _ _ _ i => k + 2 - (intOf i).toNat)
  case atStart =>
    refine ⟨k + 1, s[k].toNat % 32, lo2 s[k].toNat, hi2 s[k].toNat, by omega, by omega, by go_num, i32Eq ?_, rfl, rfl, rfl, ?_, by have := hi2_le s[k].toNat; omega, by have := lo2_is s[k].toNat; omega⟩
    · exact i32_mask 5 (by omega) s[k].toNat u0
    · rw [show k + 1 - k = 1 from by omega]
      exact ⟨by omega, by show _ = b 0 % 32; rw [Hb0.out], by show _ = lo2 (b 0); rw [Hb0.out], by show _ = hi2 (b 0); rw [Hb0.out], fun i h1 h2 => by omega⟩
  case round =>
    obtain ⟨m, a, l, h, hm1, hm2, rfl, rfl, rfl, rfl, rfl, hinv, hh, hl⟩ := hrel
    by_cases hlt : m < k + 2
    · have hms : m < s.size := by omega
      have x0 : s[m].toNat ≤ 255 := by have := s[m].toNat_lt; omega
      have ha := stepInv_bound hinv (by omega) (by omega)
      have hbm : b (m - k) = s[m].toNat := by rw [Hb.out, bt_at s m hms]; show bt s (k + (m - k)) = _; rw [show k + (m - k) = m from by omega]
      have Hbm := Lib.hid hbm
      clear hbm
      have t1 : (m : Int) < (k : Int) + 2 := by omega
      have t2 : 0 ≤ (a : Int) * 64 := by omega
      have t3 : (a : Int) * 64 ≤ 16777216 := by omega
      by_cases c1 : s[m].toNat < l
      · go_wp2
        go_ret2
        refine ⟨?_, _, rfl⟩
        rw [Hr.out, Hd.out, stepInv_bad hinv (by rw [Hb0.out]; exact H1.out) (by omega) (by omega) (by rw [Hb0.out]; omega) (.inl (by rw [Hbm.out]; exact c1))]
        rfl
      · have c1' : l ≤ s[m].toNat := by omega
        by_cases c2 : h < s[m].toNat
        · go_wp2
          go_ret2
          refine ⟨?_, _, rfl⟩
          rw [Hr.out, Hd.out, stepInv_bad hinv (by rw [Hb0.out]; exact H1.out) (by omega) (by omega) (by rw [Hb0.out]; omega) (.inr (by rw [Hbm.out]; exact c2))]
          rfl
        · have c2' : s[m].toNat ≤ h := by omega
          go_wp2
          go_round
          case rel =>
            refine ⟨m + 1, a * 64 + s[m].toNat % 64, 128, 191, by omega, by omega, by go_num, i32Eq ?_, rfl, rfl, rfl, ?_, by omega, by omega⟩
            · omega
            · have := stepInv_next hinv (by rw [Hbm.out]; exact c1') (by rw [Hbm.out]; exact c2')
              rw [show m + 1 - k = m - k + 1 from by omega, ← Hbm.out]
              exact this
          case measure => simp [intOf]; omega
    · obtain rfl : m = k + 2 := by omega
      go_wp2
      go_ret2
      refine ⟨?_, _, rfl⟩
      rw [show k + 2 - k = 2 from by omega] at hinv
      rw [Hr.out, Hd.out, stepInv_end hinv (by rw [Hb0.out]; exact H1.out) (by omega) (by omega) (by rw [Hb0.out]; omega)]
      rfl

set_option maxRecDepth 100000 in
set_option maxHeartbeats 1000000 in
theorem utfNext_L3 (s : ByteArray) (k : Nat) (w : World) (hs : s.size ≤ 9223372036854775807) (h0 : k < s.size) (h1 : lenI (s[k].toNat : Int) = 3) (hroom : k + 3 ≤ s.size) :
    Calls Try.prog 25 #[.string s, .int .i64 (k : Int)] w fun e w' => e = .returned (nxV (nxS s k)) ∧ ∃ n, w' = w.drewN n := by
  have u0 : s[k].toNat ≤ 255 := by have := s[k].toNat_lt; omega
  have u1 : 0 ≤ (s[k].toNat : Int) := by omega
  have u2 : (s[k].toNat : Int) ≤ 255 := by omega
  obtain ⟨b, hb⟩ : ∃ b : Nat → Nat, b = fun j => bt s (k + j) := ⟨_, rfl⟩
  have hb0 : b 0 = s[k].toNat := by rw [hb, bt_at]; rfl
  have hdec : nxS s k = dec (s.size - k) (b 0) (b 1) (b 2) (b 3) := by rw [hb]; exact nxS_dec s k
  have k2 : (k : Int) < (s.size : Int) := by omega
  have k3 : decide ((k : Int) < 0) = false := by simp
  have l3 : (3 : Int) ≤ (s.size : Int) - k := by omega
  have Hd := Lib.hid hdec
  have H1 := Lib.hid h1
  have Hb := Lib.hid hb
  have Hb0 := Lib.hid hb0
  clear hb hdec h1 hb0
  obtain ⟨r, hr⟩ : ∃ r, r = nxV (nxS s k) := ⟨_, rfl⟩
  rw [← hr]
  have Hr := Lib.hid hr
  clear hr
  go_enter Try.func25, Try.ntmps25
  go_wp2_with fail
  refine (length_any _ _ u1 u2).mono ?_
  rw [H1.out]
  rintro e w' ⟨rfl, rfl⟩
  go_wp2
  go_quiet (fail)
  go_wp2_with fail
  refine (second_any _ _ u0).mono ?_
  rintro e w' ⟨rfl, rfl⟩
  go_wp2
  go_loop [4, 5, 6, 7, 8] (fun rr sz lo hi i => ∃ m a l h : Nat, k + 1 ≤ m ∧ m ≤ k + 3 ∧ i = .int .i64 (m : Int) ∧ rr = .int .i32 (a : Int) ∧ sz = .int .i64 3 ∧ lo = .int .u8 (l : Int) ∧ hi = .int .u8 (h : Int) ∧ StepInv 3 b (m - k) a l h ∧ h ≤ 255 ∧ l ≤ 255)
    (fun _ _ _ _ i => k + 3 - (intOf i).toNat)
  case atStart =>
    refine ⟨k + 1, s[k].toNat % 16, lo2 s[k].toNat, hi2 s[k].toNat, by omega, by omega, by go_num, i32Eq ?_, rfl, rfl, rfl, ?_, by have := hi2_le s[k].toNat; omega, by have := lo2_is s[k].toNat; omega⟩
    · exact i32_mask 4 (by omega) s[k].toNat u0
    · rw [show k + 1 - k = 1 from by omega]
      exact ⟨by omega, by show _ = b 0 % 16; rw [Hb0.out], by show _ = lo2 (b 0); rw [Hb0.out], by show _ = hi2 (b 0); rw [Hb0.out], fun i h1 h2 => by omega⟩
  case round =>
    obtain ⟨m, a, l, h, hm1, hm2, rfl, rfl, rfl, rfl, rfl, hinv, hh, hl⟩ := hrel
    by_cases hlt : m < k + 3
    · have hms : m < s.size := by omega
      have x0 : s[m].toNat ≤ 255 := by have := s[m].toNat_lt; omega
      have ha := stepInv_bound hinv (by omega) (by omega)
      have hbm : b (m - k) = s[m].toNat := by rw [Hb.out, bt_at s m hms]; show bt s (k + (m - k)) = _; rw [show k + (m - k) = m from by omega]
      have Hbm := Lib.hid hbm
      clear hbm
      have t1 : (m : Int) < (k : Int) + 3 := by omega
      have t2 : 0 ≤ (a : Int) * 64 := by omega
      have t3 : (a : Int) * 64 ≤ 16777216 := by omega
      by_cases c1 : s[m].toNat < l
      · go_wp2
        go_ret2
        refine ⟨?_, _, rfl⟩
        rw [Hr.out, Hd.out, stepInv_bad hinv (by rw [Hb0.out]; exact H1.out) (by omega) (by omega) (by rw [Hb0.out]; omega) (.inl (by rw [Hbm.out]; exact c1))]
        rfl
      · have c1' : l ≤ s[m].toNat := by omega
        by_cases c2 : h < s[m].toNat
        · go_wp2
          go_ret2
          refine ⟨?_, _, rfl⟩
          rw [Hr.out, Hd.out, stepInv_bad hinv (by rw [Hb0.out]; exact H1.out) (by omega) (by omega) (by rw [Hb0.out]; omega) (.inr (by rw [Hbm.out]; exact c2))]
          rfl
        · have c2' : s[m].toNat ≤ h := by omega
          go_wp2
          go_round
          case rel =>
            refine ⟨m + 1, a * 64 + s[m].toNat % 64, 128, 191, by omega, by omega, by go_num, i32Eq ?_, rfl, rfl, rfl, ?_, by omega, by omega⟩
            · omega
            · have := stepInv_next hinv (by rw [Hbm.out]; exact c1') (by rw [Hbm.out]; exact c2')
              rw [show m + 1 - k = m - k + 1 from by omega, ← Hbm.out]
              exact this
          case measure => simp [intOf]; omega
    · obtain rfl : m = k + 3 := by omega
      go_wp2
      go_ret2
      refine ⟨?_, _, rfl⟩
      rw [show k + 3 - k = 3 from by omega] at hinv
      rw [Hr.out, Hd.out, stepInv_end hinv (by rw [Hb0.out]; exact H1.out) (by omega) (by omega) (by rw [Hb0.out]; omega)]
      rfl

set_option maxRecDepth 100000 in
set_option maxHeartbeats 1000000 in
theorem utfNext_L4 (s : ByteArray) (k : Nat) (w : World) (hs : s.size ≤ 9223372036854775807) (h0 : k < s.size) (h1 : lenI (s[k].toNat : Int) = 4) (hroom : k + 4 ≤ s.size) :
    Calls Try.prog 25 #[.string s, .int .i64 (k : Int)] w fun e w' => e = .returned (nxV (nxS s k)) ∧ ∃ n, w' = w.drewN n := by
  have u0 : s[k].toNat ≤ 255 := by have := s[k].toNat_lt; omega
  have u1 : 0 ≤ (s[k].toNat : Int) := by omega
  have u2 : (s[k].toNat : Int) ≤ 255 := by omega
  obtain ⟨b, hb⟩ : ∃ b : Nat → Nat, b = fun j => bt s (k + j) := ⟨_, rfl⟩
  have hb0 : b 0 = s[k].toNat := by rw [hb, bt_at]; rfl
  have hdec : nxS s k = dec (s.size - k) (b 0) (b 1) (b 2) (b 3) := by rw [hb]; exact nxS_dec s k
  have k2 : (k : Int) < (s.size : Int) := by omega
  have k3 : decide ((k : Int) < 0) = false := by simp
  have l3 : (4 : Int) ≤ (s.size : Int) - k := by omega
  have Hd := Lib.hid hdec
  have H1 := Lib.hid h1
  have Hb := Lib.hid hb
  have Hb0 := Lib.hid hb0
  clear hb hdec h1 hb0
  obtain ⟨r, hr⟩ : ∃ r, r = nxV (nxS s k) := ⟨_, rfl⟩
  rw [← hr]
  have Hr := Lib.hid hr
  clear hr
  go_enter Try.func25, Try.ntmps25
  go_wp2_with fail
  refine (length_any _ _ u1 u2).mono ?_
  rw [H1.out]
  rintro e w' ⟨rfl, rfl⟩
  go_wp2
  go_quiet (fail)
  go_wp2_with fail
  refine (second_any _ _ u0).mono ?_
  rintro e w' ⟨rfl, rfl⟩
  go_wp2
  go_loop [4, 5, 6, 7, 8] (fun rr sz lo hi i => ∃ m a l h : Nat, k + 1 ≤ m ∧ m ≤ k + 4 ∧ i = .int .i64 (m : Int) ∧ rr = .int .i32 (a : Int) ∧ sz = .int .i64 4 ∧ lo = .int .u8 (l : Int) ∧ hi = .int .u8 (h : Int) ∧ StepInv 4 b (m - k) a l h ∧ h ≤ 255 ∧ l ≤ 255)
    (fun _ _ _ _ i => k + 4 - (intOf i).toNat)
  case atStart =>
    refine ⟨k + 1, s[k].toNat % 8, lo2 s[k].toNat, hi2 s[k].toNat, by omega, by omega, by go_num, i32Eq ?_, rfl, rfl, rfl, ?_, by have := hi2_le s[k].toNat; omega, by have := lo2_is s[k].toNat; omega⟩
    · exact i32_mask 3 (by omega) s[k].toNat u0
    · rw [show k + 1 - k = 1 from by omega]
      exact ⟨by omega, by show _ = b 0 % 8; rw [Hb0.out], by show _ = lo2 (b 0); rw [Hb0.out], by show _ = hi2 (b 0); rw [Hb0.out], fun i h1 h2 => by omega⟩
  case round =>
    obtain ⟨m, a, l, h, hm1, hm2, rfl, rfl, rfl, rfl, rfl, hinv, hh, hl⟩ := hrel
    by_cases hlt : m < k + 4
    · have hms : m < s.size := by omega
      have x0 : s[m].toNat ≤ 255 := by have := s[m].toNat_lt; omega
      have ha := stepInv_bound hinv (by omega) (by omega)
      have hbm : b (m - k) = s[m].toNat := by rw [Hb.out, bt_at s m hms]; show bt s (k + (m - k)) = _; rw [show k + (m - k) = m from by omega]
      have Hbm := Lib.hid hbm
      clear hbm
      have t1 : (m : Int) < (k : Int) + 4 := by omega
      have t2 : 0 ≤ (a : Int) * 64 := by omega
      have t3 : (a : Int) * 64 ≤ 16777216 := by omega
      by_cases c1 : s[m].toNat < l
      · go_wp2
        go_ret2
        refine ⟨?_, _, rfl⟩
        rw [Hr.out, Hd.out, stepInv_bad hinv (by rw [Hb0.out]; exact H1.out) (by omega) (by omega) (by rw [Hb0.out]; omega) (.inl (by rw [Hbm.out]; exact c1))]
        rfl
      · have c1' : l ≤ s[m].toNat := by omega
        by_cases c2 : h < s[m].toNat
        · go_wp2
          go_ret2
          refine ⟨?_, _, rfl⟩
          rw [Hr.out, Hd.out, stepInv_bad hinv (by rw [Hb0.out]; exact H1.out) (by omega) (by omega) (by rw [Hb0.out]; omega) (.inr (by rw [Hbm.out]; exact c2))]
          rfl
        · have c2' : s[m].toNat ≤ h := by omega
          go_wp2
          go_round
          case rel =>
            refine ⟨m + 1, a * 64 + s[m].toNat % 64, 128, 191, by omega, by omega, by go_num, i32Eq ?_, rfl, rfl, rfl, ?_, by omega, by omega⟩
            · omega
            · have := stepInv_next hinv (by rw [Hbm.out]; exact c1') (by rw [Hbm.out]; exact c2')
              rw [show m + 1 - k = m - k + 1 from by omega, ← Hbm.out]
              exact this
          case measure => simp [intOf]; omega
    · obtain rfl : m = k + 4 := by omega
      go_wp2
      go_ret2
      refine ⟨?_, _, rfl⟩
      rw [show k + 4 - k = 4 from by omega] at hinv
      rw [Hr.out, Hd.out, stepInv_end hinv (by rw [Hb0.out]; exact H1.out) (by omega) (by omega) (by rw [Hb0.out]; omega)]
      rfl

theorem utfNext_in (s : ByteArray) (k : Nat) (w : World) (hs : s.size ≤ 9223372036854775807) (h0 : k < s.size) :
    Calls Try.prog 25 #[.string s, .int .i64 (k : Int)] w fun e w' => e = .returned (nxV (nxS s k)) ∧ ∃ n, w' = w.drewN n := by
  have hl := lenI_is (s[k].toNat : Int)
  by_cases h1 : lenI (s[k].toNat : Int) = 1
  · exact (utfNext_one s k w hs h0 h1).mono fun _ _ ⟨a, b⟩ => ⟨a, 0, b.symm⟩
  · by_cases h2 : lenI (s[k].toNat : Int) = 0 ∨ (s.size : Int) - k < lenI (s[k].toNat : Int)
    · exact (utfNext_short s k w hs h0 h2).mono fun _ _ ⟨a, b⟩ => ⟨a, 0, b.symm⟩
    · by_cases h3 : lenI (s[k].toNat : Int) = 2
      · exact utfNext_L2 s k w hs h0 h3 (by omega)
      · by_cases h4 : lenI (s[k].toNat : Int) = 3
        · exact utfNext_L3 s k w hs h0 h4 (by omega)
        · exact utfNext_L4 s k w hs h0 (by omega) (by omega)
end Go.Proofs.Ytahkfoaogcbecaa
