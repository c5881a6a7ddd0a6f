/-
  nuncio/nuncioref06's digit and numbered.
-/
import Derived.Test.YtdahfgjmihffbaaRefWritten
import Derived.IntWalk
namespace Go.Proofs.Ytdahfgjmihffbaa
set_option linter.unusedVariables false
set_option linter.unusedSimpArgs false
open Go.RowKit

def digI (c b : Nat) : Int := match digE c b with
  | none => -1
  | some d => (d : Int)
theorem digE_lo {c b : Nat} (h : 48 ≤ c ∧ c ≤ 57) : digE c b = if c - 48 < b then some (c - 48) else none := by unfold digE; rw [if_pos h]
theorem digE_up {c b : Nat} (h : 65 ≤ c ∧ c ≤ 70) : digE c b = if c - 65 + 10 < b then some (c - 65 + 10) else none := by unfold digE; rw [if_neg (show ¬(48 ≤ c ∧ c ≤ 57) by omega), if_pos h]
theorem digE_sm {c b : Nat} (h : 97 ≤ c ∧ c ≤ 102) : digE c b = if c - 97 + 10 < b then some (c - 97 + 10) else none := by unfold digE; rw [if_neg (show ¬(48 ≤ c ∧ c ≤ 57) by omega), if_neg (show ¬(65 ≤ c ∧ c ≤ 70) by omega), if_pos h]
theorem digE_no {c b : Nat} (hb : b ≤ 16) (h1 : ¬(48 ≤ c ∧ c ≤ 57)) (h2 : ¬(65 ≤ c ∧ c ≤ 70)) (h3 : ¬(97 ≤ c ∧ c ≤ 102)) : digE c b = none := by unfold digE; rw [if_neg h1, if_neg h2, if_neg h3]; exact if_neg (by omega)
theorem digE_lt {c b d : Nat} (h : digE c b = some d) : d < b := by
  unfold digE at h
  simp only at h
  split at h
  all_goals (split at h <;> simp at h <;> omega)

set_option maxRecDepth 100000 in
set_option maxHeartbeats 2000000 in
theorem refDigit_any (w : World) (c b : Nat) (hc : c ≤ 255) (hb : b ≤ 16) (hb1 : 1 ≤ b) :
    Calls Try.prog 26 #[.int .u8 (c : Int), .int .i64 (b : Int)] w fun e w' => e = .returned (.int .i64 (digI c b)) ∧ w = w' := by
  obtain ⟨D, hD⟩ : ∃ D, D = digI c b := ⟨_, rfl⟩
  rw [← hD]
  unfold digI at hD
  by_cases h48 : c < 48
  · rw [digE_no hb (by omega) (by omega) (by omega)] at hD
    have hD2 : D = -1 := hD
    clear hD
    go_enter Try.func26, Try.ntmps26
    go_wp2
    go_ret
    exact ⟨by first | rfl | (rw [hD2]; rfl), rfl⟩
  by_cases h58 : c < 58
  · rw [digE_lo ⟨by omega, by omega⟩] at hD
    by_cases hd : c - 48 < b
    · rw [if_pos hd] at hD
      have hge : decide ((c : Int) - 48 ≥ (b : Int)) = false := decide_eq_false (by omega)
      have hD2 : D = (c : Int) - 48 := by rw [hD]; show ((c - 48 : Nat) : Int) = _; omega
      clear hD hd
      go_enter Try.func26, Try.ntmps26
      go_wp2
      go_ret
      exact ⟨by first | rfl | (rw [hD2]; rfl), rfl⟩
    · rw [if_neg hd] at hD
      have hge : decide ((c : Int) - 48 ≥ (b : Int)) = true := decide_eq_true (by omega)
      have hD2 : D = -1 := hD
      clear hD hd
      go_enter Try.func26, Try.ntmps26
      go_wp2
      go_ret
      exact ⟨by first | rfl | (rw [hD2]; rfl), rfl⟩
  by_cases h65 : c < 65
  · rw [digE_no hb (by omega) (by omega) (by omega)] at hD
    have hD2 : D = -1 := hD
    clear hD
    go_enter Try.func26, Try.ntmps26
    go_wp2
    go_ret
    exact ⟨by first | rfl | (rw [hD2]; rfl), rfl⟩
  by_cases h71 : c < 71
  · rw [digE_up ⟨by omega, by omega⟩] at hD
    by_cases hd : c - 65 + 10 < b
    · rw [if_pos hd] at hD
      have hge : decide ((c : Int) - 65 + 10 ≥ (b : Int)) = false := decide_eq_false (by omega)
      have hD2 : D = (c : Int) - 65 + 10 := by rw [hD]; show ((c - 65 + 10 : Nat) : Int) = _; omega
      clear hD hd
      go_enter Try.func26, Try.ntmps26
      go_wp2
      go_ret
      exact ⟨by first | rfl | (rw [hD2]; rfl), rfl⟩
    · rw [if_neg hd] at hD
      have hge : decide ((c : Int) - 65 + 10 ≥ (b : Int)) = true := decide_eq_true (by omega)
      have hD2 : D = -1 := hD
      clear hD hd
      go_enter Try.func26, Try.ntmps26
      go_wp2
      go_ret
      exact ⟨by first | rfl | (rw [hD2]; rfl), rfl⟩
  by_cases h97 : c < 97
  · rw [digE_no hb (by omega) (by omega) (by omega)] at hD
    have hD2 : D = -1 := hD
    clear hD
    go_enter Try.func26, Try.ntmps26
    go_wp2
    go_ret
    exact ⟨by first | rfl | (rw [hD2]; rfl), rfl⟩
  by_cases h103 : c < 103
  · rw [digE_sm ⟨by omega, by omega⟩] at hD
    by_cases hd : c - 97 + 10 < b
    · rw [if_pos hd] at hD
      have hge : decide ((c : Int) - 97 + 10 ≥ (b : Int)) = false := decide_eq_false (by omega)
      have hD2 : D = (c : Int) - 97 + 10 := by rw [hD]; show ((c - 97 + 10 : Nat) : Int) = _; omega
      clear hD hd
      go_enter Try.func26, Try.ntmps26
      go_wp2
      go_ret
      exact ⟨by first | rfl | (rw [hD2]; rfl), rfl⟩
    · rw [if_neg hd] at hD
      have hge : decide ((c : Int) - 97 + 10 ≥ (b : Int)) = true := decide_eq_true (by omega)
      have hD2 : D = -1 := hD
      clear hD hd
      go_enter Try.func26, Try.ntmps26
      go_wp2
      go_ret
      exact ⟨by first | rfl | (rw [hD2]; rfl), rfl⟩
  rw [digE_no hb (by omega) (by omega) (by omega)] at hD
  have hD2 : D = -1 := hD
  clear hD
  go_enter Try.func26, Try.ntmps26
  go_wp2
  go_ret
  exact ⟨by first | rfl | (rw [hD2]; rfl), rfl⟩
def numV (p : Nat × Nat) : Value := .tuple #[.int .i64 (p.1 : Int), .int .i64 (p.2 : Int)]
theorem pow_step {n b d i : Nat} (h : n + 1 ≤ 16 ^ i) (hb : b ≤ 16) (hd : d < b) : n * b + d + 1 ≤ 16 ^ (i + 1) := by
  have h1 : n * b ≤ n * 16 := Nat.mul_le_mul_left n hb
  rw [Nat.pow_succ]
  omega
theorem pow_bd {n i : Nat} (h : n + 1 ≤ 16 ^ i) (hi : i ≤ 8) : n ≤ 4294967296 := by
  have : 16 ^ i ≤ 16 ^ 8 := Nat.pow_le_pow_right (by decide) hi
  have e : 16 ^ 8 = 4294967296 := by decide
  omega

set_option maxRecDepth 100000 in
set_option maxHeartbeats 4000000 in
theorem refNumbered_hex (w : World) (s : ByteArray) (hs : s.size ≤ 100000) :
    Calls Try.prog 20 #[.string s, .int .i64 16, .int .i64 6] w fun e w' => e = .returned (numV (numE 16 7 0 0 s.data.toList)) ∧ w = w' := by
  obtain ⟨R, hR⟩ : ∃ R, R = numE 16 7 0 0 s.data.toList := ⟨_, rfl⟩
  rw [← hR]
  have HR := Lib.hid hR
  clear hR
  have zz : numV (0, 0) = .tuple #[.int .i64 0, .int .i64 0] := rfl
  go_enter Try.func20, Try.ntmps20
  go_wp2
  go_loopw [8, 9] (fun nv iv wr => ∃ n i : Nat, nv = .int .i64 (n : Int) ∧ iv = .int .i64 (i : Int) ∧ i ≤ s.size ∧ i ≤ 7 ∧ n ≤ 4294967296 ∧ Hid (n + 1 ≤ 16 ^ i) ∧ Hid (R = numE 16 (7 - i) i n (s.data.toList.drop i)) ∧ wr = w) (fun nv iv wr => s.size - (intOf iv).toNat)
  case atStart => exact ⟨0, 0, rfl, rfl, Nat.zero_le _, Nat.zero_le _, by omega, Lib.hid (by decide), HR, rfl⟩
  case round =>
    obtain ⟨n, i, rfl, rfl, hi, hk, hn, Hn, HR2, rfl⟩ := hrel
    by_cases hlt : i < s.size
    · by_cases hik : i < 7
      · obtain ⟨c, hc⟩ : ∃ c, c = s[i] := ⟨_, rfl⟩
        have hc' : s[i].toNat = c.toNat := by rw [hc]
        have hcl := c.toNat_lt
        have hdr : s.data.toList.drop i = c :: s.data.toList.drop (i + 1) := by
          rw [List.drop_eq_getElem_cons (by exact hlt), hc]
          rfl
        have hR2 := HR2.out
        rw [hdr, show 7 - i = (7 - (i + 1)) + 1 from by omega, numE] at hR2
        have hle : decide ((i : Int) ≤ 6) = true := decide_eq_true (by omega)
        clear HR2 hc hdr
        by_cases h59 : c.toNat = 59 ∧ 0 < i
        · rw [if_pos h59] at hR2
          have e59 : ((c.toNat : Int) == 59) = true := by rw [beq_iff_eq]; omega
          have g0 : decide ((i : Int) > 0) = true := decide_eq_true (by omega)
          have HR3 := Lib.hid hR2
          clear hR2
          go_wp2
          go_ret2
          refine ⟨?_, rfl⟩
          rw [HR3.out]
          unfold numV
          rw [show ((i + 1 : Nat) : Int) = (i : Int) + 1 from by omega]
          rfl
        · rw [if_neg h59] at hR2
          have kD := fun (W : World) => refDigit_any W c.toNat 16 (by omega) (by decide) (by decide)
          unfold digI at kD
          cases hx : digE c.toNat 16 with
          | none =>
            rw [hx] at hR2 kD
            have hR3 : R = (0, 0) := hR2
            subst hR3
            clear hR2 hx
            by_cases h0 : c.toNat = 59
            · have hi0 : i = 0 := by omega
              subst hi0
              rw [h0] at hc' kD
              clear h59
              go_wp2_with fail
              refine (kD _).mono ?_
              rintro e w2 ⟨rfl, rfl⟩
              go_wp2
              go_ret2
              exact ⟨rfl, rfl⟩
            · have e59 : ((c.toNat : Int) == 59) = false := by rw [beq_eq_false_iff_ne]; omega
              clear h59
              go_wp2_with fail
              refine (kD _).mono ?_
              rintro e w2 ⟨rfl, rfl⟩
              go_wp2
              go_ret2
              exact ⟨rfl, rfl⟩
          | some d =>
            rw [hx] at hR2 kD
            have hdl := digE_lt hx
            have hR3 : R = numE 16 (7 - (i + 1)) (i + 1) (n * 16 + d) (s.data.toList.drop (i + 1)) := hR2
            have HR3 := Lib.hid hR3
            have hpow := pow_step Hn.out (by decide : 16 ≤ 16) hdl
            have Hpow := Lib.hid hpow
            have hbd := pow_bd hpow (by omega)
            have e59 : ((c.toNat : Int) == 59) = false := by
              rw [beq_eq_false_iff_ne]
              intro e
              have : c.toNat = 59 := by omega
              rw [this] at hx
              cases hx
            clear hR2 hR3 hpow hx h59
            go_wp2_with fail
            refine (kD _).mono ?_
            rintro e w2 ⟨rfl, rfl⟩
            go_wp2
            go_roundw
            case rel => exact ⟨n * 16 + d, i + 1, by go_num, by go_num, by omega, by omega, hbd, Hpow, HR3, trivial⟩
            case measure => simp [intOf]; omega
      · have hik2 : i = 7 := by omega
        subst hik2
        have hR2 := HR2.out
        rw [Nat.sub_self, numE] at hR2
        subst hR2
        clear HR2
        go_wp2
        go_ret2
        exact ⟨rfl, rfl⟩
    · obtain rfl : i = s.size := by omega
      have hR2 := HR2.out
      rw [List.drop_eq_nil_of_le (by show s.size ≤ _; omega)] at hR2
      have hR3 : R = (0, 0) := by
        rw [hR2]
        cases 7 - s.size <;> rfl
      subst hR3
      clear HR2 hR2
      have hltI : decide ((s.size : Int) < (s.size : Int)) = false := decide_eq_false (by omega)
      go_wp2
      go_ret2
      exact ⟨rfl, rfl⟩

set_option maxRecDepth 100000 in
set_option maxHeartbeats 4000000 in
theorem refNumbered_dec (w : World) (s : ByteArray) (hs : s.size ≤ 100000) :
    Calls Try.prog 20 #[.string s, .int .i64 10, .int .i64 7] w fun e w' => e = .returned (numV (numE 10 8 0 0 s.data.toList)) ∧ w = w' := by
  obtain ⟨R, hR⟩ : ∃ R, R = numE 10 8 0 0 s.data.toList := ⟨_, rfl⟩
  rw [← hR]
  have HR := Lib.hid hR
  clear hR
  have zz : numV (0, 0) = .tuple #[.int .i64 0, .int .i64 0] := rfl
  go_enter Try.func20, Try.ntmps20
  go_wp2
  go_loopw [8, 9] (fun nv iv wr => ∃ n i : Nat, nv = .int .i64 (n : Int) ∧ iv = .int .i64 (i : Int) ∧ i ≤ s.size ∧ i ≤ 8 ∧ n ≤ 4294967296 ∧ Hid (n + 1 ≤ 16 ^ i) ∧ Hid (R = numE 10 (8 - i) i n (s.data.toList.drop i)) ∧ wr = w) (fun nv iv wr => s.size - (intOf iv).toNat)
  case atStart => exact ⟨0, 0, rfl, rfl, Nat.zero_le _, Nat.zero_le _, by omega, Lib.hid (by decide), HR, rfl⟩
  case round =>
    obtain ⟨n, i, rfl, rfl, hi, hk, hn, Hn, HR2, rfl⟩ := hrel
    by_cases hlt : i < s.size
    · by_cases hik : i < 8
      · obtain ⟨c, hc⟩ : ∃ c, c = s[i] := ⟨_, rfl⟩
        have hc' : s[i].toNat = c.toNat := by rw [hc]
        have hcl := c.toNat_lt
        have hdr : s.data.toList.drop i = c :: s.data.toList.drop (i + 1) := by
          rw [List.drop_eq_getElem_cons (by exact hlt), hc]
          rfl
        have hR2 := HR2.out
        rw [hdr, show 8 - i = (8 - (i + 1)) + 1 from by omega, numE] at hR2
        have hle : decide ((i : Int) ≤ 7) = true := decide_eq_true (by omega)
        clear HR2 hc hdr
        by_cases h59 : c.toNat = 59 ∧ 0 < i
        · rw [if_pos h59] at hR2
          have e59 : ((c.toNat : Int) == 59) = true := by rw [beq_iff_eq]; omega
          have g0 : decide ((i : Int) > 0) = true := decide_eq_true (by omega)
          have HR3 := Lib.hid hR2
          clear hR2
          go_wp2
          go_ret2
          refine ⟨?_, rfl⟩
          rw [HR3.out]
          unfold numV
          rw [show ((i + 1 : Nat) : Int) = (i : Int) + 1 from by omega]
          rfl
        · rw [if_neg h59] at hR2
          have kD := fun (W : World) => refDigit_any W c.toNat 10 (by omega) (by decide) (by decide)
          unfold digI at kD
          cases hx : digE c.toNat 10 with
          | none =>
            rw [hx] at hR2 kD
            have hR3 : R = (0, 0) := hR2
            subst hR3
            clear hR2 hx
            by_cases h0 : c.toNat = 59
            · have hi0 : i = 0 := by omega
              subst hi0
              rw [h0] at hc' kD
              clear h59
              go_wp2_with fail
              refine (kD _).mono ?_
              rintro e w2 ⟨rfl, rfl⟩
              go_wp2
              go_ret2
              exact ⟨rfl, rfl⟩
            · have e59 : ((c.toNat : Int) == 59) = false := by rw [beq_eq_false_iff_ne]; omega
              clear h59
              go_wp2_with fail
              refine (kD _).mono ?_
              rintro e w2 ⟨rfl, rfl⟩
              go_wp2
              go_ret2
              exact ⟨rfl, rfl⟩
          | some d =>
            rw [hx] at hR2 kD
            have hdl := digE_lt hx
            have hR3 : R = numE 10 (8 - (i + 1)) (i + 1) (n * 10 + d) (s.data.toList.drop (i + 1)) := hR2
            have HR3 := Lib.hid hR3
            have hpow := pow_step Hn.out (by decide : 10 ≤ 16) hdl
            have Hpow := Lib.hid hpow
            have hbd := pow_bd hpow (by omega)
            have e59 : ((c.toNat : Int) == 59) = false := by
              rw [beq_eq_false_iff_ne]
              intro e
              have : c.toNat = 59 := by omega
              rw [this] at hx
              cases hx
            clear hR2 hR3 hpow hx h59
            go_wp2_with fail
            refine (kD _).mono ?_
            rintro e w2 ⟨rfl, rfl⟩
            go_wp2
            go_roundw
            case rel => exact ⟨n * 10 + d, i + 1, by go_num, by go_num, by omega, by omega, hbd, Hpow, HR3, trivial⟩
            case measure => simp [intOf]; omega
      · have hik2 : i = 8 := by omega
        subst hik2
        have hR2 := HR2.out
        rw [Nat.sub_self, numE] at hR2
        subst hR2
        clear HR2
        go_wp2
        go_ret2
        exact ⟨rfl, rfl⟩
    · obtain rfl : i = s.size := by omega
      have hR2 := HR2.out
      rw [List.drop_eq_nil_of_le (by show s.size ≤ _; omega)] at hR2
      have hR3 : R = (0, 0) := by
        rw [hR2]
        cases 8 - s.size <;> rfl
      subst hR3
      clear HR2 hR2
      have hltI : decide ((s.size : Int) < (s.size : Int)) = false := decide_eq_false (by omega)
      go_wp2
      go_ret2
      exact ⟨rfl, rfl⟩
end Go.Proofs.Ytdahfgjmihffbaa
