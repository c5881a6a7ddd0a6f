/-
  nuncio/entity's reference, value and encoding.
-/
import Derived.Test.YtdahfgjmihffbaaPlainScan
import Derived.Test.YtdahfgjmihffbaaUtfNext
import Derived.Test.YtdahfgjmihffbaaRefOne
namespace Go.Proofs.Ytdahfgjmihffbaa
set_option linter.unusedVariables false
set_option linter.unusedSimpArgs false
open Go.RowKit

def placeV (attr : Bool) : Value := .int .i64 (if attr = true then 1 else 0)

set_option maxRecDepth 100000 in
set_option maxHeartbeats 2000000 in
theorem reference_any (w : World) (n : Nat) (attr : Bool) (hn : n < 256) :
    Calls Try.prog 23 #[.int .u8 (n : Int), placeV attr] w fun e w' => e = .returned (.string ⟨(refN attr n).toArray⟩) ∧ w = w' := by
  obtain ⟨R, hR⟩ : ∃ R : ByteArray, R = ⟨(refN attr n).toArray⟩ := ⟨_, rfl⟩
  rw [← hR]
  unfold refN at hR
  obtain ⟨m, hm⟩ : ∃ m : Int, m = (n : Int) := ⟨_, rfl⟩
  rw [← hm]
  by_cases h38 : n = 38
  · subst h38
    have hm2 : m = 38 := hm
    subst hm2
    cases attr
    all_goals
      have hR2 : R = ⟨#[38, 97, 109, 112, 59]⟩ := hR
      subst hR2
      clear hR hm
      unfold placeV
      go_enter Try.func23, Try.ntmps23
      go_wp2
      go_ret
      exact ⟨rfl, rfl⟩
  by_cases h60 : n = 60
  · subst h60
    have hm2 : m = 60 := hm
    subst hm2
    cases attr
    all_goals
      have hR2 : R = ⟨#[38, 108, 116, 59]⟩ := hR
      subst hR2
      clear hR hm
      unfold placeV
      go_enter Try.func23, Try.ntmps23
      go_wp2
      go_ret
      exact ⟨rfl, rfl⟩
  by_cases h62 : n = 62
  · subst h62
    have hm2 : m = 62 := hm
    subst hm2
    cases attr
    all_goals
      have hR2 : R = ⟨#[38, 103, 116, 59]⟩ := hR
      subst hR2
      clear hR hm
      unfold placeV
      go_enter Try.func23, Try.ntmps23
      go_wp2
      go_ret
      exact ⟨rfl, rfl⟩
  by_cases h34 : n = 34
  · subst h34
    have hm2 : m = 34 := hm
    subst hm2
    cases attr
    all_goals
      have hR2 : R = ⟨#[38, 113, 117, 111, 116, 59]⟩ := hR
      subst hR2
      clear hR hm
      unfold placeV
      go_enter Try.func23, Try.ntmps23
      go_wp2
      go_ret
      exact ⟨rfl, rfl⟩
  by_cases h39 : n = 39
  · subst h39
    have hm2 : m = 39 := hm
    subst hm2
    cases attr
    all_goals
      have hR2 : R = ⟨#[38, 35, 51, 57, 59]⟩ := hR
      subst hR2
      clear hR hm
      unfold placeV
      go_enter Try.func23, Try.ntmps23
      go_wp2
      go_ret
      exact ⟨rfl, rfl⟩
  have e38 : (m == 38) = false := by rw [beq_eq_false_iff_ne]; omega
  have e60 : (m == 60) = false := by rw [beq_eq_false_iff_ne]; omega
  have e62 : (m == 62) = false := by rw [beq_eq_false_iff_ne]; omega
  have e34 : (m == 34) = false := by rw [beq_eq_false_iff_ne]; omega
  have e39 : (m == 39) = false := by rw [beq_eq_false_iff_ne]; omega
  by_cases h9 : n = 9
  · subst h9
    have hm2 : m = 9 := hm
    subst hm2
    cases attr
    · have hR2 : R = ⟨#[]⟩ := hR
      subst hR2
      clear hR hm
      unfold placeV
      go_enter Try.func23, Try.ntmps23
      go_wp2
      go_ret
      exact ⟨rfl, rfl⟩
    · have hR2 : R = ⟨#[38, 35, 57, 59]⟩ := hR
      subst hR2
      clear hR hm
      unfold placeV
      go_enter Try.func23, Try.ntmps23
      go_wp2
      go_ret
      exact ⟨rfl, rfl⟩
  by_cases h10 : n = 10
  · subst h10
    have hm2 : m = 10 := hm
    subst hm2
    cases attr
    · have hR2 : R = ⟨#[]⟩ := hR
      subst hR2
      clear hR hm
      unfold placeV
      go_enter Try.func23, Try.ntmps23
      go_wp2
      go_ret
      exact ⟨rfl, rfl⟩
    · have hR2 : R = ⟨#[38, 35, 49, 48, 59]⟩ := hR
      subst hR2
      clear hR hm
      unfold placeV
      go_enter Try.func23, Try.ntmps23
      go_wp2
      go_ret
      exact ⟨rfl, rfl⟩
  have e9 : (m == 9) = false := by rw [beq_eq_false_iff_ne]; omega
  have e10 : (m == 10) = false := by rw [beq_eq_false_iff_ne]; omega
  have hR2 : R = ⟨#[]⟩ := by rw [hR, if_neg (fun h => h9 h.2), if_neg (fun h => h10 h.2), if_neg h38, if_neg h60, if_neg h62, if_neg h34, if_neg h39]
  subst hR2
  clear hR
  unfold placeV
  cases attr
  all_goals
    go_enter Try.func23, Try.ntmps23
    go_wp2
    go_ret
    exact ⟨rfl, rfl⟩

def digV (c b : Nat) : Value := match digE c b with
  | none => .tuple #[.int .i32 0, .bool false]
  | some d => .tuple #[.int .i32 (d : Int), .bool true]

set_option maxRecDepth 100000 in
set_option maxHeartbeats 2000000 in
theorem value_any (w : World) (c b : Nat) (hc : c ≤ 255) (hb : b = 10 ∨ b = 16) :
    Calls Try.prog 24 #[.int .u8 (c : Int), .int .i32 (b : Int)] w fun e w' => e = .returned (digV c b) ∧ w = w' := by
  obtain ⟨D, hD⟩ : ∃ D, D = digV c b := ⟨_, rfl⟩
  rw [← hD]
  unfold digV at hD
  have hb16 : b ≤ 16 := by omega
  by_cases h48 : 48 ≤ c ∧ c ≤ 57
  · have hD2 : D = .tuple #[.int .i32 ((c : Int) - 48), .bool true] := by
      rw [hD, digE_lo h48, if_pos (by omega)]
      dsimp only
      rw [show ((c - 48 : Nat) : Int) = (c : Int) - 48 from by omega]
    subst hD2
    obtain ⟨h1, h2⟩ := h48
    clear hD
    go_enter Try.func24, Try.ntmps24
    go_wp2
    go_ret2
    exact ⟨rfl, rfl⟩
  by_cases h65 : 65 ≤ c ∧ c ≤ 70
  · rw [digE_up h65] at hD
    rcases hb with rfl | rfl
    · rw [if_neg (by omega)] at hD
      have hD2 := hD
      dsimp only at hD2
      subst hD2
      clear hD
      obtain ⟨h1, h2⟩ := h65
      go_enter Try.func24, Try.ntmps24
      go_wp2
      go_ret2
      exact ⟨rfl, rfl⟩
    · rw [if_pos (by omega)] at hD
      have hD2 : D = .tuple #[.int .i32 ((c : Int) - 65 + 10), .bool true] := by
        rw [hD]
        dsimp only
        rw [show ((c - 65 + 10 : Nat) : Int) = (c : Int) - 65 + 10 from by omega]
      subst hD2
      clear hD
      obtain ⟨h1, h2⟩ := h65
      go_enter Try.func24, Try.ntmps24
      go_wp2
      go_ret2
      exact ⟨rfl, rfl⟩
  by_cases h97 : 97 ≤ c ∧ c ≤ 102
  · rw [digE_sm h97] at hD
    rcases hb with rfl | rfl
    · rw [if_neg (by omega)] at hD
      have hD2 := hD
      dsimp only at hD2
      subst hD2
      clear hD
      obtain ⟨h1, h2⟩ := h97
      go_enter Try.func24, Try.ntmps24
      go_wp2
      go_ret2
      exact ⟨rfl, rfl⟩
    · rw [if_pos (by omega)] at hD
      have hD2 : D = .tuple #[.int .i32 ((c : Int) - 97 + 10), .bool true] := by
        rw [hD]
        dsimp only
        rw [show ((c - 97 + 10 : Nat) : Int) = (c : Int) - 97 + 10 from by omega]
      subst hD2
      clear hD
      obtain ⟨h1, h2⟩ := h97
      go_enter Try.func24, Try.ntmps24
      go_wp2
      go_ret2
      exact ⟨rfl, rfl⟩
  have hD2 : D = .tuple #[.int .i32 0, .bool false] := by rw [hD, digE_no hb16 h48 h65 h97]
  subst hD2
  clear hD
  rcases (show c < 48 ∨ (57 < c ∧ c < 65) ∨ (70 < c ∧ c < 97) ∨ 102 < c by omega) with h | ⟨h1, h2⟩ | ⟨h1, h2⟩ | h
  all_goals
    clear h48 h65 h97
    rcases hb with rfl | rfl
    all_goals
      go_enter Try.func24, Try.ntmps24
      go_wp2
      go_ret2
      exact ⟨rfl, rfl⟩

def encV (n : Nat) : Value := if n ≠ 0 ∧ isRune n then .tuple #[.string ⟨(encL n).toArray⟩, .bool true] else .tuple #[.string ⟨#[]⟩, .bool false]

set_option maxRecDepth 100000 in
set_option maxHeartbeats 2000000 in
theorem encoding_any (w : World) (n : Nat) (hn : n ≤ 1000000000) :
    Calls Try.prog 25 #[.int .i32 (n : Int)] w fun e w' => e = .returned (encV n) ∧ Below w.heap.size w w' := by
  obtain ⟨E, hE⟩ : ∃ E, E = encV n := ⟨_, rfl⟩
  rw [← hE]
  unfold encV at hE
  have kB := fun (W : World) => utfBytes_any (n : Int) W
  by_cases hr : isRune n
  · rw [encode_rune n hr] at kB
    have hl : (encL n).length ≤ 4 := by rw [encL_len]; repeat' split
                                        all_goals omega
    have hl1 : 0 < (encL n).length := List.length_pos_iff.2 (encL_ne n)
    have hx := nxL_enc n [] hr
    rw [List.append_nil] at hx
    obtain ⟨x, hxb⟩ : ∃ x : ByteArray, x = ⟨(encL n).toArray⟩ := ⟨_, rfl⟩
    have hxl : x.data.toList = encL n := by rw [hxb]
    have hxs : x.size = (encL n).length := by rw [hxb]; rfl
    rw [← hxb] at kB
    have kN := fun (W : World) => utfNext_in x 0 W (by omega) (by omega)
    rw [show nxS x 0 = (n, (encL n).length) from by unfold nxS; rw [List.drop_zero, hxl]; exact hx] at kN
    unfold nxV at kN
    by_cases h0 : n = 0
    · subst h0
      have hE2 : E = .tuple #[.string ⟨#[]⟩, .bool false] := by rw [hE, if_neg (fun h => h.1 rfl)]
      subst hE2
      clear hE hx hr hxb hxl
      go_enter Try.func25, Try.ntmps25
      go_wp2_with fail
      refine (kB _).mono ?_
      rintro e w2 ⟨rfl, rfl⟩
      go_wp2_with fail
      refine (kN _).mono ?_
      rintro e w2 ⟨rfl, m, rfl⟩
      go_wp2
      go_ret2
      exact ⟨rfl, below_drewO _ _ _⟩
    · have e0 : ((n : Int) == 0) = false := by rw [beq_eq_false_iff_ne]; omega
      have hE2 : E = .tuple #[.string x, .bool true] := by rw [hE, if_pos ⟨h0, hr⟩, hxb]
      subst hE2
      clear hE hx hr hxb hxl h0
      go_enter Try.func25, Try.ntmps25
      go_wp2_with fail
      refine (kB _).mono ?_
      rintro e w2 ⟨rfl, rfl⟩
      go_wp2_with fail
      refine (kN _).mono ?_
      rintro e w2 ⟨rfl, m, rfl⟩
      go_wp2
      go_ret2
      exact ⟨rfl, below_drewO _ _ _⟩
  · have hrb : runeB (n : Int) = false := by rw [runeB_is]; exact decide_eq_false hr
    rw [encode_bad _ hrb] at kB
    have kN := fun (W : World) => utfNext_in ⟨#[239, 191, 189]⟩ 0 W (by decide) (by decide)
    rw [show nxS ⟨#[239, 191, 189]⟩ 0 = (65533, 3) from by decide +kernel] at kN
    unfold nxV at kN
    have h0 : n ≠ 0 := fun h => hr (by subst h; exact .inl (by decide))
    have h1 : n ≠ 65533 := fun h => hr (by subst h; exact .inr ⟨by decide, by decide⟩)
    have e0 : ((n : Int) == 0) = false := by rw [beq_eq_false_iff_ne]; omega
    have e1 : ((65533 : Int) == (n : Int)) = false := by rw [beq_eq_false_iff_ne]; omega
    have hE2 : E = .tuple #[.string ⟨#[]⟩, .bool false] := by rw [hE, if_neg (fun h => hr h.2)]
    subst hE2
    clear hE hr hrb h0 h1
    go_enter Try.func25, Try.ntmps25
    go_wp2_with fail
    refine (kB _).mono ?_
    rintro e w2 ⟨rfl, rfl⟩
    go_wp2_with fail
    refine (kN _).mono ?_
    rintro e w2 ⟨rfl, m, rfl⟩
    go_wp2
    go_ret2
    exact ⟨rfl, below_drewO _ _ _⟩
end Go.Proofs.Ytdahfgjmihffbaa
