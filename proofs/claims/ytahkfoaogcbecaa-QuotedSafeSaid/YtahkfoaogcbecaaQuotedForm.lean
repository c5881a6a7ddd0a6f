/-
  nuncio/jstr's form, meaning and unit.
-/
import Derived.Test.YtahkfoaogcbecaaRefQuotedOneC
import Derived.Test.YtahkfoaogcbecaaOctPre
import Derived.Laws.BitsLemmas
namespace Go.Proofs.Ytahkfoaogcbecaa
set_option linter.unusedVariables false
set_option linter.unusedSimpArgs false
open Go.RowKit

/-- What form answers: how a rune's escape goes on, and by which letter. -/
def formV (r : Nat) : Value := match shortE r with
  | some e => .tuple #[.int .u8 1, .int .u8 (e.toNat : Int)]
  | none => if longE r then .tuple #[.int .u8 2, .int .u8 0] else .tuple #[.int .u8 0, .int .u8 0]

set_option maxRecDepth 100000 in
set_option maxHeartbeats 2000000 in
theorem form_any (w : World) (r : Nat) (hr : r ≤ 1114111) :
    Calls Try.prog 18 #[.int .i32 (r : Int)] w fun e w' => e = .returned (formV r) ∧ w = w' := by
  obtain ⟨R, hR⟩ : ∃ R : Value, R = formV r := ⟨_, rfl⟩
  rw [← hR]
  unfold formV at hR
  obtain ⟨m, hm⟩ : ∃ m : Int, m = (r : Int) := ⟨_, rfl⟩
  rw [← hm]
  rcases shortE_is r with ⟨rfl, hs⟩ | ⟨rfl, hs⟩ | ⟨rfl, hs⟩ | ⟨rfl, hs⟩ | ⟨rfl, hs⟩ | ⟨rfl, hs⟩ | ⟨rfl, hs⟩ | ⟨a1, a2, a3, a4, a5, a6, a7, hs⟩
  case inr.inr.inr.inr.inr.inr.inr =>
    rw [hs] at hR
    dsimp only at hR
    have e34 : (m == 34) = false := by rw [beq_eq_false_iff_ne]; omega
    have e92 : (m == 92) = false := by rw [beq_eq_false_iff_ne]; omega
    have e8 : (m == 8) = false := by rw [beq_eq_false_iff_ne]; omega
    have e12 : (m == 12) = false := by rw [beq_eq_false_iff_ne]; omega
    have e10 : (m == 10) = false := by rw [beq_eq_false_iff_ne]; omega
    have e13 : (m == 13) = false := by rw [beq_eq_false_iff_ne]; omega
    have e9 : (m == 9) = false := by rw [beq_eq_false_iff_ne]; omega
    clear a1 a2 a3 a4 a5 a6 a7 hs
    by_cases h38 : r = 38
    · subst h38
      have hm2 : m = 38 := hm
      subst hm2
      have hR2 : R = .tuple #[.int .u8 2, .int .u8 0] := hR
      subst hR2
      clear hR hm
      go_enter Try.func18, Try.ntmps18
      go_wp2
      go_ret2
      exact ⟨rfl, rfl⟩
    have e38 : (m == 38) = false := by rw [beq_eq_false_iff_ne]; omega
    by_cases h60 : r = 60
    · subst h60
      have hm2 : m = 60 := hm
      subst hm2
      have hR2 : R = .tuple #[.int .u8 2, .int .u8 0] := hR
      subst hR2
      clear hR hm
      go_enter Try.func18, Try.ntmps18
      go_wp2
      go_ret2
      exact ⟨rfl, rfl⟩
    have e60 : (m == 60) = false := by rw [beq_eq_false_iff_ne]; omega
    by_cases h62 : r = 62
    · subst h62
      have hm2 : m = 62 := hm
      subst hm2
      have hR2 : R = .tuple #[.int .u8 2, .int .u8 0] := hR
      subst hR2
      clear hR hm
      go_enter Try.func18, Try.ntmps18
      go_wp2
      go_ret2
      exact ⟨rfl, rfl⟩
    have e62 : (m == 62) = false := by rw [beq_eq_false_iff_ne]; omega
    by_cases h8232 : r = 8232
    · subst h8232
      have hm2 : m = 8232 := hm
      subst hm2
      have hR2 : R = .tuple #[.int .u8 2, .int .u8 0] := hR
      subst hR2
      clear hR hm
      go_enter Try.func18, Try.ntmps18
      go_wp2
      go_ret2
      exact ⟨rfl, rfl⟩
    have e8232 : (m == 8232) = false := by rw [beq_eq_false_iff_ne]; omega
    by_cases h8233 : r = 8233
    · subst h8233
      have hm2 : m = 8233 := hm
      subst hm2
      have hR2 : R = .tuple #[.int .u8 2, .int .u8 0] := hR
      subst hR2
      clear hR hm
      go_enter Try.func18, Try.ntmps18
      go_wp2
      go_ret2
      exact ⟨rfl, rfl⟩
    have e8233 : (m == 8233) = false := by rw [beq_eq_false_iff_ne]; omega
    by_cases h32 : r < 32
    · have d32 : decide (m < 32) = true := decide_eq_true (by omega)
      rw [if_pos (by unfold longE; simp; omega)] at hR
      subst hR
      clear h38 h60 h62 h8232 h8233 h32 hm
      go_enter Try.func18, Try.ntmps18
      go_wp2
      go_ret2
      exact ⟨rfl, rfl⟩
    have d32 : decide (m < 32) = false := decide_eq_false (by omega)
    by_cases h127 : 127 ≤ r
    · have d127 : decide (127 ≤ m) = true := decide_eq_true (by omega)
      by_cases h159 : r ≤ 159
      · have d159 : decide (m ≤ 159) = true := decide_eq_true (by omega)
        rw [if_pos (by unfold longE; simp; omega)] at hR
        subst hR
        clear h38 h60 h62 h8232 h8233 h32 hm h127 h159
        go_enter Try.func18, Try.ntmps18
        go_wp2
        go_ret2
        exact ⟨rfl, rfl⟩
      · have d159 : decide (m ≤ 159) = false := decide_eq_false (by omega)
        rw [if_neg (by unfold longE; simp; omega)] at hR
        subst hR
        clear h38 h60 h62 h8232 h8233 h32 hm h127 h159
        go_enter Try.func18, Try.ntmps18
        go_wp2
        go_ret2
        exact ⟨rfl, rfl⟩
    · have d127 : decide (127 ≤ m) = false := decide_eq_false (by omega)
      rw [if_neg (by unfold longE; simp; omega)] at hR
      subst hR
      clear h38 h60 h62 h8232 h8233 h32 hm h127
      go_enter Try.func18, Try.ntmps18
      go_wp2
      go_ret2
      exact ⟨rfl, rfl⟩
  all_goals
    rw [hs] at hR
    dsimp only at hR
    simp only [Int.cast_ofNat_Int] at hm
    subst hm
    subst hR
    clear hs
    go_enter Try.func18, Try.ntmps18
    go_wp2
    go_ret2
    exact ⟨rfl, rfl⟩

/-- What meaning answers of what stands behind a backslash. -/
def meanV (c : Nat) : Value := match shortD c with
  | some r => .tuple #[.int .u8 1, .int .i32 (r : Int)]
  | none => if c = 117 then .tuple #[.int .u8 2, .int .i32 0] else .tuple #[.int .u8 0, .int .i32 0]
theorem shortD_is (r : Nat) : (r = 34 ∧ shortD r = some 34) ∨ (r = 92 ∧ shortD r = some 92) ∨ (r = 47 ∧ shortD r = some 47) ∨ (r = 98 ∧ shortD r = some 8) ∨ (r = 102 ∧ shortD r = some 12) ∨ (r = 110 ∧ shortD r = some 10) ∨ (r = 114 ∧ shortD r = some 13) ∨ (r = 116 ∧ shortD r = some 9) ∨ (r = 117 ∧ shortD r = none) ∨ (r ≠ 34 ∧ r ≠ 92 ∧ r ≠ 47 ∧ r ≠ 98 ∧ r ≠ 102 ∧ r ≠ 110 ∧ r ≠ 114 ∧ r ≠ 116 ∧ r ≠ 117 ∧ shortD r = none) := by
  unfold shortD
  repeat' split
  all_goals first
    | omega
    | simp_all
  by_cases h : r = 117
  · exact .inl h
  · exact .inr h

set_option maxRecDepth 100000 in
set_option maxHeartbeats 2000000 in
theorem meaning_any (w : World) (c : Nat) (hc : c < 256) :
    Calls Try.prog 35 #[.int .u8 (c : Int)] w fun e w' => e = .returned (meanV c) ∧ w = w' := by
  obtain ⟨R, hR⟩ : ∃ R : Value, R = meanV c := ⟨_, rfl⟩
  rw [← hR]
  unfold meanV at hR
  obtain ⟨m, hm⟩ : ∃ m : Int, m = (c : Int) := ⟨_, rfl⟩
  rw [← hm]
  rcases shortD_is c with ⟨rfl, hs⟩ | ⟨rfl, hs⟩ | ⟨rfl, hs⟩ | ⟨rfl, hs⟩ | ⟨rfl, hs⟩ | ⟨rfl, hs⟩ | ⟨rfl, hs⟩ | ⟨rfl, hs⟩ | ⟨rfl, hs⟩ | ⟨a1, a2, a3, a4, a5, a6, a7, a8, a9, hs⟩
  case inr.inr.inr.inr.inr.inr.inr.inr.inr =>
    rw [hs] at hR
    dsimp only at hR
    rw [if_neg a9] at hR
    have e34 : (m == 34) = false := by rw [beq_eq_false_iff_ne]; omega
    have e92 : (m == 92) = false := by rw [beq_eq_false_iff_ne]; omega
    have e47 : (m == 47) = false := by rw [beq_eq_false_iff_ne]; omega
    have e98 : (m == 98) = false := by rw [beq_eq_false_iff_ne]; omega
    have e102 : (m == 102) = false := by rw [beq_eq_false_iff_ne]; omega
    have e110 : (m == 110) = false := by rw [beq_eq_false_iff_ne]; omega
    have e114 : (m == 114) = false := by rw [beq_eq_false_iff_ne]; omega
    have e116 : (m == 116) = false := by rw [beq_eq_false_iff_ne]; omega
    have e117 : (m == 117) = false := by rw [beq_eq_false_iff_ne]; omega
    clear a1 a2 a3 a4 a5 a6 a7 a8 a9 hs hm
    subst hR
    go_enter Try.func35, Try.ntmps35
    go_wp2
    go_ret2
    exact ⟨rfl, rfl⟩
  all_goals
    rw [hs] at hR
    simp only [Int.cast_ofNat_Int] at hm
    simp (config := { decide := true }) only [if_true, Int.cast_ofNat_Int] at hR
    subst hm
    subst hR
    clear hs
    go_enter Try.func35, Try.ntmps35
    go_wp2
    go_ret2
    exact ⟨rfl, rfl⟩

/-- What unit answers. -/
def unitV : Option Nat → Value
  | some n => .tuple #[.int .i32 (n : Int), .bool true]
  | none => .tuple #[.int .i32 0, .bool false]

theorem orBytes (a b : Nat) (ha : a < 256) (hb : b < 256) : bits BinOp.or IntKind.i32 ((a : Int) * 256) (b : Int) = ((256 * a + b : Nat) : Int) := by
  have e : 256 * a ||| b = 256 * a + b := by
    have := Nat.shiftLeft_add_eq_or_of_lt (i := 8) (b := b) (by omega) a
    rw [Nat.shiftLeft_eq] at this
    rw [show 256 * a = a * 2 ^ 8 from by omega]
    exact this.symm
  rw [show (a : Int) * 256 = ((256 * a : Nat) : Int) from by omega]
  have h1 : (BitVec.ofInt 32 ((256 * a : Nat) : Int)).toNat = 256 * a := by
    rw [BitVec.ofInt_natCast, BitVec.toNat_ofNat]; exact Nat.mod_eq_of_lt (by omega)
  have h2 : (BitVec.ofInt 32 (b : Int)).toNat = b := by
    rw [BitVec.ofInt_natCast, BitVec.toNat_ofNat]; exact Nat.mod_eq_of_lt (by omega)
  show IntKind.i32.wrap ((BitVec.ofInt 32 ((256 * a : Nat) : Int) ||| BitVec.ofInt 32 (b : Int)).toNat : Int) = _
  rw [BitVec.toNat_or, h1, h2, e]
  rw [IntKind.wrap_i32]
  omega

set_option maxRecDepth 100000 in
set_option maxHeartbeats 2000000 in
theorem unit_any (w : World) (s : ByteArray) (k : Nat) (hs : s.size ≤ 100000) (hk : k ≤ 1000000) :
    Calls Try.prog 39 #[.string s, .int .i64 (k : Int)] w fun e w' => e = .returned (unitV (unitJ (s.data.toList.drop k))) ∧ w = w' := by
  have kB := fun (W : World) => octBegins_any s ⟨#[92, 117]⟩ (k : Int) W (by omega) (by decide)
  rw [begins_far s _ k (by simp)] at kB
  have kY := fun (W : World) => octByte_any s ((k : Int) + 2) W (by omega)
  have kZ := fun (W : World) => octByte_any s ((k : Int) + 4) W (by omega)
  unfold byteRes at kY kZ
  rw [show (k : Int) + 2 = ((k + 2 : Nat) : Int) from rfl, byteAt_hexJ] at kY
  rw [show (k : Int) + 4 = ((k + 4 : Nat) : Int) from rfl, byteAt_hexJ] at kZ
  obtain ⟨R, hR⟩ : ∃ R, R = unitJ (s.data.toList.drop k) := ⟨_, rfl⟩
  rw [← hR]
  unfold unitJ at hR
  rw [List.drop_drop, List.drop_drop] at hR
  generalize hex2 (s.data.toList.drop (k + 2)) = y at kY hR
  generalize hex2 (s.data.toList.drop (k + 4)) = z at kZ hR
  rw [show ((⟨#[92, 117]⟩ : ByteArray).data.toList) = [92, 117] from rfl] at kB
  cases hp : List.isPrefixOf [92, 117] (s.data.toList.drop k) with
  | false =>
    rw [hp] at kB hR
    rw [if_neg (by decide)] at hR
    subst hR
    clear kY kZ hp
    go_enter Try.func39, Try.ntmps39
    go_wp2_with fail
    refine (kB _).mono ?_
    rintro e w2 ⟨rfl, rfl⟩
    go_wp2
    go_ret2
    exact ⟨rfl, rfl⟩
  | true =>
    rw [hp] at kB hR
    rw [if_pos rfl] at hR
    clear hp
    cases y with
    | none =>
      have hR2 : R = none := hR
      subst hR2
      simp only [Option.map_none, Option.getD_none, Option.isSome_none] at kY
      clear hR kZ
      go_enter Try.func39, Try.ntmps39
      go_wp2_with fail
      refine (kB _).mono ?_
      rintro e w2 ⟨rfl, rfl⟩
      go_wp2_with fail
      refine (kY _).mono ?_
      rintro e w2 ⟨rfl, rfl⟩
      go_wp2
      go_ret2
      exact ⟨rfl, rfl⟩
    | some a =>
      simp only [Option.map_some, Option.getD_some, Option.isSome_some] at kY
      cases z with
      | none =>
        have hR2 : R = none := hR
        subst hR2
        simp only [Option.map_none, Option.getD_none, Option.isSome_none] at kZ
        clear hR
        go_enter Try.func39, Try.ntmps39
        go_wp2_with fail
        refine (kB _).mono ?_
        rintro e w2 ⟨rfl, rfl⟩
        go_wp2_with fail
        refine (kY _).mono ?_
        rintro e w2 ⟨rfl, rfl⟩
        go_wp2_with fail
        refine (kZ _).mono ?_
        rintro e w2 ⟨rfl, rfl⟩
        go_wp2
        go_ret2
        exact ⟨rfl, rfl⟩
      | some b =>
        simp only [Option.map_some, Option.getD_some, Option.isSome_some] at kZ
        have hR2 : R = some (256 * a.toNat + b.toNat) := hR
        subst hR2
        have ha := a.toNat_lt
        have hb := b.toNat_lt
        have ho := orBytes a.toNat b.toNat ha hb
        generalize a.toNat = p at kY ho ha
        generalize b.toNat = q at kZ ho hb
        clear hR
        go_enter Try.func39, Try.ntmps39
        go_wp2_with fail
        refine (kB _).mono ?_
        rintro e w2 ⟨rfl, rfl⟩
        go_wp2_with fail
        refine (kY _).mono ?_
        rintro e w2 ⟨rfl, rfl⟩
        go_wp2_with fail
        refine (kZ _).mono ?_
        rintro e w2 ⟨rfl, rfl⟩
        go_wp2
        go_ret2
        exact ⟨rfl, rfl⟩
end Go.Proofs.Ytahkfoaogcbecaa
