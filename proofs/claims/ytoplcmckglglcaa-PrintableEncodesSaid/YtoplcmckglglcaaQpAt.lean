/-
  nuncio/qp's plain, blank and codeAt.
-/
import Derived.Test.YtoplcmckglglcaaRefPiece
namespace Go.Proofs.Ytoplcmckglglcaa
set_option linter.unusedVariables false
set_option linter.unusedSimpArgs false
open Go.RowKit

theorem qpPlain_any (w : World) (c : UInt8) : Calls Try.prog 15 #[.int .u8 (c.toNat : Int)] w fun e w' => e = .returned (.bool (plainQ c)) ∧ w = w' := by
  have hl := c.toNat_lt
  obtain ⟨R, hR⟩ : ∃ R, R = plainQ c := ⟨_, rfl⟩
  rw [← hR]
  unfold plainQ at hR
  by_cases h1 : 33 ≤ c.toNat
  · by_cases h2 : c.toNat ≤ 126
    · by_cases h3 : c.toNat = 61
      · obtain rfl : R = false := by rw [hR]; simp [h3]
        rw [h3]
        clear hR
        go_enter Try.func15, Try.ntmps15
        go_wp2
        go_ret
        exact ⟨rfl, rfl⟩
      · obtain rfl : R = true := by rw [hR]; simp [h1, h2, h3]
        have e1 : ((c.toNat : Int) == 61) = false := by rw [beq_eq_false_iff_ne]; omega
        have e2 : ((c.toNat : Int) != 61) = true := by rw [bne, e1]; rfl
        clear hR
        go_enter Try.func15, Try.ntmps15
        go_wp2
        go_ret
        exact ⟨rfl, rfl⟩
    · obtain rfl : R = false := by rw [hR]; simp [h2]
      clear hR
      go_enter Try.func15, Try.ntmps15
      go_wp2
      go_ret
      exact ⟨rfl, rfl⟩
  · obtain rfl : R = false := by rw [hR]; simp [h1]
    clear hR
    go_enter Try.func15, Try.ntmps15
    go_wp2
    go_ret
    exact ⟨rfl, rfl⟩

theorem qpBlank_any (w : World) (c : UInt8) : Calls Try.prog 16 #[.int .u8 (c.toNat : Int)] w fun e w' => e = .returned (.bool (blankQ c)) ∧ w = w' := by
  have hl := c.toNat_lt
  obtain ⟨R, hR⟩ : ∃ R, R = blankQ c := ⟨_, rfl⟩
  rw [← hR]
  unfold blankQ at hR
  by_cases h1 : c.toNat = 32
  · obtain rfl : R = true := by rw [hR]; simp [h1]
    rw [h1]
    clear hR
    go_enter Try.func16, Try.ntmps16
    go_wp2
    go_ret
    exact ⟨rfl, rfl⟩
  · have e1 : ((c.toNat : Int) == 32) = false := by rw [beq_eq_false_iff_ne]; omega
    by_cases h2 : c.toNat = 9
    · obtain rfl : R = true := by rw [hR]; simp [h2]
      rw [h2]
      clear hR
      go_enter Try.func16, Try.ntmps16
      go_wp2
      go_ret
      exact ⟨rfl, rfl⟩
    · have e2 : ((c.toNat : Int) == 9) = false := by rw [beq_eq_false_iff_ne]; omega
      obtain rfl : R = false := by rw [hR]; simp [h1, h2]
      clear hR
      go_enter Try.func16, Try.ntmps16
      go_wp2
      go_ret
      exact ⟨rfl, rfl⟩

/-- What stands for the byte at a place: its code, or a line end. -/
def markQ (c : UInt8) (r : List UInt8) : List UInt8 := if c.toNat = 10 then [13, 10] else codeQ c r
theorem markQ_len (c : UInt8) (r : List UInt8) : 1 ≤ (markQ c r).length ∧ (markQ c r).length ≤ 3 := by
  unfold markQ
  split
  · decide
  · have := codeQ_len c r; omega

set_option maxRecDepth 100000 in
set_option maxHeartbeats 4000000 in
theorem codeAt_any (w : World) (s : ByteArray) (i : Nat) (hi : i < s.size) (hs : s.size ≤ 100000) :
    Calls Try.prog 22 #[.string s, .int .i64 (i : Int)] w fun e w' => e = .returned (.string ⟨(markQ s[i] (s.data.toList.drop (i + 1))).toArray⟩) ∧ Below w.heap.size w w' := by
  obtain ⟨c, hc⟩ : ∃ c, c = s[i] := ⟨_, rfl⟩
  rw [← hc]
  have hc' : s[i].toNat = c.toNat := by rw [hc]
  have hl := c.toNat_lt
  obtain ⟨R, hR⟩ : ∃ R, R = markQ c (s.data.toList.drop (i + 1)) := ⟨_, rfl⟩
  rw [← hR]
  unfold markQ at hR
  have kP := fun (W : World) => qpPlain_any W c
  have kB := fun (W : World) => qpBlank_any W c
  have kR := fun (W : World) => octPair_any (c.toNat : Int) W (by omega) (by omega)
  have hiI : ((i : Int) + 1).toNat = i + 1 := by omega
  have hext : s.extract i (i + 1) = ⟨#[c]⟩ := by
    refine bytes_ext ?_
    rw [ByteArray.data_extract, Array.toList_extract, List.extract_eq_take_drop, List.drop_eq_getElem_cons (by exact hi), hc]
    simp
    rfl
  have Hext := Lib.hid hext
  have hE : (⟨#[61]⟩ : ByteArray) ++ pairOf (c.toNat : Int) = ⟨(61 :: pairL c).toArray⟩ := by rw [pairOf_L]; exact bytes_ext (by simp)
  have HE := Lib.hid hE
  have hgo : (∃ h : i + 1 < s.size, ((s[i + 1].toNat : Int) != 10) = true ∧ goesOn (s.data.toList.drop (i + 1)) = true) ∨ (∃ h : i + 1 < s.size, ((s[i + 1].toNat : Int) != 10) = false ∧ goesOn (s.data.toList.drop (i + 1)) = false) ∨ ((i : Int) + 1 ≥ (s.size : Int) ∧ goesOn (s.data.toList.drop (i + 1)) = false) := by
    by_cases hlt : i + 1 < s.size
    · by_cases h10 : s[i + 1].toNat = 10
      · refine .inr (.inl ⟨hlt, ?_, ?_⟩)
        · rw [h10]; rfl
        · rw [goesOn_at s i hlt]; simp [h10]
      · refine .inl ⟨hlt, ?_, ?_⟩
        · rw [bne, beq_eq_false_iff_ne.2 (by omega)]; rfl
        · rw [goesOn_at s i hlt]; simp [h10]
    · exact .inr (.inr ⟨by omega, goesOn_end s i hlt⟩)
  clear hc hext hE
  by_cases h10 : c.toNat = 10
  · rw [if_pos h10] at hR
    subst hR
    rw [h10] at hc'
    clear kP kB kR Hext HE
    rcases hgo with ⟨hlt, q, -⟩ | ⟨hlt, q, -⟩ | ⟨hlt, -⟩
    all_goals
      go_enter Try.func22, Try.ntmps22
      go_wp2
      go_ret
      exact ⟨rfl, Below.refl _ _⟩
  · rw [if_neg h10] at hR
    have e10 : ((c.toNat : Int) == 10) = false := by rw [beq_eq_false_iff_ne]; omega
    unfold codeQ at hR
    by_cases hp : plainQ c = true
    · rw [hp, Bool.true_or, if_pos rfl] at hR
      rw [hp] at kP
      subst hR
      clear kB kR HE hp h10
      rcases hgo with ⟨hlt, q, -⟩ | ⟨hlt, q, -⟩ | ⟨hlt, -⟩
      all_goals
        go_enter Try.func22, Try.ntmps22
        go_wp2_with fail
        refine (kP _).mono ?_
        rintro e w2 ⟨rfl, rfl⟩
        go_wp2
        go_ret
        exact ⟨by rw [← Hext.out]; rfl, Below.refl _ _⟩
    · have hp' : plainQ c = false := by simpa using hp
      rw [hp', Bool.false_or] at hR
      rw [hp'] at kP
      clear hp hp'
      by_cases hb : blankQ c = true
      · rw [hb, Bool.true_and] at hR
        rw [hb] at kB
        clear hb h10
        rcases hgo with ⟨hlt, q, hg⟩ | ⟨hlt, q, hg⟩ | ⟨hlt, hg⟩
        · rw [hg, if_pos rfl] at hR
          subst hR
          clear hg
          go_enter Try.func22, Try.ntmps22
          go_wp2_with fail
          refine (kP _).mono ?_
          rintro e w2 ⟨rfl, rfl⟩
          go_wp2_with fail
          refine (kB _).mono ?_
          rintro e w2 ⟨rfl, rfl⟩
          go_wp2
          go_ret
          exact ⟨by rw [← Hext.out]; rfl, Below.refl _ _⟩
        all_goals
          rw [hg, if_neg (by decide)] at hR
          subst hR
          clear hg
          go_enter Try.func22, Try.ntmps22
          go_wp2_with fail
          refine (kP _).mono ?_
          rintro e w2 ⟨rfl, rfl⟩
          go_wp2_with fail
          refine (kB _).mono ?_
          rintro e w2 ⟨rfl, rfl⟩
          go_wp2_with fail
          refine (kR _).mono ?_
          rintro e w3 ⟨rfl, hb3⟩
          go_wp2
          go_ret
          exact ⟨by rw [← HE.out]; rfl, hb3⟩
      · have hb' : blankQ c = false := by simpa using hb
        rw [hb', Bool.false_and, if_neg (by decide)] at hR
        rw [hb'] at kB
        subst hR
        clear hb hb' h10
        rcases hgo with ⟨hlt, q, -⟩ | ⟨hlt, q, -⟩ | ⟨hlt, -⟩
        all_goals
          go_enter Try.func22, Try.ntmps22
          go_wp2_with fail
          refine (kP _).mono ?_
          rintro e w2 ⟨rfl, rfl⟩
          go_wp2_with fail
          refine (kB _).mono ?_
          rintro e w2 ⟨rfl, rfl⟩
          go_wp2_with fail
          refine (kR _).mono ?_
          rintro e w3 ⟨rfl, hb3⟩
          go_wp2
          go_ret
          exact ⟨by rw [← HE.out]; rfl, hb3⟩
end Go.Proofs.Ytoplcmckglglcaa
