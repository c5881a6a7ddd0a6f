/-
  nuncio/nuncioref05's Encode.
-/
import Derived.Test.YtoplcmckglglcaaRefPiece
namespace Go.Proofs.Ytoplcmckglglcaa
set_option linter.unusedVariables false
set_option linter.unusedSimpArgs false
open Go.RowKit

set_option maxRecDepth 100000 in
set_option maxHeartbeats 4000000 in
theorem refEncode_any (w : World) (s : ByteArray) (hs : s.size ≤ 100000) :
    Calls Try.prog 9 #[.string s] w fun e w' => e = .returned (.string ⟨(encQ 0 s.data.toList).toArray⟩) ∧ Below w.heap.size w w' := by
  obtain ⟨E, hE⟩ : ∃ E : ByteArray, E = ⟨(encQ 0 s.data.toList).toArray⟩ := ⟨_, rfl⟩
  rw [← hE]
  have hEl : E.data.toList = encQ 0 s.data.toList := by rw [hE]
  have HE := Lib.hid hEl
  have hsl : s.data.toList.length = s.size := rfl
  clear hE hEl
  go_enter Try.func9, Try.ntmps9
  go_wp2
  go_loopw [3, 4, 5] (fun ov lv iv wr => ∃ (O : ByteArray) (n i : Nat), ov = .string O ∧ lv = .int .i64 (n : Int) ∧ iv = .int .i64 (i : Int) ∧ i ≤ s.size ∧ n ≤ 75 ∧ O.size ≤ 10 * i ∧ Hid (E.data.toList = O.data.toList ++ encQ n (s.data.toList.drop i)) ∧ Below w.heap.size w wr) (fun ov lv iv wr => s.size - (intOf iv).toNat)
  case atStart => exact ⟨⟨#[]⟩, 0, 0, rfl, rfl, rfl, Nat.zero_le _, by omega, by decide, HE, Below.refl _ _⟩
  case round =>
    obtain ⟨O, n, i, rfl, rfl, rfl, hi, hn, hO, HO, hbel⟩ := hrel
    by_cases hlt : i < s.size
    · obtain ⟨c, hc⟩ : ∃ c, c = s[i] := ⟨_, rfl⟩
      have hc' : s[i].toNat = c.toNat := by rw [hc]
      have hdr : s.data.toList.drop i = c :: s.data.toList.drop (i + 1) := by
        rw [List.drop_eq_getElem_cons (by exact hlt), hc]
        rfl
      have hO2 := HO.out
      rw [hdr, encQ] at hO2
      by_cases h10 : c.toNat = 10
      · rw [if_pos h10] at hO2
        have hO3 : E.data.toList = (O ++ ⟨#[13, 10]⟩).data.toList ++ encQ 0 (s.data.toList.drop (i + 1)) := by
          rw [hO2, append_data]
          simp
        have HO3 := Lib.hid hO3
        rw [h10] at hc'
        clear hO2 hO3 hc hdr h10
        go_wp2
        go_roundw
        case rel => exact ⟨O ++ ⟨#[13, 10]⟩, 0, i + 1, rfl, rfl, by go_num, by omega, by omega, by rw [ByteArray.size_append]; show O.size + 2 ≤ _; omega, HO3, hbel⟩
        case measure => simp [intOf]; omega
      · rw [if_neg h10] at hO2
        have kP := fun (W : World) => refPiece_any W s i hlt hs
        rw [← hc] at kP
        have hlen := codeQ_len c (s.data.toList.drop (i + 1))
        obtain ⟨P, hP⟩ : ∃ P, P = codeQ c (s.data.toList.drop (i + 1)) := ⟨_, rfl⟩
        rw [← hP] at kP hO2 hlen
        obtain ⟨x, hx⟩ : ∃ x : ByteArray, x = ⟨P.toArray⟩ := ⟨_, rfl⟩
        have hxl : x.data.toList = P := by rw [hx]
        have hxs : x.size = P.length := by rw [hx]; rfl
        rw [← hx] at kP
        rw [← hxs] at hlen hO2
        have e10 : ((c.toNat : Int) == 10) = false := by rw [beq_eq_false_iff_ne]; omega
        have hx3 : x.size ≤ 3 := by omega
        by_cases h75 : 75 < n + x.size
        · rw [if_pos h75] at hO2
          have hO3 : E.data.toList = ((O ++ ⟨#[61, 13, 10]⟩) ++ x).data.toList ++ encQ x.size (s.data.toList.drop (i + 1)) := by
            rw [hO2, append_data, append_data, hxl]
            simp
          have HO3 := Lib.hid hO3
          have hgt : decide ((n : Int) + (x.size : Int) > 75) = true := decide_eq_true (by omega)
          clear hO2 hO3 hc hdr h10 hlen hP hx hxl hxs
          go_wp2_with fail
          refine (kP _).mono ?_
          rintro e w2 ⟨rfl, hb2⟩
          have hbel2 := hbel.trans (hb2.mono hbel.size)
          go_wp2
          go_roundw
          case rel => exact ⟨(O ++ ⟨#[61, 13, 10]⟩) ++ x, x.size, i + 1, rfl, by go_num, by go_num, by omega, by omega, by rw [ByteArray.size_append, ByteArray.size_append]; show O.size + 3 + _ ≤ _; omega, HO3, hbel2⟩
          case measure => simp [intOf]; omega
        · rw [if_neg h75] at hO2
          have hO3 : E.data.toList = (O ++ x).data.toList ++ encQ (n + x.size) (s.data.toList.drop (i + 1)) := by
            rw [hO2, append_data, hxl]
            simp
          have HO3 := Lib.hid hO3
          have hgt : decide ((n : Int) + (x.size : Int) > 75) = false := decide_eq_false (by omega)
          clear hO2 hO3 hc hdr h10 hlen hP hx hxl hxs
          go_wp2_with fail
          refine (kP _).mono ?_
          rintro e w2 ⟨rfl, hb2⟩
          have hbel2 := hbel.trans (hb2.mono hbel.size)
          go_wp2
          go_roundw
          case rel => exact ⟨O ++ x, n + x.size, i + 1, rfl, by go_num, by go_num, by omega, by omega, by rw [ByteArray.size_append]; omega, HO3, hbel2⟩
          case measure => simp [intOf]; omega
    · have hO2 : O = E := by
        refine bytes_ext ?_
        rw [HO.out, List.drop_eq_nil_of_le (by omega), encQ, List.append_nil]
      have hltI : decide ((i : Int) < (s.size : Int)) = false := decide_eq_false (by omega)
      go_wp2
      go_ret
      exact ⟨by rw [← hO2]; rfl, hbel⟩
end Go.Proofs.Ytoplcmckglglcaa
