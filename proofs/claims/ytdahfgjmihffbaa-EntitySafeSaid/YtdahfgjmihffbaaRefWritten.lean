/-
  nuncio/nuncioref06's Written.
-/
import Derived.Test.YtdahfgjmihffbaaPlainEntity
import Derived.Test.YtdahfgjmihffbaaBegins
import Derived.Test.YtdahfgjmihffbaaRefBytes
namespace Go.Proofs.Ytdahfgjmihffbaa
set_option linter.unusedVariables false
set_option linter.unusedSimpArgs false
open Go.RowKit

theorem one_slice (s : ByteArray) (i : Nat) (h : i < s.size) : s.extract i (i + 1) = ⟨#[s[i]]⟩ := by
  refine bytes_ext ?_
  rw [ByteArray.data_extract, Array.toList_extract, List.extract_eq_take_drop, List.drop_eq_getElem_cons (by exact h)]
  rw [show i + 1 - i = 1 from by omega]
  rfl
theorem one_beq (c n : UInt8) : (c == n) = decide (c.toNat = n.toNat) := by
  rw [Bool.eq_iff_iff, beq_iff_eq, decide_eq_true_iff, UInt8.toNat_inj]
theorem app_data (x y : ByteArray) : (x ++ y).data.toList = x.data.toList ++ y.data.toList := by simp

set_option maxRecDepth 100000 in
set_option maxHeartbeats 4000000 in
theorem refWritten_any (w : World) (s : ByteArray) (attr : Bool) (hs : s.size ≤ 100000) :
    Calls Try.prog 11 #[.string s, .bool attr] w fun e w' => e = .returned (.string ⟨(escL attr s.data.toList).toArray⟩) ∧ w = w' := by
  obtain ⟨E, hE⟩ : ∃ E : ByteArray, E = ⟨(escL attr s.data.toList).toArray⟩ := ⟨_, rfl⟩
  rw [← hE]
  have hEl : E.data.toList = escL attr s.data.toList := by rw [hE]
  have HE := Lib.hid hEl
  clear hE hEl
  go_enter Try.func11, Try.ntmps11
  go_wp2
  go_loopw [5, 6] (fun ov iv wr => ∃ (O : ByteArray) (i : Nat), ov = .string O ∧ iv = .int .i64 (i : Int) ∧ i ≤ s.size ∧ O.size ≤ 6 * i ∧ Hid (E.data.toList = O.data.toList ++ escL attr (s.data.toList.drop i)) ∧ wr = w) (fun ov iv wr => s.size - (intOf iv).toNat)
  case atStart => exact ⟨⟨#[]⟩, 0, rfl, rfl, Nat.zero_le _, by decide, HE, rfl⟩
  case round =>
    obtain ⟨O, i, rfl, rfl, hi, hO, HO, rfl⟩ := hrel
    by_cases hlt : i < s.size
    · obtain ⟨c, hc⟩ : ∃ c, c = s[i] := ⟨_, rfl⟩
      have hx := one_slice s i hlt
      rw [← hc] at hx
      have hdr : s.data.toList.drop i = c :: s.data.toList.drop (i + 1) := by
        rw [List.drop_eq_getElem_cons (by exact hlt), hc]
        rfl
      have hO2 := HO.out
      rw [hdr, escL_cons, ← List.append_assoc] at hO2
      have hi1 : ((i : Int) + 1).toNat = i + 1 := by omega
      have hi2 : (i : Int) + 1 ≤ (s.size : Int) := by omega
      have p38 := one_beq c 38
      have p60 := one_beq c 60
      have p62 := one_beq c 62
      have p34 := one_beq c 34
      have p39 := one_beq c 39
      have p9 := one_beq c 9
      have p10 := one_beq c 10
      by_cases h38 : c.toNat = 38
      · have he : escB attr c = [38, 97, 109, 112, 59] := by unfold escB; rw [if_pos h38]
        rw [decide_eq_true (show c.toNat = (UInt8.toNat 38) from h38)] at p38
        rw [he] at hO2
        have hO3 : E.data.toList = (O ++ ⟨#[38, 97, 109, 112, 59]⟩).data.toList ++ escL attr (s.data.toList.drop (i + 1)) := by rw [hO2, app_data]
        have HO3 := Lib.hid hO3
        clear hO2 hO3 hdr hc he HO
        go_wp2
        go_roundw
        case rel => exact ⟨O ++ ⟨#[38, 97, 109, 112, 59]⟩, i + 1, rfl, by go_num, by omega, by rw [ByteArray.size_append]; show O.size + 5 ≤ _; omega, HO3, trivial⟩
        case measure => simp [intOf]; omega
      by_cases h60 : c.toNat = 60
      · have he : escB attr c = [38, 108, 116, 59] := by unfold escB; rw [if_neg h38, if_pos h60]
        rw [decide_eq_false (show ¬ c.toNat = (UInt8.toNat 38) from h38)] at p38
        rw [decide_eq_true (show c.toNat = (UInt8.toNat 60) from h60)] at p60
        rw [he] at hO2
        have hO3 : E.data.toList = (O ++ ⟨#[38, 108, 116, 59]⟩).data.toList ++ escL attr (s.data.toList.drop (i + 1)) := by rw [hO2, app_data]
        have HO3 := Lib.hid hO3
        clear hO2 hO3 hdr hc he HO
        go_wp2
        go_roundw
        case rel => exact ⟨O ++ ⟨#[38, 108, 116, 59]⟩, i + 1, rfl, by go_num, by omega, by rw [ByteArray.size_append]; show O.size + 4 ≤ _; omega, HO3, trivial⟩
        case measure => simp [intOf]; omega
      by_cases h62 : c.toNat = 62
      · have he : escB attr c = [38, 103, 116, 59] := by unfold escB; rw [if_neg h38, if_neg h60, if_pos h62]
        rw [decide_eq_false (show ¬ c.toNat = (UInt8.toNat 38) from h38)] at p38
        rw [decide_eq_false (show ¬ c.toNat = (UInt8.toNat 60) from h60)] at p60
        rw [decide_eq_true (show c.toNat = (UInt8.toNat 62) from h62)] at p62
        rw [he] at hO2
        have hO3 : E.data.toList = (O ++ ⟨#[38, 103, 116, 59]⟩).data.toList ++ escL attr (s.data.toList.drop (i + 1)) := by rw [hO2, app_data]
        have HO3 := Lib.hid hO3
        clear hO2 hO3 hdr hc he HO
        go_wp2
        go_roundw
        case rel => exact ⟨O ++ ⟨#[38, 103, 116, 59]⟩, i + 1, rfl, by go_num, by omega, by rw [ByteArray.size_append]; show O.size + 4 ≤ _; omega, HO3, trivial⟩
        case measure => simp [intOf]; omega
      by_cases h34 : c.toNat = 34
      · have he : escB attr c = [38, 113, 117, 111, 116, 59] := by unfold escB; rw [if_neg h38, if_neg h60, if_neg h62, if_pos h34]
        rw [decide_eq_false (show ¬ c.toNat = (UInt8.toNat 38) from h38)] at p38
        rw [decide_eq_false (show ¬ c.toNat = (UInt8.toNat 60) from h60)] at p60
        rw [decide_eq_false (show ¬ c.toNat = (UInt8.toNat 62) from h62)] at p62
        rw [decide_eq_true (show c.toNat = (UInt8.toNat 34) from h34)] at p34
        rw [he] at hO2
        have hO3 : E.data.toList = (O ++ ⟨#[38, 113, 117, 111, 116, 59]⟩).data.toList ++ escL attr (s.data.toList.drop (i + 1)) := by rw [hO2, app_data]
        have HO3 := Lib.hid hO3
        clear hO2 hO3 hdr hc he HO
        go_wp2
        go_roundw
        case rel => exact ⟨O ++ ⟨#[38, 113, 117, 111, 116, 59]⟩, i + 1, rfl, by go_num, by omega, by rw [ByteArray.size_append]; show O.size + 6 ≤ _; omega, HO3, trivial⟩
        case measure => simp [intOf]; omega
      by_cases h39 : c.toNat = 39
      · have he : escB attr c = [38, 35, 51, 57, 59] := by unfold escB; rw [if_neg h38, if_neg h60, if_neg h62, if_neg h34, if_pos h39]
        rw [decide_eq_false (show ¬ c.toNat = (UInt8.toNat 38) from h38)] at p38
        rw [decide_eq_false (show ¬ c.toNat = (UInt8.toNat 60) from h60)] at p60
        rw [decide_eq_false (show ¬ c.toNat = (UInt8.toNat 62) from h62)] at p62
        rw [decide_eq_false (show ¬ c.toNat = (UInt8.toNat 34) from h34)] at p34
        rw [decide_eq_true (show c.toNat = (UInt8.toNat 39) from h39)] at p39
        rw [he] at hO2
        have hO3 : E.data.toList = (O ++ ⟨#[38, 35, 51, 57, 59]⟩).data.toList ++ escL attr (s.data.toList.drop (i + 1)) := by rw [hO2, app_data]
        have HO3 := Lib.hid hO3
        clear hO2 hO3 hdr hc he HO
        go_wp2
        go_roundw
        case rel => exact ⟨O ++ ⟨#[38, 35, 51, 57, 59]⟩, i + 1, rfl, by go_num, by omega, by rw [ByteArray.size_append]; show O.size + 5 ≤ _; omega, HO3, trivial⟩
        case measure => simp [intOf]; omega
      cases attr with
      | false =>
        have he : escB false c = [c] := escB_own h38 h60 h62 h34 h39 (by simp) (by simp)
        rw [decide_eq_false (show ¬ c.toNat = (UInt8.toNat 38) from h38)] at p38
        rw [decide_eq_false (show ¬ c.toNat = (UInt8.toNat 60) from h60)] at p60
        rw [decide_eq_false (show ¬ c.toNat = (UInt8.toNat 62) from h62)] at p62
        rw [decide_eq_false (show ¬ c.toNat = (UInt8.toNat 34) from h34)] at p34
        rw [decide_eq_false (show ¬ c.toNat = (UInt8.toNat 39) from h39)] at p39
        rw [he] at hO2
        have hO3 : E.data.toList = (O ++ ⟨#[c]⟩).data.toList ++ escL false (s.data.toList.drop (i + 1)) := by rw [hO2, app_data]
        have HO3 := Lib.hid hO3
        clear hO2 hO3 hdr hc he HO
        go_wp2
        go_roundw
        case rel => exact ⟨O ++ ⟨#[c]⟩, i + 1, rfl, by go_num, by omega, by rw [ByteArray.size_append]; show O.size + 1 ≤ _; omega, HO3, trivial⟩
        case measure => simp [intOf]; omega
      | true =>
        by_cases h9 : c.toNat = 9
        · have he : escB true c = [38, 35, 57, 59] := by unfold escB; rw [if_neg h38, if_neg h60, if_neg h62, if_neg h34, if_neg h39, if_pos ⟨rfl, h9⟩]
          rw [decide_eq_false (show ¬ c.toNat = (UInt8.toNat 38) from h38)] at p38
          rw [decide_eq_false (show ¬ c.toNat = (UInt8.toNat 60) from h60)] at p60
          rw [decide_eq_false (show ¬ c.toNat = (UInt8.toNat 62) from h62)] at p62
          rw [decide_eq_false (show ¬ c.toNat = (UInt8.toNat 34) from h34)] at p34
          rw [decide_eq_false (show ¬ c.toNat = (UInt8.toNat 39) from h39)] at p39
          rw [decide_eq_true (show c.toNat = (UInt8.toNat 9) from h9)] at p9
          rw [he] at hO2
          have hO3 : E.data.toList = (O ++ ⟨#[38, 35, 57, 59]⟩).data.toList ++ escL true (s.data.toList.drop (i + 1)) := by rw [hO2, app_data]
          have HO3 := Lib.hid hO3
          clear hO2 hO3 hdr hc he HO
          go_wp2
          go_roundw
          case rel => exact ⟨O ++ ⟨#[38, 35, 57, 59]⟩, i + 1, rfl, by go_num, by omega, by rw [ByteArray.size_append]; show O.size + 4 ≤ _; omega, HO3, trivial⟩
          case measure => simp [intOf]; omega
        by_cases h10 : c.toNat = 10
        · have he : escB true c = [38, 35, 49, 48, 59] := by unfold escB; rw [if_neg h38, if_neg h60, if_neg h62, if_neg h34, if_neg h39, if_neg (by simp [h9]), if_pos ⟨rfl, h10⟩]
          rw [decide_eq_false (show ¬ c.toNat = (UInt8.toNat 38) from h38)] at p38
          rw [decide_eq_false (show ¬ c.toNat = (UInt8.toNat 60) from h60)] at p60
          rw [decide_eq_false (show ¬ c.toNat = (UInt8.toNat 62) from h62)] at p62
          rw [decide_eq_false (show ¬ c.toNat = (UInt8.toNat 34) from h34)] at p34
          rw [decide_eq_false (show ¬ c.toNat = (UInt8.toNat 39) from h39)] at p39
          rw [decide_eq_false (show ¬ c.toNat = (UInt8.toNat 9) from h9)] at p9
          rw [decide_eq_true (show c.toNat = (UInt8.toNat 10) from h10)] at p10
          rw [he] at hO2
          have hO3 : E.data.toList = (O ++ ⟨#[38, 35, 49, 48, 59]⟩).data.toList ++ escL true (s.data.toList.drop (i + 1)) := by rw [hO2, app_data]
          have HO3 := Lib.hid hO3
          clear hO2 hO3 hdr hc he HO
          go_wp2
          go_roundw
          case rel => exact ⟨O ++ ⟨#[38, 35, 49, 48, 59]⟩, i + 1, rfl, by go_num, by omega, by rw [ByteArray.size_append]; show O.size + 5 ≤ _; omega, HO3, trivial⟩
          case measure => simp [intOf]; omega
        · have he : escB true c = [c] := escB_own h38 h60 h62 h34 h39 (by simp [h9]) (by simp [h10])
          rw [decide_eq_false (show ¬ c.toNat = (UInt8.toNat 38) from h38)] at p38
          rw [decide_eq_false (show ¬ c.toNat = (UInt8.toNat 60) from h60)] at p60
          rw [decide_eq_false (show ¬ c.toNat = (UInt8.toNat 62) from h62)] at p62
          rw [decide_eq_false (show ¬ c.toNat = (UInt8.toNat 34) from h34)] at p34
          rw [decide_eq_false (show ¬ c.toNat = (UInt8.toNat 39) from h39)] at p39
          rw [decide_eq_false (show ¬ c.toNat = (UInt8.toNat 9) from h9)] at p9
          rw [decide_eq_false (show ¬ c.toNat = (UInt8.toNat 10) from h10)] at p10
          rw [he] at hO2
          have hO3 : E.data.toList = (O ++ ⟨#[c]⟩).data.toList ++ escL true (s.data.toList.drop (i + 1)) := by rw [hO2, app_data]
          have HO3 := Lib.hid hO3
          clear hO2 hO3 hdr hc he HO
          go_wp2
          go_roundw
          case rel => exact ⟨O ++ ⟨#[c]⟩, i + 1, rfl, by go_num, by omega, by rw [ByteArray.size_append]; show O.size + 1 ≤ _; omega, HO3, trivial⟩
          case measure => simp [intOf]; omega
    · have hO2 : O = E := by
        refine bytes_ext ?_
        rw [HO.out, List.drop_eq_nil_of_le (by show s.size ≤ _; omega), escL_nil, List.append_nil]
      have hltI : decide ((i : Int) < (s.size : Int)) = false := decide_eq_false (by omega)
      go_wp2
      go_ret
      exact ⟨by rw [← hO2]; rfl, rfl⟩
end Go.Proofs.Ytdahfgjmihffbaa
