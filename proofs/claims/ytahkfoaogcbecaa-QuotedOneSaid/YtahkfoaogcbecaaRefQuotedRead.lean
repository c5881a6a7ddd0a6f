/-
  nuncio/nuncioref07's Read.
-/
import Derived.Test.YtahkfoaogcbecaaRefQuotedOneC
namespace Go.Proofs.Ytahkfoaogcbecaa
set_option linter.unusedVariables false
set_option linter.unusedSimpArgs false
open Go.RowKit

/-- What Read answers. -/
def resJ : Option (List UInt8) → Value
  | some x => .tuple #[.string ⟨x.toArray⟩, .int .i64 0]
  | none => .tuple #[.string ⟨#[]⟩, .int .i64 7]
theorem encL_len4J (r : Nat) : (encL r).length ≤ 4 := by
  rw [encL_len]
  split <;> (try split) <;> (try split) <;> omega

set_option maxRecDepth 100000 in
set_option maxHeartbeats 4000000 in
theorem refReadJ_any (w : World) (s : ByteArray) (hs : s.size ≤ 100000) :
    Calls Try.prog 16 #[.string s] w fun e w' => e = .returned (resJ (decJ s.data.toList)) ∧ Below w.heap.size w w' := by
  obtain ⟨D, hD⟩ : ∃ D, D = decJ s.data.toList := ⟨_, rfl⟩
  rw [← hD]
  have HD := Lib.hid hD
  have hsl : s.data.toList.length = s.size := rfl
  clear hD
  go_enter Try.func16, Try.ntmps16
  go_wp2
  go_loopw [4, 5] (fun ov iv wr => ∃ (O : ByteArray) (i : Nat), ov = .string O ∧ iv = .int .i64 (i : Int) ∧ i ≤ s.size ∧ O.size ≤ 4 * i ∧ Hid (D = (decJ (s.data.toList.drop i)).map (O.data.toList ++ ·)) ∧ Below w.heap.size w wr) (fun ov iv wr => s.size - (intOf iv).toNat)
  case atStart =>
    refine ⟨⟨#[]⟩, 0, rfl, rfl, Nat.zero_le _, Nat.le_refl _, ?_, Below.refl _ _⟩
    refine Lib.hid ?_
    rw [HD.out, List.drop_zero]
    cases decJ s.data.toList <;> simp
  case round =>
    obtain ⟨O, i, rfl, rfl, hi, hO, HO, hbel⟩ := hrel
    by_cases hlt : i < s.size
    · have hdr : ∃ c r, s.data.toList.drop i = c :: r := ⟨_, _, List.drop_eq_getElem_cons (by exact hlt)⟩
      obtain ⟨c, r, hdr⟩ := hdr
      have kO := fun (W : World) => refOneJ_any W s (i : Int) hs
      have hat : oneJAt s (i : Int) = oneJ (c :: r) := by
        unfold oneJAt
        rw [if_pos (by omega), Int.toNat_natCast, hdr]
      rw [hat] at kO
      have hO2 := HO.out
      rw [hdr] at hO2
      cases ho : oneJ (c :: r) with
      | none =>
        rw [ho] at kO
        have hO3 : D = none := by rw [hO2, decJ_bad ho]; rfl
        subst hO3
        simp only [oneJV] at kO
        clear hO2 hdr ho hat
        go_wp2_with fail
        refine (kO _).mono ?_
        rintro e w2 ⟨rfl, hb2⟩
        go_wp2_with fail
        go_ret2
        exact ⟨rfl, hbel.trans (hb2.mono hbel.size)⟩
      | some p =>
        obtain ⟨v, n⟩ := p
        rw [ho] at kO
        simp only [oneJV] at kO
        have hn := oneJ_size ho
        have hln : (c :: r).length = s.size - i := by rw [← hdr, List.length_drop, hsl]
        rw [hln] at hn
        have hv2 : v ≤ 1114111 := by have := hn.2.2.2; unfold isRune at this; omega
        have kE := fun (W : World) => refBytes_any (v : Int) W (by omega) (by omega)
        rw [encode_rune v hn.2.2.2] at kE
        obtain ⟨y, hy⟩ : ∃ y : ByteArray, y = ⟨(encL v).toArray⟩ := ⟨_, rfl⟩
        rw [← hy] at kE
        have hys : y.size ≤ 4 := by rw [hy]; exact encL_len4J v
        have hO3 : D = (decJ (s.data.toList.drop (i + n))).map ((O ++ y).data.toList ++ ·) := by
          rw [hO2, decJ_one ho, ← hdr, List.drop_drop, Option.map_map, append_data, hy]
          congr 1
          funext x
          simp
        have HO3 := Lib.hid hO3
        have hin : i + n ≤ s.size := by omega
        have hn1 := hn.1
        clear hO2 hdr ho hat hO3 hln hn hy
        go_wp2_with fail
        refine (kO _).mono ?_
        rintro e w2 ⟨rfl, hb2⟩
        have hbel2 := hbel.trans (hb2.mono hbel.size)
        go_wp2_with fail
        refine (kE _).mono ?_
        rintro e w3 ⟨rfl, hb3⟩
        go_wp2_with fail
        go_roundw
        case rel => exact ⟨O ++ y, i + n, rfl, by go_num, by omega, by rw [ByteArray.size_append]; omega, HO3, hbel2.trans (hb3.mono hbel2.size)⟩
        case measure => simp [intOf]; omega
    · obtain rfl : i = s.size := by omega
      have hO2 : D = some O.data.toList := by
        rw [HO.out, List.drop_eq_nil_of_le (by omega), decJ_nil]
        simp
      subst hO2
      go_wp2
      go_ret2
      exact ⟨rfl, hbel⟩
end Go.Proofs.Ytahkfoaogcbecaa
