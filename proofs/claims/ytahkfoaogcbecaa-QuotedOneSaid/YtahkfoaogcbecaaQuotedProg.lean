/-
  nuncio/jstr's Read, with the contracts of its other functions.
-/
import Derived.Test.YtahkfoaogcbecaaRefQuotedRead
import Derived.Test.YtahkfoaogcbecaaRefQuotedWrite
import Derived.Test.YtahkfoaogcbecaaQuotedWrite
import Derived.Test.YtahkfoaogcbecaaQuotedOne
namespace Go.Proofs.Ytahkfoaogcbecaa
set_option linter.unusedVariables false
set_option linter.unusedSimpArgs false
open Go.RowKit

set_option maxRecDepth 100000 in
set_option maxHeartbeats 4000000 in
theorem read_any (w : World) (s : ByteArray) (hs : s.size ≤ 100000) :
    Calls Try.prog 9 #[.string s] w fun e w' => e = .returned (resJ (decJ s.data.toList)) ∧ Below w.heap.size w w' := by
  obtain ⟨i0, hi0, hz0, hz1, hz2⟩ := info_parts infoU8
  obtain ⟨D, hD⟩ : ∃ D, D = decJ s.data.toList := ⟨_, rfl⟩
  rw [← hD]
  have HD := Lib.hid hD
  have hsl : s.data.toList.length = s.size := rfl
  obtain ⟨cur, hcur, hmk⟩ := make_bytes w (s.size : Int) s.size rfl (by omega)
  clear hD
  go_enter Try.func9, Try.ntmps9
  go_wp2
  go_loopw [4, 5] (fun ov iv wr => ∃ (O : ByteArray) (i : Nat), iv = .int .i64 (i : Int) ∧ i ≤ s.size ∧ O.size ≤ 4 * i ∧ Hid (wr.ownsRow w.heap.size 5 1 ov O.size (Lib.strCells O)) ∧ Hid (D = (decJ (s.data.toList.drop i)).map (O.data.toList ++ ·)) ∧ Below w.heap.size w wr) (fun ov iv wr => s.size - (intOf iv).toNat)
  case atStart =>
    refine ⟨⟨#[]⟩, 0, rfl, Nat.zero_le _, Nat.le_refl _, ?_, ?_, ?_⟩
    · exact Lib.hid (World.ownsRow_made w cur s.size (Nat.le_refl _) (by unfold maxLen; omega) (by omega))
    · refine Lib.hid ?_
      rw [HD.out, List.drop_zero]
      cases decJ s.data.toList <;> simp
    · exact (Below.refl _ _).alloc (Nat.le_refl _) _
  case round =>
    obtain ⟨O, i, rfl, hi, hO, Hown, HO, hbel⟩ := hrel
    clear hmk HD
    have hszW := hbel.size
    by_cases hlt : i < s.size
    · have hdr : ∃ c r, s.data.toList.drop i = c :: r := ⟨_, _, List.drop_eq_getElem_cons (by exact hlt)⟩
      obtain ⟨c, r, hdr⟩ := hdr
      have kO := fun (W : World) => one_any W s (i : Int) hs (by omega) (by omega)
      have hat : oneJAt s (i : Int) = oneJ (c :: r) := by
        unfold oneJAt
        rw [if_pos (by omega), Int.toNat_natCast, hdr]
      rw [hat] at kO
      have hO2 := HO.out
      rw [hdr] at hO2
      cases ho : oneJ (c :: r) with
      | none =>
        rw [ho] at kO
        have hO3 : D = none := by rw [hO2, decJ_bad ho]; rfl
        subst hO3
        simp only [oneJP] at kO
        clear hO2 hdr ho hat HO
        go_wp2_with fail
        refine (kO _).mono ?_
        rintro e w2 ⟨rfl, hb2⟩
        go_wp2_with fail
        go_ret2
        exact ⟨rfl, hbel.trans (hb2.mono hbel.size)⟩
      | some p =>
        obtain ⟨v, n⟩ := p
        rw [ho] at kO
        simp only [oneJP] at kO
        have hn := oneJ_size ho
        have hln : (c :: r).length = s.size - i := by rw [← hdr, List.length_drop, hsl]
        rw [hln] at hn
        have kE := fun (W : World) => utfBytes_any (v : Int) W
        rw [encode_rune v hn.2.2.2] at kE
        obtain ⟨y, hy⟩ : ∃ y : ByteArray, y = ⟨(encL v).toArray⟩ := ⟨_, rfl⟩
        rw [← hy] at kE
        have hys : y.size ≤ 4 := by rw [hy]; exact encL_len4J v
        have hO3 : D = (decJ (s.data.toList.drop (i + n))).map ((O ++ y).data.toList ++ ·) := by
          rw [hO2, decJ_one ho, ← hdr, List.drop_drop, Option.map_map, append_data, hy]
          congr 1
          funext x
          simp
        have HO3 := Lib.hid hO3
        have hin : i + n ≤ s.size := by omega
        have hn1 := hn.1
        have hoa : Lib.strCells O ++ Lib.strCells y = Lib.strCells (O ++ y) := by rw [strCells_app]
        have Hoa := Lib.hid hoa
        clear hO2 hO3 hdr ho hat HO hn hln hy hoa
        go_wp2_with fail
        refine (kO _).mono ?_
        rintro e w2 ⟨rfl, hb2⟩
        have hB2 := hbel.trans (hb2.mono hbel.size)
        have Hown4 := Lib.hid (ownsRow_below Hown.out hb2)
        have hsz2 := hB2.size
        clear Hown hbel hb2 kO
        go_wp2_with fail
        refine (kE _).mono ?_
        rintro e w3 ⟨rfl, rfl⟩
        go_wp2_with (at_builtin; refine Lib.wpList_append_own_string _ rfl _ _ 33 9 rfl w.heap.size 5 i0 Try.underlying33 Try.underlying9 hi0 hz0 hz1 hz2 _ _ _ rfl Hown4.out y rfl (by unfold maxLen; omega) (by omega) hsz2 ?_; intro v1 w3 hown1 hgrow1 _)
        have hB3 := hB2.grown hgrow1 (by omega) (fun j ej => (Hown4.out.lt j ej).1)
        have hown2 := hown1
        rw [Hoa.out] at hown2
        have Hown2 := Lib.hid hown2
        clear hown1 hown2 hgrow1
        go_roundw
        case rel => exact ⟨O ++ y, i + n, by go_num, by omega, by rw [ByteArray.size_append]; omega, by rw [ByteArray.size_append]; exact Hown2, HO3, hB3⟩
        case measure => simp [intOf]; omega
    · obtain rfl : i = s.size := by omega
      have hO2 : D = some O.data.toList := by
        rw [HO.out, List.drop_eq_nil_of_le (by omega), decJ_nil]
        simp
      subst hO2
      have kv := conv_owns Hown.out
      go_wp2
      go_ret2
      exact ⟨rfl, hbel⟩
end Go.Proofs.Ytahkfoaogcbecaa
