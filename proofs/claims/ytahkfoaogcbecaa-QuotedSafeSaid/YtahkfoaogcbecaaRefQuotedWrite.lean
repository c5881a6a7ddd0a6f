/-
  nuncio/nuncioref07's Write and Whole.
-/
import Derived.Test.YtahkfoaogcbecaaRefQuoted
import Derived.Test.YtahkfoaogcbecaaRefRunes
namespace Go.Proofs.Ytahkfoaogcbecaa
set_option linter.unusedVariables false
set_option linter.unusedSimpArgs false
open Go.RowKit

set_option maxRecDepth 100000 in
set_option maxHeartbeats 4000000 in
theorem refWriteJ_any (w : World) (s : ByteArray) (hs : s.size ≤ 100000) :
    Calls Try.prog 10 #[.string s] w fun e w' => e = .returned (.string ⟨(writeJ s.data.toList).toArray⟩) ∧ Below w.heap.size w w' := by
  obtain ⟨E, hE⟩ : ∃ E : ByteArray, E = ⟨(writeJ s.data.toList).toArray⟩ := ⟨_, rfl⟩
  rw [← hE]
  have HE := Lib.hid hE
  have kR := fun (W : World) => refRunesJ_any s W hs
  have hok := runesJ_ok s.data.toList
  have hln := runesJ_len s.data.toList
  have hwr : writeJ s.data.toList = writeR (runesJ s.data.toList) := rfl
  rw [hwr] at HE
  rw [show s.data.toList.length = s.size from rfl] at hln
  generalize runesJ s.data.toList = L at kR hok hln HE
  have Hok := Lib.hid hok
  clear hE hok hwr
  go_enter Try.func10, Try.ntmps10
  go_wp2_with fail
  refine (kR _).mono ?_
  rintro e w2 ⟨⟨ao, cap, rfl, hc⟩, hb2⟩
  have Hc := Lib.hid hc
  clear hc kR
  go_wp2_with fail
  go_loopw [4, 5] (fun ov iv wr => ∃ (O : ByteArray) (i : Nat), ov = .string O ∧ iv = .int .i64 (i : Int) ∧ i ≤ L.length ∧ O.size ≤ 6 * i ∧ Hid (O.data.toList = writeR (L.take i)) ∧ Below w2.heap.size w2 wr) (fun ov iv wr => L.length - (intOf iv).toNat)
  case atStart => exact ⟨⟨#[]⟩, 0, rfl, rfl, Nat.zero_le _, Nat.le_refl _, Lib.hid rfl, Below.refl _ _⟩
  case round =>
    obtain ⟨O, i, rfl, rfl, hi, hO, HO, hbel⟩ := hrel
    by_cases hlt : i < L.length
    · obtain ⟨r, hr⟩ : ∃ r, r = L[i] := ⟨_, rfl⟩
      have hg : L[i]? = some r := by rw [List.getElem?_eq_getElem hlt, hr]
      obtain ⟨b, hao, hbl, hcell⟩ := Hc.out i r hg
      have hrr : isRune r := Hok.out r (by rw [hr]; exact List.getElem_mem hlt)
      have kW := fun (W : World) => refEscJ_any W r hrr
      have hcell2 : wr.cell? ⟨b, i, none⟩ = some (.int .i64 (r : Int)) := by rw [World.cell?_of_block (hbel.block b hbl)]; exact hcell
      obtain ⟨y, hy⟩ : ∃ y : ByteArray, y = ⟨(escJ r).toArray⟩ := ⟨_, rfl⟩
      rw [← hy] at kW
      have hys : y.size ≤ 6 := by rw [hy]; exact (escJ_len r).2
      have hO3 : (O ++ y).data.toList = writeR (L.take (i + 1)) := by
        rw [append_data, HO.out, List.take_add_one, hg, hy]
        unfold writeR
        rw [List.flatMap_append]
        simp
      have HO3 := Lib.hid hO3
      clear hcell hrr hr hg hy hO3
      subst hao
      go_wp2_with fail
      refine (kW _).mono ?_
      rintro e w4 ⟨rfl, hb4⟩
      go_wp2_with fail
      go_roundw
      case rel => exact ⟨O ++ y, i + 1, rfl, by go_num, by omega, by rw [ByteArray.size_append]; omega, HO3, hbel.trans (hb4.mono hbel.size)⟩
      case measure => simp [intOf]; omega
    · obtain rfl : i = L.length := by omega
      have hO2 : O = E := by
        refine bytes_ext ?_
        rw [HO.out, HE.out, List.take_length]
      go_wp2_with fail
      go_ret
      exact ⟨by rw [← hO2]; rfl, hb2.trans (hbel.mono hb2.size)⟩

set_option maxRecDepth 100000 in
set_option maxHeartbeats 4000000 in
theorem refWholeJ_any (w : World) (s : ByteArray) (hs : s.size ≤ 100000) :
    Calls Try.prog 11 #[.string s] w fun e w' => e = .returned (.string ⟨(wholeJ s.data.toList).toArray⟩) ∧ Below w.heap.size w w' := by
  obtain ⟨E, hE⟩ : ∃ E : ByteArray, E = ⟨(wholeJ s.data.toList).toArray⟩ := ⟨_, rfl⟩
  rw [← hE]
  have HE := Lib.hid hE
  have kR := fun (W : World) => refRunesJ_any s W hs
  have hok := runesJ_ok s.data.toList
  have hln := runesJ_len s.data.toList
  have hwr : wholeJ s.data.toList = (runesJ s.data.toList).flatMap encL := rfl
  rw [hwr] at HE
  rw [show s.data.toList.length = s.size from rfl] at hln
  generalize runesJ s.data.toList = L at kR hok hln HE
  have Hok := Lib.hid hok
  clear hE hok hwr
  go_enter Try.func11, Try.ntmps11
  go_wp2_with fail
  refine (kR _).mono ?_
  rintro e w2 ⟨⟨ao, cap, rfl, hc⟩, hb2⟩
  have Hc := Lib.hid hc
  clear hc kR
  go_wp2_with fail
  go_loopw [4, 5] (fun ov iv wr => ∃ (O : ByteArray) (i : Nat), ov = .string O ∧ iv = .int .i64 (i : Int) ∧ i ≤ L.length ∧ O.size ≤ 4 * i ∧ Hid (O.data.toList = (L.take i).flatMap encL) ∧ Below w2.heap.size w2 wr) (fun ov iv wr => L.length - (intOf iv).toNat)
  case atStart => exact ⟨⟨#[]⟩, 0, rfl, rfl, Nat.zero_le _, Nat.le_refl _, Lib.hid rfl, Below.refl _ _⟩
  case round =>
    obtain ⟨O, i, rfl, rfl, hi, hO, HO, hbel⟩ := hrel
    by_cases hlt : i < L.length
    · obtain ⟨r, hr⟩ : ∃ r, r = L[i] := ⟨_, rfl⟩
      have hg : L[i]? = some r := by rw [List.getElem?_eq_getElem hlt, hr]
      obtain ⟨b, hao, hbl, hcell⟩ := Hc.out i r hg
      have hrr : isRune r := Hok.out r (by rw [hr]; exact List.getElem_mem hlt)
      have hr2 : r ≤ 1114111 := by unfold isRune at hrr; omega
      have kW := fun (W : World) => refBytes_any (r : Int) W (by omega) (by omega)
      rw [encode_rune r hrr] at kW
      have hcell2 : wr.cell? ⟨b, i, none⟩ = some (.int .i64 (r : Int)) := by rw [World.cell?_of_block (hbel.block b hbl)]; exact hcell
      obtain ⟨y, hy⟩ : ∃ y : ByteArray, y = ⟨(encL r).toArray⟩ := ⟨_, rfl⟩
      rw [← hy] at kW
      have hys : y.size ≤ 4 := by
        rw [hy]
        show (encL r).length ≤ 4
        rw [encL_len]
        split <;> (try split) <;> (try split) <;> omega
      have hO3 : (O ++ y).data.toList = (L.take (i + 1)).flatMap encL := by
        rw [append_data, HO.out, List.take_add_one, hg, hy]
        rw [List.flatMap_append]
        simp
      have HO3 := Lib.hid hO3
      clear hcell hrr hr hg hy hO3
      subst hao
      go_wp2_with fail
      refine (kW _).mono ?_
      rintro e w4 ⟨rfl, hb4⟩
      go_wp2_with fail
      go_roundw
      case rel => exact ⟨O ++ y, i + 1, rfl, by go_num, by omega, by rw [ByteArray.size_append]; omega, HO3, hbel.trans (hb4.mono hbel.size)⟩
      case measure => simp [intOf]; omega
    · obtain rfl : i = L.length := by omega
      have hO2 : O = E := by
        refine bytes_ext ?_
        rw [HO.out, HE.out, List.take_length]
      go_wp2_with fail
      go_ret
      exact ⟨by rw [← hO2]; rfl, hb2.trans (hbel.mono hb2.size)⟩
end Go.Proofs.Ytahkfoaogcbecaa
