/-
  nuncio/entity's Text and Attr.
-/
import Derived.Test.YtdahfgjmihffbaaEntSmall
import Derived.Test.YtdahfgjmihffbaaMakeBytes
import Derived.Test.YtdahfgjmihffbaaBytesOwn
namespace Go.Proofs.Ytdahfgjmihffbaa
set_option linter.unusedVariables false
set_option linter.unusedSimpArgs false
open Go.RowKit

theorem own1_appE (O : ByteArray) (x : UInt8) : Lib.strCells O ++ [.int .u8 (x.toNat : Int)] = Lib.strCells (O ++ ⟨#[x]⟩) := by rw [strCells_app]; rfl
theorem refN_len (attr : Bool) (n : Nat) : (refN attr n).length ≤ 6 := by
  unfold refN
  repeat' split
  all_goals decide

set_option maxRecDepth 100000 in
set_option maxHeartbeats 4000000 in
theorem escape_any (w : World) (s : ByteArray) (attr : Bool) (hs : s.size ≤ 100000) :
    Calls Try.prog 16 #[.string s, placeV attr] w fun e w' => e = .returned (.string ⟨(escL attr s.data.toList).toArray⟩) ∧ Below w.heap.size w w' := by
  obtain ⟨i0, hi0, hz0, hz1, hz2⟩ := info_parts infoU8
  obtain ⟨E, hE⟩ : ∃ E : ByteArray, E = ⟨(escL attr s.data.toList).toArray⟩ := ⟨_, rfl⟩
  rw [← hE]
  have hEl : E.data.toList = escL attr s.data.toList := by rw [hE]
  have HE := Lib.hid hEl
  have hsl : s.data.toList.length = s.size := rfl
  obtain ⟨cur, hcur, hmk⟩ := make_bytes w (s.size : Int) s.size rfl (by omega)
  have kR := fun (W : World) (n : Nat) (h : n < 256) => reference_any W n attr h
  generalize placeV attr = pv at kR
  clear hE hEl
  go_enter Try.func16, Try.ntmps16
  go_wp2
  go_loopw [5, 13] (fun ov iv wr => ∃ (O : ByteArray) (i : Nat), iv = .int .i64 (i : Int) ∧ i ≤ s.size ∧ O.size ≤ 6 * i ∧ Hid (wr.ownsRow w.heap.size 5 1 ov O.size (Lib.strCells O)) ∧ Hid (E.data.toList = O.data.toList ++ escL attr (s.data.toList.drop i)) ∧ Below w.heap.size w wr) (fun ov iv wr => s.size - (intOf iv).toNat)
  case atStart =>
    refine ⟨⟨#[]⟩, 0, rfl, Nat.zero_le _, Nat.le_refl _, ?_, HE, ?_⟩
    · exact Lib.hid (World.ownsRow_made w cur s.size (Nat.le_refl _) (by unfold maxLen; omega) (by omega))
    · exact (Below.refl _ _).alloc (Nat.le_refl _) _
  case round =>
    obtain ⟨O, i, rfl, hi, hO, Hown, HO, hbel⟩ := hrel
    clear hmk HE
    have hszW := hbel.size
    by_cases hlt : i < s.size
    · obtain ⟨c, hc⟩ : ∃ c, c = s[i] := ⟨_, rfl⟩
      have hc' : s[i].toNat = c.toNat := by rw [hc]
      have hdr : s.data.toList.drop i = c :: s.data.toList.drop (i + 1) := by
        rw [List.drop_eq_getElem_cons (by exact hlt), hc]
        rfl
      have hO2 := HO.out
      rw [hdr, escL_cons, ← List.append_assoc, escB_refN] at hO2
      have kR2 := fun (W : World) => kR W c.toNat c.toNat_lt
      have hcl := c.toNat_lt
      have hrl := refN_len attr c.toNat
      clear kR
      by_cases hr : refN attr c.toNat = []
      · rw [hr] at kR2
        rw [if_pos hr] at hO2
        have hO3 : E.data.toList = (O ++ ⟨#[c]⟩).data.toList ++ escL attr (s.data.toList.drop (i + 1)) := by rw [hO2, append_data']
        have HO3 := Lib.hid hO3
        have hoa := own1_appE O c
        have Hoa := Lib.hid hoa
        clear hO2 hO3 hoa hdr hc hr hrl HO
        go_wp2_with fail
        refine (kR2 _).mono ?_
        rintro e w2 ⟨rfl, rfl⟩
        go_wp2_with (at_builtin; refine wpList_append_own _ rfl _ _ 35 rfl w.heap.size 5 i0 (.int .u8 0) 1 1 Try.underlying35 hi0 hz0 hz1 hz2 rfl (by decide) _ _ _ rfl (Hown.out.alloc _) ⟨_, 0, none⟩ 1 1 [.int .u8 ((c.toNat : Int))] rfl rfl (cell_one_new _ _ _) (by simp [Value.oneCell']) (by unfold maxLen; omega) (by omega) (by simp; omega) ?_; intro v1 w3 hown1 hgrow1 _)
        have hB3 := (hbel.alloc hszW _).grown hgrow1 (by simp; omega) (fun j ej => (Hown.out.lt j ej).1)
        have hown2 := hown1
        rw [Hoa.out] at hown2
        have Hown2 := Lib.hid hown2
        clear hown1 hown2 hgrow1
        go_roundw
        case rel => exact ⟨O ++ ⟨#[c]⟩, i + 1, by go_num, by omega, by rw [ByteArray.size_append]; show O.size + 1 ≤ _; omega, by rw [ByteArray.size_append]; exact Hown2, HO3, hB3⟩
        case measure => simp [intOf]; omega
      · rw [if_neg hr] at hO2
        obtain ⟨x, hx⟩ : ∃ x : ByteArray, x = ⟨(refN attr c.toNat).toArray⟩ := ⟨_, rfl⟩
        have hxl : x.data.toList = refN attr c.toNat := by rw [hx]
        have hxs : x.size ≤ 6 := by rw [hx]; exact hrl
        have hxe := bytes_beq_other (x := x) (y := ⟨#[]⟩) (fun h => hr (by rw [← hxl, h]))
        have hxe2 : x.toList.isEmpty = false := by
          cases hq : x.toList with
          | nil => rw [hq] at hxe; exact absurd hxe (by simp)
          | cons a b => rfl
        rw [← hx] at kR2
        have hO3 : E.data.toList = (O ++ x).data.toList ++ escL attr (s.data.toList.drop (i + 1)) := by rw [hO2, append_data', hxl]
        have HO3 := Lib.hid hO3
        have hoa : Lib.strCells O ++ Lib.strCells x = Lib.strCells (O ++ x) := by rw [strCells_app]
        have Hoa := Lib.hid hoa
        clear hO2 hO3 hoa hdr hc hr hrl HO hx hxl
        go_wp2_with fail
        refine (kR2 _).mono ?_
        rintro e w2 ⟨rfl, rfl⟩
        go_wp2_with (at_builtin; refine Lib.wpList_append_own_string _ rfl _ _ 35 9 rfl w.heap.size 5 i0 Try.underlying35 Try.underlying9 hi0 hz0 hz1 hz2 _ _ _ rfl Hown.out x rfl (by unfold maxLen; omega) (by omega) hszW ?_; intro v1 w3 hown1 hgrow1 _)
        have hB3 := hbel.grown hgrow1 (by omega) (fun j ej => (Hown.out.lt j ej).1)
        have hown2 := hown1
        rw [Hoa.out] at hown2
        have Hown2 := Lib.hid hown2
        clear hown1 hown2 hgrow1
        go_roundw
        case rel => exact ⟨O ++ x, i + 1, by go_num, by omega, by rw [ByteArray.size_append]; omega, by rw [ByteArray.size_append]; exact Hown2, HO3, hB3⟩
        case measure => simp [intOf]; omega
    · obtain rfl : i = s.size := by omega
      have hO2 : E = O := by
        refine bytes_ext ?_
        rw [HO.out, List.drop_eq_nil_of_le (by omega), escL_nil, List.append_nil]
      subst hO2
      have kv := conv_owns Hown.out
      clear kR
      go_wp2
      go_ret
      exact ⟨rfl, hbel⟩

theorem text_any (w : World) (s : ByteArray) (hs : s.size ≤ 100000) :
    Calls Try.prog 8 #[.string s] w fun e w' => e = .returned (.string ⟨(escL false s.data.toList).toArray⟩) ∧ Below w.heap.size w w' := by
  have kE := fun (W : World) => escape_any W s false hs
  unfold placeV at kE
  generalize (⟨(escL false s.data.toList).toArray⟩ : ByteArray) = E at kE ⊢
  go_enter Try.func8, Try.ntmps8
  go_wp2_with fail
  refine (kE _).mono ?_
  rintro e w2 ⟨rfl, hb2⟩
  go_wp2
  go_ret
  exact ⟨rfl, hb2⟩
theorem attr_any (w : World) (s : ByteArray) (hs : s.size ≤ 100000) :
    Calls Try.prog 9 #[.string s] w fun e w' => e = .returned (.string ⟨(escL true s.data.toList).toArray⟩) ∧ Below w.heap.size w w' := by
  have kE := fun (W : World) => escape_any W s true hs
  unfold placeV at kE
  generalize (⟨(escL true s.data.toList).toArray⟩ : ByteArray) = E at kE ⊢
  go_enter Try.func9, Try.ntmps9
  go_wp2_with fail
  refine (kE _).mono ?_
  rintro e w2 ⟨rfl, hb2⟩
  go_wp2
  go_ret
  exact ⟨rfl, hb2⟩
end Go.Proofs.Ytdahfgjmihffbaa
