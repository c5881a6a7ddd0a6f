/-
  nuncio/qp's Decode.
-/
import Derived.Test.YtoplcmckglglcaaQpAt
import Derived.Test.YtoplcmckglglcaaOctPre
import Derived.Test.YtoplcmckglglcaaRefUnprint
import Derived.Test.YtoplcmckglglcaaMakeBytes
namespace Go.Proofs.Ytoplcmckglglcaa
set_option linter.unusedVariables false
set_option linter.unusedSimpArgs false
open Go.RowKit

theorem begins_esc (s : ByteArray) (i : Nat) (c : UInt8) (r : List UInt8) (hi : i ≤ s.size) (h : s.data.toList.drop i = c :: r) : beginsB s ⟨#[61]⟩ (i : Int) = decide (c.toNat = 61) := by
  rw [begins_pre s _ i hi, h]
  show ((61 : UInt8) == c && List.isPrefixOf [] r) = _
  rw [Bool.eq_iff_iff]
  simp only [List.isPrefixOf, Bool.and_true, beq_iff_eq, decide_eq_true_iff]
  rw [← UInt8.toNat_inj]
  exact ⟨fun h => h.symm, fun h => h.symm⟩

set_option maxRecDepth 100000 in
set_option maxHeartbeats 4000000 in
theorem decode_any (w : World) (s : ByteArray) (hs : s.size ≤ 100000) :
    Calls Try.prog 8 #[.string s] w fun e w' => e = .returned (resQ (decQ s.data.toList)) ∧ Below w.heap.size w w' := by
  obtain ⟨i0, hi0, hz0, hz1, hz2⟩ := info_parts infoU8
  obtain ⟨D, hD⟩ : ∃ D, D = decQ s.data.toList := ⟨_, rfl⟩
  rw [← hD]
  have HD := Lib.hid hD
  have hsl : s.data.toList.length = s.size := rfl
  obtain ⟨cur, hcur, hmk⟩ := make_bytes w (s.size : Int) s.size rfl (by omega)
  clear hD
  go_enter Try.func8, Try.ntmps8
  go_wp2
  go_loopw [4, 5] (fun ov iv wr => ∃ (O : ByteArray) (i : Nat), iv = .int .i64 (i : Int) ∧ i ≤ s.size ∧ O.size ≤ i ∧ Hid (wr.ownsRow w.heap.size 5 1 ov O.size (Lib.strCells O)) ∧ Hid (D = (decQ (s.data.toList.drop i)).map (O.data.toList ++ ·)) ∧ Below w.heap.size w wr) (fun ov iv wr => s.size - (intOf iv).toNat)
  case atStart =>
    refine ⟨⟨#[]⟩, 0, rfl, Nat.zero_le _, Nat.le_refl _, ?_, ?_, ?_⟩
    · exact Lib.hid (World.ownsRow_made w cur s.size (Nat.le_refl _) (by unfold maxLen; omega) (by omega))
    · refine Lib.hid ?_
      rw [HD.out, List.drop_zero]
      cases decQ s.data.toList <;> simp
    · exact (Below.refl _ _).alloc (Nat.le_refl _) _
  case round =>
    obtain ⟨O, i, rfl, hi, hO, Hown, HO, hbel⟩ := hrel
    clear hmk
    have hszW := hbel.size
    by_cases hlt : i < s.size
    · obtain ⟨c, hc⟩ : ∃ c, c = s[i] := ⟨_, rfl⟩
      have hc' : s[i].toNat = c.toNat := by rw [hc]
      have hdr : s.data.toList.drop i = c :: s.data.toList.drop (i + 1) := by
        rw [List.drop_eq_getElem_cons (by exact hlt), hc]
        rfl
      have kB1 := fun (W : World) => octBegins_any s ⟨#[13, 10]⟩ (i : Int) W (by omega) (by decide)
      have kB2 := fun (W : World) => octBegins_any s ⟨#[61, 13, 10]⟩ (i : Int) W (by omega) (by decide)
      have kB3 := fun (W : World) => octBegins_any s ⟨#[61]⟩ (i : Int) W (by omega) (by decide)
      rw [begins_end s i c _ hi hdr] at kB1
      rw [begins_soft s i c _ hi hdr] at kB2
      rw [begins_esc s i c _ hi hdr] at kB3
      have kP := fun (W : World) => qpPlain_any W c
      have kL := fun (W : World) => qpBlank_any W c
      have hcl := c.toNat_lt
      have hO2 := HO.out
      rw [hdr] at hO2
      have hr1 : (s.data.toList.drop (i + 1)).drop 1 = s.data.toList.drop (i + 2) := by rw [List.drop_drop]
      have hr2 : (s.data.toList.drop (i + 1)).drop 2 = s.data.toList.drop (i + 3) := by rw [List.drop_drop]
      have hrl : (s.data.toList.drop (i + 1)).length = s.size - (i + 1) := by rw [List.length_drop, hsl]
      have kY := fun (W : World) => octByte_any s ((i : Int) + 1) W (by omega)
      unfold byteRes at kY
      rw [show (i : Int) + 1 = ((i + 1 : Nat) : Int) from rfl, byteAt_hex] at kY
      obtain ⟨r, hr⟩ : ∃ r, r = s.data.toList.drop (i + 1) := ⟨_, rfl⟩
      rw [← hr] at kB1 kB2 hO2 hr1 hr2 hrl kY
      by_cases h13 : c.toNat = 13
      · rw [decide_eq_true h13, Bool.true_and] at kB1
        by_cases hh : headIs r 10 = true
        · rw [hh] at kB1
          have hr0 : r = 10 :: s.data.toList.drop (i + 2) := by
            rw [← hr1]
            cases r with
            | nil => cases hh
            | cons d r =>
              have : d.toNat = 10 := by simpa [headIs] using hh
              rw [show d = 10 from UInt8.toNat_inj.1 this]
              rfl
          have hi2 : i + 2 ≤ s.size := by
            rw [hr0] at hrl
            simp at hrl
            omega
          have hO3 : D = (decQ (s.data.toList.drop (i + 2))).map ((O ++ ⟨#[10]⟩).data.toList ++ ·) := by
            rw [hO2, hr0, show c = 13 from UInt8.toNat_inj.1 h13, decQ_end, Option.map_map, append_data]
            congr 1
            funext x
            simp
          have HO3 := Lib.hid hO3
          have hoa : Lib.strCells O ++ [.int .u8 10] = Lib.strCells (O ++ ⟨#[10]⟩) := own1_app O 10
          have Hoa := Lib.hid hoa
          clear hO3 hr0 hO2 hr1 hr2 hrl hr hdr hc hh kB2 kB3 kP kL kY hoa
          go_wp2_with fail
          refine (kB1 _).mono ?_
          rintro e w2 ⟨rfl, rfl⟩
          go_wp2_with (at_builtin; refine wpList_append_own _ rfl _ _ 28 rfl w.heap.size 5 i0 (.int .u8 0) 1 1 Try.underlying28 hi0 hz0 hz1 hz2 rfl (by decide) _ _ _ rfl (Hown.out.alloc _) ⟨_, 0, none⟩ 1 1 [.int .u8 10] rfl rfl (cell_one_new _ _ _) (by simp [Value.oneCell']) (by unfold maxLen; omega) (by omega) (by simp; omega) ?_; intro v1 w3 hown1 hgrow1 _)
          have hB3 := (hbel.alloc hszW _).grown hgrow1 (by simp; omega) (fun j ej => (Hown.out.lt j ej).1)
          have hown2 := hown1
          rw [Hoa.out] at hown2
          have Hown2 := Lib.hid hown2
          clear hown1 hown2 hgrow1
          go_roundw
          case rel => exact ⟨O ++ ⟨#[10]⟩, i + 2, by go_num, by omega, by rw [ByteArray.size_append]; show O.size + 1 ≤ _; omega, by rw [ByteArray.size_append]; exact Hown2, HO3, hB3⟩
          case measure => simp [intOf]; omega
        · have hh1 : headIs r 10 = false := by simpa using hh
          rw [hh1] at kB1
          rw [decide_eq_false (show ¬ c.toNat = 61 by omega), Bool.false_and] at kB2
          rw [decide_eq_false (show ¬ c.toNat = 61 by omega)] at kB3
          rw [show plainQ c = false from by unfold plainQ; simp [h13]] at kP
          rw [show blankQ c = false from by unfold blankQ; simp [h13]] at kL
          rw [h13] at kP kL hc'
          have hO3 : D = none := by rw [hO2, decQ_alone r h13 hh1]; rfl
          subst hO3
          clear hO2 hr1 hr2 hrl hr hdr hc kY
          go_wp2_with fail
          refine (kB1 _).mono ?_
          rintro e w2 ⟨rfl, rfl⟩
          go_wp2_with fail
          refine (kB2 _).mono ?_
          rintro e w2 ⟨rfl, rfl⟩
          go_wp2_with fail
          refine (kB3 _).mono ?_
          rintro e w2 ⟨rfl, rfl⟩
          go_wp2_with fail
          refine (kP _).mono ?_
          rintro e w2 ⟨rfl, rfl⟩
          go_wp2_with fail
          refine (kL _).mono ?_
          rintro e w2 ⟨rfl, rfl⟩
          go_wp2
          go_ret2
          exact ⟨rfl, hbel⟩
      · rw [decide_eq_false h13, Bool.false_and] at kB1
        by_cases h61 : c.toNat = 61
        · rw [decide_eq_true h61, Bool.true_and] at kB2
          rw [decide_eq_true h61] at kB3
          by_cases hh : (headIs r 13 && headIs (r.drop 1) 10) = true
          · rw [hh] at kB2
            rw [Bool.and_eq_true] at hh
            have hr0 : r = 13 :: 10 :: s.data.toList.drop (i + 3) := by
              rw [← hr2]
              obtain ⟨ha, hb⟩ := hh
              cases r with
              | nil => cases ha
              | cons d r =>
                cases r with
                | nil => cases hb
                | cons e r =>
                  have h1 : d.toNat = 13 := by simpa [headIs] using ha
                  have h2 : e.toNat = 10 := by simpa [headIs] using hb
                  rw [show d = 13 from UInt8.toNat_inj.1 h1, show e = 10 from UInt8.toNat_inj.1 h2]
                  rfl
            have hi2 : i + 3 ≤ s.size := by
              rw [hr0] at hrl
              simp at hrl
              omega
            have hO3 : D = (decQ (s.data.toList.drop (i + 3))).map (O.data.toList ++ ·) := by
              rw [hO2, hr0, show c = 61 from UInt8.toNat_inj.1 h61, decQ_soft]
            have HO3 := Lib.hid hO3
            clear hO3 hr0 hO2 hr1 hr2 hrl hr hdr hc hh kP kL kY kB3
            go_wp2_with fail
            refine (kB1 _).mono ?_
            rintro e w2 ⟨rfl, rfl⟩
            go_wp2_with fail
            refine (kB2 _).mono ?_
            rintro e w2 ⟨rfl, rfl⟩
            go_wp2
            go_roundw
            case rel => exact ⟨O, i + 3, by go_num, by omega, by omega, Hown, HO3, hbel⟩
            case measure => simp [intOf]; omega
          · have hh1 : (headIs r 13 && headIs (r.drop 1) 10) = false := by simpa using hh
            rw [hh1] at kB2
            cases hx : hex2 r with
            | none =>
              rw [hx] at kY
              simp only [Option.map_none, Option.getD_none, Option.isSome_none] at kY
              have hO3 : D = none := by rw [hO2, decQ_nohex r h61 hh1 hx]; rfl
              subst hO3
              clear hO2 hr1 hr2 hrl hr hdr hc kP kL
              go_wp2_with fail
              refine (kB1 _).mono ?_
              rintro e w2 ⟨rfl, rfl⟩
              go_wp2_with fail
              refine (kB2 _).mono ?_
              rintro e w2 ⟨rfl, rfl⟩
              go_wp2_with fail
              refine (kB3 _).mono ?_
              rintro e w2 ⟨rfl, rfl⟩
              go_wp2_with fail
              refine (kY _).mono ?_
              rintro e w2 ⟨rfl, rfl⟩
              go_wp2
              go_ret2
              exact ⟨rfl, hbel⟩
            | some b =>
              rw [hx] at kY
              simp only [Option.map_some, Option.getD_some, Option.isSome_some] at kY
              have hr0 : decQ (c :: r) = (decQ (s.data.toList.drop (i + 3))).map (b :: ·) := by
                rw [← hr2]
                match r, hx, hh1 with
                | x :: y :: r, hx, hh1 =>
                  have hxn : x.toNat ≠ 13 := fun e13 => by
                    have : hexI (x.toNat : Int) = 16 := by rw [e13]; rfl
                    simp [hex2, this] at hx
                  rw [show c = 61 from UInt8.toNat_inj.1 h61, decQ_hex r hx hxn]
                  rfl
              have hi2 : i + 3 ≤ s.size := by
                match r, hx, hrl with
                | x :: y :: r, _, hrl =>
                  simp at hrl
                  omega
              have hO3 : D = (decQ (s.data.toList.drop (i + 3))).map ((O ++ ⟨#[b]⟩).data.toList ++ ·) := by
                rw [hO2, hr0, Option.map_map, append_data]
                congr 1
                funext x
                simp
              have HO3 := Lib.hid hO3
              have hoa := own1_app O b
              have Hoa := Lib.hid hoa
              clear hO3 hr0 hO2 hr1 hr2 hrl hr hdr hc hh hh1 kP kL hoa hx
              go_wp2_with fail
              refine (kB1 _).mono ?_
              rintro e w2 ⟨rfl, rfl⟩
              go_wp2_with fail
              refine (kB2 _).mono ?_
              rintro e w2 ⟨rfl, rfl⟩
              go_wp2_with fail
              refine (kB3 _).mono ?_
              rintro e w2 ⟨rfl, rfl⟩
              go_wp2_with fail
              refine (kY _).mono ?_
              rintro e w2 ⟨rfl, rfl⟩
              go_wp2_with (at_builtin; refine wpList_append_own _ rfl _ _ 28 rfl w.heap.size 5 i0 (.int .u8 0) 1 1 Try.underlying28 hi0 hz0 hz1 hz2 rfl (by decide) _ _ _ rfl (Hown.out.alloc _) ⟨_, 0, none⟩ 1 1 [.int .u8 ((b.toNat : Int))] rfl rfl (cell_one_new _ _ _) (by simp [Value.oneCell']) (by unfold maxLen; omega) (by omega) (by simp; omega) ?_; intro v1 w3 hown1 hgrow1 _)
              have hB3 := (hbel.alloc hszW _).grown hgrow1 (by simp; omega) (fun j ej => (Hown.out.lt j ej).1)
              have hown2 := hown1
              rw [Hoa.out] at hown2
              have Hown2 := Lib.hid hown2
              clear hown1 hown2 hgrow1
              go_roundw
              case rel => exact ⟨O ++ ⟨#[b]⟩, i + 3, by go_num, by omega, by rw [ByteArray.size_append]; show O.size + 1 ≤ _; omega, by rw [ByteArray.size_append]; exact Hown2, HO3, hB3⟩
              case measure => simp [intOf]; omega
        · rw [decide_eq_false h61, Bool.false_and] at kB2
          rw [decide_eq_false h61] at kB3
          by_cases hpb : (plainQ c || blankQ c) = true
          · have hr0 := decQ_own r h13 h61 hpb
            have hO3 : D = (decQ (s.data.toList.drop (i + 1))).map ((O ++ ⟨#[c]⟩).data.toList ++ ·) := by
              rw [hO2, hr0, ← hr, Option.map_map, append_data]
              congr 1
              funext x
              simp
            have HO3 := Lib.hid hO3
            have hoa := own1_app O c
            have Hoa := Lib.hid hoa
            clear hO3 hr0 hO2 hr1 hr2 hrl hr hdr hc hoa kY h13 h61
            by_cases hp : plainQ c = true
            · rw [hp] at kP
              clear hp hpb kL
              go_wp2_with fail
              refine (kB1 _).mono ?_
              rintro e w2 ⟨rfl, rfl⟩
              go_wp2_with fail
              refine (kB2 _).mono ?_
              rintro e w2 ⟨rfl, rfl⟩
              go_wp2_with fail
              refine (kB3 _).mono ?_
              rintro e w2 ⟨rfl, rfl⟩
              go_wp2_with fail
              refine (kP _).mono ?_
              rintro e w2 ⟨rfl, rfl⟩
              go_wp2_with (at_builtin; refine wpList_append_own _ rfl _ _ 28 rfl w.heap.size 5 i0 (.int .u8 0) 1 1 Try.underlying28 hi0 hz0 hz1 hz2 rfl (by decide) _ _ _ rfl (Hown.out.alloc _) ⟨_, 0, none⟩ 1 1 [.int .u8 ((c.toNat : Int))] rfl rfl (cell_one_new _ _ _) (by simp [Value.oneCell']) (by unfold maxLen; omega) (by omega) (by simp; omega) ?_; intro v1 w3 hown1 hgrow1 _)
              have hB3 := (hbel.alloc hszW _).grown hgrow1 (by simp; omega) (fun j ej => (Hown.out.lt j ej).1)
              have hown2 := hown1
              rw [Hoa.out] at hown2
              have Hown2 := Lib.hid hown2
              clear hown1 hown2 hgrow1
              go_roundw
              case rel => exact ⟨O ++ ⟨#[c]⟩, i + 1, by go_num, by omega, by rw [ByteArray.size_append]; show O.size + 1 ≤ _; omega, by rw [ByteArray.size_append]; exact Hown2, HO3, hB3⟩
              case measure => simp [intOf]; omega
            · have hp' : plainQ c = false := by simpa using hp
              rw [hp', Bool.false_or] at hpb
              rw [hp'] at kP
              rw [hpb] at kL
              clear hp hp' hpb
              go_wp2_with fail
              refine (kB1 _).mono ?_
              rintro e w2 ⟨rfl, rfl⟩
              go_wp2_with fail
              refine (kB2 _).mono ?_
              rintro e w2 ⟨rfl, rfl⟩
              go_wp2_with fail
              refine (kB3 _).mono ?_
              rintro e w2 ⟨rfl, rfl⟩
              go_wp2_with fail
              refine (kP _).mono ?_
              rintro e w2 ⟨rfl, rfl⟩
              go_wp2_with fail
              refine (kL _).mono ?_
              rintro e w2 ⟨rfl, rfl⟩
              go_wp2_with (at_builtin; refine wpList_append_own _ rfl _ _ 28 rfl w.heap.size 5 i0 (.int .u8 0) 1 1 Try.underlying28 hi0 hz0 hz1 hz2 rfl (by decide) _ _ _ rfl (Hown.out.alloc _) ⟨_, 0, none⟩ 1 1 [.int .u8 ((c.toNat : Int))] rfl rfl (cell_one_new _ _ _) (by simp [Value.oneCell']) (by unfold maxLen; omega) (by omega) (by simp; omega) ?_; intro v1 w3 hown1 hgrow1 _)
              have hB3 := (hbel.alloc hszW _).grown hgrow1 (by simp; omega) (fun j ej => (Hown.out.lt j ej).1)
              have hown2 := hown1
              rw [Hoa.out] at hown2
              have Hown2 := Lib.hid hown2
              clear hown1 hown2 hgrow1
              go_roundw
              case rel => exact ⟨O ++ ⟨#[c]⟩, i + 1, by go_num, by omega, by rw [ByteArray.size_append]; show O.size + 1 ≤ _; omega, by rw [ByteArray.size_append]; exact Hown2, HO3, hB3⟩
              case measure => simp [intOf]; omega
          · have hpb1 : (plainQ c || blankQ c) = false := by simpa using hpb
            have hpb2 := hpb1
            rw [Bool.or_eq_false_iff] at hpb2
            rw [hpb2.1] at kP
            rw [hpb2.2] at kL
            have hO3 : D = none := by rw [hO2, decQ_odd r h13 h61 hpb1]; rfl
            subst hO3
            clear hO2 hr1 hr2 hrl hr hdr hc hpb hpb1 hpb2 kY
            go_wp2_with fail
            refine (kB1 _).mono ?_
            rintro e w2 ⟨rfl, rfl⟩
            go_wp2_with fail
            refine (kB2 _).mono ?_
            rintro e w2 ⟨rfl, rfl⟩
            go_wp2_with fail
            refine (kB3 _).mono ?_
            rintro e w2 ⟨rfl, rfl⟩
            go_wp2_with fail
            refine (kP _).mono ?_
            rintro e w2 ⟨rfl, rfl⟩
            go_wp2_with fail
            refine (kL _).mono ?_
            rintro e w2 ⟨rfl, rfl⟩
            go_wp2
            go_ret2
            exact ⟨rfl, hbel⟩
    · obtain rfl : i = s.size := by omega
      have hO2 : D = some O.data.toList := by
        rw [HO.out, List.drop_eq_nil_of_le (by omega), decQ_nil]
        simp
      subst hO2
      have kv := conv_owns Hown.out
      go_wp2
      go_ret2
      exact ⟨rfl, hbel⟩
end Go.Proofs.Ytoplcmckglglcaa
