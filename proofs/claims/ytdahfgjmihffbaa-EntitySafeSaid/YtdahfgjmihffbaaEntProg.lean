/-
  nuncio/entity: Decode.
-/
import Derived.Test.YtdahfgjmihffbaaEntOne
import Derived.Test.YtdahfgjmihffbaaEntWrite
import Derived.Test.YtdahfgjmihffbaaOwn
namespace Go.Proofs.Ytdahfgjmihffbaa
set_option linter.unusedVariables false
set_option linter.unusedSimpArgs false
open Go.RowKit

set_option maxRecDepth 100000 in
set_option maxHeartbeats 4000000 in
theorem decode_any (w : World) (s : ByteArray) (hs : s.size ≤ 100000) :
    Calls Try.prog 10 #[.string s] w fun e w' => e = .returned (resE (decE s.data.toList)) ∧ Below w.heap.size w w' := by
  obtain ⟨i0, hi0, hz0, hz1, hz2⟩ := info_parts infoU8
  obtain ⟨D, hD⟩ : ∃ D, D = decE s.data.toList := ⟨_, rfl⟩
  rw [← hD]
  have HD := Lib.hid hD
  have hsl : s.data.toList.length = s.size := rfl
  obtain ⟨cur, hcur, hmk⟩ := make_bytes w (s.size : Int) s.size rfl (by omega)
  clear hD
  go_enter Try.func10, Try.ntmps10
  go_wp2
  go_loopw [4, 5] (fun ov iv wr => ∃ (O : ByteArray) (i : Nat), iv = .int .i64 (i : Int) ∧ i ≤ s.size ∧ O.size ≤ 4 * i ∧ Hid (wr.ownsRow w.heap.size 5 1 ov O.size (Lib.strCells O)) ∧ Hid (D = (decE (s.data.toList.drop i)).map (O.data.toList ++ ·)) ∧ Below w.heap.size w wr) (fun ov iv wr => s.size - (intOf iv).toNat)
  case atStart =>
    refine ⟨⟨#[]⟩, 0, rfl, Nat.zero_le _, Nat.le_refl _, ?_, ?_, ?_⟩
    · exact Lib.hid (World.ownsRow_made w cur s.size (Nat.le_refl _) (by unfold maxLen; omega) (by omega))
    · refine Lib.hid ?_
      rw [HD.out, List.drop_zero]
      cases decE s.data.toList <;> simp
    · exact (Below.refl _ _).alloc (Nat.le_refl _) _
  case round =>
    obtain ⟨O, i, rfl, hi, hO, Hown, HO, hbel⟩ := hrel
    clear hmk HD
    have hszW := hbel.size
    by_cases hlt : i < s.size
    · obtain ⟨c, hc⟩ : ∃ c, c = s[i] := ⟨_, rfl⟩
      have hc' : s[i].toNat = c.toNat := by rw [hc]
      have hdr : s.data.toList.drop i = c :: s.data.toList.drop (i + 1) := by
        rw [List.drop_eq_getElem_cons (by exact hlt), hc]
        rfl
      have kO := fun (W : World) => one_any W s (i : Int) hs (by omega) (by omega)
      rw [show oneAt s (i : Int) = oneL (c :: s.data.toList.drop (i + 1)) from by unfold oneAt; rw [if_pos (by omega), Int.toNat_natCast, hdr]] at kO
      have hcl := c.toNat_lt
      have hO2 := HO.out
      rw [hdr] at hO2
      have hll : (c :: s.data.toList.drop (i + 1)).length = s.size - i := by rw [← hdr, List.length_drop, hsl]
      cases hm : markE c with
      | false =>
        have hm2 := hm
        unfold markE at hm2
        simp only [Bool.or_eq_false_iff, decide_eq_false_iff_not] at hm2
        obtain ⟨h38, h60, h62, h34, h39⟩ := hm2
        have e38 : ((c.toNat : Int) == 38) = false := by rw [beq_eq_false_iff_ne]; omega
        have e60 : ((c.toNat : Int) == 60) = false := by rw [beq_eq_false_iff_ne]; omega
        have e62 : ((c.toNat : Int) == 62) = false := by rw [beq_eq_false_iff_ne]; omega
        have e34 : ((c.toNat : Int) == 34) = false := by rw [beq_eq_false_iff_ne]; omega
        have e39 : ((c.toNat : Int) == 39) = false := by rw [beq_eq_false_iff_ne]; omega
        have hO3 : D = (decE (s.data.toList.drop (i + 1))).map ((O ++ ⟨#[c]⟩).data.toList ++ ·) := by
          rw [hO2, decE_own (oneL_other _ h38) hm, Option.map_map, append_data']
          congr 1
          funext y
          simp
        have HO3 := Lib.hid hO3
        have hoa := own1_appE O c
        have Hoa := Lib.hid hoa
        clear hO2 hO3 hoa hdr hc hm h38 h60 h62 h34 h39 HO kO hll
        go_wp2_with (at_builtin; refine wpList_append_own _ rfl _ _ 35 rfl w.heap.size 5 i0 (.int .u8 0) 1 1 Try.underlying35 hi0 hz0 hz1 hz2 rfl (by decide) _ _ _ rfl (Hown.out.alloc _) ⟨_, 0, none⟩ 1 1 [.int .u8 ((c.toNat : Int))] rfl rfl (cell_one_new _ _ _) (by simp [Value.oneCell']) (by unfold maxLen; omega) (by omega) (by simp; omega) ?_; intro v1 w3 hown1 hgrow1 _)
        have hB3 := (hbel.alloc hszW _).grown hgrow1 (by simp; omega) (fun j ej => (Hown.out.lt j ej).1)
        have hown2 := hown1
        rw [Hoa.out] at hown2
        have Hown2 := Lib.hid hown2
        clear hown1 hown2 hgrow1
        go_roundw
        case rel => exact ⟨O ++ ⟨#[c]⟩, i + 1, by go_num, by omega, by rw [ByteArray.size_append]; show O.size + 1 ≤ _; omega, by rw [ByteArray.size_append]; exact Hown2, HO3, hB3⟩
        case measure => simp [intOf]; omega
      | true =>
        have hcs : c.toNat = 38 ∨ c.toNat = 60 ∨ c.toNat = 62 ∨ c.toNat = 34 ∨ c.toNat = 39 := by
          unfold markE at hm
          simpa [Bool.or_eq_true] using hm
        cases hq : oneL (c :: s.data.toList.drop (i + 1)) with
        | some bn =>
          obtain ⟨b, n⟩ := bn
          have h1 := oneL_size hq
          have h2 := oneL_len hq
          rw [hll] at h1
          rw [decE_one hq, ← hdr, List.drop_drop] at hO2
          obtain ⟨x, hxb⟩ : ∃ x : ByteArray, x = ⟨b.toArray⟩ := ⟨_, rfl⟩
          have hxl : x.data.toList = b := by rw [hxb]
          have hxs : x.size ≤ 4 := by rw [hxb]; exact h2
          have hO3 : D = (decE (s.data.toList.drop (i + n))).map ((O ++ x).data.toList ++ ·) := by
            rw [hO2, Option.map_map, append_data', hxl]
            congr 1
            funext y
            simp
          have HO3 := Lib.hid hO3
          rw [hq, show oneV (some (b, n)) = .tuple #[.string x, .int .i64 (n : Int), .bool true] from by rw [hxb]; rfl] at kO
          have hoa : Lib.strCells O ++ Lib.strCells x = Lib.strCells (O ++ x) := by rw [strCells_app]
          have Hoa := Lib.hid hoa
          have hcc : ((c.toNat : Int) == 38) = true ∨ (((c.toNat : Int) == 38) = false ∧ ((c.toNat : Int) == 60) = true) ∨ (((c.toNat : Int) == 38) = false ∧ ((c.toNat : Int) == 60) = false ∧ ((c.toNat : Int) == 62) = true) ∨ (((c.toNat : Int) == 38) = false ∧ ((c.toNat : Int) == 60) = false ∧ ((c.toNat : Int) == 62) = false ∧ ((c.toNat : Int) == 34) = true) ∨ (((c.toNat : Int) == 38) = false ∧ ((c.toNat : Int) == 60) = false ∧ ((c.toNat : Int) == 62) = false ∧ ((c.toNat : Int) == 34) = false ∧ ((c.toNat : Int) == 39) = true) := by
            simp only [beq_iff_eq, beq_eq_false_iff_ne]
            omega
          have h38 : c.toNat = 38 := by
            by_cases h : c.toNat = 38
            · exact h
            · rw [oneL_other _ h] at hq; cases hq
          have e38 : ((c.toNat : Int) == 38) = true := by rw [beq_iff_eq]; omega
          clear hO2 hO3 hdr hc hq hll hxb hxl h2 HO hm hcs hcc hoa h38
          go_wp2_with fail
          refine (kO _).mono ?_
          rintro e w2 ⟨rfl, hb2⟩
          have hB2 := hbel.trans (hb2.mono hbel.size)
          have Hown4 := Lib.hid (ownsRow_below Hown.out (hb2))
          have hsz2 := hB2.size
          clear Hown hbel hb2 kO
          go_wp2_with (at_builtin; refine Lib.wpList_append_own_string _ rfl _ _ 35 9 rfl w.heap.size 5 i0 Try.underlying35 Try.underlying9 hi0 hz0 hz1 hz2 _ _ _ rfl Hown4.out x rfl (by unfold maxLen; omega) (by omega) hsz2 ?_; intro v1 w3 hown1 hgrow1 _)
          have hB3 := hB2.grown hgrow1 (by omega) (fun j ej => (Hown4.out.lt j ej).1)
          have hown2 := hown1
          rw [Hoa.out] at hown2
          have Hown2 := Lib.hid hown2
          clear hown1 hown2 hgrow1
          go_roundw
          case rel => exact ⟨O ++ x, i + n, by go_num, by omega, by rw [ByteArray.size_append]; omega, by rw [ByteArray.size_append]; exact Hown2, HO3, hB3⟩
          case measure => simp [intOf]; omega
        | none =>
          rw [hq, show oneV none = .tuple #[.string ⟨#[]⟩, .int .i64 0, .bool false] from rfl] at kO
          have hO3 : D = none := by rw [hO2, decE_bad hq hm]; rfl
          subst hO3
          have hcc : ((c.toNat : Int) == 38) = true ∨ (((c.toNat : Int) == 38) = false ∧ ((c.toNat : Int) == 60) = true) ∨ (((c.toNat : Int) == 38) = false ∧ ((c.toNat : Int) == 60) = false ∧ ((c.toNat : Int) == 62) = true) ∨ (((c.toNat : Int) == 38) = false ∧ ((c.toNat : Int) == 60) = false ∧ ((c.toNat : Int) == 62) = false ∧ ((c.toNat : Int) == 34) = true) ∨ (((c.toNat : Int) == 38) = false ∧ ((c.toNat : Int) == 60) = false ∧ ((c.toNat : Int) == 62) = false ∧ ((c.toNat : Int) == 34) = false ∧ ((c.toNat : Int) == 39) = true) := by
            simp only [beq_iff_eq, beq_eq_false_iff_ne]
            omega
          clear hO2 hdr hc hq hll HO hm hcs
          rcases hcc with h | ⟨h, h2⟩ | ⟨h, h2, h3⟩ | ⟨h, h2, h3, h4⟩ | ⟨h, h2, h3, h4, h5⟩
          all_goals
            go_wp2_with fail
            refine (kO _).mono ?_
            rintro e w2 ⟨rfl, hb2⟩
            go_wp2
            go_ret2
            exact ⟨rfl, hbel.trans (hb2.mono hbel.size)⟩
    · obtain rfl : i = s.size := by omega
      have hO2 : D = some O.data.toList := by
        rw [HO.out, List.drop_eq_nil_of_le (by omega), decE_nil]
        simp
      subst hO2
      have kv := conv_owns Hown.out
      go_wp2
      go_ret2
      exact ⟨rfl, hbel⟩
end Go.Proofs.Ytdahfgjmihffbaa
