/-
  nuncio/nunciolaw03's few.
-/
import Derived.Test.YtpgiaofkabhgkaaArgStrs
import Derived.Test.YtpgiaofkabhgkaaRefFits
import Derived.WalkSpells
namespace Go.Proofs.Ytpgiaofkabhgkaa
set_option linter.unusedVariables false
set_option linter.unusedSimpArgs false
open Go.RowKit Go.Shelf
attribute [local go_sem] Oper.semAt_some

def fewL (l : List ByteArray) : List ByteArray := (l.take 12).map fun p => p.extract 0 (min p.size 40)
theorem fewL_len (l : List ByteArray) : (fewL l).length ≤ 12 := by unfold fewL; rw [List.length_map, List.length_take]; omega
theorem fewL_size (l : List ByteArray) : ∀ x ∈ fewL l, x.size ≤ 40 := by
  intro x hx
  obtain ⟨p, _, rfl⟩ := List.mem_map.1 hx
  simp
  omega
theorem infoStr3 : (Try.prog.info? 9).map (fun i => (i.zero, i.size, i.bytes)) = some (some (.string ByteArray.empty), 1, 16) := by kernel_rfl

theorem fill_str (q : ByteArray) : Instr.fill (fun i => some (i * 1, 1)) ((Array.range (1 * 1)).map fun x => (Value.string ByteArray.empty).cells[x % (Value.string ByteArray.empty).cells.size]!) [(0, .string q)] = some #[.string q] := by
  kernel_rfl
theorem append_str {w6 : World} {L0 k : Nat} {lv : Value} {xs : List Value} {q : ByteArray} {ty : TypeId} (hr : w6.ownsRow L0 9 1 lv k xs) (hs : L0 ≤ w6.heap.size) (hb : k ≤ 1000) :
    ∃ v' w7, (Builtin.append_ #[22, 22] ty #[lv, .slice (some ⟨w6.heap.size, 0, none⟩) 1 1]).run Try.prog (w6.alloc (.cells #[.string q] 9)) = .ok v' w7 ∧ (∃ g cap, v' = .slice (some ⟨g, 0, none⟩) (k + 1) cap) ∧
      w7.ownsRow L0 9 1 v' (k + 1) (xs ++ [.string q]) ∧ (w6.alloc (.cells #[.string q] 9)).grownBy w7 lv.ownBlock := by
  obtain ⟨i0, hi, hz0, hz1, hz2⟩ := info_parts infoStr3
  obtain ⟨v', w7, h1, h2, h3, _, _⟩ := run_append_own_at (P := Try.prog) (w6.alloc (.cells #[.string q] 9)) L0 22 ty 9 i0 _ 1 16 Try.underlying22 hi hz0 hz1 hz2 rfl (by decide) lv k _ (hr.alloc _) ⟨w6.heap.size, 0, none⟩ 1 1 [.string q] rfl (cell_one_new _ _ _) (fun u hu => by simp at hu; subst hu; rfl) (by unfold maxLen; omega) (by omega) (by rw [World.size_alloc]; omega)
  exact ⟨v', w7, h1, ownsRow_succ h2, h2, h3⟩

set_option maxRecDepth 100000 in
set_option maxHeartbeats 2000000 in
theorem few_any (w : World) (l : List ByteArray) (lv : Value) (hv : ArgStrs w lv l) :
    Calls Try.prog 8 #[lv] w fun e w' => ∃ v, e = .returned v ∧ w'.ownsRow w.heap.size 9 1 v (fewL l).length ((fewL l).map Value.string) ∧ Below w.heap.size w w' := by
  obtain ⟨i0, hi, hz0, hz1, hz2⟩ := info_parts infoStr3
  obtain ⟨ao, cap, rfl, hlm⟩ : ∃ ao cap, lv = .slice ao l.length cap ∧ l.length ≤ maxLen := by
    rcases hv with ⟨ao, cap, rfl, rfl⟩ | ⟨b, off, cap, rfl, _, h1, h2, _⟩
    · exact ⟨_, _, rfl, Nat.zero_le _⟩
    · exact ⟨_, _, rfl, by omega⟩
  unfold maxLen at hlm
  obtain ⟨m, hm⟩ : ∃ m, m = min l.length 12 := ⟨_, rfl⟩
  have hfl : (fewL l).length = m := by unfold fewL; rw [List.length_map, List.length_take]; omega
  have Hv := Lib.hid hv
  have Hfl := Lib.hid hfl
  clear hv hfl
  refine (callsIn_wide (n := 5)).1 ?_
  have hmix : Try.prog.follows .mixedOrders = true := by kernel_rfl
  refine callsIn_of_wp Try.func8 rfl trivial ?_ rfl
  simp only [Try.ntmps8, List.size_toArray, List.length_cons, List.length_nil, Nat.reduceAdd, Nat.reduceSub, Array.replicate_succ, Array.replicate_zero, List.push_toArray, List.append_toArray, List.nil_append, List.cons_append]
  gi_wp2
  gi_loopw [3, 4] (fun ov iv wr => ∃ j : Nat, j ≤ m ∧ iv = .int .i64 (j : Int) ∧ Hid (wr.ownsRow w.heap.size 9 1 ov j (((fewL l).take j).map Value.string)) ∧ Below w.heap.size w wr) (fun ov iv wr => m - (intOf iv).toNat)
  case atStart => exact ⟨0, Nat.zero_le _, rfl, Lib.hid (World.ownsRow_made w #[] 0 (Nat.le_refl _) (by unfold maxLen; omega) rfl), (Below.refl _ _).alloc (Nat.le_refl _) _⟩
  case round =>
    obtain ⟨j, hj, rfl, Hown, hB⟩ := hrel
    have hsB := hB.size
    by_cases hjl : j < l.length
    · by_cases hj12 : j < 12
      · obtain ⟨b, off, rfl, p, hpat, hc, hps⟩ : ∃ b off, ao = some ⟨b, off, none⟩ ∧ ∃ p, (fewL l)[j]? = some (p.extract 0 (min p.size 40)) ∧ wr.cell? ⟨b, off + j, none⟩ = some (.string p) ∧ p.size ≤ maxLen := by
          rcases Hv.out with ⟨ao', cap', h, rfl⟩ | ⟨b, off, cap', h, h0, h1, h2, hb, hcs⟩
          · simp at hjl
          · cases h
            obtain ⟨hc, hsz⟩ := hcs j hjl
            refine ⟨b, off, rfl, l[j], ?_, (World.cell?_of_block (hB.block b hb)).trans hc, hsz⟩
            unfold fewL
            rw [List.getElem?_map, List.getElem?_take_of_lt hj12, List.getElem?_eq_getElem hjl]
            rfl
        unfold maxLen at hps
        have d12 : decide ((j : Int) < 12) = true := decide_eq_true (by omega)
        obtain ⟨q, hq⟩ : ∃ q, q = p.extract 0 (min p.size 40) := ⟨_, rfl⟩
        rw [← hq] at hpat
        have hq2 : p.extract 0 (min (p.size : Int) 40).toNat = q := by rw [hq]; congr 1; omega
        have Hpat := Lib.hid hpat
        clear hpat hq
        obtain ⟨w6, hw6⟩ : ∃ w6, w6 = wr.drew := ⟨_, rfl⟩
        have hr6 : w6.ownsRow w.heap.size 9 1 u3 j (((fewL l).take j).map Value.string) := by rw [hw6]; exact Hown.out
        have hB6 : Below w.heap.size w w6 := by rw [hw6]; exact hB.trans ⟨rfl, rfl, rfl, Nat.le_refl _, fun _ _ => rfl⟩
        obtain ⟨ao3, cap3, rfl⟩ := row_slice hr6
        obtain ⟨v', w7, happ, ⟨g7, cap7, rfl⟩, hown7, hgr7⟩ := append_str (q := q) (ty := 22) hr6 hB6.size (by omega)
        have hbw : b < w.heap.size := by
          rcases Hv.out with ⟨ao', cap', h, rfl⟩ | ⟨b', off', cap', h, h0, h1, h2, hb, hcs⟩
          · simp at hjl
          · cases h; exact hb
        have hs6 := hB6.size
        have hB7 : Below w.heap.size w w7 := (hB6.alloc hs6 _).grown hgr7 (by rw [World.size_alloc]; omega) (fun k hk => (hr6.lt k hk).1)
        obtain ⟨V, hV0, hV1, hV2⟩ : ∃ V : Nat → World, V 0 = w6 ∧ V 1 = w6.alloc (.cells #[.string q] 9) ∧ ∀ t, V (t + 2) = w7 := ⟨fun t => match t with | 0 => w6 | 1 => w6.alloc (.cells #[.string q] 9) | _ + 2 => w7, rfl, rfl, fun _ => rfl⟩
        have hVB : ∀ t, Below w.heap.size w (V t) := fun t => by
          match t with
          | 0 => rw [hV0]; exact hB6
          | 1 => rw [hV1]; exact hB6.alloc hs6 _
          | t + 2 => rw [hV2]; exact hB7
        have hcw : w.cell? ⟨b, off + j, none⟩ = some (.string p) := (World.cell?_of_block (hB.block b hbw)).symm.trans hc
        have r1 : ∀ t, (V t).cell? ⟨b, off + j, none⟩ = some (.string p) := fun t => (World.cell?_of_block ((hVB t).block b hbw)).trans hcw
        have Happ := Lib.hid happ
        have Hw6 := Lib.hid hw6
        have HV0 := Lib.hid hV0
        have HV1 := Lib.hid hV1
        have HV2 := Lib.hid (hV2 0)
        have HB7 := Lib.hid hB7
        have Hown7 := Lib.hid hown7
        clear happ hw6 hV0 hV1 hV2 hVB hcw hr6 hB6 hB7 hown7 hgr7 hs6
        gi_wp2
        refine wpIn_region_stages [12, 13] (fun t => match t with | 0 => w6 | 1 => w6.alloc (.cells #[.string q] 9) | _ + 2 => w7) V 2 (fun _ => trivial) hmix (by kernel_rfl) (by kernel_rfl) (by kernel_rfl) (fun t ht => by
          match t, ht with
          | 0, _ => exact ⟨0, HV0.out.symm⟩
          | 1, _ => exact ⟨1, HV1.out.symm⟩
          | 2, _ => exact ⟨2, HV2.out.symm⟩) Hw6.out ?_
        refine wpSt_quiet 12 (by decide) (by kernel_rfl) ?_
        simp only [List.take_succ_cons, List.take_zero, List.drop_succ_cons, List.drop_zero]
        repeat (go_big_quiet_step (fail))
        refine wpQuiet_nil ?_
        refine wpSt_eff (j := 0) (by decide) rfl (eff_buildSlice1 rfl rfl (vx := .string q) rfl Try.underlying22 hi hz0 hz1 (by decide) (by decide) (fill_str q) rfl rfl) ?_
        refine wpSt_eff (j := 1) (by decide) rfl (eff_append rfl rfl rfl rfl Happ.out) ?_
        go_frame
        refine wpSt_quiet 1 (by decide) (by kernel_rfl) ?_
        simp only [List.take_succ_cons, List.take_zero, List.drop_succ_cons, List.drop_zero]
        repeat (go_big_quiet_step (fail))
        refine wpQuiet_nil ?_
        refine wpSt_done (wf := w7) rfl ?_
        try go_frame
        gi_wp2
        go_roundw
        case rel => exact ⟨j + 1, by omega, by go_num, Lib.hid (by rw [take_snoc Hpat.out, List.map_append]; exact Hown7.out), HB7.out⟩
        case measure => simp [intOf]; omega
      · have d12 : decide ((j : Int) < 12) = false := decide_eq_false (by omega)
        obtain rfl : j = m := by omega
        gi_wp2
        go_ret
        have h := Hown.out
        rw [List.take_of_length_le (by rw [Hfl.out]; exact Nat.le_refl _)] at h
        exact ⟨_, rfl, by rw [Hfl.out]; exact h, hB⟩
    · obtain rfl : j = m := by omega
      gi_wp2
      go_ret
      have h := Hown.out
      rw [List.take_of_length_le (by rw [Hfl.out]; exact Nat.le_refl _)] at h
      exact ⟨_, rfl, by rw [Hfl.out]; exact h, hB⟩
end Go.Proofs.Ytpgiaofkabhgkaa
