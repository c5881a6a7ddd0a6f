/-
  nuncio/nuncioref04's digits, bits and digit.
-/
import Derived.Test.YtmghlbdhkjbejaaDoorBaseOwn
namespace Go.Proofs.YtmghlbdhkjbejaaDoor
set_option linter.unusedVariables false
set_option linter.unusedSimpArgs false
open Go.RowKit

def natV (n : Nat) : Value := .int .i64 (n : Int)
/-- The slice value v reads as the numbers l in the world w. -/
def IsInts (w : World) (v : Value) (l : List Nat) : Prop :=
  (∃ ao cap, v = .slice ao 0 cap ∧ l = []) ∨ (∃ (b off cap : Nat), v = .slice (some ⟨b, off, none⟩) l.length cap ∧ l.length ≤ cap ∧ b < w.heap.size ∧ ∀ j (h : j < l.length), w.cell? ⟨b, off + j, none⟩ = some (natV l[j]))
theorem IsInts.form {w : World} {v : Value} {l : List Nat} (h : IsInts w v l) : ∃ ao cap, v = .slice ao l.length cap := by
  rcases h with ⟨ao, cap, hv, rfl⟩ | ⟨b, off, cap, hv, _⟩
  · exact ⟨ao, cap, hv⟩
  · exact ⟨_, cap, hv⟩
theorem IsInts.below {w w' : World} {v : Value} {l : List Nat} (h : IsInts w v l) (hb : Below w.heap.size w w') : IsInts w' v l := by
  rcases h with h | ⟨b, off, cap, hv, hcap, hlt, hc⟩
  · exact .inl h
  · refine .inr ⟨b, off, cap, hv, hcap, by have := hb.size; omega, fun j hj => ?_⟩
    rw [hb.cell (p := ⟨b, off + j, none⟩) hlt]
    exact hc j hj
theorem IsInts.of_owns {w : World} {base : Nat} {v : Value} {l : List Nat} {n : Nat} (h : w.ownsRow base 3 1 v n (l.map natV)) (hn : n = l.length) : IsInts w v l := by
  subst hn
  rcases h.2 with ⟨rfl, h0⟩ | ⟨g, cap, cur, rfl, _, hg, hle, hm, hs, ht⟩
  · exact .inl ⟨none, 0, rfl, List.eq_nil_of_length_eq_zero h0⟩
  · refine .inr ⟨g, 0, cap, rfl, hle, (Array.getElem?_eq_some_iff.1 hg).1, fun j hj => ?_⟩
    have := World.ownsRow.cellAt h j (by omega)
    rw [Nat.zero_add, this]
    simp [hj]
theorem IsInts.drop {w : World} {v : Value} {l : List Nat} (h : IsInts w v l) (k : Nat) (hk : k ≤ l.length) : ∃ v', (Instr.sliceAt 40 v (some (.int .i64 (k : Int))) none none).run Tryd.prog w = .ok v' w ∧ IsInts w v' (l.drop k) := by
  have hu := Tryd.underlying40
  have hel : Tryd.prog.elem 40 = 3 := by kernel_rfl
  have hz := Tryd.sizeOf3
  rcases h with ⟨ao, cap, rfl, rfl⟩ | ⟨b, off, cap, rfl, hcap, hlt, hc⟩
  · obtain rfl : k = 0 := by simpa using hk
    refine ⟨.slice ao 0 cap, ?_, .inl ⟨ao, cap, rfl, rfl⟩⟩
    rw [run_sliceAt_slice _ _ _ _ _ _ (by rw [hel]; exact hu), run_slice_l _ _ _ _ _ (by rw [hel]; exact hu) _ _ (by omega) (by simp), hel, hz]
    simp only [Result.andThen_ok]
    cases ao with
    | none => simp [sliced]
    | some a => by_cases h : cap = 0 <;> simp [sliced, Addr.add, h] <;> (cases a; simp)
  · by_cases hcl : k = cap
    · have hkl : k = l.length := by omega
      subst hcl
      refine ⟨.slice (some ⟨b, off, none⟩) 0 0, ?_, .inl ⟨_, _, rfl, by rw [hkl, List.drop_length]⟩⟩
      rw [run_sliceAt_slice _ _ _ _ _ _ (by rw [hel]; exact hu), run_slice_l _ _ _ _ _ (by rw [hel]; exact hu) _ _ (by omega) (by omega), hel, hz]
      simp only [Result.andThen_ok]
      simp [sliced, hkl]
    · refine ⟨.slice (some ⟨b, off + k, none⟩) (l.length - k) (cap - k), ?_, .inr ⟨b, off + k, cap - k, by rw [List.length_drop], by rw [List.length_drop]; omega, hlt, fun j hj => ?_⟩⟩
      · rw [run_sliceAt_slice _ _ _ _ _ _ (by rw [hel]; exact hu), run_slice_l _ _ _ _ _ (by rw [hel]; exact hu) _ _ (by omega) (by omega), hel, hz]
        simp only [Result.andThen_ok]
        have : ¬ cap = k := fun e => hcl e.symm
        simp [sliced, this, Addr.add]
      · rw [List.length_drop] at hj
        have := hc (k + j) (by omega)
        rw [Nat.add_assoc, this]
        simp

theorem refDigits_any (w : World) : Calls Tryd.prog 28 #[] w fun e w' => e = .returned (.string ⟨digTab.toArray⟩) ∧ w' = w := by
  go_enter Tryd.func28, Tryd.ntmps28
  go_wp2
  go_ret
  exact ⟨rfl, rfl⟩

theorem bits8_at (c j : Nat) (hj : j < 8) : (bitsW 8 c)[j]? = some (c / (128 / 2 ^ j) % 2) := by
  have e : bitsW 8 c = [c / 2 / 2 / 2 / 2 / 2 / 2 / 2 % 2, c / 2 / 2 / 2 / 2 / 2 / 2 % 2, c / 2 / 2 / 2 / 2 / 2 % 2, c / 2 / 2 / 2 / 2 % 2, c / 2 / 2 / 2 % 2, c / 2 / 2 % 2, c / 2 % 2, c % 2] := by
    simp [bitsW]
  rw [e]
  match j, hj with
  | 0, _ | 1, _ | 2, _ | 3, _ | 4, _ | 5, _ | 6, _ | 7, _ => simp [Nat.div_div_eq_div_mul]
theorem wrap_mod2 (y : Nat) (hy : y ≤ 1000000) : (wrap64 (y : Int)).tmod 2 = ((y % 2 : Nat) : Int) := by
  have h1 : wrap64 (y : Int) = (y : Int) := by unfold wrap64; omega
  rw [h1, Int.tmod_eq_emod_of_nonneg (by omega)]
  omega
theorem val_bit (n c K x : Nat) (h : c = n) (hc : c < 256) (hx : x = c / K % 2) : (wrap64 ((wrap64 (n : Int)).tdiv (K : Int))).tmod 2 = (x : Int) := by
  subst h
  have h2 : wrap64 (c : Int) = (c : Int) := by unfold wrap64; omega
  have h3 : c / K ≤ 255 := Nat.le_trans (Nat.div_le_self _ _) (by omega)
  rw [h2, Int.tdiv_eq_ediv_of_nonneg (Int.natCast_nonneg c), ← Int.natCast_ediv, hx]
  exact wrap_mod2 (c / K) (by omega)
theorem cell_eq {w : World} {z : Int} {x : Nat} {t : TypeId} (h : z = (x : Int)) : ∀ (j : Nat) (u : Value), [Value.int .i64 (x : Int)][j]? = some u → (w.alloc (.cells #[.int .i64 z] t)).cell? (Addr.add ⟨w.heap.size, 0, none⟩ j) = some u := by
  rw [h]
  exact cell_one_new _ _ _
theorem half_pow (j : Nat) : 128 / 2 ^ j / 2 = 128 / 2 ^ (j + 1) := by rw [Nat.div_div_eq_div_mul, Nat.pow_succ]
theorem infoInt : (Tryd.prog.info? 3).map (fun i => (i.zero, i.size, i.bytes)) = some (some (.int .i64 0), 1, 8) := by kernel_rfl

set_option maxRecDepth 100000 in
set_option maxHeartbeats 2000000 in
theorem refBits_any (w : World) (b : ByteArray) (hb : b.size ≤ 1000000) :
    Calls Tryd.prog 24 #[.string b] w fun e w' => ∃ v, e = .returned v ∧ w'.ownsRow w.heap.size 3 1 v (bitsS b.data.toList).length ((bitsS b.data.toList).map natV) ∧ Below w.heap.size w w' := by
  obtain ⟨i0, hi, hz0, hz1, hz2⟩ := info_parts infoInt
  go_enter Tryd.func24, Tryd.ntmps24
  go_wp2
  go_loopw [3, 4] (fun cv iv wr => ∃ i : Nat, i ≤ b.size ∧ iv = .int .i64 (i : Int) ∧ Hid (wr.ownsRow w.heap.size 3 1 cv (bitsS (b.data.toList.take i)).length ((bitsS (b.data.toList.take i)).map natV)) ∧ Below w.heap.size w wr) (fun cv iv wr => b.size - (intOf iv).toNat)
  case atStart => exact ⟨0, Nat.zero_le _, rfl, Lib.hid (World.ownsRow_made w #[] 0 (Nat.le_refl _) (by unfold maxLen; omega) rfl), (Below.refl _ _).alloc (Nat.le_refl _) _⟩
  case round =>
    obtain ⟨i, hib, rfl, Hown, hbel⟩ := hrel
    by_cases hlt : i < b.size
    · obtain ⟨c, hc⟩ : ∃ c, c = b[i].toNat := ⟨_, rfl⟩
      have hc256 : c < 256 := by rw [hc]; exact b[i].toNat_lt
      have hx : b.data.toList[i]? = some b[i] := List.getElem?_eq_getElem (by exact hlt)
      have hsn : bitsS (b.data.toList.take (i + 1)) = bitsS (b.data.toList.take i) ++ bitsW 8 c := by
        rw [take_snoc hx, bitsS_app, hc]
        unfold bitsS
        simp
      have hlen := bitsS_len (b.data.toList.take i)
      have hlen2 : (bitsS (b.data.toList.take i)).length ≤ 8000000 := by rw [hlen, List.length_take]; omega
      have Hsn := Lib.hid hsn
      have Hc := Lib.hid hc
      clear hx hsn hlen hc
      generalize bitsS (b.data.toList.take i) = L0 at *
      go_wp2
      go_loopw [3, 5] (fun cv kv wi => ∃ j : Nat, j ≤ 8 ∧ kv = .int .i64 ((128 / 2 ^ j : Nat) : Int) ∧ Hid (wi.ownsRow w.heap.size 3 1 cv (L0.length + j) ((L0 ++ (bitsW 8 c).take j).map natV)) ∧ Below w.heap.size w wi) (fun cv kv wi => (intOf kv).toNat)
      case atStart => exact ⟨0, by omega, rfl, by rw [List.take_zero, List.append_nil]; exact Hown, hbel⟩
      case round =>
        obtain ⟨j, hj, rfl, HownJ, hbelJ⟩ := hrel
        have hszJ := hbelJ.size
        have hhalf := half_pow j
        by_cases hj8 : j < 8
        · have hat := bits8_at c j hj8
          obtain ⟨K, hK⟩ : ∃ K, K = 128 / 2 ^ j := ⟨_, rfl⟩
          have hKp : 0 < K := by
            rw [hK]
            have : 2 ^ j ≤ 128 := by
              rw [show (128 : Nat) = 2 ^ 7 from rfl]
              exact Nat.pow_le_pow_right (by decide) (by omega)
            exact Nat.div_pos this (Nat.two_pow_pos _)
          have hK128 : K ≤ 128 := by rw [hK]; exact Nat.div_le_self _ _
          rw [← hK] at hat hhalf ⊢
          have hq : c / K ≤ 255 := Nat.le_trans (Nat.div_le_self _ _) (by omega)
          obtain ⟨x, hx⟩ : ∃ x, x = c / K % 2 := ⟨_, rfl⟩
          have hval : (wrap64 ((wrap64 (b[i].toNat : Int)).tdiv (K : Int))).tmod 2 = (x : Int) := val_bit _ c K x Hc.out hc256 hx
          rw [← hx] at hat
          have hsn2 := take_snoc hat
          have Hsn2 := Lib.hid hsn2
          have Hhalf := Lib.hid hhalf
          clear hat hsn2 hhalf hK hx
          go_wp2_with (at_builtin; refine wpList_append_own _ rfl _ _ 40 rfl w.heap.size 3 i0 (.int .i64 0) 1 8 Tryd.underlying40 hi hz0 hz1 hz2 rfl (by decide) _ _ _ rfl (HownJ.out.alloc _) ⟨wr.heap.size, 0, none⟩ 1 1 [.int .i64 (x : Int)] rfl rfl (cell_one_new _ _ _) (by simp [Value.oneCell']) (by unfold maxLen; omega) (by omega) (by simp; omega) ?_; intro v1 w3 hown1 hgrow1 _)
          have hB3 := (hbelJ.alloc hszJ _).grown hgrow1 (by simp; omega) (fun j ej => (HownJ.out.lt j ej).1)
          have Hown1 := Lib.hid hown1
          clear hown1 hgrow1
          go_roundw
          case rel =>
            refine ⟨j + 1, by omega, by rw [← Hhalf.out]; go_num, ?_, hB3⟩
            rw [Hsn2.out, ← List.append_assoc, List.map_append]
            exact Hown1
          case measure => simp [intOf]; omega
        · obtain rfl : j = 8 := by omega
          have h0 : (128 : Nat) / 2 ^ 8 = 0 := by decide
          rw [h0]
          have hown8 := HownJ.out
          rw [List.take_of_length_le (by rw [bitsW_len]; omega), ← Hsn.out] at hown8
          have e8 : L0.length + 8 = (bitsS (b.data.toList.take (i + 1))).length := by rw [Hsn.out, List.length_append, bitsW_len]
          rw [e8] at hown8
          have Hown8 := Lib.hid hown8
          clear hown8 e8 h0 hhalf
          go_wp2
          go_roundw
          case rel => exact ⟨i + 1, by omega, by go_num, Hown8, hbelJ⟩
          case measure => simp [intOf]; omega
    · obtain rfl : i = b.size := by omega
      have htk : b.data.toList.take b.size = b.data.toList := List.take_of_length_le (Nat.le_refl _)
      rw [htk] at Hown
      go_wp2
      go_ret
      exact ⟨_, rfl, Hown.out, hbel⟩
end Go.Proofs.YtmghlbdhkjbejaaDoor
