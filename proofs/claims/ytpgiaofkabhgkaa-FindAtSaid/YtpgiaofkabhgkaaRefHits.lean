/-
  nuncio/nuncioref03's Hits.
-/
import Derived.Test.YtpgiaofkabhgkaaRefStands
namespace Go.Proofs.Ytpgiaofkabhgkaa
set_option linter.unusedVariables false
set_option linter.unusedSimpArgs false
open Go.RowKit

def hitsTo (l : List ByteArray) (s : ByteArray) (a : Nat) : List (Nat × Nat) := (List.range a).flatMap fun a => ((List.range l.length).filter fun i => hitB l s a i).map fun i => (a, i)
def rowHits (l : List ByteArray) (s : ByteArray) (a j : Nat) : List (Nat × Nat) := ((List.range j).filter fun i => hitB l s a i).map fun i => (a, i)
theorem hitsTo_succ (l : List ByteArray) (s : ByteArray) (a : Nat) : hitsTo l s (a + 1) = hitsTo l s a ++ rowHits l s a l.length := by
  unfold hitsTo rowHits
  rw [List.range_succ, List.flatMap_append]
  simp
theorem rowHits_succ (l : List ByteArray) (s : ByteArray) (a j : Nat) : rowHits l s a (j + 1) = rowHits l s a j ++ (if hitB l s a j = true then [(a, j)] else []) := by
  unfold rowHits
  rw [List.range_succ, List.filter_append, List.map_append]
  congr 1
  by_cases h : hitB l s a j = true
  · rw [if_pos h]; simp [h]
  · rw [if_neg h]; simp [h]
theorem rowHits_len (l : List ByteArray) (s : ByteArray) (a j : Nat) : (rowHits l s a j).length ≤ j := by
  unfold rowHits
  rw [List.length_map]
  have := List.length_filter_le (fun i => hitB l s a i) (List.range j)
  simpa using this
theorem hitsTo_len (l : List ByteArray) (s : ByteArray) : ∀ a, (hitsTo l s a).length ≤ a * l.length
  | 0 => by simp [hitsTo]
  | a + 1 => by
    rw [hitsTo_succ, List.length_append, Nat.succ_mul]
    have := hitsTo_len l s a
    have := rowHits_len l s a l.length
    omega
theorem infoRHit : (Try.prog.info? 37).map (fun i => (i.zero, i.size, i.bytes)) = some (some (.agg #[.int .i64 0, .int .i64 0]), 2, 16) := by kernel_rfl

set_option maxRecDepth 100000 in
set_option maxHeartbeats 4000000 in
theorem refHits_any (w : World) (l : List ByteArray) (s : ByteArray) (lv : Value) (hv : IsStrs w lv l) (hs : s.size ≤ 1000000) (hl : l.length ≤ 1000000) (hb : ∀ x ∈ l, x.size ≤ 1000000) :
    Calls Try.prog 13 #[lv, .string s] w fun e w' => ∃ v, e = .returned v ∧ w'.ownsRow w.heap.size 37 2 v (hitsL l s).length (hitCells (hitsL l s)) ∧ Below w.heap.size w w' := by
  obtain ⟨i0, hi, hz0, hz1, hz2⟩ := info_parts infoRHit
  have hfin : hitsL l s = hitsTo l s s.size := rfl
  obtain ⟨ao, cap, rfl⟩ := hv.form
  have hlenb : ∀ a j, a ≤ s.size → j ≤ l.length → (hitsTo l s a ++ rowHits l s a j).length ≤ 2000000000000 := fun a j ha hj => by
    have h1 := hitsTo_len l s a
    have h2 := rowHits_len l s a j
    have h3 : a * l.length ≤ 1000000 * 1000000 := Nat.mul_le_mul (by omega) hl
    rw [List.length_append]
    omega
  have Hlenb := Lib.hid hlenb
  have Hfin := Lib.hid hfin
  have Hv := Lib.hid hv
  clear hlenb hfin hv
  go_enter Try.func13, Try.ntmps13
  go_wp2
  go_loopw [5, 6] (fun ov av wr => ∃ a : Nat, a ≤ s.size ∧ av = .int .i64 (a : Int) ∧ Hid (wr.ownsRow w.heap.size 37 2 ov (hitsTo l s a).length (hitCells (hitsTo l s a))) ∧ Below w.heap.size w wr) (fun ov av wr => s.size - (intOf av).toNat)
  case atStart => exact ⟨0, Nat.zero_le _, rfl, Lib.hid (World.ownsRow_made w #[] 0 (Nat.le_refl _) (by unfold maxLen; omega) rfl), (Below.refl _ _).alloc (Nat.le_refl _) _⟩
  case round =>
    obtain ⟨a, ha, rfl, Hown, hB⟩ := hrel
    by_cases hlt : a < s.size
    · go_wp2
      go_loopw [5, 7] (fun ov iv wr => ∃ j : Nat, j ≤ l.length ∧ iv = .int .i64 (j : Int) ∧ Hid (wr.ownsRow w.heap.size 37 2 ov (hitsTo l s a ++ rowHits l s a j).length (hitCells (hitsTo l s a ++ rowHits l s a j))) ∧ Below w.heap.size w wr) (fun ov iv wr => l.length - (intOf iv).toNat)
      case atStart => exact ⟨0, Nat.zero_le _, rfl, Lib.hid (by rw [show rowHits l s a 0 = [] from rfl, List.append_nil]; exact Hown.out), hB⟩
      case round =>
        obtain ⟨j, hj, rfl, Hown2, hB2⟩ := hrel
        have hsz := hB2.size
        by_cases hjl : j < l.length
        · have hp := List.getElem?_eq_getElem hjl
          obtain ⟨p, hp'⟩ : ∃ p, p = l[j] := ⟨_, rfl⟩
          rw [← hp'] at hp
          have hpb := hb p (List.mem_of_getElem? hp)
          obtain ⟨b, off, rfl, hc⟩ : ∃ b off, ao = some ⟨b, off, none⟩ ∧ wr.cell? ⟨b, off + j, none⟩ = some (.string p) := by
            rcases Hv.out.below hB2 with ⟨ao', cap', h, h0⟩ | ⟨b, off, cap', h, _, hc⟩
            · rw [h0] at hjl; simp at hjl
            · cases h
              exact ⟨b, off, rfl, by rw [hp']; exact hc j hjl⟩
          have hhit : hitB l s a j = standB p s a := by unfold hitB; rw [hp]; rfl
          have hsn := rowHits_succ l s a j
          rw [hhit] at hsn
          have Hsn := Lib.hid hsn
          have kS := fun W => stands_any s p a W (by omega) (by omega) ha
          obtain ⟨B, hB'⟩ : ∃ B, B = standB p s a := ⟨_, rfl⟩
          rw [← hB'] at kS
          have HB' := Lib.hid hB'
          clear hp hp' hhit hsn hB'
          cases B with
          | true =>
            have hlb := Hlenb.out a j ha hj
            go_wp2_with (first | (go_at_call 29; refine (kS _).mono ?_; rintro e w' ⟨rfl, rfl⟩) | (at_builtin; refine wpList_append_own _ rfl _ _ 32 rfl w.heap.size 37 i0 _ 2 16 Try.underlying32 hi hz0 hz1 hz2 rfl (by decide) _ _ _ rfl (Hown2.out.alloc _) ⟨wr.heap.size, 0, none⟩ 1 1 [.int .i64 (a : Int), .int .i64 (j : Int)] rfl rfl (cell_two_new _ _ _ _) (by simp [Value.oneCell']) (by unfold maxLen; omega) (by omega) (by simp; omega) ?_; intro v1 w1 hown1 hgrow1 _))
            have hB1 := (hB2.alloc hsz _).grown hgrow1 (by simp; omega) (fun j ej => (Hown2.out.lt j ej).1)
            have Hown1 := Lib.hid hown1
            clear hown1 hgrow1
            go_roundw
            case rel => exact ⟨j + 1, by omega, by go_num, Lib.hid (by rw [Hsn.out, if_pos HB'.out.symm, ← List.append_assoc, hitCells_snoc, List.length_append]; exact Hown1.out), hB1⟩
            case measure => simp [intOf]; omega
          | false =>
            go_wp2_with (go_at_call 29; refine (kS _).mono ?_; rintro e w' ⟨rfl, rfl⟩)
            go_roundw
            case rel => exact ⟨j + 1, by omega, by go_num, Lib.hid (by rw [Hsn.out, if_neg (by rw [← HB'.out]; decide), List.append_nil]; exact Hown2.out), hB2⟩
            case measure => simp [intOf]; omega
        · obtain rfl : j = l.length := by omega
          go_wp2
          go_roundw
          case rel => exact ⟨a + 1, by omega, by go_num, Lib.hid (by rw [hitsTo_succ]; exact Hown2.out), hB2⟩
          case measure => simp [intOf]; omega
    · obtain rfl : a = s.size := by omega
      go_wp2
      go_ret
      exact ⟨_, rfl, by rw [Hfin.out]; exact Hown.out, hB⟩
end Go.Proofs.Ytpgiaofkabhgkaa
