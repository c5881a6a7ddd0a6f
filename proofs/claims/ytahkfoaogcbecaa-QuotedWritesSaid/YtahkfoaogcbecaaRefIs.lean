/-
  Contracts of nuncio/nuncioref02's Is and Runes.
-/
import Derived.Test.YtahkfoaogcbecaaRefNext
import Derived.Test.YtahkfoaogcbecaaOwn
namespace Go.Proofs.Ytahkfoaogcbecaa
open Go.RowKit

set_option maxHeartbeats 1000000 in
theorem refIs_any (s : ByteArray) (w : World) (hs : s.size ≤ 1000000000000) :
    Calls Try.prog 12 #[.string s] w fun e w' => e = .returned (.bool (okL s.data.toList)) ∧ Below w.heap.size w w' := by
  obtain ⟨R, hR⟩ : ∃ R, R = okL s.data.toList := ⟨_, rfl⟩
  rw [← hR]
  have HR := Lib.hid hR
  clear hR
  go_enter Try.func12, Try.ntmps12
  go_wp2
  go_loopw [2, 3] (fun _ i wr => ∃ k : Nat, k ≤ s.size ∧ i = .int .i64 (k : Int) ∧ Hid (R = okL (s.data.toList.drop k)) ∧ Below w.heap.size w wr) (fun _ i _ => s.size - (intOf i).toNat)
  case atStart => exact ⟨0, Nat.zero_le _, rfl, HR, Below.refl _ _⟩
  case round =>
    obtain ⟨k, hk, rfl, Hok, hB⟩ := hrel
    have HB := Lib.hid hB
    have hsB := hB.size
    clear hB
    by_cases hlt : k < s.size
    · have hle := nxS_le s k hlt
      have hok := nxS_ok s k hlt
      have hs1 := hok.2.1
      have hs2 := hok.2.2
      clear hok
      have hst := okL_step s k hlt
      have Hst := Lib.hid hst
      clear hst
      obtain ⟨r, hr⟩ : ∃ r, r = (nxS s k).1 := ⟨_, rfl⟩
      obtain ⟨n, hn⟩ : ∃ n, n = (nxS s k).2 := ⟨_, rfl⟩
      have hv : nxVI (nxS s k) = .tuple #[.int .i64 (r : Int), .int .i64 (n : Int)] := by rw [hr, hn]; rfl
      rw [← hn] at hle hs1 hs2
      have Hv := Lib.hid hv
      have Hr := Lib.hid hr
      have Hn := Lib.hid hn
      clear hv hr hn
      by_cases c1 : r = 65533
      · have e1 : ((r : Int) == 65533) = true := by simp; omega
        have C1 := Lib.hid c1
        clear c1
        by_cases c2 : n = 1
        · have e2 : ((n : Int) == 1) = true := by simp; omega
          have C2 := Lib.hid c2
          clear c2
          go_wp2_with (go_at_call 24; refine (refNext_in s k _ (by omega) hlt).mono ?_; rw [Hv.out]; rintro e w1 ⟨rfl, hb1⟩)
          go_ret
          refine ⟨?_, HB.out.trans (hb1.mono hsB)⟩
          rw [Hok.out, Hst.out]
          unfold badS
          rw [← Hr.out, ← Hn.out, C1.out, C2.out]
          rfl
        · have e2 : ((n : Int) == 1) = false := by simp; omega
          have C2 := Lib.hid c2
          clear c2
          go_wp2_with (go_at_call 24; refine (refNext_in s k _ (by omega) hlt).mono ?_; rw [Hv.out]; rintro e w1 ⟨rfl, hb1⟩)
          go_roundw
          case rel =>
            refine ⟨k + n, by omega, by go_num, Lib.hid ?_, HB.out.trans (hb1.mono hsB)⟩
            rw [Hok.out, Hst.out, Hn.out]
            unfold badS
            rw [← Hn.out]
            simp [C2.out]
          case measure => simp [intOf]; omega
      · have e1 : ((r : Int) == 65533) = false := by simp; omega
        have C1 := Lib.hid c1
        clear c1
        go_wp2_with (go_at_call 24; refine (refNext_in s k _ (by omega) hlt).mono ?_; rw [Hv.out]; rintro e w1 ⟨rfl, hb1⟩)
        go_roundw
        case rel =>
          refine ⟨k + n, by omega, by go_num, Lib.hid ?_, HB.out.trans (hb1.mono hsB)⟩
          rw [Hok.out, Hst.out, Hn.out]
          unfold badS
          rw [← Hr.out]
          simp [C1.out]
        case measure => simp [intOf]; omega
    · obtain rfl : k = s.size := by omega
      go_wp2
      go_ret
      refine ⟨?_, HB.out⟩
      rw [Hok.out, drop_size]
      rfl

theorem infoInt : (Try.prog.info? 3).map (fun i => (i.zero, i.size, i.bytes)) = some (some (.int .i64 0), 1, 8) := by kernel_rfl
def intV (x : Nat × Nat) : Value := .int .i64 (x.1 : Int)

set_option maxHeartbeats 1000000 in
theorem refRunes_any (s : ByteArray) (w : World) (hs : s.size ≤ 1000000000000) :
    Calls Try.prog 21 #[.string s] w fun e w' => ∃ v, e = .returned v ∧ w'.ownsRow w.heap.size 3 1 v (stps s.data.toList).length ((stps s.data.toList).map intV) ∧ Below w.heap.size w w' := by
  obtain ⟨i0, hi, hz0, hz1, hz2⟩ := info_parts infoInt
  go_enter Try.func21, Try.ntmps21
  go_wp2
  go_loopw [3, 4] (fun out i wr => ∃ (k : Nat) (pre : List (Nat × Nat)), k ≤ s.size ∧ i = .int .i64 (k : Int) ∧ Hid (pre ++ stps (s.data.toList.drop k) = stps s.data.toList) ∧ wr.ownsRow w.heap.size 3 1 out pre.length (pre.map intV) ∧ Below w.heap.size w wr) (fun _ i _ => s.size - (intOf i).toNat)
  case atStart => exact ⟨0, [], Nat.zero_le _, rfl, Lib.hid rfl, ⟨rfl, .inr ⟨w.heap.size, 0, _, rfl, Nat.le_refl _, heap_alloc_new w _, Nat.le_refl _, by unfold maxLen; omega, rfl, rfl⟩⟩, (Below.refl _ _).alloc (Nat.le_refl _) _⟩
  case round =>
    obtain ⟨k, pre, hk, rfl, Hpre, hown, hB⟩ := hrel
    have HB := Lib.hid hB
    have hsB := hB.size
    clear hB
    by_cases hlt : k < s.size
    · have hle := nxS_le s k hlt
      have hok := nxS_ok s k hlt
      have hs1 := hok.2.1
      clear hok
      have hlen : pre.length ≤ s.size := by
        have h1 := stps_len _ s.data.toList (Nat.le_refl _)
        rw [← Hpre.out, List.length_append] at h1
        simp at h1
        omega
      have hst := stps_step s k hlt
      have Hst := Lib.hid hst
      clear hst
      obtain ⟨r, hr⟩ : ∃ r, r = (nxS s k).1 := ⟨_, rfl⟩
      obtain ⟨n, hn⟩ : ∃ n, n = (nxS s k).2 := ⟨_, rfl⟩
      have hv : nxVI (nxS s k) = .tuple #[.int .i64 (r : Int), .int .i64 (n : Int)] := by rw [hr, hn]; rfl
      rw [← hn] at hle hs1
      have Hv := Lib.hid hv
      have Hr := Lib.hid hr
      have Hn := Lib.hid hn
      clear hv hr hn
      go_wp2_with (first | (go_at_call 24; refine (refNext_in s k _ (by omega) hlt).mono ?_; rw [Hv.out]; rintro e w1 ⟨rfl, hb1⟩; have hown1 := ownsRow_below hown hb1; have hsz1 := hb1.size) | (at_builtin; refine wpList_append_own _ rfl _ _ 43 rfl w.heap.size 3 i0 (.int .i64 0) 1 8 Try.underlying43 hi hz0 hz1 hz2 rfl (by decide) _ _ _ rfl (hown1.alloc _) ⟨w1.heap.size, 0, none⟩ 1 1 [.int .i64 (r : Int)] rfl rfl (cell_one_new _ _ _) (by simp [Value.oneCell']) (by unfold maxLen; omega) (by omega) (by simp; omega) ?_; intro v' w2 hown2 hgrow2 _))
      have hB1 := HB.out.trans (hb1.mono hsB)
      have hB2 := (hB1.alloc hB1.size (.cells #[.int .i64 (r : Int)] 3)).grown hgrow2 (by simp; omega) (fun j ej => ((hown1.alloc (.cells #[.int .i64 (r : Int)] 3)).lt j ej).1)
      go_roundw
      case rel =>
        refine ⟨k + n, pre ++ [nxS s k], by omega, by go_num, Lib.hid ?_, ?_, hB2⟩
        · rw [List.append_assoc, List.singleton_append, Hn.out, ← Hst.out]; exact Hpre.out
        · rw [List.length_append, List.map_append, List.map_cons, List.map_nil]
          have e : intV (nxS s k) = .int .i64 (r : Int) := by rw [Hr.out]; rfl
          rw [e]
          exact hown2
      case measure => simp [intOf]; omega
    · obtain rfl : k = s.size := by omega
      have hp : pre = stps s.data.toList := by have := Hpre.out; rw [drop_size, stps_nil, List.append_nil] at this; exact this
      have Hp := Lib.hid hp
      clear hp
      go_wp2
      go_ret
      exact ⟨_, rfl, by rw [← Hp.out]; exact hown, HB.out⟩
end Go.Proofs.Ytahkfoaogcbecaa
