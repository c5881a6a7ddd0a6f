/-
  The walk of nunciolaw03.FindNobody.
-/
import Derived.Test.YtpgiaofkabhgkaaFindNobody
import Derived.Lib.QuietBelow
import Derived.OpenShut
namespace Go.Proofs.Ytpgiaofkabhgkaa
set_option linter.unusedVariables false
set_option linter.unusedSimpArgs false
open Go.RowKit Go.Shelf

theorem hitsL_none (s : ByteArray) : hitsL [] s = [] := by
  unfold hitsL
  simp
theorem covB_none (s : ByteArray) (p : Nat) : covB [] s p = false := by unfold covB; rw [hitsL_none]; rfl
theorem blot_none (s : ByteArray) (u : UInt8) : (⟨(blotBytes [] s u).toArray⟩ : ByteArray) = s ∧ blotN [] s = 0 := by
  constructor
  · have : blotBytes [] s u = s.data.toList := by
      rw [← blB_none s u]
      unfold blotBytes blB
      apply List.map_congr_left
      intro p _
      rw [covB_none]
    rw [this]
  · unfold blotN
    rw [show covB [] s = fun _ => false from funext (covB_none s)]
    simp
theorem hasHit_none (s : ByteArray) : ¬ HasHit [] s := by
  rintro ⟨a, i, e, h⟩
  have := h.lt
  simp at this
/-- A text of not more bytes than are looked at. -/
theorem short_any (s : ByteArray) (w : World) (hs : s.size ≤ maxLen) : Calls Try.prog 9 #[.string s] w fun e w' => e = .returned (.string (s.extract 0 (min s.size 120))) ∧ w = w' := by
  unfold maxLen at hs
  obtain ⟨t, ht⟩ : ∃ t, t = s.extract 0 (min s.size 120) := ⟨_, rfl⟩
  rw [← ht]
  have Ht := Lib.hid ht
  clear ht
  go_enter Try.func9, Try.ntmps9
  go_wp2
  go_ret
  refine ⟨?_, rfl⟩
  rw [Ht.out, ← show (min (s.size : Int) 120).toNat = min s.size 120 from by omega]
  rfl

theorem len_nobody (mo : Option Addr) (t : ByteArray) (W : World) (h : Nobody W mo) : Calls Try.prog 11 #[.pointer mo] W fun e w' => e = .returned (.int .i64 0) ∧ w' = W :=
  (len_any (.pointer mo) t [] [] W (h.src t)).mono fun e w' ⟨h1, h2⟩ => ⟨h1, h2.symm⟩
theorem hits_nobody (mo : Option Addr) (t : ByteArray) (W : World) (ht : t.size ≤ 120) (h : Nobody W mo) : Calls Try.prog 12 #[.pointer mo, .string t] W fun e w' => ∃ ao cap, e = .returned (.slice ao 0 cap) ∧ Below W.heap.size W w' := by
  refine (hits_all mo t [] [] W (by omega) (by simp; omega) (h.src t)).mono ?_
  rintro e w' ⟨v, rfl, hrow, hb⟩
  rw [hitsL_none] at hrow
  obtain ⟨ao, cap, rfl⟩ := row_slice hrow
  exact ⟨ao, cap, rfl, hb⟩
theorem has_nobody (mo : Option Addr) (t : ByteArray) (W : World) (ht : t.size ≤ 120) (h : Nobody W mo) : Calls Try.prog 14 #[.pointer mo, .string t] W fun e w' => e = .returned (.bool false) ∧ Below W.heap.size W w' := by
  refine (has_any mo t [] [] W (by omega) (h.src t)).mono ?_
  rintro e w' ⟨b, rfl, hb, hB⟩
  refine ⟨?_, hB⟩
  cases b with
  | false => rfl
  | true => exact absurd (hb.1 rfl) (hasHit_none t)
theorem eq_self (t : ByteArray) : (t.toList == t.toList) = true := bytes_beq_same rfl

set_option maxRecDepth 100000 in
set_option maxHeartbeats 4000000 in
theorem findNobody_walk (s : ByteArray) (fr : Int) (u : Int) (w0 : s.size ≤ maxLen) (w1 : (Lit.int .i64 fr).wf = true) (w2 : (Lit.int .u8 u).wf = true) (w : World) :
    Calls Try.prog 7 #[.string s, .int .i64 fr, .int .u8 u] w fun e w' => e = .returned (.bool true) ∧ Below w.heap.size w w' := by
  have hf := bounds_i64 w1
  have hu := bounds_u8 w2
  obtain ⟨u8, rfl⟩ : ∃ x : UInt8, u = (x.toNat : Int) := ⟨UInt8.ofNat u.toNat, by simp; omega⟩
  obtain ⟨t, ht⟩ : ∃ t, t = s.extract 0 (min s.size 120) := ⟨_, rfl⟩
  have hts : t.size ≤ 120 := by rw [ht]; simp; omega
  have kS := short_any s w w0
  rw [← ht] at kS
  clear ht w1 w2
  have kF := fun (mo : Option Addr) (W : World) (h : Nobody W mo) => first_nobody mo t fr W (by omega) hf h
  have kB := fun (mo : Option Addr) (W : World) (h : Nobody W mo) => blot_any mo t u8 [] [] W (by omega) (by simp; omega) (h.src t)
  rw [(blot_none t u8).1, (blot_none t u8).2] at kB
  clear hf
  go_enter Try.func7, Try.ntmps7
  go_wp2_with (go_at_call 9; refine kS.mono ?_; rintro e w' ⟨rfl, rfl⟩)
  have hnew := World.alloc_heap_new w (.cells #[.int .i64 0, .map none, .slice none 0 0] 57)
  have hB1 : Below w.heap.size w (w.alloc (.cells #[.int .i64 0, .map none, .slice none 0 0] 57)) := (Below.refl _ _).alloc (Nat.le_refl _) _
  have hN1 : Nobody (w.alloc (.cells #[.int .i64 0, .map none, .slice none 0 0] 57)) (some ⟨w.heap.size, 0, none⟩) := .inr ⟨_, rfl, hnew⟩
  refine (kF none _ (.inl rfl)).mono ?_
  rintro e w1 ⟨rfl, hb1⟩
  have hN2 := hN1.below hb1
  have hB2 := hB1.trans (hb1.mono hB1.size)
  clear hnew hB1 hN1 hb1
  go_wp2_with fail
  have hnewA := World.alloc_heap_new w1 (.cells #[.int .i64 0, .int .i64 0] 36)
  have hN3 : Nobody (w1.alloc (.cells #[.int .i64 0, .int .i64 0] 36)) (some ⟨w.heap.size, 0, none⟩) := hN2.below ((Below.refl _ _).alloc (Nat.le_refl _) _)
  have hB3 := hB2.alloc hB2.size (.cells #[.int .i64 0, .int .i64 0] 36)
  refine (kF _ _ hN3).mono ?_
  rintro e w2 ⟨rfl, hb2⟩
  have hN4 := hN3.below hb2
  have hB4 := hB3.trans (hb2.mono hB3.size)
  have hA2 : w2.heap[w1.heap.size]? = some (.cells #[.int .i64 0, .int .i64 0] 36 (0, 0)) := (hb2.block _ (by simp)).trans hnewA
  have hz2 := hb2.size
  rw [World.size_alloc] at hz2
  clear hN2 hB2 hnewA hN3 hB3 hb2
  go_wp2_with fail
  have hnewC := World.alloc_heap_new w2 (.cells #[.int .i64 0, .int .i64 0] 36)
  have hA3 := (Below.heap_alloc w2 (.cells #[.int .i64 0, .int .i64 0] 36) w1.heap.size (by omega)).trans hA2
  have hB5 := hB4.alloc hB4.size (.cells #[.int .i64 0, .int .i64 0] 36)
  have hN5 : Nobody (w2.alloc (.cells #[.int .i64 0, .int .i64 0] 36)) (some ⟨w.heap.size, 0, none⟩) := hN4.below ((Below.refl _ _).alloc (Nat.le_refl _) _)
  refine (kB none _ (.inl rfl)).mono ?_
  rintro e w3 ⟨rfl, hb3⟩
  have hz3 := hb3.size
  rw [World.size_alloc] at hz3
  have hN6 := hN5.below hb3
  have hB6 := hB5.trans (hb3.mono hB5.size)
  have hA4 := (hb3.block w1.heap.size (by simp; omega)).trans hA3
  have hC4 := (hb3.block w2.heap.size (by simp)).trans hnewC
  clear hN4 hB4 hnewC hN5 hB5 hb3 hA2 hA3
  go_wp2_with fail
  refine (kB _ _ hN6).mono ?_
  rintro e w4 ⟨rfl, hb4⟩
  have hN7 := hN6.below hb4
  have hB7 := hB6.trans (hb4.mono hB6.size)
  have hA5 := (hb4.block w1.heap.size (by omega)).trans hA4
  have hC5 := (hb4.block w2.heap.size (by omega)).trans hC4
  have hz4 := hb4.size
  clear hN6 hB6 hA4 hC4 hb4 kF kB kS
  go_wp2_with fail
  refine (len_nobody none t _ (.inl rfl)).mono ?_
  rintro e w' ⟨rfl, rfl⟩
  go_wp2_with fail
  refine (len_nobody _ t _ hN7).mono ?_
  rintro e w' ⟨rfl, rfl⟩
  go_wp2_with fail
  refine (hits_nobody none t _ hts (.inl rfl)).mono ?_
  rintro e w5 ⟨ao5, cap5, rfl, hb5⟩
  have hN8 := hN7.below hb5
  have hB8 := hB7.trans (hb5.mono hB7.size)
  have hA6 := (hb5.block w1.heap.size (by omega)).trans hA5
  have hC6 := (hb5.block w2.heap.size (by omega)).trans hC5
  have hz5 := hb5.size
  clear hN7 hB7 hA5 hC5 hb5
  go_wp2_with fail
  refine (hits_nobody _ t _ hts hN8).mono ?_
  rintro e w6 ⟨ao6, cap6, rfl, hb6⟩
  have hN9 := hN8.below hb6
  have hB9 := hB8.trans (hb6.mono hB8.size)
  have hA7 := (hb6.block w1.heap.size (by omega)).trans hA6
  have hC7 := (hb6.block w2.heap.size (by omega)).trans hC6
  have hz6 := hb6.size
  clear hN8 hB8 hA6 hC6 hb6
  go_wp2_with fail
  refine (has_nobody none t _ hts (.inl rfl)).mono ?_
  rintro e w7 ⟨rfl, hb7⟩
  have hN10 := hN9.below hb7
  have hB10 := hB9.trans (hb7.mono hB9.size)
  have hA8 := (hb7.block w1.heap.size (by omega)).trans hA7
  have hC8 := (hb7.block w2.heap.size (by omega)).trans hC7
  have hz7 := hb7.size
  clear hN9 hB9 hA7 hC7 hb7
  go_wp2_with fail
  refine (has_nobody _ t _ hts hN10).mono ?_
  rintro e w8 ⟨rfl, hb8⟩
  have hB11 := hB10.trans (hb8.mono hB10.size)
  have hA9 := (hb8.block w1.heap.size (by omega)).trans hA8
  have hC9 := (hb8.block w2.heap.size (by omega)).trans hC8
  have a0 : w8.cell? ⟨w1.heap.size, 0, none⟩ = some (.int .i64 0) := by simp [World.cell?, hA9]
  have a1 : w8.cell? ⟨w1.heap.size, 1, none⟩ = some (.int .i64 0) := by simp [World.cell?, hA9]
  have b0 : w8.cell? ⟨w2.heap.size, 0, none⟩ = some (.int .i64 0) := by simp [World.cell?, hC9]
  have b1 : w8.cell? ⟨w2.heap.size, 1, none⟩ = some (.int .i64 0) := by simp [World.cell?, hC9]
  have hbq := eq_self t
  clear hN10 hB10 hA8 hC8 hb8 hA9 hC9
  go_wp2_with (go_at_call 17; refine (awake_any _).mono ?_; rintro e w9 ⟨rfl, hb9⟩)
  go_ret
  exact ⟨rfl, hB11.trans (hb9.mono hB11.size)⟩
end Go.Proofs.Ytpgiaofkabhgkaa
