/-
  The contract of nuncio/nuncioref02.Bytes.
-/
import Derived.Laws.IdiomStrings
import Derived.Handy
import Derived.OwnWalkIn
import Derived.BigRegion
import Derived.Test.YtahkfoaogcbecaaRune
namespace Go.Proofs.Ytahkfoaogcbecaa
open Go.RowKit

/-- The string whose bytes are so many, each of them below 256. -/
def strOf (l : List Nat) : ByteArray := ⟨(l.map UInt8.ofNat).toArray⟩
theorem kcAny (w : World) (l : List Nat) (hl : ∀ x ∈ l, x < 256) : (convert 33 9 (.slice (some ⟨w.heap.size, 0, none⟩) l.length l.length)).run Try.prog (w.alloc (.cells (l.map fun x : Nat => Value.int .u8 (x : Int)).toArray 5)) = .ok (.string (strOf l)) (w.alloc (.cells (l.map fun x : Nat => Value.int .u8 (x : Int)).toArray 5)) := by
  have := run_convert_bytes_back (P := Try.prog) (w.alloc (.cells (l.map fun x : Nat => Value.int .u8 (x : Int)).toArray 5)) 33 9 5 ⟨w.heap.size, 0, none⟩ l.length (l.map UInt8.ofNat) Try.underlying33 Try.underlying5 Try.underlying9 ?_
  · unfold strOf
    simpa using this
  · intro j hj
    rw [List.length_map] at hj
    have h1 : (Addr.add ⟨w.heap.size, 0, none⟩ j) = ⟨w.heap.size, j, none⟩ := by simp [Addr.add]; omega
    rw [h1]
    unfold World.cell?
    dsimp only
    rw [heap_alloc_new]
    have h2 := hl l[j] (by simp)
    simp [hj, Nat.mod_eq_of_lt h2]

theorem kc1 (w : World) (x0 : Int) (h0 : 0 ≤ x0 ∧ x0 < 256) : (convert 33 9 (.slice (some ⟨w.heap.size, 0, none⟩) 1 1)).run Try.prog (w.alloc (.cells #[.int .u8 x0] 5)) = .ok (.string (strOf [x0.toNat])) (w.alloc (.cells #[.int .u8 x0] 5)) := by
  obtain ⟨a0, rfl⟩ := Int.eq_ofNat_of_zero_le h0.1
  exact kcAny w [a0] (by intro x hx; simp only [List.mem_cons, List.not_mem_nil, or_false] at hx; omega)
theorem kc2 (w : World) (x0 x1 : Int) (h0 : 0 ≤ x0 ∧ x0 < 256) (h1 : 0 ≤ x1 ∧ x1 < 256) : (convert 33 9 (.slice (some ⟨w.heap.size, 0, none⟩) 2 2)).run Try.prog (w.alloc (.cells #[.int .u8 x0, .int .u8 x1] 5)) = .ok (.string (strOf [x0.toNat, x1.toNat])) (w.alloc (.cells #[.int .u8 x0, .int .u8 x1] 5)) := by
  obtain ⟨a0, rfl⟩ := Int.eq_ofNat_of_zero_le h0.1
  obtain ⟨a1, rfl⟩ := Int.eq_ofNat_of_zero_le h1.1
  exact kcAny w [a0, a1] (by intro x hx; simp only [List.mem_cons, List.not_mem_nil, or_false] at hx; omega)
theorem kc3 (w : World) (x0 x1 x2 : Int) (h0 : 0 ≤ x0 ∧ x0 < 256) (h1 : 0 ≤ x1 ∧ x1 < 256) (h2 : 0 ≤ x2 ∧ x2 < 256) : (convert 33 9 (.slice (some ⟨w.heap.size, 0, none⟩) 3 3)).run Try.prog (w.alloc (.cells #[.int .u8 x0, .int .u8 x1, .int .u8 x2] 5)) = .ok (.string (strOf [x0.toNat, x1.toNat, x2.toNat])) (w.alloc (.cells #[.int .u8 x0, .int .u8 x1, .int .u8 x2] 5)) := by
  obtain ⟨a0, rfl⟩ := Int.eq_ofNat_of_zero_le h0.1
  obtain ⟨a1, rfl⟩ := Int.eq_ofNat_of_zero_le h1.1
  obtain ⟨a2, rfl⟩ := Int.eq_ofNat_of_zero_le h2.1
  exact kcAny w [a0, a1, a2] (by intro x hx; simp only [List.mem_cons, List.not_mem_nil, or_false] at hx; omega)
theorem kc4 (w : World) (x0 x1 x2 x3 : Int) (h0 : 0 ≤ x0 ∧ x0 < 256) (h1 : 0 ≤ x1 ∧ x1 < 256) (h2 : 0 ≤ x2 ∧ x2 < 256) (h3 : 0 ≤ x3 ∧ x3 < 256) : (convert 33 9 (.slice (some ⟨w.heap.size, 0, none⟩) 4 4)).run Try.prog (w.alloc (.cells #[.int .u8 x0, .int .u8 x1, .int .u8 x2, .int .u8 x3] 5)) = .ok (.string (strOf [x0.toNat, x1.toNat, x2.toNat, x3.toNat])) (w.alloc (.cells #[.int .u8 x0, .int .u8 x1, .int .u8 x2, .int .u8 x3] 5)) := by
  obtain ⟨a0, rfl⟩ := Int.eq_ofNat_of_zero_le h0.1
  obtain ⟨a1, rfl⟩ := Int.eq_ofNat_of_zero_le h1.1
  obtain ⟨a2, rfl⟩ := Int.eq_ofNat_of_zero_le h2.1
  obtain ⟨a3, rfl⟩ := Int.eq_ofNat_of_zero_le h3.1
  exact kcAny w [a0, a1, a2, a3] (by intro x hx; simp only [List.mem_cons, List.not_mem_nil, or_false] at hx; omega)

theorem strOf_enc (r : Nat) : strOf (if r < 128 then [r] else if r < 2048 then [192 + r / 64, 128 + r % 64] else if r < 65536 then [224 + r / 4096, 128 + r / 64 % 64, 128 + r % 64] else [240 + r / 262144, 128 + r / 4096 % 64, 128 + r / 64 % 64, 128 + r % 64]) = ⟨(encL r).toArray⟩ := by
  unfold strOf encL
  repeat' split
  all_goals rfl
theorem encode_rune (r : Nat) (h : isRune r) : Utf8.encode (r : Int) = ⟨(encL r).toArray⟩ := by
  have hv : Utf8.valid (r : Int) = true := by rw [runeB_valid]; exact decide_eq_true (by unfold isRune at h; omega)
  unfold Utf8.encode encL
  rw [hv]
  simp only [if_true, Int.toNat_natCast]
  repeat' split
  all_goals rfl
theorem encode_bad (n : Int) (h : runeB n = false) : Utf8.encode n = ⟨#[239, 191, 189]⟩ := by
  unfold Utf8.encode
  rw [runeB_valid, h]
  simp only [Bool.false_eq_true, if_false, Utf8.runeError]
  decide

set_option maxHeartbeats 400000 in
theorem refBytes_bad (n : Int) (w : World) (h0 : -9223372036854775808 ≤ n) (h1 : n ≤ 9223372036854775807) (hr : runeB n = false) :
    Calls Try.prog 23 #[.int .i64 n] w fun e w' => e = .returned (.string (Utf8.encode n)) ∧ Below w.heap.size w w' := by
  have kc := kc3 w 239 191 189 (by decide) (by decide) (by decide)
  rw [encode_bad n hr]
  have Hr := Lib.hid hr
  clear hr
  go_enter Try.func23, Try.ntmps23
  go_wp2_with fail
  refine (refRune_any _ _ h0 h1).mono ?_
  rw [Hr.out]
  rintro e w' ⟨rfl, rfl⟩
  go_wp2
  go_ret
  exact ⟨rfl, by go_grown⟩

theorem encode_good (n : Int) (h : runeB n = true) : Utf8.encode n = strOf (if n.toNat < 128 then [n.toNat] else if n.toNat < 2048 then [192 + n.toNat / 64, 128 + n.toNat % 64] else if n.toNat < 65536 then [224 + n.toNat / 4096, 128 + n.toNat / 64 % 64, 128 + n.toNat % 64] else [240 + n.toNat / 262144, 128 + n.toNat / 4096 % 64, 128 + n.toNat / 64 % 64, 128 + n.toNat % 64]) := by
  have h' := of_decide_eq_true h
  obtain ⟨r, rfl⟩ := Int.eq_ofNat_of_zero_le (show 0 ≤ n by omega)
  rw [encode_rune r (by unfold isRune; omega)]
  exact (strOf_enc r).symm

set_option maxRecDepth 100000 in
set_option maxHeartbeats 400000 in
theorem refBytes_1 (n : Int) (w : World) (hr : runeB n = true) (a0 : 0 ≤ n) (a1 : n ≤ 1114111) (c1 : n < 128) :
    Calls Try.prog 23 #[.int .i64 n] w fun e w' => e = .returned (.string (Utf8.encode n)) ∧ Below w.heap.size w w' := by
  have he := encode_good n hr
  obtain ⟨a, ha⟩ : ∃ a, a = Utf8.encode n := ⟨_, rfl⟩
  rw [← ha] at he ⊢
  have He := Lib.hid he
  have Hr := Lib.hid hr
  clear hr he ha
  have kc := kc1 w n (by omega)
  go_enter Try.func23, Try.ntmps23
  go_wp2_with fail
  refine (refRune_any _ _ (by omega) (by omega)).mono ?_
  rw [Hr.out]
  rintro e w' ⟨rfl, rfl⟩
  go_wp2
  go_ret
  refine ⟨?_, by go_grown⟩
  obtain ⟨r, rfl⟩ := Int.eq_ofNat_of_zero_le a0
  rw [He.out]
  simp only [Int.toNat_natCast]
  rw [if_pos (by omega)]
  rfl

set_option maxRecDepth 100000 in
set_option maxHeartbeats 400000 in
theorem refBytes_2 (n : Int) (w : World) (hr : runeB n = true) (a0 : 0 ≤ n) (a1 : n ≤ 1114111) (c1 : 128 ≤ n) (c2 : n < 2048) :
    Calls Try.prog 23 #[.int .i64 n] w fun e w' => e = .returned (.string (Utf8.encode n)) ∧ Below w.heap.size w w' := by
  have he := encode_good n hr
  obtain ⟨a, ha⟩ : ∃ a, a = Utf8.encode n := ⟨_, rfl⟩
  rw [← ha] at he ⊢
  have He := Lib.hid he
  have Hr := Lib.hid hr
  clear hr he ha
  have d0a : 0 ≤ n / 64 := by omega
  have d0b : n / 64 ≤ 31 := by omega
  have e0a : 0 ≤ (192 + n / 64) := by omega
  have e0b : (192 + n / 64) ≤ 255 := by omega
  have e1a : 0 ≤ (128 + n % 64) := by omega
  have e1b : (128 + n % 64) ≤ 255 := by omega
  have kc := kc2 w (192 + n / 64) (128 + n % 64) (by omega) (by omega)
  go_enter Try.func23, Try.ntmps23
  go_wp2_with fail
  refine (refRune_any _ _ (by omega) (by omega)).mono ?_
  rw [Hr.out]
  rintro e w' ⟨rfl, rfl⟩
  go_wp2
  go_ret
  refine ⟨?_, by go_grown⟩
  obtain ⟨r, rfl⟩ := Int.eq_ofNat_of_zero_le a0
  rw [He.out]
  simp only [Int.toNat_natCast]
  rw [if_neg (by omega), if_pos (by omega)]
  rfl

set_option maxRecDepth 100000 in
set_option maxHeartbeats 400000 in
theorem refBytes_3 (n : Int) (w : World) (hr : runeB n = true) (a0 : 0 ≤ n) (a1 : n ≤ 1114111) (c1 : 128 ≤ n) (c2 : 2048 ≤ n) (c3 : n < 65536) :
    Calls Try.prog 23 #[.int .i64 n] w fun e w' => e = .returned (.string (Utf8.encode n)) ∧ Below w.heap.size w w' := by
  have he := encode_good n hr
  obtain ⟨a, ha⟩ : ∃ a, a = Utf8.encode n := ⟨_, rfl⟩
  rw [← ha] at he ⊢
  have He := Lib.hid he
  have Hr := Lib.hid hr
  clear hr he ha
  have d0a : 0 ≤ n / 64 := by omega
  have d0b : n / 64 ≤ 1023 := by omega
  have d1a : 0 ≤ n / 4096 := by omega
  have d1b : n / 4096 ≤ 15 := by omega
  have e0a : 0 ≤ (224 + n / 4096) := by omega
  have e0b : (224 + n / 4096) ≤ 255 := by omega
  have e1a : 0 ≤ (128 + n / 64 % 64) := by omega
  have e1b : (128 + n / 64 % 64) ≤ 255 := by omega
  have e2a : 0 ≤ (128 + n % 64) := by omega
  have e2b : (128 + n % 64) ≤ 255 := by omega
  have kc := kc3 w (224 + n / 4096) (128 + n / 64 % 64) (128 + n % 64) (by omega) (by omega) (by omega)
  go_enter Try.func23, Try.ntmps23
  go_wp2_with fail
  refine (refRune_any _ _ (by omega) (by omega)).mono ?_
  rw [Hr.out]
  rintro e w' ⟨rfl, rfl⟩
  go_wp2
  go_ret
  refine ⟨?_, by go_grown⟩
  obtain ⟨r, rfl⟩ := Int.eq_ofNat_of_zero_le a0
  rw [He.out]
  simp only [Int.toNat_natCast]
  rw [if_neg (by omega), if_neg (by omega), if_pos (by omega)]
  rfl

set_option maxRecDepth 100000 in
set_option maxHeartbeats 400000 in
theorem refBytes_4 (n : Int) (w : World) (hr : runeB n = true) (a0 : 0 ≤ n) (a1 : n ≤ 1114111) (c1 : 128 ≤ n) (c2 : 2048 ≤ n) (c3 : 65536 ≤ n) :
    Calls Try.prog 23 #[.int .i64 n] w fun e w' => e = .returned (.string (Utf8.encode n)) ∧ Below w.heap.size w w' := by
  have he := encode_good n hr
  obtain ⟨a, ha⟩ : ∃ a, a = Utf8.encode n := ⟨_, rfl⟩
  rw [← ha] at he ⊢
  have He := Lib.hid he
  have Hr := Lib.hid hr
  clear hr he ha
  have d0a : 0 ≤ n / 64 := by omega
  have d0b : n / 64 ≤ 17408 := by omega
  have d1a : 0 ≤ n / 4096 := by omega
  have d1b : n / 4096 ≤ 272 := by omega
  have d2a : 0 ≤ n / 262144 := by omega
  have d2b : n / 262144 ≤ 4 := by omega
  have e0a : 0 ≤ (240 + n / 262144) := by omega
  have e0b : (240 + n / 262144) ≤ 255 := by omega
  have e1a : 0 ≤ (128 + n / 4096 % 64) := by omega
  have e1b : (128 + n / 4096 % 64) ≤ 255 := by omega
  have e2a : 0 ≤ (128 + n / 64 % 64) := by omega
  have e2b : (128 + n / 64 % 64) ≤ 255 := by omega
  have e3a : 0 ≤ (128 + n % 64) := by omega
  have e3b : (128 + n % 64) ≤ 255 := by omega
  have kc := kc4 w (240 + n / 262144) (128 + n / 4096 % 64) (128 + n / 64 % 64) (128 + n % 64) (by omega) (by omega) (by omega) (by omega)
  go_enter Try.func23, Try.ntmps23
  go_wp2_with fail
  refine (refRune_any _ _ (by omega) (by omega)).mono ?_
  rw [Hr.out]
  rintro e w' ⟨rfl, rfl⟩
  go_wp2
  go_ret
  refine ⟨?_, by go_grown⟩
  obtain ⟨r, rfl⟩ := Int.eq_ofNat_of_zero_le a0
  rw [He.out]
  simp only [Int.toNat_natCast]
  rw [if_neg (by omega), if_neg (by omega), if_neg (by omega)]
  rfl

theorem refBytes_any (n : Int) (w : World) (h0 : -9223372036854775808 ≤ n) (h1 : n ≤ 9223372036854775807) :
    Calls Try.prog 23 #[.int .i64 n] w fun e w' => e = .returned (.string (Utf8.encode n)) ∧ Below w.heap.size w w' := by
  cases hr : runeB n with
  | false => exact refBytes_bad n w h0 h1 hr
  | true =>
    have h' := of_decide_eq_true hr
    by_cases c1 : n < 128
    · exact refBytes_1 n w hr (by omega) (by omega) c1
    · by_cases c2 : n < 2048
      · exact refBytes_2 n w hr (by omega) (by omega) (by omega) c2
      · by_cases c3 : n < 65536
        · exact refBytes_3 n w hr (by omega) (by omega) (by omega) (by omega) c3
        · exact refBytes_4 n w hr (by omega) (by omega) (by omega) (by omega) (by omega)
end Go.Proofs.Ytahkfoaogcbecaa
