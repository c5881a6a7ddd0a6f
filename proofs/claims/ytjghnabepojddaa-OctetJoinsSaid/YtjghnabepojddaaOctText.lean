/-
  Contracts of nuncio/octet.Text and of its references.
-/
import Derived.Test.YtjghnabepojddaaOctHex
import Derived.Test.YtjghnabepojddaaPlainNum
import Derived.IntWalk
namespace Go.Proofs.Ytjghnabepojddaa
open Go.RowKit

theorem txtConv (w : World) (l : List UInt8) (a : Nat) (h : a + l.length = 20) :
    (convert 37 9 (.slice (some ⟨w.heap.size, a, none⟩) (20 - a) (20 - a))).run Try.prog (w.alloc (.cells (txtRow l) 44)) = .ok (.string ⟨l.toArray⟩) (w.alloc (.cells (txtRow l) 44)) := by
  rw [show 20 - a = l.length from by omega]
  exact run_convert_bytes_back (P := Try.prog) (w.alloc (.cells (txtRow l) 44)) 37 9 5 ⟨w.heap.size, a, none⟩ l.length l Try.underlying37 Try.underlying5 Try.underlying9 (fun j hj => by
    rw [show (Addr.add ⟨w.heap.size, a, none⟩ j) = ⟨w.heap.size, a + j, none⟩ from by simp [Addr.add]]
    have := txtRow_at l a j h hj
    unfold World.cell?
    dsimp only
    rw [heap_alloc_new]
    exact this)

theorem arrLen20 : Try.prog.arrayLen 44 = 20 := by kernel_rfl
theorem arrElem20 : Try.prog.elem 44 = 5 := by kernel_rfl
theorem txtSlice (W : World) (B l : Nat) (i : Int) (hi : i = (l : Int)) (h : l < 20) :
    (Instr.sliceAt 44 (.pointer (some ⟨B, 0, none⟩)) (some (.int .i64 i)) none none).run Try.prog W = .ok (.slice (some ⟨B, l, none⟩) (20 - l) (20 - l)) W := by
  subst hi
  rw [run_sliceAt_array_l W 44 ⟨B, 0, none⟩ (by rw [arrLen20, arrElem20]; exact Try.underlying44) .i64 (l : Int) (by omega) (by rw [arrLen20]; omega), arrElem20, Try.sizeOf5, arrLen20]
  simp only [Result.andThen, slicedAt, Int.toNat_natCast, Nat.mul_one]
  rw [if_neg (by omega)]
  simp [Addr.add]
  omega

set_option maxHeartbeats 1000000 in
theorem octText_neg (n : Int) (w : World) (h0 : -9223372036854775808 ≤ n) (h1 : n ≤ 9223372036854775807) (hn : n < 0) :
    Calls Try.prog 10 #[.int .i64 n] w fun e w' => e = .returned (.string (textOf n)) ∧ Below w.heap.size w w' := by
  obtain ⟨m, hm⟩ : ∃ m : Nat, m = n.natAbs := ⟨_, rfl⟩
  have hw := negWrap n h0 hn
  rw [← hm] at hw
  have Hw := Lib.hid hw
  have ht : textOf n = ⟨(45 :: digs m).toArray⟩ := by unfold textOf; rw [if_pos hn, hm]
  rw [ht]
  have hl19 := digs_len19 m (by omega)
  have hm63 : m ≤ 9223372036854775808 := by omega
  clear hw ht hm
  go_enter Try.func10, Try.ntmps10
  go_wp2
  go_loopw [4, 5] (fun at_ rest wr => ∃ (l : List UInt8) (a r : Nat), at_ = .int .i64 (a : Int) ∧ rest = .int .u64 (r : Int) ∧ txtInv m l a r ∧ wr = w.alloc (.cells (txtRow l) 44) ∧ r ≤ 18446744073709551615)
    (fun at_ rest wr => (intOf rest).toNat + (intOf at_).toNat)
  case atStart => exact ⟨[], 20, m, rfl, by rw [Hw.out], txtInv_start m, rfl, by omega⟩
  case round =>
    obtain ⟨l, a, r, rfl, rfl, hinv, rfl, hr⟩ := hrel
    have hra := txtInv_room hinv hl19
    have ha1 := hra.1
    have ha2 := hra.2
    have hx := hinv.1
    have hhead := txtRow_head l a hinv.1 ha1
    have hset := txtRow_set l (a - 1) (dg (r % 10)) (by omega)
    rw [dg_toNat _ (by omega)] at hset
    have Hx := Lib.hid hx
    have Hset := Lib.hid hset
    clear hset hra hx
    by_cases c0 : 0 < r
    · go_wp2
      go_roundw
      case rel => exact ⟨dg (r % 10) :: l, a - 1, r / 10, by go_num, by go_num, txtInv_step hinv ha1 (.inl c0), by rw [← Hset.out]; rfl, by omega⟩
      case measure => simp [intOf]; omega
    · obtain rfl : r = 0 := by omega
      by_cases c1 : a = 20
      · subst c1
        go_wp2
        go_roundw
        case rel => exact ⟨dg (0 % 10) :: l, 20 - 1, 0 / 10, by go_num, by go_num, txtInv_step hinv ha1 (.inr rfl), by rw [← Hset.out]; rfl, by omega⟩
        case measure => simp [intOf]
      · have c2 : ((a : Int) == 20) = false := by simp; omega
        have hs45 : (txtRow l).setIfInBounds (a - 1) (.int .u8 45) = txtRow (45 :: l) := txtRow_set l (a - 1) 45 (by have := Hx.out; omega)
        have kc := txtConv w (45 :: l) (a - 1) (by have := Hx.out; simp; omega)
        have ks := fun W => txtSlice W w.heap.size (a - 1) ((a : Int) - 1) (by omega) (by omega)
        have hl := txtInv_end hinv c1
        have Hl := Lib.hid hl
        clear hl hinv c0
        go_wp2
        go_ret
        exact ⟨by rw [Hl.out]; rfl, by go_grown⟩

set_option maxHeartbeats 1000000 in
theorem octText_pos (n : Int) (w : World) (h0 : -9223372036854775808 ≤ n) (h1 : n ≤ 9223372036854775807) (hn : 0 ≤ n) :
    Calls Try.prog 10 #[.int .i64 n] w fun e w' => e = .returned (.string (textOf n)) ∧ Below w.heap.size w w' := by
  obtain ⟨m, rfl⟩ := Int.eq_ofNat_of_zero_le hn
  have ht : textOf (m : Int) = ⟨(digs m).toArray⟩ := by unfold textOf; rw [if_neg (by omega)]; simp
  rw [ht]
  have hl19 := digs_len19 m (by omega)
  have hm63 : m ≤ 9223372036854775808 := by omega
  have hd0 : decide ((m : Int) < 0) = false := by simp
  clear ht
  go_enter Try.func10, Try.ntmps10
  go_wp2
  go_loopw [4, 5] (fun at_ rest wr => ∃ (l : List UInt8) (a r : Nat), at_ = .int .i64 (a : Int) ∧ rest = .int .u64 (r : Int) ∧ txtInv m l a r ∧ wr = w.alloc (.cells (txtRow l) 44) ∧ r ≤ 18446744073709551615)
    (fun at_ rest wr => (intOf rest).toNat + (intOf at_).toNat)
  case atStart => exact ⟨[], 20, m, rfl, rfl, txtInv_start m, rfl, by omega⟩
  case round =>
    obtain ⟨l, a, r, rfl, rfl, hinv, rfl, hr⟩ := hrel
    have hra := txtInv_room hinv hl19
    have ha1 := hra.1
    have ha2 := hra.2
    have hx := hinv.1
    have hhead := txtRow_head l a hinv.1 ha1
    have hset := txtRow_set l (a - 1) (dg (r % 10)) (by omega)
    rw [dg_toNat _ (by omega)] at hset
    have Hx := Lib.hid hx
    have Hset := Lib.hid hset
    clear hset hra hx
    by_cases c0 : 0 < r
    · go_wp2
      go_roundw
      case rel => exact ⟨dg (r % 10) :: l, a - 1, r / 10, by go_num, by go_num, txtInv_step hinv ha1 (.inl c0), by rw [← Hset.out]; rfl, by omega⟩
      case measure => simp [intOf]; omega
    · obtain rfl : r = 0 := by omega
      by_cases c1 : a = 20
      · subst c1
        go_wp2
        go_roundw
        case rel => exact ⟨dg (0 % 10) :: l, 20 - 1, 0 / 10, by go_num, by go_num, txtInv_step hinv ha1 (.inr rfl), by rw [← Hset.out]; rfl, by omega⟩
        case measure => simp [intOf]
      · have c2 : ((a : Int) == 20) = false := by simp; omega
        have kc := txtConv w l a Hx.out
        have ks := fun W => txtSlice W w.heap.size a (a : Int) rfl (by omega)
        have hl := txtInv_end hinv c1
        have Hl := Lib.hid hl
        clear hl hinv c0
        go_wp2
        go_ret
        exact ⟨by rw [Hl.out]; rfl, by go_grown⟩

theorem octText_any (n : Int) (w : World) (h0 : -9223372036854775808 ≤ n) (h1 : n ≤ 9223372036854775807) :
    Calls Try.prog 10 #[.int .i64 n] w fun e w' => e = .returned (.string (textOf n)) ∧ Below w.heap.size w w' := by
  by_cases hn : n < 0
  · exact octText_neg n w h0 h1 hn
  · exact octText_pos n w h0 h1 (by omega)
end Go.Proofs.Ytjghnabepojddaa
