/-
  Contracts of nuncio/nuncioref01's digits and Text.
-/
import Derived.Test.YtjghnabepojddaaOctHex
import Derived.Test.YtjghnabepojddaaPlainNum
import Derived.IntWalk
namespace Go.Proofs.Ytjghnabepojddaa
open Go.RowKit

theorem conv1 (w : World) (x : UInt8) : (convert 37 9 (.slice (some ⟨w.heap.size, 0, none⟩) 1 1)).run Try.prog (w.alloc (.cells #[.int .u8 ↑x.toNat] 5)) = .ok (.string ⟨#[x]⟩) (w.alloc (.cells #[.int .u8 ↑x.toNat] 5)) := by
  have := run_convert_bytes_back (P := Try.prog) (w.alloc (.cells #[.int .u8 ↑x.toNat] 5)) 37 9 5 ⟨w.heap.size, 0, none⟩ 1 [x] Try.underlying37 Try.underlying5 Try.underlying9 ?_
  · simpa using this
  · intro j hj
    match j, hj with
    | 0, _ => simp [Addr.add]

theorem conv1' (w : World) (x : Int) (u : UInt8) (h : (u.toNat : Int) = x) : (convert 37 9 (.slice (some ⟨w.heap.size, 0, none⟩) 1 1)).run Try.prog (w.alloc (.cells #[.int .u8 x] 5)) = .ok (.string ⟨#[u]⟩) (w.alloc (.cells #[.int .u8 x] 5)) := by
  subst h; exact conv1 w u

set_option maxHeartbeats 1000000 in
theorem refDigits_any (n : Int) (w : World) (h0 : 0 ≤ n) (h1 : n ≤ 18446744073709551615) :
    Calls Try.prog 31 #[.int .u64 n] w fun e w' => e = .returned (.string ⟨(digs n.toNat).toArray⟩) ∧ Below w.heap.size w w' := by
  obtain ⟨m, rfl⟩ := Int.eq_ofNat_of_zero_le h0
  rw [Int.toNat_natCast]
  have hm : m ≤ 18446744073709551615 := by omega
  clear h1
  go_enter Try.func31, Try.ntmps31
  go_wp2
  go_loopw [0, 3] (fun rest s wr => ∃ (l : List UInt8) (r : Nat), rest = .int .u64 (r : Int) ∧ s = .string ⟨l.toArray⟩ ∧ digs m = digs r ++ l ∧ r ≤ 18446744073709551615 ∧ Below w.heap.size w wr)
    (fun rest s wr => (intOf rest).toNat)
  case atStart => exact ⟨[], m, rfl, rfl, by simp, hm, Below.refl _ _⟩
  case round =>
    obtain ⟨l, r, rfl, rfl, hd, hr, hb⟩ := hrel
    have hlen := digs_len20 m (by omega)
    have hlen' : l.length ≤ 20 := by rw [hd] at hlen; simp at hlen; omega
    have Hd := Lib.hid hd
    clear hd hlen
    have hsz := hb.size
    by_cases c0 : 9 < r
    · have kc := conv1' wr (48 + (r : Int) % 10) (dg (r % 10)) (by rw [dg_toNat _ (by omega)]; omega)
      go_wp2
      go_roundw
      case rel => exact ⟨dg (r % 10) :: l, r / 10, by go_num, rfl, by rw [Hd.out, digs_ge r (by omega)]; simp, by omega, hb.alloc (by omega) _⟩
      case measure => simp [intOf]; omega
    · have kc := conv1' wr (48 + (r : Int)) (dg r) (by rw [dg_toNat _ (by omega)]; omega)
      go_wp2
      go_ret
      exact ⟨by rw [Hd.out, digs_lt r (by omega)]; rfl, hb.alloc (by omega) _⟩

set_option maxHeartbeats 1000000 in
theorem refText_any (n : Int) (w : World) (h0 : -9223372036854775808 ≤ n) (h1 : n ≤ 9223372036854775807) :
    Calls Try.prog 12 #[.int .i64 n] w fun e w' => e = .returned (.string (textOf n)) ∧ Below w.heap.size w w' := by
  by_cases hn : n < 0
  · obtain ⟨D, hD⟩ : ∃ D, D = digs n.natAbs := ⟨_, rfl⟩
    have hd : digs (-(n + 1) + 1).toNat = D := by rw [hD]; congr 1; omega
    have ht : textOf n = ⟨(45 :: D).toArray⟩ := by unfold textOf; rw [if_pos hn, hD]
    have hl : D.length ≤ 20 := by rw [hD]; exact digs_len20 _ (by omega)
    rw [ht]
    have Hd := Lib.hid hd
    clear hd ht hD
    go_enter Try.func12, Try.ntmps12
    go_wp2_with (go_at_call 31; refine (refDigits_any _ _ (by omega) (by omega)).mono ?_; rw [Hd.out]; rintro e w' ⟨rfl, hb⟩)
    go_ret
    exact ⟨rfl, ‹_›⟩
  · have ht : textOf n = ⟨(digs n.toNat).toArray⟩ := by unfold textOf; rw [if_neg hn]; congr 3; omega
    rw [ht]
    have hn' : 0 ≤ n := by omega
    clear ht
    go_enter Try.func12, Try.ntmps12
    go_wp2_with (go_at_call 31; refine (refDigits_any _ _ (by omega) (by omega)).mono ?_; rintro e w' ⟨rfl, hb⟩)
    go_ret
    exact ⟨rfl, ‹_›⟩
end Go.Proofs.Ytjghnabepojddaa
