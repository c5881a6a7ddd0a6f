/-
  The walk of nunciolaw02.UtfBytes.
-/
import Derived.Test.YtpeplejpcdadgaaUtfAwake
import Derived.OpenShut
namespace Go.Proofs.Ytpeplejpcdadgaa
open Go.RowKit

/-- What is read where an encoding stands alone. -/
theorem nx_encode (n : Int) : nxS (Utf8.encode n) 0 = ((if runeB n then n.toNat else 65533), (Utf8.encode n).size) := by
  cases h : runeB n with
  | false =>
    rw [encode_bad n h, if_neg (by simp)]
    decide
  | true =>
    have h' := of_decide_eq_true h
    obtain ⟨r, rfl⟩ := Int.eq_ofNat_of_zero_le (show 0 ≤ n by omega)
    have hr : isRune r := by unfold isRune; omega
    rw [encode_rune r hr]
    unfold nxS
    have := nxL_enc r [] hr
    rw [List.append_nil] at this
    exact this
theorem encode_pos (n : Int) : 0 < (Utf8.encode n).size := by
  cases h : runeB n with
  | false => rw [encode_bad n h]; decide
  | true =>
    have h' := of_decide_eq_true h
    obtain ⟨r, rfl⟩ := Int.eq_ofNat_of_zero_le (show 0 ≤ n by omega)
    rw [encode_rune r (by unfold isRune; omega)]
    exact List.length_pos_iff.2 (encL_ne r)

set_option maxRecDepth 100000 in
set_option maxHeartbeats 1000000 in
theorem utfBytes_walk (n : Int) (w1 : (Lit.int .i32 n).wf = true) (w : World) :
    Calls Try.prog 4 #[.int .i32 n] w fun e w' => e = .returned (.bool true) ∧ Below w.heap.size w w' := by
  have hc := bounds_i32 w1
  have hc1 := hc.1
  have hc2 := hc.2
  clear hc
  have hp := encode_pos n
  have hsz := encode_size n
  obtain ⟨s, hs⟩ : ∃ s, s = Utf8.encode n := ⟨_, rfl⟩
  rw [← hs] at hp hsz
  have hnx : nxS s 0 = ((if runeB n then n.toNat else 65533), s.size) := by rw [hs]; exact nx_encode n
  have Hs := Lib.hid hs
  have hbq := bytes_beq_same (rfl : s = s)
  cases hr : runeB n with
  | true =>
    have h' := of_decide_eq_true hr
    have hv : nxV (nxS s 0) = .tuple #[.int .i32 n, .int .i64 (s.size : Int)] := by
      rw [hnx, hr]
      show Value.tuple #[.int .i32 ((n.toNat : Nat) : Int), _] = _
      rw [Int.toNat_of_nonneg (by omega)]
    have Hv := Lib.hid hv
    have Hr := Lib.hid hr
    clear hs hnx hv hr h'
    go_enter Try.func4, Try.ntmps4
    go_wp2_with fail
    refine (utfBytes_any n _).mono ?_
    rw [← Hs.out]
    rintro e w' ⟨rfl, rfl⟩
    go_wp2_with fail
    refine (utfNext_in s 0 _ (by omega) hp).mono ?_
    rw [Hv.out]
    rintro e w2 ⟨rfl, q, rfl⟩
    go_wp2_with fail
    refine (refBytes_any n _ (by omega) (by omega)).mono ?_
    rw [← Hs.out]
    rintro e w3 ⟨rfl, hb3⟩
    go_wp2_with fail
    refine (refRune_any n _ (by omega) (by omega)).mono ?_
    rw [Hr.out]
    rintro e w4 ⟨rfl, rfl⟩
    go_wp2_with fail
    refine (refRune_any n _ (by omega) (by omega)).mono ?_
    rw [Hr.out]
    rintro e w5 ⟨rfl, rfl⟩
    go_wp2_with fail
    refine (awake_any _).mono ?_
    rintro e w8 ⟨rfl, hb8⟩
    go_wp2_with fail
    go_ret
    refine ⟨rfl, ?_⟩
    have h1 := (below_drewN w.heap.size w q).trans hb3
    exact h1.trans (hb8.mono h1.size)
  | false =>
    have hv : nxV (nxS s 0) = .tuple #[.int .i32 65533, .int .i64 (s.size : Int)] := by
      rw [hnx, hr]
      rfl
    have hne : ((65533 : Int) == n) = false := by
      rw [beq_eq_false_iff_ne]
      intro e
      rw [← e] at hr
      exact absurd hr (by decide)
    have Hv := Lib.hid hv
    have Hr := Lib.hid hr
    clear hs hnx hv hr
    go_enter Try.func4, Try.ntmps4
    go_wp2_with fail
    refine (utfBytes_any n _).mono ?_
    rw [← Hs.out]
    rintro e w' ⟨rfl, rfl⟩
    go_wp2_with fail
    refine (utfNext_in s 0 _ (by omega) hp).mono ?_
    rw [Hv.out]
    rintro e w2 ⟨rfl, q, rfl⟩
    go_wp2_with fail
    refine (refBytes_any n _ (by omega) (by omega)).mono ?_
    rw [← Hs.out]
    rintro e w3 ⟨rfl, hb3⟩
    go_wp2_with fail
    refine (refRune_any n _ (by omega) (by omega)).mono ?_
    rw [Hr.out]
    rintro e w4 ⟨rfl, rfl⟩
    go_wp2_with fail
    refine (refRune_any n _ (by omega) (by omega)).mono ?_
    rw [Hr.out]
    rintro e w5 ⟨rfl, rfl⟩
    go_wp2_with fail
    refine (awake_any _).mono ?_
    rintro e w8 ⟨rfl, hb8⟩
    go_wp2_with fail
    go_ret
    refine ⟨rfl, ?_⟩
    have h1 := (below_drewN w.heap.size w q).trans hb3
    exact h1.trans (hb8.mono h1.size)
end Go.Proofs.Ytpeplejpcdadgaa
