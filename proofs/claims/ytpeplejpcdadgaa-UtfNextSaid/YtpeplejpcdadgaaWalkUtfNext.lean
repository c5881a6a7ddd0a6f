/-
  The walk of nunciolaw02.UtfNext.
-/
import Derived.Test.YtpeplejpcdadgaaUtfAwake
import Derived.OpenShut
namespace Go.Proofs.Ytpeplejpcdadgaa
open Go.RowKit

set_option maxHeartbeats 1000000 in
theorem utfNext_walk (s : ByteArray) (at_ : Int) (w0 : s.size ≤ maxLen) (w1 : (Lit.int .i64 at_).wf = true) (w : World) :
    Calls Try.prog 3 #[.string s, .int .i64 at_] w fun e w' => e = .returned (.bool true) ∧ Below w.heap.size w w' := by
  have hc := bounds_i64 w1
  have hc1 := hc.1
  have hc2 := hc.2
  clear hc
  go_enter Try.func3, Try.ntmps3
  go_wp2_with fail
  refine (few_any _ _ w0).mono ?_
  rintro e w' ⟨⟨t, rfl, ht⟩, rfl⟩
  by_cases h : 0 ≤ at_ ∧ at_ < (t.size : Int)
  · obtain ⟨k, rfl⟩ := Int.eq_ofNat_of_zero_le h.1
    have hk : k < t.size := by omega
    obtain ⟨r, hr⟩ : ∃ r, r = (nxS t k).1 := ⟨_, rfl⟩
    obtain ⟨n, hn⟩ : ∃ n, n = (nxS t k).2 := ⟨_, rfl⟩
    have hv1 : nxV (nxS t k) = .tuple #[.int .i32 (r : Int), .int .i64 (n : Int)] := by rw [hr, hn]; rfl
    have hv2 : nxVI (nxS t k) = .tuple #[.int .i64 (r : Int), .int .i64 (n : Int)] := by rw [hr, hn]; rfl
    have hr2 : (r : Int) ≤ 1114111 := by have := (nxS_ok t k hk).1; unfold isRune at this; omega
    have Hv1 := Lib.hid hv1
    have Hv2 := Lib.hid hv2
    clear hv1 hv2 hr hn h
    go_wp2_with fail
    refine (utfNext_in t k _ (by omega) hk).mono ?_
    rw [Hv1.out]
    rintro e w2 ⟨rfl, q, rfl⟩
    go_wp2_with fail
    refine (refNext_in t k _ (by omega) hk).mono ?_
    rw [Hv2.out]
    rintro e w3 ⟨rfl, hb3⟩
    go_wp2_with fail
    refine (awake_any _).mono ?_
    rintro e w8 ⟨rfl, hb8⟩
    go_wp2_with fail
    go_ret
    refine ⟨rfl, ?_⟩
    have h1 := (below_drewN w.heap.size w q).trans hb3
    exact h1.trans (hb8.mono h1.size)
  · go_wp2_with fail
    refine (utfNext_out t at_ _ (by omega) h).mono ?_
    rintro e w2 ⟨rfl, rfl⟩
    go_wp2_with fail
    refine (refNext_out t at_ _ (by omega) h).mono ?_
    rintro e w3 ⟨rfl, rfl⟩
    go_wp2_with fail
    refine (awake_any _).mono ?_
    rintro e w8 ⟨rfl, hb8⟩
    go_wp2_with fail
    go_ret
    exact ⟨rfl, hb8⟩
end Go.Proofs.Ytpeplejpcdadgaa
