/-
  The walk of nunciolaw02.UtfFronts.
-/
import Derived.Test.YtpeplejpcdadgaaUtfAwake
import Derived.OpenShut
namespace Go.Proofs.Ytpeplejpcdadgaa
open Go.RowKit

set_option maxRecDepth 100000 in
set_option maxHeartbeats 1000000 in
theorem utfFronts_walk (s : ByteArray) (most : Int) (w0 : s.size ≤ maxLen) (w1 : (Lit.int .i64 most).wf = true) (w : World) :
    Calls Try.prog 7 #[.string s, .int .i64 most] w fun e w' => e = .returned (.bool true) ∧ Below w.heap.size w w' := by
  have hc := bounds_i64 w1
  have hc1 := hc.1
  have hc2 := hc.2
  clear hc
  go_enter Try.func7, Try.ntmps7
  go_wp2_with fail
  refine (few_any _ _ w0).mono ?_
  rintro e w' ⟨⟨t, rfl, ht⟩, rfl⟩
  obtain ⟨n, hn⟩ : ∃ n, n = frontLen most 0 (stps t.data.toList) := ⟨_, rfl⟩
  have hfl := frontLen_le most (stps t.data.toList) 0
  rw [sumS_stps, ← hn] at hfl
  have hnt : n ≤ t.size := by have := hfl.2.1; simp at this; omega
  have hnm : (n : Int) ≤ most ∨ n = 0 := hfl.2.2
  obtain ⟨f, hf⟩ : ∃ f : ByteArray, f = t.extract 0 n := ⟨_, rfl⟩
  have hfs : f.size = n := by rw [hf]; simp; omega
  have hfi : okL t.data.toList = true → okL f.data.toList = true := by
    intro h
    have := front_ok most _ h
    rw [← hn] at this
    rw [hf, Lib.extract_data]
    simpa using this
  have hbq := bytes_beq_same (rfl : f = f)
  have hbq2 := bytes_beq_same hf
  have Hn := Lib.hid hn
  have Hf := Lib.hid hf
  have Hfi := Lib.hid hfi
  have hnt1 : (n : Int) ≤ (t.size : Int) := by omega
  have hm : (n : Int) ≤ most ∨ (most < (n : Int) ∧ f.toList.isEmpty = true) := by
    by_cases h : (n : Int) ≤ most
    · exact .inl h
    · refine .inr ⟨by omega, ?_⟩
      have h0 : f.size = 0 := by omega
      rw [Lib.toList_data]
      rw [Lib.size_eq] at h0
      rw [List.eq_nil_of_length_eq_zero h0]
      rfl
  clear hn hf hfi hfl hnm
  rcases hm with hm | ⟨hm, hem⟩
  · cases hok : okL t.data.toList with
    | true =>
      have hok2 := Hfi.out hok
      have Hok := Lib.hid hok
      have Hok2 := Lib.hid hok2
      clear hok hok2
      go_wp2_with fail
      refine (utfFront_any t most _ (by omega) hc1 (by omega)).mono ?_
      rw [← Hn.out, ← Hf.out]
      rintro e w1 ⟨rfl, hb1⟩
      go_wp2_with fail
      refine (refFront_any t most _ (by omega) hc1 (by omega)).mono ?_
      rw [← Hn.out, ← Hf.out]
      rintro e w2 ⟨rfl, hb2⟩
      go_wp2_with fail
      refine (refIs_any t _ (by omega)).mono ?_
      rw [Hok.out]
      rintro e w3 ⟨rfl, hb3⟩
      go_wp2_with fail
      refine (refIs_any f _ (by omega)).mono ?_
      rw [Hok2.out]
      rintro e w4 ⟨rfl, hb4⟩
      go_wp2_with fail
      refine (awake_any _).mono ?_
      rintro e w8 ⟨rfl, hb8⟩
      go_wp2_with fail
      go_ret
      refine ⟨rfl, ?_⟩
      have h2 := hb1.trans (hb2.mono hb1.size)
      have h3 := h2.trans (hb3.mono h2.size)
      have h4 := h3.trans (hb4.mono h3.size)
      exact h4.trans (hb8.mono h4.size)
    | false =>
      have Hok := Lib.hid hok
      clear hok
      go_wp2_with fail
      refine (utfFront_any t most _ (by omega) hc1 (by omega)).mono ?_
      rw [← Hn.out, ← Hf.out]
      rintro e w1 ⟨rfl, hb1⟩
      go_wp2_with fail
      refine (refFront_any t most _ (by omega) hc1 (by omega)).mono ?_
      rw [← Hn.out, ← Hf.out]
      rintro e w2 ⟨rfl, hb2⟩
      go_wp2_with fail
      refine (refIs_any t _ (by omega)).mono ?_
      rw [Hok.out]
      rintro e w3 ⟨rfl, hb3⟩
      go_wp2_with fail
      refine (awake_any _).mono ?_
      rintro e w8 ⟨rfl, hb8⟩
      go_wp2_with fail
      go_ret
      refine ⟨rfl, ?_⟩
      have h2 := hb1.trans (hb2.mono hb1.size)
      have h3 := h2.trans (hb3.mono h2.size)
      exact h3.trans (hb8.mono h3.size)
  · cases hok : okL t.data.toList with
    | true =>
      have hok2 := Hfi.out hok
      have Hok := Lib.hid hok
      have Hok2 := Lib.hid hok2
      clear hok hok2
      go_wp2_with fail
      refine (utfFront_any t most _ (by omega) hc1 (by omega)).mono ?_
      rw [← Hn.out, ← Hf.out]
      rintro e w1 ⟨rfl, hb1⟩
      go_wp2_with fail
      refine (refFront_any t most _ (by omega) hc1 (by omega)).mono ?_
      rw [← Hn.out, ← Hf.out]
      rintro e w2 ⟨rfl, hb2⟩
      go_wp2_with fail
      refine (refIs_any t _ (by omega)).mono ?_
      rw [Hok.out]
      rintro e w3 ⟨rfl, hb3⟩
      go_wp2_with fail
      refine (refIs_any f _ (by omega)).mono ?_
      rw [Hok2.out]
      rintro e w4 ⟨rfl, hb4⟩
      go_wp2_with fail
      refine (awake_any _).mono ?_
      rintro e w8 ⟨rfl, hb8⟩
      go_wp2_with fail
      go_ret
      refine ⟨rfl, ?_⟩
      have h2 := hb1.trans (hb2.mono hb1.size)
      have h3 := h2.trans (hb3.mono h2.size)
      have h4 := h3.trans (hb4.mono h3.size)
      exact h4.trans (hb8.mono h4.size)
    | false =>
      have Hok := Lib.hid hok
      clear hok
      go_wp2_with fail
      refine (utfFront_any t most _ (by omega) hc1 (by omega)).mono ?_
      rw [← Hn.out, ← Hf.out]
      rintro e w1 ⟨rfl, hb1⟩
      go_wp2_with fail
      refine (refFront_any t most _ (by omega) hc1 (by omega)).mono ?_
      rw [← Hn.out, ← Hf.out]
      rintro e w2 ⟨rfl, hb2⟩
      go_wp2_with fail
      refine (refIs_any t _ (by omega)).mono ?_
      rw [Hok.out]
      rintro e w3 ⟨rfl, hb3⟩
      go_wp2_with fail
      refine (awake_any _).mono ?_
      rintro e w8 ⟨rfl, hb8⟩
      go_wp2_with fail
      go_ret
      refine ⟨rfl, ?_⟩
      have h2 := hb1.trans (hb2.mono hb1.size)
      have h3 := h2.trans (hb3.mono h2.size)
      exact h3.trans (hb8.mono h3.size)
end Go.Proofs.Ytpeplejpcdadgaa
