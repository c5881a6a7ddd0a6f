/-
  The walk of nunciolaw02.UtfCleans.
-/
import Derived.Test.YtpeplejpcdadgaaUtfAwake
import Derived.OpenShut
namespace Go.Proofs.Ytpeplejpcdadgaa
open Go.RowKit

set_option maxRecDepth 100000 in
set_option maxHeartbeats 1000000 in
theorem utfCleans_walk (s : ByteArray) (w0 : s.size ≤ maxLen) (w : World) :
    Calls Try.prog 6 #[.string s] w fun e w' => e = .returned (.bool true) ∧ Below w.heap.size w w' := by
  go_enter Try.func6, Try.ntmps6
  go_wp2_with fail
  refine (few_any _ _ w0).mono ?_
  rintro e w' ⟨⟨t, rfl, ht⟩, rfl⟩
  obtain ⟨c, hc⟩ : ∃ c : ByteArray, c = ⟨(cleanL t.data.toList).toArray⟩ := ⟨_, rfl⟩
  have hcl : c.data.toList = cleanL t.data.toList := by rw [hc]
  have hcs : c.size ≤ 1600 := by
    have := cleanL_len t.data.toList
    rw [Lib.size_eq, hcl]
    simp at this
    omega
  have hok : okL c.data.toList = true := by rw [hcl]; exact okL_clean _
  have hcc : (⟨(cleanL c.data.toList).toArray⟩ : ByteArray) = c := by rw [hcl, clean_clean, ← hc]
  have hby : ∀ k (h : k < c.size), c[k].toNat ≠ 13 ∧ 9 ≤ c[k].toNat ∧ c[k].toNat ≠ 127 := by
    intro k h
    refine clean_bytes t.data.toList _ ?_
    rw [← hcl]
    exact Array.getElem_mem_toList (xs := c.data) h
  have hbq := bytes_beq_same (rfl : c = c)
  have Hc := Lib.hid hc
  have Hok := Lib.hid hok
  have Hcc := Lib.hid hcc
  have Hby := Lib.hid hby
  clear hc hcl hok hcc hby
  go_wp2_with fail
  refine (utfClean_any t _ (by omega)).mono ?_
  rw [← Hc.out]
  rintro e w1 ⟨rfl, hb1⟩
  go_wp2
  go_loop [2, 4] (fun _ i => ∃ k : Nat, k ≤ c.size ∧ i = .int .i64 (k : Int)) (fun _ i => c.size - (intOf i).toNat)
  case atStart => exact ⟨0, Nat.zero_le _, rfl⟩
  case round =>
    obtain ⟨k, hk, rfl⟩ := hrel
    by_cases hlt : k < c.size
    · have hb := Hby.out k hlt
      have e1 : ((c[k].toNat : Int) == 13) = false := by simp; omega
      have e2 : 9 ≤ (c[k].toNat : Int) := by omega
      have e3 : ((c[k].toNat : Int) == 127) = false := by simp; omega
      clear hb
      go_wp2
      go_round
      case rel => exact ⟨k + 1, by omega, by go_num⟩
      case measure => simp [intOf]; omega
    · obtain rfl : k = c.size := by omega
      go_wp2_with fail
      refine (refClean_any t _ (by omega)).mono ?_
      rw [← Hc.out]
      rintro e w2 ⟨rfl, hb2⟩
      go_wp2_with fail
      refine (refIs_any c _ (by omega)).mono ?_
      rw [Hok.out]
      rintro e w3 ⟨rfl, hb3⟩
      go_wp2_with fail
      refine (utfClean_any c _ (by omega)).mono ?_
      rw [Hcc.out]
      rintro e w4 ⟨rfl, hb4⟩
      go_wp2_with fail
      refine (awake_any _).mono ?_
      rintro e w8 ⟨rfl, hb8⟩
      go_wp2_with fail
      go_ret
      refine ⟨rfl, ?_⟩
      have h2 := hb1.trans (hb2.mono hb1.size)
      have h3 := h2.trans (hb3.mono h2.size)
      have h4 := h3.trans (hb4.mono h3.size)
      exact h4.trans (hb8.mono h4.size)
end Go.Proofs.Ytpeplejpcdadgaa
