/-
  The walk of nunciolaw01.OctetFolds.
-/
import Derived.Test.YtjghnabepojddaaFew
import Derived.Test.YtjghnabepojddaaOctFold
namespace Go.Proofs.Ytjghnabepojddaa
open Go.RowKit

set_option maxHeartbeats 1000000 in
theorem octetFolds_walk (s u : ByteArray) (w0 : s.size ≤ maxLen) (w1 : u.size ≤ maxLen) (w : World) :
    Calls Try.prog 5 #[.string s, .string u] w fun e w' => e = .returned (.bool true) ∧ Below w.heap.size w w' := by
  go_enter Try.func5, Try.ntmps5
  go_wp2_with fail
  refine (few_any _ _ w0).mono ?_
  rintro e w' ⟨⟨a, rfl, ha⟩, rfl⟩
  go_wp2_with fail
  refine (few_any _ _ w1).mono ?_
  rintro e w' ⟨⟨b, rfl, hb⟩, rfl⟩
  have hfa := foldB_size a
  have hfas : (foldB a).size ≤ 300 := by omega
  clear hfa
  go_wp2_with fail
  refine (octFold_any _ _ (by omega)).mono ?_
  rintro e w1 ⟨rfl, hb1⟩
  go_wp2_with fail
  refine (refFold_any _ _ (by omega)).mono ?_
  rintro e w2 ⟨rfl, hb2⟩
  have q1 := bytes_beq_same (rfl : foldB a = foldB a)
  go_wp2_with fail
  refine (octFold_any _ _ (by omega)).mono ?_
  rw [foldB_idem]
  rintro e w3 ⟨rfl, hb3⟩
  go_wp2_with fail
  refine (octAlike_any _ _ _ (by omega) (by omega)).mono ?_
  rintro e w4 ⟨rfl, n4, rfl⟩
  go_wp2_with fail
  refine (refFold_any _ _ (by omega)).mono ?_
  rintro e w5 ⟨rfl, hb5⟩
  go_wp2_with fail
  refine (refFold_any _ _ (by omega)).mono ?_
  rintro e w6 ⟨rfl, hb6⟩
  have q2 := bytes_beq (foldB a) (foldB b)
  go_wp2_with fail
  refine (octAlike_any _ _ _ (by omega) (by omega)).mono ?_
  rw [foldB_idem, decide_eq_true rfl]
  rintro e w7 ⟨rfl, n7, rfl⟩
  go_wp2_with fail
  refine (awake_any _).mono ?_
  rintro e w8 ⟨rfl, hb8⟩
  go_wp2_with fail
  go_ret
  refine ⟨rfl, ?_⟩
  have h2 := hb1.trans (hb2.mono hb1.size)
  have h3 := h2.trans (hb3.mono h2.size)
  have h4 := h3.trans (below_drewN _ _ n4)
  have h5 := h4.trans (hb5.mono h4.size)
  have h6 := h5.trans (hb6.mono h5.size)
  have h7 := h6.trans (below_drewN _ _ n7)
  exact h7.trans (hb8.mono h7.size)
end Go.Proofs.Ytjghnabepojddaa
