/-
  The walk of nunciolaw01.OctetPairs.
-/
import Derived.Test.YtjghnabepojddaaFew
import Derived.OpenShut
namespace Go.Proofs.Ytjghnabepojddaa
open Go.RowKit

set_option maxHeartbeats 1000000 in
theorem octetPairs_walk (c : Int) (s : ByteArray) (i : Int) (w0 : (Lit.int .u8 c).wf = true) (w1 : s.size ≤ maxLen) (_w2 : (Lit.int .i64 i).wf = true) (w : World) :
    Calls Try.prog 4 #[.int .u8 c, .string s, .int .i64 i] w fun e w' => e = .returned (.bool true) ∧ Below w.heap.size w w' := by
  have hc := bounds_u8 w0
  have hc0 := hc.1
  have hc1 := hc.2
  clear hc
  go_enter Try.func4, Try.ntmps4
  go_wp2_with fail
  refine (few_any _ _ w1).mono ?_
  rintro e w' ⟨⟨t, rfl, ht⟩, rfl⟩
  go_wp2_with fail
  refine (octPair_any _ _ hc0 hc1).mono ?_
  rintro e w1 ⟨rfl, hb1⟩
  go_wp2_with fail
  refine (octByte_any _ _ _ (by rw [show (pairOf c).size = 2 from rfl]; omega)).mono ?_
  rw [byteRes_some (byteAt_pair c hc0 hc1)]
  rintro e w' ⟨rfl, rfl⟩
  go_wp2_with fail
  obtain ⟨x, b, hr⟩ : ∃ x b, byteRes t i = .tuple #[.int .u8 x, .bool b] := ⟨_, _, rfl⟩
  refine (octByte_any _ _ _ (by omega)).mono ?_
  rw [hr]
  rintro e w' ⟨rfl, rfl⟩
  have Hr := Lib.hid hr
  clear hr
  go_wp2_with fail
  refine (refByte_any _ _ _ (by omega)).mono ?_
  rw [Hr.out]
  rintro e w' ⟨rfl, n, rfl⟩
  go_wp2_with fail
  refine (octPair_any _ _ hc0 hc1).mono ?_
  rintro e w2 ⟨rfl, hb2⟩
  go_wp2_with fail
  refine (refPair_any _ _ hc0 hc1).mono ?_
  rintro e w3 ⟨rfl, n2, rfl⟩
  go_wp2_with fail
  refine (awake_any _).mono ?_
  rintro e w4 ⟨rfl, hb4⟩
  go_wp2_with fail
  go_ret
  refine ⟨rfl, ?_⟩
  have h2 := (hb1.trans (below_drewN _ _ _)).trans (hb2.mono hb1.size)
  have h3 := h2.trans (below_drewN _ _ n2)
  exact h3.trans (hb4.mono h3.size)
end Go.Proofs.Ytjghnabepojddaa
