/-
  The walk of nunciolaw01.OctetNumbers.
-/
import Derived.Test.YtjghnabepojddaaFew
import Derived.Test.YtjghnabepojddaaRefNumber
import Derived.OpenShut
namespace Go.Proofs.Ytjghnabepojddaa
open Go.RowKit

set_option maxHeartbeats 1000000 in
theorem octetNumbers_walk (n : Int) (s : ByteArray) (w0 : (Lit.int .i64 n).wf = true) (w1 : s.size ≤ maxLen) (w : World) :
    Calls Try.prog 3 #[.int .i64 n, .string s] w fun e w' => e = .returned (.bool true) ∧ Below w.heap.size w w' := by
  have hn := bounds_i64 w0
  have hn0 := hn.1
  have hn1 := hn.2
  have htl : (textOf n).size ≤ 100000000000000 := by
    rw [Lib.size_eq, textOf_list]
    have h19 := digs_len19 n.natAbs (by omega)
    split
    · rw [List.length_cons]; omega
    · omega
  have hres := numRes_some (s := textOf n) hn rfl
  have Hres := Lib.hid hres
  clear hn hres
  go_enter Try.func3, Try.ntmps3
  go_wp2_with fail
  refine (few_any _ _ w1).mono ?_
  rintro e w' ⟨⟨t, rfl, ht⟩, rfl⟩
  obtain ⟨m, b, hr⟩ := numRes_form t
  have Hr := Lib.hid hr
  clear hr
  go_wp2_with fail
  refine (octText_any _ _ hn0 hn1).mono ?_
  rintro e w1 ⟨rfl, hb1⟩
  go_wp2_with fail
  refine (octNumber_any _ _ htl).mono ?_
  rw [Hres.out]
  rintro e w' ⟨rfl, rfl⟩
  go_wp2_with fail
  refine (octNumber_any _ _ (by omega)).mono ?_
  rw [Hr.out]
  rintro e w' ⟨rfl, rfl⟩
  go_wp2_with fail
  refine (refNumber_any _ _ (by omega)).mono ?_
  rw [Hr.out]
  rintro e w2 ⟨rfl, hb2⟩
  go_wp2_with fail
  refine (octText_any _ _ hn0 hn1).mono ?_
  rintro e w3 ⟨rfl, hb3⟩
  go_wp2_with fail
  refine (refText_any _ _ hn0 hn1).mono ?_
  rintro e w4 ⟨rfl, hb4⟩
  have q1 := bytes_beq_same (rfl : textOf n = textOf n)
  go_wp2_with fail
  refine (awake_any _).mono ?_
  rintro e w5 ⟨rfl, hb5⟩
  go_wp2_with fail
  go_ret
  refine ⟨rfl, ?_⟩
  have h2 := hb1.trans (hb2.mono hb1.size)
  have h3 := h2.trans (hb3.mono h2.size)
  have h4 := h3.trans (hb4.mono h3.size)
  exact h4.trans (hb5.mono h4.size)
end Go.Proofs.Ytjghnabepojddaa
