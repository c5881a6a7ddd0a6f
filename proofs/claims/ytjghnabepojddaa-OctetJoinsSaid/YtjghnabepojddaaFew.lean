/-
  The contract of nunciolaw01.few.
-/
import Derived.Test.YtjghnabepojddaaAwake
namespace Go.Proofs.Ytjghnabepojddaa
open Go.RowKit

set_option maxHeartbeats 400000 in
theorem few_any (s : ByteArray) (w : World) (hs : s.size ≤ maxLen) : Calls Try.prog 8 #[.string s] w fun e w' => (∃ t : ByteArray, e = .returned (.string t) ∧ t.size ≤ 300) ∧ w = w' := by
  unfold maxLen at hs
  obtain ⟨t, ht⟩ : ∃ t, t = s.extract 0 (min s.size 300) := ⟨_, rfl⟩
  have hsz : t.size ≤ 300 := by rw [ht]; simp; omega
  refine Calls.mono (R := fun e w' => e = .returned (.string t) ∧ w = w') ?_ (fun e w' ⟨h1, h2⟩ => ⟨⟨t, h1, hsz⟩, h2⟩)
  have Ht := Lib.hid ht
  clear ht
  go_enter Try.func8, Try.ntmps8
  go_wp2
  go_ret
  refine ⟨?_, rfl⟩
  rw [Ht.out, ← show (min (s.size : Int) 300).toNat = min s.size 300 from by omega]
  rfl

end Go.Proofs.Ytjghnabepojddaa
