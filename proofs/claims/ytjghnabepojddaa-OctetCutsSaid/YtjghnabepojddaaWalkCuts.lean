/-
  The walk of nunciolaw01.OctetCuts.
-/
import Derived.Test.YtjghnabepojddaaFew
import Derived.Test.YtjghnabepojddaaOctJoin
import Derived.Test.YtjghnabepojddaaRefCut
import Derived.OpenShut
namespace Go.Proofs.Ytjghnabepojddaa
open Go.RowKit

theorem byteRow (w : World) (n : Int) (c : UInt8) (h : (c.toNat : Int) = n) : (w.alloc (.cells #[.int .u8 n] 5)).ownsRow w.heap.size 5 1 (.slice (some ⟨w.heap.size, 0, none⟩) 1 1) 1 (Lib.strCells ⟨#[c]⟩) := by
  subst h
  exact ⟨rfl, .inr ⟨w.heap.size, 1, _, rfl, Nat.le_refl _, heap_alloc_new w _, Nat.le_refl _, by unfold maxLen; omega, rfl, rfl⟩⟩

set_option maxHeartbeats 1000000 in
theorem octetCuts_walk (s : ByteArray) (n : Int) (w0 : s.size ≤ maxLen) (w1 : (Lit.int .u8 n).wf = true) (w : World) :
    Calls Try.prog 6 #[.string s, .int .u8 n] w fun e w' => e = .returned (.bool true) ∧ Below w.heap.size w w' := by
  have hc := bounds_u8 w1
  obtain ⟨c, hcn⟩ : ∃ c : UInt8, (c.toNat : Int) = n := ⟨UInt8.ofNat n.toNat, by simp; omega⟩
  have Hcn := Lib.hid hcn
  clear hcn hc
  go_enter Try.func6, Try.ntmps6
  go_wp2_with fail
  refine (few_any _ _ w0).mono ?_
  rintro e w' ⟨⟨t, rfl, ht⟩, rfl⟩
  have hlen := cutParts_len t n
  go_wp2_with fail
  refine (octCut_any _ _ _ (by omega)).mono ?_
  rintro e w1 ⟨v, rfl, hown, hb1⟩
  have hs1 := IsStrs.of_owns hown rfl
  go_wp2_with fail
  refine (refCut_any _ _ _ (by omega)).mono ?_
  rintro e w2 ⟨v2, rfl, hown2, hb2⟩
  have hs2 := IsStrs.of_owns hown2 rfl
  have hs1' := hs1.below hb2
  go_wp2_with fail
  refine (refSame_any _ _ _ _ _ hs1' hs2 (by omega) (by omega)).mono ?_
  rw [decide_eq_true rfl]
  rintro e w6 ⟨rfl, q, rfl⟩
  have kc : (convert 37 9 (.slice (some ⟨w2.heap.size, 0, none⟩) 1 1)).run Try.prog ((w2.drewN q).alloc (.cells #[.int .u8 n] 5)) = .ok (.string ⟨#[c]⟩) ((w2.drewN q).alloc (.cells #[.int .u8 n] 5)) := conv_owns (byteRow (w2.drewN q) n c Hcn.out)
  go_wp2_with fail
  have h12 := hb1.trans (hb2.mono hb1.size)
  have hb3 : Below w2.heap.size w2 ((w2.drewN q).alloc (.cells #[.int .u8 n] 5)) := (below_drewN _ _ _).alloc (Nat.le_refl _) _
  have hs1'' := hs1'.below hb3
  have hj : joinB ⟨#[c]⟩ (cutParts t n) = t := by rw [← Hcn.out]; exact joinB_cut t c
  refine (octJoin_any _ _ _ _ hs1'' (by omega) (by rw [hj]; omega) (by rw [show (⟨#[c]⟩ : ByteArray).size = 1 from rfl]; omega)).mono ?_
  rw [hj]
  rintro e w7 ⟨rfl, hb7⟩
  have hbq := bytes_beq_same (rfl : t = t)
  have Hj := Lib.hid hj
  clear hj
  go_wp2_with fail
  refine (awake_any _).mono ?_
  rintro e w8 ⟨rfl, hb8⟩
  go_wp2_with fail
  go_ret
  refine ⟨rfl, ?_⟩
  have h13 := h12.trans (hb3.mono h12.size)
  have h17 := h13.trans (hb7.mono h13.size)
  exact h17.trans (hb8.mono h17.size)
end Go.Proofs.Ytjghnabepojddaa
