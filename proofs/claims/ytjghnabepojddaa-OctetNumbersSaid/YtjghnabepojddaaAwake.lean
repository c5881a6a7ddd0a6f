/-
  The contract of nuncio/nunciolaw01's awake: the page's examples hold.
-/
import Derived.Test.YtjghnabepojddaaOctByte
import Derived.Test.YtjghnabepojddaaOctText
import Derived.Test.YtjghnabepojddaaRefSame
namespace Go.Proofs.Ytjghnabepojddaa
open Go.RowKit

theorem textOf_m120 : textOf (-120) = ⟨#[45, 49, 50, 48]⟩ := by
  unfold textOf
  rw [if_pos (by omega), show (-120 : Int).natAbs = 120 from rfl, digs_ge 120 (by omega), digs_ge (120 / 10) (by omega), digs_lt (120 / 10 / 10) (by omega)]
  rfl
theorem pairOf_10 : pairOf 10 = ⟨#[48, 65]⟩ := by decide
theorem byteRes_c3 : byteRes ⟨#[37, 99, 51]⟩ 1 = .tuple #[.int .u8 195, .bool true] := byteRes_some (by decide)
theorem cutParts_ab : cutParts ⟨#[97, 59, 59, 98]⟩ 59 = [⟨#[97]⟩, ⟨#[]⟩, ⟨#[98]⟩] := by decide

theorem below_drewN (B : Nat) (w : World) (n : Nat) : Below B w (w.drewN n) := ⟨rfl, rfl, rfl, Nat.le_refl _, fun _ _ => rfl⟩

set_option maxHeartbeats 1000000 in
theorem awake_any (w : World) : Calls Try.prog 13 #[] w fun e w' => e = .returned (.bool true) ∧ Below w.heap.size w w' := by
  go_enter Try.func13, Try.ntmps13
  go_wp2_with fail
  refine (octByte_any _ _ _ (by decide)).mono ?_
  rw [byteRes_c3]
  rintro e w' ⟨rfl, rfl⟩
  go_wp2_with fail
  refine (octText_any _ _ (by omega) (by omega)).mono ?_
  rw [textOf_m120]
  rintro e w1 ⟨rfl, hb1⟩
  go_wp2_with fail
  refine (octPair_any _ _ (by omega) (by omega)).mono ?_
  rw [pairOf_10]
  rintro e w2 ⟨rfl, hb2⟩
  go_wp2_with fail
  refine (octCut_any _ _ _ (by decide)).mono ?_
  rw [cutParts_ab]
  rintro e w3 ⟨v, rfl, hown, hb3⟩
  have hs3 := IsStrs.of_owns hown rfl
  have hs4 := hs3.below ((Below.refl _ w3).alloc (Nat.le_refl _) (.cells #[.string ⟨#[97]⟩, .string ⟨#[]⟩, .string ⟨#[98]⟩] 9))
  go_wp2_with fail
  have hl5 : IsStrs (w3.alloc (.cells #[.string ⟨#[97]⟩, .string ⟨#[]⟩, .string ⟨#[98]⟩] 9)) (.slice (some ⟨w3.heap.size, 0, none⟩) 3 3) [⟨#[97]⟩, ⟨#[]⟩, ⟨#[98]⟩] := by
    refine .inr ⟨w3.heap.size, 0, 3, rfl, by simp, fun j hj => ?_⟩
    match j, hj with
    | 0, _ => simp
    | 1, _ => simp
    | 2, _ => simp
  refine (refSame_any _ _ _ _ _ hs4 hl5 (by decide) (by decide)).mono ?_
  rw [decide_eq_true rfl]
  rintro e w6 ⟨rfl, n, rfl⟩
  go_wp2_with fail
  go_ret
  refine ⟨rfl, ?_⟩
  have h12 := hb1.trans (hb2.mono hb1.size)
  have h13 := h12.trans (hb3.mono h12.size)
  exact h13.trans (((Below.refl _ _).alloc h13.size _).trans (below_drewN _ _ _))
end Go.Proofs.Ytjghnabepojddaa
