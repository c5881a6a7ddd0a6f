/-
  Contracts of nuncio/nunciolaw02's awake and few: the page's examples hold.
-/
import Derived.Test.YtpeplejpcdadgaaRefClean
namespace Go.Proofs.Ytpeplejpcdadgaa
open Go.RowKit

theorem nx_ex1 : nxV (nxS ⟨#[195, 169]⟩ 0) = .tuple #[.int .i32 233, .int .i64 2] := by
  have : nxS ⟨#[195, 169]⟩ 0 = (233, 2) := by decide
  rw [this]; rfl
theorem nx_ex2 : nxV (nxS ⟨#[195, 40]⟩ 0) = .tuple #[.int .i32 65533, .int .i64 1] := by
  have : nxS ⟨#[195, 40]⟩ 0 = (65533, 1) := by decide
  rw [this]; rfl
theorem clean_ex : (⟨(cleanL (⟨#[97, 13, 10, 98, 7]⟩ : ByteArray).data.toList).toArray⟩ : ByteArray) = ⟨#[97, 10, 98, 239, 191, 189]⟩ := by
  have : cleanL (⟨#[97, 13, 10, 98, 7]⟩ : ByteArray).data.toList = [97, 10, 98, 239, 191, 189] := by decide
  rw [this]

set_option maxHeartbeats 1000000 in
theorem awake_any (w : World) : Calls Try.prog 11 #[] w fun e w' => e = .returned (.bool true) ∧ Below w.heap.size w w' := by
  go_enter Try.func11, Try.ntmps11
  go_wp2_with fail
  refine (utfNext_in ⟨#[195, 169]⟩ 0 _ (by decide) (by decide)).mono ?_
  rw [nx_ex1]
  rintro e w1 ⟨rfl, n1, rfl⟩
  go_wp2_with fail
  refine (utfNext_in ⟨#[195, 40]⟩ 0 _ (by decide) (by decide)).mono ?_
  rw [nx_ex2]
  rintro e w2 ⟨rfl, n2, rfl⟩
  go_wp2_with fail
  refine (utfClean_any ⟨#[97, 13, 10, 98, 7]⟩ _ (by decide)).mono ?_
  rw [clean_ex]
  rintro e w3 ⟨rfl, hb3⟩
  go_wp2_with fail
  go_ret
  refine ⟨rfl, ?_⟩
  have h1 := below_drewN w.heap.size w (n1 + n2)
  exact h1.trans (hb3.mono h1.size)

set_option maxHeartbeats 400000 in
theorem few_any (s : ByteArray) (w : World) (hs : s.size ≤ maxLen) : Calls Try.prog 8 #[.string s] w fun e w' => (∃ t : ByteArray, e = .returned (.string t) ∧ t.size ≤ 400) ∧ w = w' := by
  unfold maxLen at hs
  obtain ⟨t, ht⟩ : ∃ t, t = s.extract 0 (min s.size 400) := ⟨_, rfl⟩
  have hsz : t.size ≤ 400 := by rw [ht]; simp; omega
  refine Calls.mono (R := fun e w' => e = .returned (.string t) ∧ w = w') ?_ (fun e w' ⟨h1, h2⟩ => ⟨⟨t, h1, hsz⟩, h2⟩)
  have Ht := Lib.hid ht
  clear ht
  go_enter Try.func8, Try.ntmps8
  go_wp2
  go_ret
  refine ⟨?_, rfl⟩
  rw [Ht.out, ← show (min (s.size : Int) 400).toNat = min s.size 400 from by omega]
  rfl
end Go.Proofs.Ytpeplejpcdadgaa
