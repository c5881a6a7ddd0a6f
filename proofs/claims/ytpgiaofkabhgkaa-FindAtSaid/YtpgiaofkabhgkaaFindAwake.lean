/-
  nuncio/nunciolaw03's awake: the page's example holds.
-/
import Derived.Test.YtpgiaofkabhgkaaFindBlot
namespace Go.Proofs.Ytpgiaofkabhgkaa
set_option linter.unusedVariables false
set_option linter.unusedSimpArgs false
open Go.RowKit Go.Shelf

def lA : List ByteArray := [⟨#[104, 101]⟩, ⟨#[115, 104, 101]⟩, ⟨#[104, 101, 114, 115]⟩]
def sA : ByteArray := ⟨#[117, 115, 104, 101, 114, 115]⟩
set_option maxRecDepth 100000 in
theorem hits_ex : hitsL lA sA = [(1, 1), (2, 0), (2, 2)] := by decide +kernel
set_option maxRecDepth 100000 in
theorem blot_ex : blotBytes lA sA 42 = [117, 42, 42, 42, 42, 42] := by decide +kernel
set_option maxRecDepth 100000 in
theorem blotN_ex : blotN lA sA = 5 := by decide +kernel

set_option maxRecDepth 100000 in
set_option maxHeartbeats 4000000 in
theorem awake_any (w : World) : Calls Try.prog 17 #[] w fun e w' => e = .returned (.bool true) ∧ Below w.heap.size w w' := by
  go_enter Try.func17, Try.ntmps17
  go_wp2_with fail
  obtain ⟨W1, hW1⟩ : ∃ W1, W1 = w.alloc (.cells #[.string ⟨#[104, 101]⟩, .string ⟨#[115, 104, 101]⟩, .string ⟨#[104, 101, 114, 115]⟩] 9) := ⟨_, rfl⟩
  have hnew := World.alloc_heap_new w (.cells #[.string ⟨#[104, 101]⟩, .string ⟨#[115, 104, 101]⟩, .string ⟨#[104, 101, 114, 115]⟩] 9)
  have hbW : Below w.heap.size w W1 := by rw [hW1]; exact (Below.refl _ _).alloc (Nat.le_refl _) _
  rw [← hW1] at hnew ⊢
  have hls : W1.heap.size = w.heap.size + 1 := by rw [hW1, World.size_alloc]
  have hstr : IsStrs W1 (.slice (some ⟨w.heap.size, 0, none⟩) 3 3) lA := .inr ⟨w.heap.size, 0, 3, rfl, by omega, fun j hj => by
    simp only [World.cell?, hnew]
    match j, hj with
    | 0, _ => rfl
    | 1, _ => rfl
    | 2, _ => rfl⟩
  refine (new_any W1 lA _ hstr (by decide) (fun x hx => by
    simp only [lA, List.mem_cons, List.not_mem_nil, or_false] at hx
    rcases hx with rfl | rfl | rfl <;> decide)).mono ?_
  rintro e w1 ⟨r, rfl, hb1, h⟩
  have hb01 := hbW.trans (hb1.mono (by omega))
  clear hW1 hnew hstr hbW
  obtain ⟨mp, rfl, hM⟩ : ∃ mp, r = .tuple #[.pointer (some ⟨mp, 0, none⟩), .int .i64 0] ∧ IsMany w1 W1.heap.size mp lA := by
    rcases h with ⟨h, _⟩ | ⟨_, h, _⟩ | ⟨_, _, h⟩
    · exact absurd h (by decide)
    · exact absurd h (by decide)
    · exact h
  clear h
  obtain ⟨xs, hS1⟩ := isMany_src hM sA
  have kH := hits_all (some ⟨mp, 0, none⟩) sA xs lA w1 (by decide) (by decide) hS1
  rw [hits_ex] at kH
  clear hS1
  go_wp2_with (go_at_call 12; refine kH.mono ?_; rintro e w2 ⟨v, rfl, hrow, hb2⟩)
  have hM2 := hM.below hb2
  obtain ⟨xs2, hS2⟩ := isMany_src hM2 sA
  have kB := blot_any (some ⟨mp, 0, none⟩) sA 42 xs2 lA w2 (by decide) (by decide) hS2
  rw [blot_ex, blotN_ex] at kB
  have hb02 := hb01.trans (hb2.mono (by have := hb01.size; omega))
  have hrow2 : ∃ g cap, v = .slice (some ⟨g, 0, none⟩) 3 cap ∧ g < w2.heap.size ∧ w2.cell? ⟨g, 0, none⟩ = some (.int .i64 1) ∧ w2.cell? ⟨g, 1, none⟩ = some (.int .i64 1) ∧ w2.cell? ⟨g, 2, none⟩ = some (.int .i64 2) ∧ w2.cell? ⟨g, 3, none⟩ = some (.int .i64 0) ∧ w2.cell? ⟨g, 4, none⟩ = some (.int .i64 2) ∧ w2.cell? ⟨g, 5, none⟩ = some (.int .i64 2) := by
    rcases hrow.2 with ⟨_, h0⟩ | ⟨g, cap, cur, rfl, h2, h3, h4⟩
    · exact absurd h0 (by decide)
    · have hc := fun j hj => World.ownsRow.cellAt hrow j hj
      exact ⟨g, cap, rfl, (Array.getElem?_eq_some_iff.1 h3).1, hc 0 (by decide), hc 1 (by decide), hc 2 (by decide), hc 3 (by decide), hc 4 (by decide), hc 5 (by decide)⟩
  clear hrow hS2
  obtain ⟨g, cap, rfl, hg, c0, c1, c2, c3, c4, c5⟩ := hrow2
  have hk : ∀ (w3 : World) (j : Nat), Below w2.heap.size w2 w3 → w3.cell? ⟨g, j, none⟩ = w2.cell? ⟨g, j, none⟩ := fun w3 j hb => World.cell?_of_block (hb.block g hg)
  have kL := fun (w3 : World) (hb : Below w2.heap.size w2 w3) => (isMany_src (hM2.below hb) sA).elim fun xs3 hS3 => len_any (.pointer (some ⟨mp, 0, none⟩)) sA xs3 lA w3 hS3
  have Hk := Lib.hid hk
  have HkL := Lib.hid kL
  clear hk kL kH
  go_wp2_with (first | (go_at_call 18; refine kB.mono ?_; rintro e w3 ⟨rfl, hb3⟩; have d0 := (Hk.out w3 0 hb3).trans c0; have d1 := (Hk.out w3 1 hb3).trans c1; have d2 := (Hk.out w3 2 hb3).trans c2; have d3 := (Hk.out w3 3 hb3).trans c3; have d4 := (Hk.out w3 4 hb3).trans c4; have d5 := (Hk.out w3 5 hb3).trans c5) | (go_at_call 11; refine (HkL.out _ hb3).mono ?_; rintro e w4 ⟨rfl, rfl⟩))
  go_ret
  exact ⟨rfl, hb02.trans (hb3.mono (by have := hb02.size; omega))⟩
end Go.Proofs.Ytpgiaofkabhgkaa
