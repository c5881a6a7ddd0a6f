/-
  The walk of nunciolaw03.FindAt.
-/
import Derived.Test.YtpgiaofkabhgkaaWalkFindBlots
import Derived.Test.YtpgiaofkabhgkaaFindAt
namespace Go.Proofs.Ytpgiaofkabhgkaa
set_option linter.unusedVariables false
set_option linter.unusedSimpArgs false
open Go.RowKit Go.Shelf

theorem new_one (w : World) (p : ByteArray) (lv : Value) (hv : IsStrs w lv [p]) (hp : p.size ≤ 120) :
    Calls Try.prog 10 #[lv] w fun e w' => ∃ mp, e = .returned (.tuple #[.pointer (some ⟨mp, 0, none⟩), .int .i64 0]) ∧ IsMany w' w.heap.size mp [p] ∧ Below w.heap.size w w' := by
  refine (new_any w [p] lv hv (by simp) (fun x hx => by simp at hx; subst hx; omega)).mono ?_
  rintro e w' ⟨r, rfl, hB, h⟩
  have hr : rem [p] 0 = p.size := by simp [rem]
  rw [hr] at h
  rcases h with ⟨h, _⟩ | ⟨_, h, _⟩ | ⟨_, _, mp, rfl, hM⟩
  · simp at h
  · omega
  · exact ⟨mp, rfl, hM, hB⟩

set_option maxRecDepth 100000 in
set_option maxHeartbeats 4000000 in
theorem findAt_walk (w : World) (s0 p0 : ByteArray) (fr m : Int) (w0 : s0.size ≤ maxLen) (w1 : p0.size ≤ maxLen) (w2 : (Lit.int .i64 fr).wf = true) (hm : w.cell? ⟨0, 0, none⟩ = some (.int .i64 m)) :
    Calls Try.prog 5 #[.string s0, .string p0, .int .i64 fr] w fun e w' => e = .returned (.bool true) ∧ Below w.heap.size w w' := by
  have hfb := bounds_i64 w2
  obtain ⟨s, hs⟩ : ∃ t, t = s0.extract 0 (min s0.size 120) := ⟨_, rfl⟩
  have hss : s.size ≤ 120 := by rw [hs]; simp; omega
  have kS := fun W => short_any s0 W w0
  rw [← hs] at kS
  obtain ⟨p, hp⟩ : ∃ t, t = p0.extract 0 (min p0.size 120) := ⟨_, rfl⟩
  have hps : p.size ≤ 120 := by rw [hp]; simp; omega
  have kP := fun W => short_any p0 W w1
  rw [← hp] at kP
  clear hs hp w0 w1 w2
  have Hfb := Lib.hid hfb
  have kA := at_any s p fr m w (by omega) hfb hm
  clear hfb
  go_enter Try.func5, Try.ntmps5
  go_wp2_with fail
  refine (kS _).mono ?_
  rintro e w' ⟨rfl, rfl⟩
  go_wp2_with fail
  refine (kP _).mono ?_
  rintro e w' ⟨rfl, rfl⟩
  go_wp2_with fail
  refine kA.mono ?_
  rintro e w' ⟨rfl, rfl⟩
  go_wp2_with fail
  have hv0 : IsStrs (w'.alloc (.cells #[.string p] 9)) (.slice (some ⟨w'.heap.size, 0, none⟩) 1 1) [p] :=
    .inr ⟨w'.heap.size, 0, 1, rfl, by simp, fun i hi => by
      obtain rfl : i = 0 := by simp at hi; exact hi
      exact cell_one_new _ _ _ 0 _ rfl⟩
  refine (new_one _ p _ hv0 hps).mono ?_
  rintro e wb ⟨mp, rfl, hMb, hbb⟩
  have hBb : Below w'.heap.size w' wb := ((Below.refl _ _).alloc (Nat.le_refl _) _).trans (hbb.mono (by rw [World.size_alloc]; omega))
  clear hbb hv0 kA
  have kF := first_any (some ⟨mp, 0, none⟩) [p] s fr wb (by omega) Hfb.out (by simp) (fun s' => isMany_src hMb s')
  rw [first_shift, show ((hitsL [p] s).find? fun x => decide (fr ≤ (x.1 : Int))) = firstFrom [p] s fr from rfl, first_one] at kF
  have kR := fun W => refAt_any s p fr W (by omega) (by omega)
  have HBb := Lib.hid hBb
  clear hBb hMb
  generalize atO s p fr = o at kF kR ⊢
  have KF := Lib.hid kF
  have KR := Lib.hid kR
  clear kF kR kS kP hm
  cases o with
  | none =>
    have KF : Hid (Calls Try.prog 15 #[.pointer (some ⟨mp, 0, none⟩), .string s, .int .i64 fr] wb fun e W' => e = .returned (.tuple #[.agg #[.int .i64 0, .int .i64 0], .bool false]) ∧ Below wb.heap.size wb W') := KF
    have KR : Hid (∀ W, Calls Try.prog 21 #[.string s, .string p, .int .i64 fr] W fun e w' => e = .returned (.int .i64 (-1)) ∧ Below W.heap.size W w') := KR
    rw [show atI none = -1 from rfl]
    go_wp2_with fail
    refine KF.out.mono ?_
    rintro e wc ⟨rfl, hbc⟩
    have hBc := HBb.out.trans (hbc.mono HBb.out.size)
    clear hbc
    go_wp2_with (first | (go_at_call 21; refine (KR.out _).mono ?_; rintro e wd ⟨rfl, hbd⟩) | (go_at_call 17; refine (awake_any _).mono ?_; rintro e w9 ⟨rfl, hb9⟩))
    have hB1 := hBc.alloc hBc.size (.cells #[.int .i64 ((0 : Nat) : Int), .int .i64 ((0 : Nat) : Int)] 36)
    have hB2 := hB1.trans (hbd.mono hB1.size)
    go_ret
    exact ⟨rfl, hB2.trans (hb9.mono hB2.size)⟩
  | some a =>
    have KF : Hid (Calls Try.prog 15 #[.pointer (some ⟨mp, 0, none⟩), .string s, .int .i64 fr] wb fun e W' => e = .returned (.tuple #[.agg #[.int .i64 (a : Int), .int .i64 0], .bool true]) ∧ Below wb.heap.size wb W') := KF
    have KR : Hid (∀ W, Calls Try.prog 21 #[.string s, .string p, .int .i64 fr] W fun e w' => e = .returned (.int .i64 (a : Int)) ∧ Below W.heap.size W w') := KR
    rw [show atI (some a) = (a : Int) from rfl]
    go_wp2_with fail
    refine KF.out.mono ?_
    rintro e wc ⟨rfl, hbc⟩
    have hBc := HBb.out.trans (hbc.mono HBb.out.size)
    clear hbc
    have hB1 := hBc.alloc hBc.size (.cells #[.int .i64 (a : Int), .int .i64 0] 36)
    have hnew := World.alloc_heap_new wc (.cells #[.int .i64 (a : Int), .int .i64 0] 36)
    have HB1 := Lib.hid hB1
    have Hnew := Lib.hid hnew
    clear hB1 hnew hBc
    go_wp2_with (first | (go_at_call 21; refine (KR.out _).mono ?_; rintro e wd ⟨rfl, hbd⟩; have hH := (hbd.block wc.heap.size (by simp)).trans Hnew.out; have ca0 : wd.cell? ⟨wc.heap.size, 0, none⟩ = some (.int .i64 (a : Int)) := by { simp [World.cell?, hH] }; have ca1 : wd.cell? ⟨wc.heap.size, 1, none⟩ = some (.int .i64 0) := by { simp [World.cell?, hH] }; have hB2 := HB1.out.trans (hbd.mono HB1.out.size); have HB2 := Lib.hid hB2; clear hH hbd hB2) | (go_at_call 17; refine (awake_any _).mono ?_; rintro e w9 ⟨rfl, hb9⟩))
    go_ret
    exact ⟨rfl, HB2.out.trans (hb9.mono HB2.out.size)⟩
end Go.Proofs.Ytpgiaofkabhgkaa
