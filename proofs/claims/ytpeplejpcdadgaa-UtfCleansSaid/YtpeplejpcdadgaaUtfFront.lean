/-
  The contract of nuncio/utf.Front.
-/
import Derived.Test.YtpeplejpcdadgaaPlainFront
import Derived.Test.YtpeplejpcdadgaaShelf
import Derived.Test.YtpeplejpcdadgaaUtfOwn
namespace Go.Proofs.Ytpeplejpcdadgaa
open Go.RowKit Go.Shelf

set_option maxHeartbeats 400000 in
theorem clone_any (s : ByteArray) (w : World) (hs : s.size ≤ 281474976710656) :
    Calls Try.prog 28 #[.string s] w fun e w' => e = .returned (.string s) ∧ Below w.heap.size w w' := by
  go_enter Try.func28, Try.ntmps28
  go_wp2_with (go_at_call 30; refine (Try.stringslite_Clone _ _ hs).mono ?_; rintro e w' ⟨rfl, hb⟩)
  go_ret
  exact ⟨rfl, ‹_›⟩

attribute [local go_sem] Oper.semAt_some

def sumP (pre : List StepV) : Nat := sumS (pre.map (·.1))
theorem sumP_snoc (pre : List StepV) (x : StepV) : sumP (pre ++ [x]) = sumP pre + x.1.2 := by unfold sumP; rw [List.map_append, sumS_append]; rfl
theorem sumP_le (pre : List StepV) : sumP pre ≤ 4 * pre.length := by
  induction pre with
  | nil => simp [sumP, sumS]
  | cons x t ih =>
    have := x.2.2.2
    unfold sumP at *
    simp only [List.map_cons, sumS, List.length_cons]
    omega
/-- All steps so far have room. -/
def FitP (most : Int) (pre : List StepV) : Prop := (sumP pre : Int) ≤ most ∨ pre = []
theorem FitP.front {most : Int} {s : ByteArray} {ys : List StepV} (h : FitP most ys) (hu : UpTo s s.size ys) : frontLen most 0 (stps s.data.toList) = sumP ys ∧ sumP ys = s.size := by
  have e : sumP ys = s.size := by
    unfold sumP
    rw [hu.done, sumS_stps]
    simp
  refine ⟨?_, e⟩
  rw [← hu.done]
  refine frontLen_all most _ ?_
  rcases h with h | h
  · exact .inl h
  · right; rw [h]; rfl
/-- Step x, behind pre, has none. -/
def OverP (most : Int) (p : List StepV) (n : Int) : Prop := ∃ pre x, p = pre ++ [x] ∧ FitP most pre ∧ most < ((sumP pre + x.1.2 : Nat) : Int) ∧ n = (sumP pre : Int)
theorem OverP.front {most : Int} {s : ByteArray} {p : List StepV} {n : Int} {k : Nat} (h : OverP most p n) (hu : UpTo s k p) : n = (frontLen most 0 (stps s.data.toList) : Int) ∧ frontLen most 0 (stps s.data.toList) ≤ s.size := by
  obtain ⟨pre, x, rfl, hf, hx, rfl⟩ := h
  unfold UpTo at hu
  rw [← hu, List.map_append, List.append_assoc]
  have := frontLen_stop most (pre.map fun y : StepV => y.1) (stps (s.data.toList.drop k)) x.1 (by rcases hf with h | h; exact .inl h; exact .inr (by rw [h]; rfl)) hx
  refine ⟨by congr 1; exact this.symm, ?_⟩
  have h2 := (frontLen_le most (stps s.data.toList) 0).2.1
  rw [sumS_stps] at h2
  rw [← hu, List.map_append, List.append_assoc] at h2
  simpa using h2

set_option maxRecDepth 100000 in
set_option maxHeartbeats 2000000 in
theorem utfFront_any (s : ByteArray) (most : Int) (w : World) (hs : s.size ≤ 1000000000000) (_m0 : -9223372036854775808 ≤ most) (_m1 : most ≤ 9223372036854775807) :
    Calls Try.prog 22 #[.string s, .int .i64 most] w fun e W' => e = .returned (.string (s.extract 0 (frontLen most 0 (stps s.data.toList)))) ∧ Below w.heap.size w W' := by
  obtain ⟨n, hn⟩ : ∃ n, n = frontLen most 0 (stps s.data.toList) := ⟨_, rfl⟩
  rw [← hn]
  have Hn := Lib.hid hn
  clear hn
  refine (callsIn_wide (n := 5)).1 ?_
  have hmix : Try.prog.follows .mixedOrders = true := by kernel_rfl
  refine callsIn_of_wp_marks Try.func22 rfl trivial ?_ rfl
  simp only [Try.ntmps22, List.size_toArray, List.length_cons, List.length_nil, Nat.reduceAdd, Nat.reduceSub, Array.replicate_succ, Array.replicate_zero, List.push_toArray, List.append_toArray, List.nil_append, List.cons_append]
  gi_wp2_with (refine ⟨trivial, ?_⟩; gi_at_call 26; refine (steps_in _ _ _).mono ?_; rintro e w' ⟨rfl, rfl⟩)
  have bM := Boxed.new w 3 (.int .i64 most)
  have bN := Boxed.new (w.alloc (.cells #[.int .i64 most] 3)) 3 (.int .i64 0)
  rw [World.size_alloc] at bN
  have hB0 : Below w.heap.size w ((w.alloc (.cells #[.int .i64 most] 3)).alloc (.cells #[.int .i64 0] 3)) := ((Below.refl _ w).alloc (Nat.le_refl _) _).alloc (by simp) _
  obtain ⟨w0, hw0⟩ : ∃ w0, (w.alloc (.cells #[.int .i64 most] 3)).alloc (.cells #[.int .i64 0] 3) = w0 := ⟨_, rfl⟩
  have hz : w.heap.size + 1 + 1 = w0.heap.size := by rw [← hw0]; simp
  have bM0 : Boxed w0 w.heap.size 3 (.int .i64 most) := by rw [← hw0]; exact bM.alloc _
  rw [hw0] at bN hB0
  have hB1 : Below w.heap.size w (w0.alloc (.cells #[.string s] 9)) := hB0.alloc (by omega) _
  simp only [hw0, hz]
  clear bM hw0
  refine range_steps s (by omega) w0 rfl
    (fun (pre : List StepV) W => ((Boxed W (w.heap.size + 1) 3 (.int .i64 (sumP pre : Int)) ∧ Boxed W w.heap.size 3 (.int .i64 most)) ∧ Below w.heap.size w W) ∧ FitP most pre)
    (fun c p W => ((∃ n : Int, Boxed W (w.heap.size + 1) 3 (.int .i64 n) ∧ OverP most p n) ∧ Below w.heap.size w W) ∧ c = .exit 0)
    (OwnFrom.and (OwnFrom.and (OwnFrom.and (Own.from (boxed_own _ 3 (fun pre : List StepV => Value.int .i64 (sumP pre : Int))) _) (Own.from (boxed_own _ 3 (fun _ : List StepV => Value.int .i64 most)) _)) (ownFrom_below (Nat.le_refl _) (by omega))) (ownFrom_pure _ _))
    (fun c p X Y row ⟨⟨⟨n, hb, ho⟩, hbel⟩, hc⟩ hg hr => ⟨⟨⟨n, (Own.from (boxed_own (w.heap.size + 1) 3 (fun _ : List StepV => Value.int .i64 n)) _) p X Y row hb hg hr, ho⟩, (ownFrom_below (Nat.le_refl _) (by omega)) p X Y row hbel hg hr⟩, hc⟩)
    ⟨⟨⟨bN.alloc _, bM0.alloc _⟩, hB1⟩, .inr rfl⟩
    (fun x => { tmps := #[.string s, .int .i64 most, undef, .pointer (some ⟨w.heap.size, 0, none⟩), .string ⟨#[]⟩, .pointer (some ⟨w.heap.size + 1, 0, none⟩), undef, .int .i64 (x.1.2 : Int), .string s, .func (.func 29) #[] #[.pointer (some ⟨w0.heap.size, 0, none⟩)], .int .i32 (x.1.1 : Int), .int .i64 (x.1.2 : Int), undef, undef, undef, undef, undef, undef, undef, undef, undef, undef, undef, undef], defers := [] }) ?assign ?body ?done ?stop
  case assign =>
    intro l x W K hK
    gi_wp2
    exact hK
  case body =>
    rintro l pre x W ⟨⟨⟨hv, hm⟩, hB⟩, hfit⟩ hlt
    have hc := hv.cell
    have hf := hv.frozen
    have hcm := hm.cell
    have hx1 := x.2.2.1
    have hx2 := x.2.2.2
    have hsl := sumP_le pre
    by_cases c1 : most < (sumP pre : Int) + (x.1.2 : Int)
    · gi_wp2
      exact ⟨(KeepsOthers.refl _).from _, ⟨⟨_, hv, pre, x, rfl, hfit, by omega, rfl⟩, hB⟩, rfl⟩
    · have c1' : (sumP pre : Int) + (x.1.2 : Int) ≤ most := by omega
      gi_wp2
      refine ⟨(KeepsOthers.setCell _ _ _).from _, Below.heap_setCell _ _ _ _ (by dsimp only; omega), ⟨⟨?_, hm.other (by omega) _⟩, hB.setCell (by dsimp only; omega) _⟩, .inl (by rw [sumP_snoc]; omega)⟩
      have := hv.set (.int .i64 (sumP (pre ++ [x]) : Int))
      rw [sumP_snoc] at this ⊢
      simpa using this
  case done =>
    rintro D ys W hD hys ⟨⟨⟨hv, hm⟩, hB⟩, hfit⟩ hK
    obtain ⟨hfr, hsum⟩ := hfit.front hys
    rw [← Hn.out] at hfr
    rw [← hfr] at hv
    have hns : n ≤ s.size := by omega
    have hc := hv.cell
    have hes : (s.extract 0 n).size ≤ 281474976710656 := by simp; omega
    clear hfr hsum hys hfit
    gi_wp2_with (refine ⟨trivial, ?_⟩; gi_at_call 28; refine (callsIn_wide.2 (clone_any (s.extract 0 n) _ hes)).mono ?_; rintro e W1 ⟨rfl, hb1⟩)
    have hDl : D < W.heap.size := (Array.getElem?_eq_some_iff.1 hK).1
    have hK' : W1.heap[D]? = some (.deferred (some [])) := (hb1.block _ hDl).trans hK
    refine ⟨by simp, .inl ⟨_, _, rfl, run_takeDeferred hK', ?_⟩⟩
    exact ⟨_, results_tmp rfl _ _ _, rfl, (hB.trans (hb1.mono hB.size)).trans (belowK_b (w := w) (Nat.le_refl _) _ D _ _ (by omega) hK' rfl rfl)⟩
  case stop =>
    rintro D c pre W _ ⟨k, hk⟩ ⟨⟨⟨n0, hv, ho⟩, hB⟩, rfl⟩ hK
    obtain ⟨hfr, hns⟩ := ho.front hk
    rw [← Hn.out] at hfr hns
    subst hfr
    have hc := hv.cell
    have hes : (s.extract 0 n).size ≤ 281474976710656 := by simp; omega
    clear ho hk
    gi_wp2_with (refine ⟨trivial, ?_⟩; gi_at_call 28; refine (callsIn_wide.2 (clone_any (s.extract 0 n) _ hes)).mono ?_; rintro e W1 ⟨rfl, hb1⟩)
    have hDl : D < W.heap.size := (Array.getElem?_eq_some_iff.1 hK).1
    have hK' : W1.heap[D]? = some (.deferred (some [])) := (hb1.block _ hDl).trans hK
    refine ⟨by simp, .inl ⟨_, _, rfl, run_takeDeferred hK', ?_⟩⟩
    exact ⟨_, results_tmp rfl _ _ _, rfl, (hB.trans (hb1.mono hB.size)).trans (belowK_b (w := w) (Nat.le_refl _) _ D _ _ (by omega) hK' rfl rfl)⟩
end Go.Proofs.Ytpeplejpcdadgaa
