/-
  The contract of nuncio/utf.Is.
-/
import Derived.Test.YtpeplejpcdadgaaUtfSteps
namespace Go.Proofs.Ytpeplejpcdadgaa
open Go.RowKit Go.Shelf
attribute [local go_sem] Oper.semAt_some

/-- Is a step a bad byte? -/
def badS (x : Nat × Nat) : Bool := x.1 == 65533 && x.2 == 1
def okPre (pre : List StepV) : Bool := pre.all fun x => !badS x.1
theorem okL_pre {s : ByteArray} {ys : List StepV} (h : UpTo s s.size ys) : okL s.data.toList = okPre ys := by
  unfold okL okPre
  rw [← h.done, List.all_map]
  rfl
theorem okL_bad {s : ByteArray} {pre : List StepV} {k : Nat} (h : UpTo s k pre) (hb : okPre pre = false) : okL s.data.toList = false := by
  unfold UpTo at h
  unfold okL
  rw [← h, List.all_append, List.all_map]
  have : (pre.all ((fun x : Nat × Nat => !(x.1 == 65533 && x.2 == 1)) ∘ fun x : StepV => x.1)) = okPre pre := rfl
  rw [this, hb]
  rfl

theorem okPre_snoc (pre : List StepV) (x : StepV) : okPre (pre ++ [x]) = (okPre pre && !badS x.1) := by unfold okPre; simp
/-- The result of a function that keeps its one bool in a cell. -/
theorem results_cell_bool {fn : Func} {p : Tmp} {ty : TypeId} (h : fn.results = #[.cell p ty]) (tmps : Array Value) (P : Program) (w : World) {g : Nat} {b : Bool}
    (hp : tmps.getD p undef = .pointer (some ⟨g, 0, none⟩)) (ha : ∀ w, (isAgg ty).run P w = .ok false w) (hc : w.cell? ⟨g, 0, none⟩ = some (.bool b)) : (results fn tmps).run P w = .ok (.bool b) w := by
  have hp' : tmps[p]?.getD undef = .pointer (some ⟨g, 0, none⟩) := by simpa using hp
  simp [results, h, hp', ha, hc, go_sem]

set_option maxRecDepth 100000 in
set_option maxHeartbeats 2000000 in
theorem utfIs_any (s : ByteArray) (w : World) (hs : s.size ≤ 1000000000000) :
    Calls Try.prog 18 #[.string s] w fun e W' => e = .returned (.bool (okL s.data.toList)) ∧ Below w.heap.size w W' := by
  refine (callsIn_wide (n := 5)).1 ?_
  have hmix : Try.prog.follows .mixedOrders = true := by kernel_rfl
  refine callsIn_of_wp_marks Try.func18 rfl trivial ?_ rfl
  simp only [Try.ntmps18, List.size_toArray, List.length_cons, List.length_nil, Nat.reduceAdd, Nat.reduceSub, Array.replicate_succ, Array.replicate_zero, List.push_toArray, List.append_toArray, List.nil_append, List.cons_append]
  gi_wp2_with (refine ⟨trivial, ?_⟩; gi_at_call 26; refine (steps_in _ _ _).mono ?_; rintro e w' ⟨rfl, rfl⟩)
  have bN := Boxed.new w 4 (.bool false)
  have hB0 : Below w.heap.size w (w.alloc (.cells #[.bool false] 4)) := (Below.refl _ w).alloc (Nat.le_refl _) _
  have hB1 : Below w.heap.size w ((w.alloc (.cells #[.bool false] 4)).alloc (.cells #[.string s] 9)) := hB0.alloc (by simp) _
  obtain ⟨w0, hw0⟩ : ∃ w0, w.alloc (.cells #[.bool false] 4) = w0 := ⟨_, rfl⟩
  have hz : w.heap.size + 1 = w0.heap.size := by rw [← hw0]; simp
  rw [hw0] at bN hB0 hB1
  simp only [hw0, hz]
  refine range_steps s (by omega) w0 rfl
    (fun (pre : List StepV) W => (Boxed W w.heap.size 4 (.bool false) ∧ Below w.heap.size w W) ∧ okPre pre = true) (fun c pre W => (Boxed W w.heap.size 4 (.bool false) ∧ Below w.heap.size w W) ∧ c = .ret ∧ okPre pre = false)
    (OwnFrom.and (OwnFrom.and (Own.from (boxed_own w.heap.size 4 (fun _ : List StepV => Value.bool false)) _) (ownFrom_below (Nat.le_refl _) (by omega))) (ownFrom_pure _ _))
    (fun c => OwnFrom.and (OwnFrom.and (Own.from (boxed_own w.heap.size 4 (fun _ : List StepV => Value.bool false)) _) (ownFrom_below (Nat.le_refl _) (by omega))) (ownFrom_pure _ (fun pre => c = .ret ∧ okPre pre = false)))
    ⟨⟨bN.alloc _, hB1⟩, rfl⟩
    (fun x => { tmps := #[.string s, undef, .pointer (some ⟨w.heap.size, 0, none⟩), .int .i32 (x.1.1 : Int), .int .i64 (x.1.2 : Int), .string s, .func (.func 29) #[] #[.pointer (some ⟨w0.heap.size, 0, none⟩)], .int .i32 (x.1.1 : Int), .int .i64 (x.1.2 : Int), undef, undef, undef, undef, undef, undef], defers := [] }) ?assign ?body ?done ?stop
  case assign =>
    intro l x W K hK
    gi_wp2
    exact hK
  case body =>
    rintro l pre x W ⟨⟨hv, hB⟩, hok⟩ hlt
    have hc := hv.cell
    have hf := hv.frozen
    by_cases c1 : x.1.1 = 65533
    · have e1 : ((x.1.1 : Int) == 65533) = true := by simp; omega
      by_cases c2 : x.1.2 = 1
      · have e2 : ((x.1.2 : Int) == 1) = true := by simp; omega
        gi_wp2
        exact ⟨(KeepsOthers.setCell _ _ _).from _, ⟨hv.set _, hB.setCell (Nat.le_refl _) _⟩, rfl, by rw [okPre_snoc]; unfold badS; rw [c1, c2]; simp⟩
      · have e2 : ((x.1.2 : Int) == 1) = false := by simp; omega
        gi_wp2
        exact ⟨(KeepsOthers.refl _).from _, rfl, ⟨hv, hB⟩, by rw [okPre_snoc, hok]; unfold badS; simp [c2]⟩
    · have e1 : ((x.1.1 : Int) == 65533) = false := by simp; omega
      gi_wp2
      exact ⟨(KeepsOthers.refl _).from _, rfl, ⟨hv, hB⟩, by rw [okPre_snoc, hok]; unfold badS; simp [c1]⟩
  case done =>
    rintro D ys W hD hys ⟨⟨hv, hB⟩, hok⟩ hK
    have hc := hv.cell
    have hf := hv.frozen
    gi_wp2
    rw [okL_pre hys, hok]
    have hK' : (W.setCell ⟨w.heap.size, 0, none⟩ (.bool true)).heap[D]? = some (.deferred (some [])) := (Below.heap_setCell _ _ _ _ (by dsimp only; omega)).trans hK
    refine ⟨by simp, .inl ⟨_, _, rfl, run_takeDeferred hK', ?_⟩⟩
    have hc' := (show Boxed ((W.setCell ⟨w.heap.size, 0, none⟩ (.bool true)).putObj D (.deferred none)) w.heap.size 4 (.bool true) from (World.putObj_heap_other (by omega)).trans (hv.set (.bool true))).cell
    exact ⟨_, results_cell_bool rfl _ _ _ rfl (fun _ => by kernel_rfl) hc', rfl, (hB.setCell (Nat.le_refl _) _).trans (belowK_b (w := w) (Nat.le_refl _) _ D _ _ (by omega) hK' rfl rfl)⟩
  case stop =>
    rintro D c pre W _ ⟨k, hk⟩ ⟨⟨hv, hB⟩, rfl, hbad⟩ hK
    have hc := hv.cell
    gi_wp2
    rw [okL_bad hk hbad]
    refine ⟨by simp, .inl ⟨_, _, rfl, run_takeDeferred hK, ?_⟩⟩
    have hc' := (show Boxed (W.putObj D (.deferred none)) w.heap.size 4 (.bool false) from (World.putObj_heap_other (by omega)).trans hv).cell
    exact ⟨_, results_cell_bool rfl _ _ _ rfl (fun _ => by kernel_rfl) hc', rfl, hB.trans (belowK_b (w := w) (Nat.le_refl _) _ D _ _ (by omega) hK rfl rfl)⟩
end Go.Proofs.Ytpeplejpcdadgaa
