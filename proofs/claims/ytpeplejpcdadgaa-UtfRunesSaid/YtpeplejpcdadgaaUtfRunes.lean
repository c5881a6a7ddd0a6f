/-
  The contract of nuncio/utf.Runes.
-/
import Derived.Test.YtpeplejpcdadgaaUtfOwn
namespace Go.Proofs.Ytpeplejpcdadgaa
open Go.RowKit Go.Shelf
attribute [local go_sem] Oper.semAt_some

theorem infoI32 : (Try.prog.info? 21).map (fun i => (i.zero, i.size, i.bytes)) = some (some (.int .i32 0), 1, 4) := by kernel_rfl
def runeV (x : StepV) : Value := .int .i32 (x.1.1 : Int)

set_option maxRecDepth 100000 in
set_option maxHeartbeats 2000000 in
theorem utfRunes_any (s : ByteArray) (w : World) (hs : s.size ≤ 1000000000000) :
    Calls Try.prog 15 #[.string s] w fun e W' => ∃ v, e = .returned v ∧ W'.ownsRow w.heap.size 21 1 v (stps s.data.toList).length ((stps s.data.toList).map fun x => Value.int .i32 (x.1 : Int)) ∧ Below w.heap.size w W' := by
  refine (callsIn_wide (n := 5)).1 ?_
  have hmix : Try.prog.follows .mixedOrders = true := by kernel_rfl
  obtain ⟨i0, hi, hz0, hz1, hz2⟩ := info_parts infoI32
  refine callsIn_of_wp_marks Try.func15 rfl trivial ?_ rfl
  simp only [Try.ntmps15, List.size_toArray, List.length_cons, List.length_nil, Nat.reduceAdd, Nat.reduceSub, Array.replicate_succ, Array.replicate_zero, List.push_toArray, List.append_toArray, List.nil_append, List.cons_append]
  gi_wp2_with (refine ⟨trivial, ?_⟩; gi_at_call 26; refine (steps_in _ _ _).mono ?_; rintro e w' ⟨rfl, rfl⟩)
  have bN := Boxed.new w 33 (.slice none 0 0)
  have hB0 : Below w.heap.size w (w.alloc (.cells #[.slice none 0 0] 33)) := (Below.refl _ w).alloc (Nat.le_refl _) _
  have hB1 : Below w.heap.size w ((w.alloc (.cells #[.slice none 0 0] 33)).alloc (.cells #[.string s] 9)) := hB0.alloc (by simp) _
  obtain ⟨w0, hw0⟩ : ∃ w0, w.alloc (.cells #[.slice none 0 0] 33) = w0 := ⟨_, rfl⟩
  have hz : w.heap.size + 1 = w0.heap.size := by rw [← hw0]; simp
  rw [hw0] at bN hB0 hB1
  simp only [hw0, hz]
  refine range_steps s (by omega) w0 rfl
    (fun (pre : List StepV) W => (∃ v, Boxed W w.heap.size 33 v ∧ W.ownsRow (w0.heap.size + 1) 21 1 v pre.length (pre.map runeV) ∧ True) ∧ Below w.heap.size (w0.alloc (.cells #[.string s] 9)) W) (fun _ _ _ => False)
    (OwnFrom.and (Own.from (holdsRow_own (w0.heap.size + 1) w.heap.size 33 21 1 (fun pre : List StepV => pre.length) (fun pre => pre.map runeV) (fun _ _ => True)) _) (ownFrom_below (by simp; omega) (by omega)))
    (fun _ _ _ _ _ hs _ _ => hs) ⟨⟨_, bN.alloc _, World.ownsRow_nil _ _ _ _, trivial⟩, Below.refl _ _⟩
    (fun x => { tmps := #[.string s, undef, .slice none 0 0, .pointer (some ⟨w.heap.size, 0, none⟩), .int .i32 (x.1.1 : Int), .string s, .func (.func 29) #[] #[.pointer (some ⟨w0.heap.size, 0, none⟩)], .int .i32 (x.1.1 : Int), .int .i64 (x.1.2 : Int), undef, undef, undef, undef, undef], defers := [] }) ?assign ?body ?done ?stop
  case assign =>
    intro l x W K hK
    gi_wp2
    exact hK
  case body =>
    rintro l pre x W ⟨⟨v, hv, hrow, -⟩, hB⟩ hlt
    have hc := hv.cell
    have hc' := (hv.alloc (.cells #[.int .i32 (x.1.1 : Int)] 21)).cell
    have hsz' := hB.size
    rw [World.size_alloc] at hsz'
    gi_wp2_with (gi_at_builtin; refine wpListIn_append_own _ rfl _ _ 33 rfl (w0.heap.size + 1) 21 i0 (.int .i32 0) 1 4 Try.underlying33 hi hz0 hz1 hz2 rfl (by decide) _ _ _ rfl (hrow.alloc _) ⟨W.heap.size, 0, none⟩ 1 1 [.int .i32 (x.1.1 : Int)] rfl rfl (cell_one_new _ _ _) (by simp [Value.oneCell']) (by unfold maxLen; omega) (by omega) (by simp; omega) ?_; intro v' w1 hown' hgrow _; obtain ⟨g', cap', rfl⟩ := ownsRow_succ hown'; obtain ⟨hv2, hv3, hr3, hk3, hb3, hlo3⟩ := boxed_appended (m := w.heap.size) hv (by decide) hrow (by omega) (Nat.le_refl _) (by omega) hown' hgrow; have hc2 := hv2.cell; have hf2 := hv2.frozen)
    exact ⟨hk3.from _, hlo3 _ (by omega) (by omega), ⟨_, hv3, by simpa [runeV] using hr3, trivial⟩, hB.trans hb3⟩
  case done =>
    rintro D ys W hD hys ⟨⟨v, hv, hrow, -⟩, hB⟩ hK
    have hc := hv.cell
    gi_wp2
    refine ⟨by simp, .inl ⟨_, _, rfl, run_takeDeferred hK, ?_⟩⟩
    have hrow' := ownsRow_putObj hrow (.deferred none) hK rfl
    have e1 : (stps s.data.toList).map (fun x => Value.int .i32 (x.1 : Int)) = ys.map runeV := by rw [← hys.done, List.map_map]; rfl
    have e2 : (stps s.data.toList).length = ys.length := by rw [← hys.done]; simp
    rw [e1, e2]
    exact ⟨_, results_tmp rfl _ _ _, v, rfl, ownsRow_base hrow' (by omega), (hB1.trans hB).trans (belowK_b (w := w) (Nat.le_refl _) W D _ _ (by omega) hK rfl rfl)⟩
  case stop =>
    rintro D c pre W _ _ h _
    exact h.elim
end Go.Proofs.Ytpeplejpcdadgaa
