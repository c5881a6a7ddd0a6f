/-
  Any program: a scope in which the run jumps back to one label, in the widest fence; and a function that leaves with several marks among its deferred calls (a range over a function that is entered again and again).
-/
import Derived.ScopeJumps
import Derived.RangeFuncLeaves
import Derived.RangeFuncRecord
import Derived.Below
import Derived.Test.YtahkfoaogcbecaaOwn
namespace Go.Proofs.Ytahkfoaogcbecaa
set_option linter.unusedVariables false
set_option linter.unusedSimpArgs false
open Go.RowKit

theorem wpIn_scope_jumps {n : Nat} {P : Program} {a : Act} {w : World} {Q : Exit → Act → World → Prop} {c rest : Code} (l : Nat) (J : Act → World → Prop) (μ : Act → World → Nat) (hf : findLabel c l = some rest)
    (first : c.wpIn Fence.wide n P (Exit.jump l J Q) a w)
    (pass : ∀ a w, J a w → rest.wpIn Fence.wide n P (Exit.jump l (fun a' w' => J a' w' ∧ μ a' w' < μ a w) Q) a w) : (Code.scope c).wpIn Fence.wide n P Q a w :=
  wpIn_wide.2 (wp_scope_jumps l J μ hf (wpIn_wide.1 first) fun a w h => wpIn_wide.1 (pass a w h))

/-- The same where the scope's code comes to the label by itself: what stands behind the label is walked once. -/
theorem wpIn_scope_again {n : Nat} {P : Program} {a : Act} {w : World} {Q : Exit → Act → World → Prop} {c b : Code} (l : Nat) (J : Act → World → Prop) (μ : Act → World → Nat) (hf : findLabel c l = some (.seq .skip b))
    (pass : ∀ a w, J a w → b.wpIn Fence.wide n P (Exit.jump l (fun a' w' => J a' w' ∧ μ a' w' < μ a w) Q) a w)
    (first : (∀ a w, J a w → b.wpIn Fence.wide n P (Exit.jump l J Q) a w) → c.wpIn Fence.wide n P (Exit.jump l J Q) a w) : (Code.scope c).wpIn Fence.wide n P Q a w :=
  wpIn_scope_jumps l J μ hf (first fun a w h => wpIn_mono (pass a w h) fun e a' w' hq => by
    cases e with
    | goto l' => exact ⟨hq.1, hq.2.1⟩
    | _ => exact hq) fun a w h => wpIn_seq (wpIn_skip (pass a w h))

def markOf (D : Nat) : Deferred := { target := .collected D, args := #[] }
/-- So many marks, each of its own block, none with a call. -/
def Marks (B : Nat) (Ds : List Nat) (W : World) : Prop := Ds.Nodup ∧ ∀ D ∈ Ds, B ≤ D ∧ W.heap[D]? = some (.deferred (some []))
theorem Marks.nil (B : Nat) (W : World) : Marks B [] W := ⟨List.nodup_nil, fun _ h => by cases h⟩
theorem heap_lt {W : World} {k : Nat} {o : Obj} (h : W.heap[k]? = some o) : k < W.heap.size := (Array.getElem?_eq_some_iff.1 h).1
theorem Marks.kept {B : Nat} {Ds : List Nat} {W W' : World} (h : Marks B Ds W) (hk : ∀ D ∈ Ds, W'.heap[D]? = W.heap[D]?) : Marks B Ds W' := ⟨h.1, fun D hD => ⟨(h.2 D hD).1, (hk D hD).trans (h.2 D hD).2⟩⟩
theorem Marks.below {B : Nat} {Ds : List Nat} {W W' : World} (h : Marks B Ds W) (hb : Below W.heap.size W W') : Marks B Ds W' := h.kept fun D hD => hb.block D (heap_lt (h.2 D hD).2)
theorem Marks.from {β : Type} {B T : Nat} {Ds : List Nat} (hT : ∀ D ∈ Ds, D < T) : OwnFrom T (fun (_ : β) W => Marks B Ds W) :=
  fun _ W W' row hs hg hr => hs.kept fun D hD => hg.block D (heap_lt (hs.2 D hD).2) (fun e => by have := (hr D e.symm).1; have := hT D hD; omega)
theorem below_putObj {B D : Nat} {W : World} (hD : B ≤ D) (o : Obj) : Below B W (W.putObj D o) :=
  ⟨rfl, rfl, rfl, by simp [World.putObj], fun j hj => World.putObj_heap_other (by omega)⟩

theorem leaves_marks {F : Fence} {n : Nat} {P : Program} {fn : Func} {tmps : Array Value} {R : Ending → World → Prop} {B : Nat} : ∀ (Ds : List Nat) (w : World), Marks B Ds w →
    (∀ w', Below B w w' → ∃ v, (results fn tmps).run P w' = .ok v w' ∧ R (.returned v) w') → LeavesInM F n P fn tmps R (Ds.map markOf) .returning w := by
  intro Ds
  induction Ds with
  | nil => intro w _ h; exact h w (Below.refl _ _)
  | cons D Ds ih =>
    intro w hm h
    have hD := hm.2 D (by simp)
    have hnd := List.nodup_cons.1 hm.1
    refine ⟨by simp, .inl ⟨D, _, rfl, run_takeDeferred hD.2, ih _ ⟨hnd.2, fun k hk => ⟨(hm.2 k (by simp [hk])).1, ?_⟩⟩ fun w' hb => h w' ((below_putObj hD.1 _).trans hb)⟩⟩
    have hne : k ≠ D := fun e => hnd.1 (e ▸ hk)
    exact (World.putObj_heap_other hne).trans (hm.2 k (by simp [hk])).2

/-- 'out = append(out, ..)', out in a box: what lies elsewhere and is no row of that kind lies as it lay. -/
theorem boxed_grown_other {W w1 : World} {n₀ m B : Nat} {t e : TypeId} {size : Nat} {v v' : Value} {k k' : Nat} {xs ys : List Value}
    (hv : Boxed W B t v) (hte : t ≠ e) (hrow : W.ownsRow n₀ e size v k xs) (hB : m ≤ B) (hm : m ≤ n₀) (hmW : m ≤ W.heap.size)
    (hown' : w1.ownsRow n₀ e size v' k' ys) (hgrow : W.grownBy w1 v.ownBlock) :
    Boxed w1 B t v ∧ Boxed (w1.setCell ⟨B, 0, none⟩ v') B t v' ∧ (w1.setCell ⟨B, 0, none⟩ v').ownsRow n₀ e size v' k' ys ∧ KeepsOthers W (w1.setCell ⟨B, 0, none⟩ v') ∧ Below m W (w1.setCell ⟨B, 0, none⟩ v') ∧
      (∀ j o, W.heap[j]? = some o → (∀ cur, o ≠ .cells cur e) → j ≠ B → (w1.setCell ⟨B, 0, none⟩ v').heap[j]? = some o) := by
  have hv1 : Boxed w1 B t v := hv.kept hgrow (hv.not_row hte hrow)
  have hlt := hrow.lt
  have hlo : ∀ j o, W.heap[j]? = some o → (∀ cur, o ≠ .cells cur e) → j ≠ B → (w1.setCell ⟨B, 0, none⟩ v').heap[j]? = some o := fun j o hj ho hne => by
    rw [Below.heap_setCell _ _ _ _ hne, hgrow.block j (heap_lt hj) (fun e' => ?_)]
    · exact hj
    · rcases hrow.2 with ⟨rfl, _⟩ | ⟨g, cap, cur, rfl, _, hgb, _⟩
      · simp [Value.ownBlock] at e'
      · obtain rfl : g = j := by simpa [Value.ownBlock] using e'.symm
        rw [hgb] at hj
        cases hj
        exact ho cur rfl
  refine ⟨hv1, hv1.set v', hown'.kept (grownBy_setCell' w1 B v') (.inr (hv1.not_row hte hown').symm), ?_, ?_, hlo⟩
  · refine (KeepsOthers.of_grownBy hgrow fun j o ej hj => ?_).trans (KeepsOthers.setCell _ _ _)
    rcases hrow.2 with ⟨rfl, _⟩ | ⟨g, cap, cur, rfl, _, hgb, _⟩
    · simp [Value.ownBlock] at ej
    · obtain rfl : g = j := by simpa [Value.ownBlock] using ej
      rw [hgb] at hj; cases hj; rfl
  · have hs1 := hgrow.size
    exact ⟨hgrow.os, hgrow.tape, hgrow.output, by simp [World.setCell]; omega, fun j hj => by
      rw [Below.heap_setCell _ _ _ _ (by dsimp only; omega)]
      exact hgrow.block j (by omega) (fun e => by have := (hlt j e.symm).1; omega)⟩
end Go.Proofs.Ytahkfoaogcbecaa
