/-
  A region that draws its order of evaluation, of reads and of a few operations that turn the world one behind the other: walked once, in the order of the text. Any program.
-/
import Derived.WalkKit
import Derived.OwnWalkIn
import Derived.OrdersIn
import Derived.StillTail
import Derived.Deep.QuietTactic
import Derived.BigQuiet
import Derived.BigFrameIn
namespace Go.Proofs.Ytpgiaofkabhgkaa
set_option linter.unusedVariables false
set_option linter.unusedSimpArgs false
open Go.RowKit

section
variable {P : Program} {ops : Array Oper} {W V : Nat → World} {effs : List Nat} {F : Fence} {n : Nat}

/-- An operation that enters no Go function. -/
def plainOp (o : Oper) : Bool := match o.op with
  | .call c => match c.callee with | .builtin .len => true | .builtin .append => true | .builtin .min => true | _ => false
  | .move _ | .assign _ | .alloc _ | .box .. | .build .. | .buildSlice .. | .load .. | .store .. | .nilCheck _ | .binOp .. | .unOp .. | .convert .. | .makeMap .. | .makeSlice .. | .slice .. | .fieldAddr .. | .index .. | .indexAddr .. | .lookup .. | .mapUpdate .. | .extract .. | .pick .. => true
  | _ => false

theorem v_noEnter (s : Sem Value) (w : World) (f : FuncId) (args : Array Value) (w' : World) : Sem.run P (do pure (Next.value (← s)) : Sem Next) w ≠ .ok (.enter f args) w' := by
  simp only [Sem.run_bind, Sem.run_pure]
  cases Sem.run P s w <;> simp [Result.andThen]
theorem u_noEnter (s : Sem Unit) (w : World) (f : FuncId) (args : Array Value) (w' : World) : Sem.run P (do s; pure Next.skip : Sem Next) w ≠ .ok (.enter f args) w' := by
  simp only [Sem.run_bind, Sem.run_pure]
  cases Sem.run P s w <;> simp [Result.andThen]

theorem noEnter {o : Oper} (h : plainOp o = true) (ρ : Operand → Value) (w : World) (f : FuncId) (args : Array Value) (w' : World) : (execOp ρ o).run P w ≠ .ok (.enter f args) w' := by
  unfold plainOp at h
  unfold execOp
  cases ho : o.op <;> rw [ho] at h <;> dsimp only at h ⊢ <;> first | (exact (Bool.false_ne_true h).elim) | exact v_noEnter _ _ _ _ _ | exact u_noEnter _ _ _ _ _ | skip
  case move => simp
  case assign => simp
  case pick => 
    simp only [Sem.run_bind]
    cases Sem.run P (asBool _) w <;> simp [Result.andThen]
  case nilCheck x =>
    split <;> first | (simp; done) | skip
    · intro hc; simp [runtimePanic, Result.andThen] at hc
    · intro hc; simp [runtimePanic, Result.andThen] at hc
    · intro hc; simp [runtimePanic, Result.andThen] at hc
    · rename_i nm fst cap heq
      split
      · intro hc; simp [runtimePanic, Result.andThen] at hc
      · rename_i ty wv _
        intro hc
        simp only [Sem.run_bind] at hc
        cases hp : Sem.run P program w with
        | halt x w1 => rw [hp] at hc; simp at hc
        | ok pr w1 =>
          rw [hp] at hc
          simp only [Result.andThen_ok] at hc
          cases hn : Sem.run P (nilAhead (pr.types.size + Made.depth) ty wv nm) w1 with
          | halt x w2 => rw [hn] at hc; simp at hc
          | ok b w2 =>
            rw [hn] at hc
            simp only [Result.andThen_ok] at hc
            split at hc
            · simp [Result.andThen, unsupported] at hc
            · simp [Result.andThen] at hc
      · simp
  case call c =>
    unfold resolve
    cases hc : c.callee <;> rw [hc] at h <;> dsimp only at h ⊢ <;> first | (exact (Bool.false_ne_true h).elim) | skip
    rename_i b
    cases b <;> dsimp only at h <;> first | (exact (Bool.false_ne_true h).elim) | skip
    · simp only [Sem.run_bind, Sem.run_pure, Result.andThen_ok, invoke, builtin]
      cases Sem.run P (Builtin.append_ c.argTypes o.type (Array.map ρ c.args)) w <;> simp [Result.andThen]
    · simp only [Sem.run_bind, Sem.run_pure, Result.andThen_ok, invoke, builtin]
      cases Sem.run P (Builtin.len_ c.argTypes o.type (Array.map ρ c.args)) w <;> simp [Result.andThen]
    · simp only [Sem.run_bind, Sem.run_pure, Result.andThen_ok, invoke, builtin]
      generalize Sem.run P _ w = r
      cases r <;> simp [Result.andThen]

/-- The operation turns w into w' and leaves v. -/
def Eff (P : Program) (ops : Array Oper) (o : Oper) (v : Value) (a : Act) (w w' : World) : Prop :=
  Region.wanted o (yielded ops a.tmps) = true ∧ ((execOp a.eval o).run P w = .ok (.value v) w' ∨ ((execOp a.eval o).run P w = .ok .skip w' ∧ v = undef))

/-- Operation number i, at state a: one of those that turn the world, or a read. -/
def StepOk (P : Program) (ops : Array Oper) (W V : Nat → World) (effs : List Nat) (i : Nat) (o : Oper) (v : Value) (a : Act) : Prop :=
  (i ∉ effs → YieldsIn P ops (fun w' => ∃ t, w' = V t) o v a) ∧ (∀ j, effs[j]? = some i → Eff P ops o v a (W j) (W (j + 1)))

def wpSt (P : Program) (ops : Array Oper) (W V : Nat → World) (effs : List Nat) (Q : Act → Prop) : Nat → List Oper → Act → Prop
  | _, [], a => Q a
  | k, o :: rest, a => ∃ v, StepOk P ops W V effs k o v a ∧ wpSt P ops W V effs Q (k + 1) rest (a.put o.dst v)

def eOp (P : Program) (ops : Array Oper) (W V : Nat → World) (effs : List Nat) (i : Nat) (K : Act → Prop) (a : Act) : Prop :=
  match ops[i]? with
  | none => K a
  | some o => ∃ v, StepOk P ops W V effs i o v a ∧ K (a.put o.dst v)
theorem eOp_mono {i : Nat} {a : Act} {K K' : Act → Prop} (h : ∀ a, K a → K' a) (hh : eOp P ops W V effs i K a) : eOp P ops W V effs i K' a := by
  unfold eOp at *
  split
  · exact h _ (by simpa [*] using hh)
  · rename_i o ho
    simp only [ho] at hh
    obtain ⟨v, h1, h2⟩ := hh
    exact ⟨v, h1, h _ h2⟩
def wpAnyE (P : Program) (ops : Array Oper) (W V : Nat → World) (effs : List Nat) (Q : Act → Prop) : Nat → Array Bool → Act → Prop
  | 0, listed, a => Region.ready .any ops listed = [] ∧ Q a
  | fuel + 1, listed, a =>
    (Region.ready .any ops listed = [] → Q a) ∧
    ∀ i ∈ Region.ready .any ops listed, eOp P ops W V effs i (wpAnyE P ops W V effs Q fuel (listed.setIfInBounds i true)) a

theorem Eff.of_same {o : Oper} {v : Value} {a a' : Act} {w w' : World} (hy : Eff P ops o v a w w') (he : execOp a'.eval o = execOp a.eval o)
    (hw : Region.wanted o (yielded ops a'.tmps) = Region.wanted o (yielded ops a.tmps)) : Eff P ops o v a' w w' := by
  unfold Eff at *
  rw [he, hw]
  exact hy
theorem StepOk.of_same {i : Nat} {o : Oper} {v : Value} {a a' : Act} (hy : StepOk P ops W V effs i o v a) (he : execOp a'.eval o = execOp a.eval o)
    (hw : Region.wanted o (yielded ops a'.tmps) = Region.wanted o (yielded ops a.tmps)) : StepOk P ops W V effs i o v a' :=
  ⟨fun h => (hy.1 h).of_same he hw, fun j hj => (hy.2 j hj).of_same he hw⟩

theorem eOp_put {j i : Nat} {oi oj : Oper} {v : Value} (hj : ops[j]? = some oj) (hap : oi.apart ops oj = true)
    (hsi : ∀ cs b, oi.op ≠ .select cs b) (hsj : ∀ cs b, oj.op ≠ .select cs b) {K : Act → Prop} {a : Act}
    (hy : StepOk P ops W V effs i oi v a) (h : eOp P ops W V effs j K (a.put oi.dst v)) :
    eOp P ops W V effs j (fun a' => StepOk P ops W V effs i oi v a' ∧ K (a'.put oi.dst v)) a := by
  obtain ⟨h1, h2, h3⟩ := Oper.apart_spec hap
  unfold eOp at *
  simp only [hj] at *
  obtain ⟨u, hu, hn⟩ := h
  refine ⟨u, hu.of_same (execOp_put oj hsj a oi.dst v h1).symm (wanted_put oj a oi.dst v h1).symm, hy.of_same (execOp_put oi hsi a oj.dst u h3) (wanted_put oi a oj.dst u h3), ?_⟩
  rw [← Act.put_comm a v u h2]
  exact hn

theorem wpAnyE_first {Q : Act → Prop} {i : Nat} {oi : Oper} {v : Value} (hi : ops[i]? = some oi) (hsel : ∀ (j : Nat) (o : Oper) cs b, ops[j]? = some o → o.op ≠ .select cs b) :
    ∀ (fuel : Nat) (listed : Array Bool) (a : Act),
      (∀ j oj, ops[j]? = some oj → j ≠ i → listed.getD j true = false → (∀ e ∈ oj.after, Region.binds .any e = true → e.on ≠ i) → oi.apart ops oj = true) →
      i ∈ Region.ready .any ops listed → StepOk P ops W V effs i oi v a →
      wpAnyE P ops W V effs Q fuel (listed.setIfInBounds i true) (a.put oi.dst v) → wpAnyE P ops W V effs Q (fuel + 1) listed a := by
  intro fuel
  induction fuel with
  | zero =>
    intro listed a _ hr hy H
    refine ⟨fun h => (by rw [h] at hr; cases hr), fun j hj => ?_⟩
    by_cases hji : j = i
    · subst hji
      unfold eOp
      rw [hi]
      exact ⟨v, hy, H⟩
    · have := ready_mono hj hji
      rw [H.1] at this
      cases this
  | succ fuel ih =>
    intro listed a hfree hr hy H
    refine ⟨fun h => (by rw [h] at hr; cases hr), fun j hj => ?_⟩
    by_cases hji : j = i
    · subst hji
      unfold eOp
      rw [hi]
      exact ⟨v, hy, H⟩
    · have h1 := H.2 j (ready_mono hj hji)
      obtain ⟨hjun, oj, hoj, hall⟩ := mem_ready.1 hj
      have hnot : ∀ e ∈ oj.after, Region.binds .any e = true → e.on ≠ i := fun e he hb heq => by
        have h1 := hall e he hb
        have h0 := (mem_ready.1 hr).1
        rw [heq] at h1
        rcases Nat.lt_or_ge i listed.size with h' | h'
        · simp [h'] at h0 h1; rw [h0] at h1; cases h1
        · simp [Array.getElem?_eq_none h'] at h1
      have h2 := eOp_put hoj (hfree j oj hoj hji hjun hnot) (fun cs b => hsel i oi cs b hi) (fun cs b => hsel j oj cs b hoj) hy h1
      have hfree' : ∀ k ok, ops[k]? = some ok → k ≠ i → (listed.setIfInBounds j true).getD k true = false →
          (∀ e ∈ ok.after, Region.binds .any e = true → e.on ≠ i) → oi.apart ops ok = true := fun k ok hk hki hun hno => by
        refine hfree k ok hk hki ?_ hno
        by_cases hjk : j = k
        · subst hjk; exact hjun
        · rw [getD_set_ne true hjk] at hun; exact hun
      refine eOp_mono (fun a' h3 => ih (listed.setIfInBounds j true) a' hfree' (ready_mono hr (Ne.symm hji)) h3.1 ?_) h2
      rw [Array.setIfInBounds_comm _ _ hji]
      exact h3.2

theorem wpAnyE_lex {Q : Act → Prop} (hs : Region.noSelect ops = true) : ∀ (l : List Oper) (k : Nat) (listed : Array Bool) (a : Act), (∀ j, l[j]? = ops[k + j]?) →
    Region.lexFrom .any ops l.length k listed = true → wpSt P ops W V effs Q k l a → wpAnyE P ops W V effs Q l.length listed a
  | [], _, _, _, _, hB, h => ⟨by simpa [Region.lexFrom] using hB, h⟩
  | o :: l, k, listed, a, hl, hB, h => by
    have h0 : ops[k]? = some o := by simpa using (hl 0).symm
    simp only [List.length_cons, Region.lexFrom, Bool.and_eq_true] at hB
    obtain ⟨⟨hr, hf⟩, hB'⟩ := hB
    obtain ⟨v, hy, hK⟩ := h
    exact wpAnyE_first h0 (Region.noSelect_spec hs) l.length listed a (Region.free_spec h0 hf) (by simpa using hr) hy
      (wpAnyE_lex hs l (k + 1) _ _ (fun j => by have := hl (j + 1); simpa [Nat.add_assoc, Nat.add_comm 1 j] using this) hB' hK)

/-- The operations that turn the world stand one behind the other; every edge leads back; each operation is plain. -/
def stageB (ops : Array Oper) (effs : List Nat) : Bool :=
  ((List.range effs.length).all fun j => decide (effs.getD j 0 < ops.size) && (j == 0 || Region.waitsFor .any ops (effs.getD j 0) (effs.getD (j - 1) 0))) &&
  ((List.range ops.size).all fun i => (ops[i]?.map fun o => plainOp o && o.after.all fun e => !Region.binds .any e || decide (e.on < i)).getD true)
theorem stageB_eff (h : stageB ops effs = true) {j i : Nat} (hj : effs[j]? = some i) : i < ops.size ∧ (j = 0 ∨ ∃ i', effs[j - 1]? = some i' ∧ Region.waitsFor .any ops i i' = true) := by
  unfold stageB at h
  rw [Bool.and_eq_true, List.all_eq_true, List.all_eq_true] at h
  have hl := (List.getElem?_eq_some_iff.1 hj).1
  have h1 := h.1 j (List.mem_range.2 hl)
  have e1 : effs.getD j 0 = i := by simp [List.getD, hj]
  rw [e1, Bool.and_eq_true, decide_eq_true_eq, Bool.or_eq_true, beq_iff_eq] at h1
  refine ⟨h1.1, h1.2.imp id fun h2 => ?_⟩
  refine ⟨effs.getD (j - 1) 0, ?_, h2⟩
  rw [List.getElem?_eq_getElem (by omega)]
  simp [List.getD, List.getElem?_eq_getElem (show j - 1 < effs.length by omega)]
theorem stageB_op (h : stageB ops effs = true) {i : Nat} {o : Oper} (ho : ops[i]? = some o) : plainOp o = true ∧ ∀ e ∈ o.after, Region.binds .any e = true → e.on < i := by
  unfold stageB at h
  rw [Bool.and_eq_true, List.all_eq_true, List.all_eq_true] at h
  have h1 := h.2 i (List.mem_range.2 (Array.getElem?_eq_some_iff.1 ho).1)
  rw [ho] at h1
  simp only [Option.map_some, Option.getD_some, Bool.and_eq_true, Array.all_eq_true_iff_forall_mem, decide_eq_true_eq, Bool.or_eq_true, Bool.not_eq_true'] at h1
  refine ⟨h1.1, fun e he hb => ?_⟩
  rcases h1.2 e he with h2 | h2
  · rw [hb] at h2; cases h2
  · exact h2

/-- The last operation is the last that turns the world, and every other one has one behind it that waits for it. -/
def lastB (ops : Array Oper) (effs : List Nat) : Bool :=
  (effs.getLast? == some (ops.size - 1)) && (List.range (ops.size - 1)).all fun i => (List.range ops.size).any fun j => decide (i < j) && Region.waitsFor .any ops j i
/-- Reads come up at stages up to B. -/
def upTo (ops : Array Oper) (effs : List Nat) (B : Nat) : Bool := decide (effs.length ≤ B) || (decide (effs.length = B + 1) && lastB ops effs)

/-- s of the operations that turn the world have come up. -/
def StageAt (ops : Array Oper) (effs : List Nat) (listed : Array Bool) (s : Nat) : Prop := listed.size = ops.size ∧ s ≤ effs.length ∧ (∀ j i, effs[j]? = some i → (listed.getD i true = true ↔ j < s)) ∧ ∀ j oj, ops[j]? = some oj → listed.getD j true = true → ∀ e ∈ oj.after, Region.binds .any e = true → listed.getD e.on false = true

theorem plain_exec {o : Oper} (hp : plainOp o = true) (ro : Option Nat) (ρ : Operand → Value) : o.semAt ro ρ = execOp ρ o :=
  Oper.semAt_eq _ _ _ fun c hc => by unfold plainOp at hp; rw [hc] at hp; cases hp

theorem wpOpIn_value {o : Oper} {i : Nat} (hF : ∀ f, F.fn f) (hi : ops[i]? = some o) (hp : plainOp o = true) {v : Value} {a : Act} {w w' : World} {K : Act → World → Prop} {Q : Exit → Act → World → Prop} (hy : Eff P ops o v a w w') (h : K (a.put o.dst v) w') :
    wpOpIn F n P ops Q i K a w := by
  unfold wpOpIn
  rw [hi]
  simp only [hy.1, if_true]
  refine ⟨fun f _ => hF f, ?_⟩
  rw [plain_exec hp]
  rcases hy.2 with e | ⟨e, rfl⟩
  · rw [e]; exact h
  · rw [e]; exact h
theorem wpOpIn_read {o : Oper} {i : Nat} (hF : ∀ f, F.fn f) (hi : ops[i]? = some o) (hp : plainOp o = true) {v : Value} {a : Act} {ws : World} (hws : ∃ t, ws = V t) {K : Act → World → Prop} {Q : Exit → Act → World → Prop} (hy : YieldsIn P ops (fun w' => ∃ t, w' = V t) o v a) (h : K (a.put o.dst v) ws) :
    wpOpIn F n P ops Q i K a ws := by
  rcases hy with ⟨hw, hq⟩ | ⟨hw, rfl⟩
  · have h1 := hq ws hws
    unfold Oper.quietAt at h1
    refine wpOpIn_value (v := v) (w' := ws) hF hi hp ⟨hw, ?_⟩ h
    cases hr : (execOp a.eval o).run P ws with
    | halt x w' => rw [hr] at h1; simp [Oper.quietUpon] at h1
    | ok x w' =>
      rw [hr] at h1
      cases x <;> simp only [Oper.quietUpon] at h1
      · obtain ⟨rfl, rfl⟩ := h1; exact .inl rfl
      · obtain ⟨rfl, rfl⟩ := h1; exact .inr ⟨rfl, rfl⟩
      · exact absurd hr (noEnter hp _ _ _ _ _)
  · unfold wpOpIn
    rw [hi]
    simp only [hw, Bool.false_eq_true, if_false]
    exact ⟨fun f _ => hF f, h⟩

theorem stageAt_read (hB : stageB ops effs = true) {B : Nat} (hU : upTo ops effs B = true) {listed : Array Bool} {s : Nat} (h : StageAt ops effs listed s) {i : Nat} (hi : i < ops.size) (hun : listed.getD i true = false) : s ≤ B := by
  unfold upTo at hU
  rw [Bool.or_eq_true, decide_eq_true_eq, Bool.and_eq_true, decide_eq_true_eq] at hU
  rcases hU with hU | ⟨hm, hL⟩
  · exact Nat.le_trans h.2.1 hU
  · rcases Nat.lt_or_ge B s with hlt | hge
    · exfalso
      have hs : s = effs.length := by have := h.2.1; omega
      unfold lastB at hL
      rw [Bool.and_eq_true, beq_iff_eq, List.all_eq_true] at hL
      obtain ⟨hl, hall⟩ := hL
      have hlast : listed.getD (ops.size - 1) true = true := by
        refine (h.2.2.1 (effs.length - 1) _ ?_).2 (by omega)
        rw [← List.getLast?_eq_getElem?]
        exact hl
      have all : ∀ d, ∀ i, i + d + 1 = ops.size → listed.getD i true = true := by
        intro d
        induction d using Nat.strongRecOn with
        | _ d ih =>
          intro i hid
          by_cases h0 : d = 0
          · rw [show i = ops.size - 1 from by omega]; exact hlast
          · have h1 := hall i (List.mem_range.2 (by omega))
            rw [List.any_eq_true] at h1
            obtain ⟨j, hj, h2⟩ := h1
            rw [Bool.and_eq_true, decide_eq_true_eq] at h2
            have hjs := List.mem_range.1 hj
            have hlj := ih (ops.size - 1 - j) (by omega) j (by omega)
            obtain ⟨oj, hoj, e, he, hb, hon⟩ := Region.waitsFor_spec h2.2
            have h3 := h.2.2.2 j oj hoj hlj e he hb
            rw [hon] at h3
            have hil : i < listed.size := by rw [h.1]; omega
            simpa [hil] using h3
      have := all (ops.size - 1 - i) i (by omega)
      rw [hun] at this
      cases this
    · exact hge

theorem stageAt_done (hB : stageB ops effs = true) {listed : Array Bool} {s : Nat} (h : StageAt ops effs listed s) (hr : Region.ready .any ops listed = []) : s = effs.length := by
  have all : ∀ i, i < ops.size → listed.getD i true = true := by
    intro i
    induction i using Nat.strongRecOn with
    | _ i ih =>
      intro hi
      cases hl : listed.getD i true with
      | true => rfl
      | false =>
        exfalso
        have ho : ops[i]? = some ops[i] := Array.getElem?_eq_getElem hi
        have : i ∈ Region.ready .any ops listed := by
          refine mem_ready.2 ⟨hl, _, ho, fun e he hbd => ?_⟩
          have hlt := (stageB_op hB ho).2 e he hbd
          have := ih e.on hlt (by omega)
          have hsz : e.on < listed.size := by rw [h.1]; omega
          simpa [hsz] using this
        rw [hr] at this
        cases this
  rcases Nat.lt_or_ge s effs.length with hlt | hge
  · have hj : effs[s]? = some effs[s] := List.getElem?_eq_getElem hlt
    have := (h.2.2.1 s _ hj).1 (all _ (stageB_eff hB hj).1)
    omega
  · exact Nat.le_antisymm h.2.1 hge

theorem wpAnyIn_of_E {Q : Act → Prop} {Q' : Exit → Act → World → Prop} {B : Nat} (hF : ∀ f, F.fn f) (hV : ∀ t, t ≤ B → ∃ t', W t = V t') (hU : upTo ops effs B = true) (hB : stageB ops effs = true) (hQ : ∀ a, Q a → Q' .normal a (W effs.length)) :
    ∀ (fuel : Nat) (listed : Array Bool) (a : Act) (s : Nat), StageAt ops effs listed s → wpAnyE P ops W V effs Q fuel listed a → wpAnyIn F n P .any ops Q' fuel listed a (W s)
  | 0, listed, a, s, hs, h => ⟨h.1, by rw [stageAt_done hB hs h.1]; exact hQ _ h.2⟩
  | fuel + 1, listed, a, s, hs, h => by
    refine ⟨fun h0 => by rw [stageAt_done hB hs h0]; exact hQ _ (h.1 h0), fun i hi => ?_⟩
    have he := h.2 i hi
    obtain ⟨hun, o, ho, hall⟩ := mem_ready.1 hi
    have hil : i < listed.size := by rw [hs.1]; exact (Array.getElem?_eq_some_iff.1 ho).1
    unfold eOp at he
    rw [ho] at he
    obtain ⟨v, hst, hK⟩ := he
    have hp := (stageB_op hB ho).1
    have hcl : ∀ j oj, ops[j]? = some oj → (listed.setIfInBounds i true).getD j true = true → ∀ e ∈ oj.after, Region.binds .any e = true → (listed.setIfInBounds i true).getD e.on false = true := by
      intro j oj hj hl e he hb
      by_cases hji : j = i
      · subst hji
        rw [ho] at hj
        cases hj
        exact getD_set_true (hall e he hb)
      · rw [getD_set_ne true (fun e => hji e.symm)] at hl
        exact getD_set_true (hs.2.2.2 j oj hj hl e he hb)
    by_cases hm : i ∈ effs
    · obtain ⟨j, hj⟩ := List.mem_iff_getElem?.1 hm
      have hjs : s ≤ j := by
        rcases Nat.lt_or_ge j s with h1 | h1
        · have := (hs.2.2.1 j i hj).2 h1
          rw [hun] at this
          cases this
        · exact h1
      have hsj : j = s := by
        rcases (stageB_eff hB hj).2 with h0 | ⟨i', hi', hwf⟩
        · omega
        · obtain ⟨o', ho', e, hee, hb, hon⟩ := Region.waitsFor_spec hwf
          rw [ho] at ho'
          cases ho'
          have hl := hall e hee hb
          rw [hon] at hl
          have hi'l : i' < listed.size := by rw [hs.1]; exact (stageB_eff hB hi').1
          have := (hs.2.2.1 (j - 1) i' hi').1 (by simpa [hi'l] using hl)
          omega
      subst hsj
      refine wpOpIn_value hF ho hp (hst.2 j hj) (wpAnyIn_of_E hF hV hU hB hQ fuel _ _ _ ⟨by simp [hs.1], (List.getElem?_eq_some_iff.1 hj).1, fun k i' hk => ?_, hcl⟩ hK)
      by_cases e : i = i'
      · subst e
        have hkj : k = j := by
          have h1 := hs.2.2.1 k i hk
          have h2 := hs.2.2.1 j i hj
          rcases Nat.lt_trichotomy k j with hlt | he | hgt
          · have := h1.2 hlt
            rw [hun] at this
            cases this
          · exact he
          · exfalso
            have key : ∀ d, ∀ k', k' = j + 1 + d → ∀ i', effs[k']? = some i' → ∃ x, effs[j + 1]? = some x := fun d k' hk' i' hi' => ⟨_, List.getElem?_eq_getElem (by have := (List.getElem?_eq_some_iff.1 hi').1; omega)⟩
            obtain ⟨x, hx⟩ := key (k - (j + 1)) k (by omega) i hk
            -- the one behind j waits for i, and so on: none of them is i
            have back : ∀ d k' i', k' = j + 1 + d → effs[k']? = some i' → i < i' := by
              intro d
              induction d with
              | zero =>
                intro k' i' hk' hi'
                rcases (stageB_eff hB hi').2 with h0 | ⟨i'', hi'', hwf⟩
                · omega
                · have : i'' = i := by
                    have e1 : k' - 1 = j := by omega
                    rw [e1, hj] at hi''
                    exact (Option.some.inj hi'').symm
                  subst this
                  obtain ⟨o', ho', e, hee, hb, hon⟩ := Region.waitsFor_spec hwf
                  have := (stageB_op hB ho').2 e hee hb
                  omega
              | succ d ihd =>
                intro k' i' hk' hi'
                rcases (stageB_eff hB hi').2 with h0 | ⟨i'', hi'', hwf⟩
                · omega
                · have h3 := ihd (k' - 1) i'' (by omega) hi''
                  obtain ⟨o', ho', e, hee, hb, hon⟩ := Region.waitsFor_spec hwf
                  have := (stageB_op hB ho').2 e hee hb
                  omega
            have := back (k - (j + 1)) k i (by omega) hk
            omega
        subst hkj
        simp [hil]
      · rw [getD_set_ne true e]
        refine (hs.2.2.1 k i' hk).trans ?_
        constructor
        · intro h1; omega
        · intro h1
          rcases Nat.lt_or_ge k j with h2 | h2
          · exact h2
          · exfalso
            have : k = j := by omega
            subst this
            rw [hj] at hk
            exact e (Option.some.inj hk)
    · refine wpOpIn_read hF ho hp (hV s (stageAt_read hB hU hs (Array.getElem?_eq_some_iff.1 ho).1 hun)) (hst.1 hm) (wpAnyIn_of_E hF hV hU hB hQ fuel _ _ _ ⟨by simp [hs.1], hs.2.1, fun k i' hk => ?_, hcl⟩ hK)
      rw [getD_set_ne true (fun e => hm (by rw [e]; exact List.mem_of_getElem? hk))]
      exact hs.2.2.1 k i' hk

/-- **ONE WALK IN THE ORDER OF THE TEXT.** -/
theorem wpIn_region_stages {id : Nat} {Q : Exit → Act → World → Prop} {a : Act} {w : World} {l : List Oper} (effs : List Nat) (W V : Nat → World) (B : Nat) (hF : ∀ f, F.fn f) (hm : P.follows .mixedOrders = true) (hB : Region.lexB .any l.toArray = true) (hE : stageB l.toArray effs = true) (hU : upTo l.toArray effs B = true) (hV : ∀ t, t ≤ B → ∃ t', W t = V t') (hW : W 0 = w.drew)
    (h : wpSt P l.toArray W V effs (fun a' => Q .normal a' (W effs.length)) 0 l a) : (Code.region id l.toArray true).wpIn F n P Q a w := by
  simp only [Region.lexB, Bool.and_eq_true] at hB
  refine wpIn_region_any hm ?_
  have h1 := wpAnyE_lex (effs := effs) (W := W) (V := V) hB.1 l 0 (Array.replicate l.toArray.size false) a (by simp) (by simpa using hB.2) h
  have h2 := wpAnyIn_of_E (F := F) (n := n) (Q' := Q) hF hV hU hE (fun _ h => h) l.length (Array.replicate l.toArray.size false) a 0 ⟨by simp, Nat.zero_le _, fun j i hj => by
    have := (stageB_eff hE hj).1
    simp at this
    simp [this], fun j oj hj hl => by
    have := (Array.getElem?_eq_some_iff.1 hj).1
    simp at this
    simp [this] at hl⟩ h1
  rw [hW] at h2
  simpa using h2

/-- Reads, one behind the other, as in a quiet region. -/
theorem wpSt_quiet' {Q : Act → Prop} : ∀ (seg rest : List Oper) (k : Nat) (a : Act), (∀ i, k ≤ i → i < k + seg.length → i ∉ effs) → wpQuiet P ops (fun w' => ∃ t, w' = V t) (fun a' => wpSt P ops W V effs Q (k + seg.length) rest a') seg a → wpSt P ops W V effs Q k (seg ++ rest) a
  | [], _, _, _, _, h => h
  | o :: seg, rest, k, a, hk, h => by
    have h1 : ∃ v, YieldsIn P ops (fun w' => ∃ t, w' = V t) o v a ∧ wpQuiet P ops (fun w' => ∃ t, w' = V t) (fun a' => wpSt P ops W V effs Q (k + (seg.length + 1)) rest a') seg (a.put o.dst v) := by
      unfold wpQuiet at h
      by_cases hw : Region.wanted o (yielded ops a.tmps) = true
      · rw [if_pos hw] at h
        obtain ⟨v, h1, h2⟩ := h
        exact ⟨v, .inl ⟨hw, h1⟩, h2⟩
      · rw [if_neg hw] at h
        exact ⟨undef, .inr ⟨by simpa using hw, rfl⟩, h⟩
    obtain ⟨v, hy, hn⟩ := h1
    refine ⟨v, ⟨fun _ => hy, fun j hj => absurd (List.mem_of_getElem? hj) (hk k (Nat.le_refl _) (by simp))⟩, ?_⟩
    refine wpSt_quiet' seg rest (k + 1) _ (fun i h1 h2 => hk i (by omega) (by simp only [List.length_cons]; omega)) ?_
    rw [show k + 1 + seg.length = k + (seg.length + 1) from by omega]
    exact hn
/-- The next m operations, reads, of those behind number k. -/
theorem wpSt_quiet {Q : Act → Prop} {l : List Oper} {k : Nat} {a : Act} (m : Nat) (hm : m ≤ l.length) (hk : ((List.range m).all fun d => !effs.contains (k + d)) = true) (h : wpQuiet P ops (fun w' => ∃ t, w' = V t) (fun a' => wpSt P ops W V effs Q (k + m) (l.drop m) a') (l.take m) a) : wpSt P ops W V effs Q k l a := by
  have hl : (l.take m).length = m := by simp; omega
  have := wpSt_quiet' (P := P) (ops := ops) (W := W) (V := V) (effs := effs) (Q := Q) (l.take m) (l.drop m) k a (fun i h1 h2 => by
    rw [hl] at h2
    rw [List.all_eq_true] at hk
    have := hk (i - k) (List.mem_range.2 (by omega))
    rw [show k + (i - k) = i from by omega] at this
    simpa using this) (by rw [hl]; exact h)
  rwa [List.take_append_drop] at this
theorem wpSt_done {Q : Exit → Act → World → Prop} {k : Nat} {a : Act} {wf : World} (hw : W effs.length = wf) (h : Q .normal a wf) : wpSt P ops W V effs (fun a' => Q .normal a' (W effs.length)) k [] a := by
  unfold wpSt
  rw [hw]
  exact h
theorem wpSt_eff {Q : Act → Prop} {k j : Nat} {o : Oper} {rest : List Oper} {v : Value} {a : Act} (hn : effs.Nodup) (hj : effs[j]? = some k) (hy : Eff P ops o v a (W j) (W (j + 1))) (h : wpSt P ops W V effs Q (k + 1) rest (a.put o.dst v)) : wpSt P ops W V effs Q k (o :: rest) a := by
  refine ⟨v, ⟨fun hm => absurd (List.mem_of_getElem? hj) hm, fun j' hj' => ?_⟩, h⟩
  obtain ⟨h1, h2⟩ := List.getElem?_eq_some_iff.1 hj
  obtain ⟨h3, h4⟩ := List.getElem?_eq_some_iff.1 hj'
  obtain rfl := (List.getElem_inj hn).1 (h2.trans h4.symm)
  exact hy

/-- Reads alone. -/
theorem wpIn_region_reads {id : Nat} {Q : Exit → Act → World → Prop} {a : Act} {w : World} {l : List Oper} (hF : ∀ f, F.fn f) (hm : P.follows .mixedOrders = true) (hB : Region.lexB .any l.toArray = true) (hE : stageB l.toArray [] = true)
    (h : wpQuiet P l.toArray (fun w' => ∃ _ : Nat, w' = w.drew) (fun a' => Q .normal a' w.drew) l a) : (Code.region id l.toArray true).wpIn F n P Q a w := by
  refine wpIn_region_stages (effs := []) (fun _ => w.drew) (fun _ => w.drew) 0 hF hm hB hE rfl (fun _ _ => ⟨0, rfl⟩) rfl ?_
  have := wpSt_quiet' (P := P) (ops := l.toArray) (W := fun _ => w.drew) (V := fun _ => w.drew) (effs := []) (Q := fun a' => Q .normal a' w.drew) l [] 0 a (by simp) (by simpa [wpSt] using h)
  simpa using this
end
end Go.Proofs.Ytpgiaofkabhgkaa
