/-
  Two effects of a drawn region: a variable made, and an aggregate stored into it.
-/
import Derived.Test.YtpgiaofkabhgkaaFindChild
import Derived.Deep.WholeRow
import Derived.Below
import Derived.RangeFuncOwn
namespace Go.Proofs.Ytpgiaofkabhgkaa
set_option linter.unusedVariables false
set_option linter.unusedSimpArgs false
open Go.RowKit
section
variable {P : Program} {ops : Array Oper} {o : Oper} {a : Act} {w w' : World}
theorem eff_alloc (hg : o.guard = none) {t : TypeId} (ho : o.op = .alloc t) {v : Value} (hr : (Instr.alloc t true (.tuple #[])).run P w = .ok v w') : Eff P ops o v a w w' := by
  refine ⟨by simp [Region.wanted, hg], .inl ?_⟩
  simp [execOp, ho, hr, Result.andThen]
theorem run_alloc_zero {t : TypeId} {z : Value} (hz : (P.info? t).map (fun i => i.zero) = some (some z)) (w : World) : (Instr.alloc t true (.tuple #[])).run P w = .ok (.pointer (some ⟨w.heap.size, 0, none⟩)) (w.alloc (.cells z.cells t)) := by
  cases hq : P.info? t with
  | none => simp [hq] at hz
  | some i =>
    simp [hq] at hz
    simp [Instr.alloc, zeroValue, typeInfo, hq, hz, Result.andThen, newVar, newRow]
theorem below_setRow {B : Nat} {w0 w : World} (h : Below B w0 w) {g : Nat} (hg : B ≤ g) (c : Array Value) : Below B w0 (w.setRow g c) := ⟨h.os, h.tape, h.output, by rw [setRow_size]; exact h.size, fun k hk => (setRow_other w g k c (by omega)).trans (h.block k hk)⟩
theorem keeps_setRow (w : World) (g : Nat) (c : Array Value) : KeepsOthers w (w.setRow g c) := ⟨by rw [setRow_size]; exact Nat.le_refl _, fun k o hk ho => by
  by_cases e : k = g
  · subst e
    simp only [World.setRow, Array.getElem?_modify, if_true, hk, Option.map_some]
    cases o <;> first | rfl | simp [Obj.isCells] at ho
  · rw [setRow_other w g k c e]
    exact hk⟩
theorem run_storeAt_row (w : World) (g : Nat) (t ty : TypeId) (old cells : Array Value) (hg : w.heap[g]? = some (.cells old t (0, 0))) (hi : (P.info? ty).map (·.size) = some cells.size) (ho : old.size = cells.size) (h1 : cells.all (·.oneCell') = true) :
    (Instr.storeAt ty (.pointer (some ⟨g, 0, none⟩)) (.agg cells)).run P w = .ok () (w.setRow g cells) := by
  simp only [Instr.storeAt, Instr.sureAddr, Sem.run_bind, Sem.run_pure, Result.andThen_ok, run_storeVar_row w g t ty old cells hg hi ho h1]
theorem run_storeAt_one (w : World) (g : Nat) (t ty : TypeId) (old v : Value) (hg : w.heap[g]? = some (.cells #[old] t (0, 0))) (hi : (P.info? ty).map (·.size) = some 1) (h1 : v.oneCell' = true) :
    (Instr.storeAt ty (.pointer (some ⟨g, 0, none⟩)) v).run P w = .ok () (w.setRow g #[v]) := by
  simp only [Instr.storeAt, Instr.sureAddr, Sem.run_bind, Sem.run_pure, Result.andThen_ok, run_storeVar_one w g t ty old v hg hi h1]
end
end Go.Proofs.Ytpgiaofkabhgkaa
