/-
  'make([]byte, 0, c)'.
-/
import Derived.Test.YtahkfoaogcbecaaBytesOwn
import Derived.WalkKit
import Derived.SliceStrings
import Derived.Laws.AppendOwn
import Derived.WalkMore
namespace Go.Proofs.Ytahkfoaogcbecaa
set_option linter.unusedVariables false
set_option linter.unusedSimpArgs false
open Go.RowKit

theorem make_bytes (w : World) (z : Int) (c : Nat) (hz : z = (c : Int)) (hc : c ≤ 10000000) : ∃ cur : Array Value, cur.size = c ∧ (Instr.makeSlice 33 (.int .i64 0) (.int .i64 z)).run Try.prog w = .ok (.slice (some ⟨w.heap.size, 0, none⟩) 0 c) (w.alloc (.cells cur 5)) := by
  subst hz
  obtain ⟨i0, hi, hz0, hz1, hz2⟩ := info_parts infoU8
  have h := run_makeSlice (w := w) (P := Try.prog) 33 5 i0 (.int .u8 0) Try.underlying33 hi hz0 .i64 .i64 0 (c : Int) (by decide) (by omega) (by rw [hz1]; omega) (by rw [hz2]; omega) (by omega)
  rw [hz1, Nat.mul_one] at h
  refine ⟨_, ?_, h⟩
  rw [size_madeCells]
  simp
end Go.Proofs.Ytahkfoaogcbecaa
