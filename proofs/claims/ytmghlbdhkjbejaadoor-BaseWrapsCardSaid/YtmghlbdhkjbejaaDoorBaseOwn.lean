/-
  The digits' table, and bytes that a call owns.
-/
import Derived.Test.YtmghlbdhkjbejaaDoorBytesOwn
import Derived.Test.YtmghlbdhkjbejaaDoorPlainBase
import Derived.WalkKit
import Derived.Below
import Derived.Lib.Hide
import Derived.WalkLawsBesides
import Derived.WalkSpells
import Derived.Handy
import Derived.SliceStrings
import Derived.WalkMore
import Derived.Lib.EndianBits
import Derived.Laws.AppendOwn
namespace Go.Proofs.YtmghlbdhkjbejaaDoor
set_option linter.unusedVariables false
set_option linter.unusedSimpArgs false
open Go.RowKit

/-- The digits' table reads as the chapter's. -/
def Tab (w : World) : Prop := ∀ v : Nat, v < 64 → w.cell? ⟨0, v, none⟩ = some (.int .u8 ((dig v).toNat : Int))
theorem Tab.lt {w : World} (h : Tab w) : 0 < w.heap.size := by
  have := h 0 (by decide)
  rcases Nat.lt_or_ge 0 w.heap.size with h1 | h1
  · exact h1
  · simp [World.cell?, Array.getElem?_eq_none h1] at this
theorem Tab.below {w w' : World} (h : Tab w) (hb : Below w.heap.size w w') : Tab w' := fun v hv => by
  rw [World.cell?_of_block (hb.block 0 h.lt)]
  exact h v hv
def byteV (u : UInt8) : Value := .int .u8 (u.toNat : Int)
def cellsB (l : List UInt8) : List Value := l.map byteV
theorem strCells_of (l : List UInt8) : Lib.strCells ⟨l.toArray⟩ = cellsB l := by rfl
theorem cellsB_app (a b : List UInt8) : cellsB (a ++ b) = cellsB a ++ cellsB b := by unfold cellsB; rw [List.map_append]
/-- 'make([]byte, 0, c)'. -/
theorem make_bytes (w : World) (z : Int) (c : Nat) (hz : z = (c : Int)) (hc : c ≤ 10000000) : ∃ cur : Array Value, cur.size = c ∧ (Instr.makeSlice 31 (.int .i64 0) (.int .i64 z)).run Tryd.prog w = .ok (.slice (some ⟨w.heap.size, 0, none⟩) 0 c) (w.alloc (.cells cur 5)) := by
  subst hz
  obtain ⟨i0, hi, hz0, hz1, hz2⟩ := info_parts infoU8
  have h := run_makeSlice (w := w) (P := Tryd.prog) 31 5 i0 (.int .u8 0) Tryd.underlying31 hi hz0 .i64 .i64 0 (c : Int) (by decide) (by omega) (by rw [hz1]; omega) (by rw [hz2]; omega) (by omega)
  rw [hz1, Nat.mul_one] at h
  refine ⟨_, ?_, h⟩
  rw [size_madeCells]
  simp
theorem take_snoc {α : Type} {L : List α} {k : Nat} {x : α} (h : L[k]? = some x) : L.take (k + 1) = L.take k ++ [x] := by
  rw [List.take_add_one, h]; rfl
/-- 'bits<<8 | uint32(c)'. -/
theorem or_byte (B c : Nat) (hc : c < 256) : bits .or .u32 ((B : Int) * 256 % 4294967296) (c : Int) = ((B * 256 % 4294967296 + c : Nat) : Int) := by
  rw [bits_join .u32 32 (by decide) wraps_u32 8 ((B : Int) * 256 % 4294967296) (c : Int) (by omega) (by omega) (by omega) (by omega) (by omega) (by omega)]
  omega
/-- 'bits<<6 | uint32(v)'. -/
theorem or_digit (B c : Nat) (hc : c < 64) : bits .or .u32 ((B : Int) * 64 % 4294967296) (c : Int) = ((B * 64 % 4294967296 + c : Nat) : Int) := by
  rw [bits_join .u32 32 (by decide) wraps_u32 6 ((B : Int) * 64 % 4294967296) (c : Int) (by omega) (by omega) (by omega) (by omega) (by omega) (by omega)]
  omega
/-- 'x & 63'. -/
theorem and63 (x : Nat) (hx : x < 4294967296) : bits .and .u32 (x : Int) 63 = ((x % 64 : Nat) : Int) := by
  have h := (bits_nat .u32 32 (by decide) wraps_u32 x 63 hx (by decide)).1
  rw [show ((63 : Nat) : Int) = 63 from rfl] at h
  rw [h, show (63 : Nat) = 2 ^ 6 - 1 from rfl, Nat.and_two_pow_sub_one_eq_mod]
end Go.Proofs.YtmghlbdhkjbejaaDoor
