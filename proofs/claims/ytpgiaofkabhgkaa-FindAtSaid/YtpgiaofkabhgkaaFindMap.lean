/-
  The map of package find: keys of a state and a byte.
-/
import Derived.Maps.OwnIn
import Derived.DeepKeys5
import Derived.KernelRfl
import Derived.WalkKit
import Derived.Test.YtpgiaofkabhgkaaChecked
import Derived.Test.YtpgiaofkabhgkaaPlainFind
namespace Go.Proofs.Ytpgiaofkabhgkaa
set_option linter.unusedVariables false
set_option linter.unusedSimpArgs false
open Go.RowKit Go.Maps

theorem laid3 : laidOutB Try.prog = true := by kernel_rfl
theorem keyed3 : Keyed Try.prog 85 := Keyed.of_law (deep_law_gate laid3 (of_decide_eq_true (by kernel_rfl)) (of_decide_eq_true (by kernel_rfl)) (by kernel_rfl) (by kernel_rfl))
theorem zero3 (w : World) : (zeroValue 3).run Try.prog w = .ok (.int .i64 0) w := by kernel_rfl
def kv (q c : Nat) : Value := .agg #[.int .i64 (q : Int), .int .i64 (c : Int)]
theorem cells_int3 : Try.prog.cellsOf 3 = 1 := by kernel_rfl
theorem cells_arr3 : Try.prog.cellsOf 85 = 2 := by kernel_rfl
theorem key_is {q c : Nat} (hq : q < 9223372036854775808) (hc : c < 9223372036854775808) : ∃ kl, keyOf Try.prog 85 (kv q c) = some kl := by
  have w1 : (Lit.int .i64 (q : Int)).wf = true := WalkArith.wf_i64 (by omega)
  have w2 : (Lit.int .i64 (c : Int)).wf = true := WalkArith.wf_i64 (by omega)
  have hk : Try.prog.keyType 85 = true := by kernel_rfl
  have hf : (kv q c).formed Try.prog 85 = true := by
    unfold kv
    simp [Value.formed, Try.underlying85, cells_arr3]
  unfold keyOf
  rw [Try.underlying85]
  simp only [hk, hf, Bool.and_self, if_true]
  have : ∃ ls, Program.keyLits Try.prog (Try.prog.types.size + 1) 85 (kv q c).cells.toList = some ls := by
    refine ⟨[.int .i64 q, .int .i64 c], ?_⟩
    have hs : ∃ n, Try.prog.types.size + 1 = n + 2 := ⟨Try.prog.types.size - 1, by have : 1 ≤ Try.prog.types.size := of_decide_eq_true (by kernel_rfl); omega⟩
    obtain ⟨n, hn⟩ := hs
    rw [hn]
    simp [Program.keyLits, kv, Value.cells, Try.underlying85, Try.underlying3, cells_int3, cells_arr3, w1, w2, List.range, List.range.loop]
  obtain ⟨ls, hls⟩ := this
  exact ⟨_, by rw [hls]; rfl⟩

theorem kv_inj {q c q' c' : Nat} (h : kv q c = kv q' c') : q = q' ∧ c = c' := by
  unfold kv at h
  simp at h
  omega

/-- Block b is the map of the transitions between the states of these labels. -/
def OwnsNext (w : World) (b n : Nat) (lab : List Word) : Prop :=
  ∃ D : DataW Unit, w.ownsMap Try.prog 85 (plainElem Try.prog 3) b n D ∧
    ∀ (q : Nat) (c : UInt8) (kl : Lit), keyOf Try.prog 85 (kv q c.toNat) = some kl →
      (∀ r, nxt lab q c = some r → Maps.has D kl = true ∧ D.atKey kl (.lit (.int .i64 0)) = .lit (.int .i64 (r : Int))) ∧ (nxt lab q c = none → Maps.has D kl = false)

theorem OwnsNext.lt {w : World} {b n : Nat} {lab : List Word} (h : OwnsNext w b n lab) : b < w.heap.size := by
  obtain ⟨D, hD, _⟩ := h
  exact hD.lt
theorem OwnsNext.kept {w w' : World} {b n : Nat} {lab : List Word} {row : Option Nat} (h : OwnsNext w b n lab) (hg : w.grownBy w' row) (hne : some b ≠ row) : OwnsNext w' b n lab := by
  obtain ⟨D, hD, hr⟩ := h
  exact ⟨D, hD.kept hg hne, hr⟩
theorem OwnsNext.found {w : World} {b n : Nat} {lab : List Word} (h : OwnsNext w b n lab) {q : Nat} (hq : q < 9223372036854775808) {c : UInt8} {r : Nat} (hr : nxt lab q c = some r) :
    (Instr.lookup 54 (.map (some b)) (kv q c.toNat) true).run Try.prog w = .ok (.tuple #[.int .i64 (r : Int), .bool true]) w := by
  obtain ⟨D, hD, hs⟩ := h
  have hc := c.toNat_lt
  obtain ⟨kl, hkl⟩ := key_is (q := q) (c := c.toNat) hq (by omega)
  obtain ⟨v, ps, hrun, hv⟩ := hD.look_ok keyed3 Try.underlying54 (zero3 w) (plainElem_int Try.underlying3 (by decide)) hkl
  obtain ⟨h1, h2⟩ := (hs q c kl hkl).1 r hr
  obtain ⟨a, rfl, ha, _⟩ := plainElem_int_inv Try.underlying3 hv
  rw [h2] at ha
  simp at ha
  rw [h1] at hrun
  rw [hrun, ha.1]
theorem OwnsNext.missed {w : World} {b n : Nat} {lab : List Word} (h : OwnsNext w b n lab) {q : Nat} (hq : q < 9223372036854775808) {c : UInt8} (hr : nxt lab q c = none) :
    ∃ x : Int, (Instr.lookup 54 (.map (some b)) (kv q c.toNat) true).run Try.prog w = .ok (.tuple #[.int .i64 x, .bool false]) w := by
  obtain ⟨D, hD, hs⟩ := h
  have hc := c.toNat_lt
  obtain ⟨kl, hkl⟩ := key_is (q := q) (c := c.toNat) hq (by omega)
  obtain ⟨v, ps, hrun, hv⟩ := hD.look_ok keyed3 Try.underlying54 (zero3 w) (plainElem_int Try.underlying3 (by decide)) hkl
  have h1 := (hs q c kl hkl).2 hr
  obtain ⟨a, rfl, ha, _⟩ := plainElem_int_inv Try.underlying3 hv
  rw [h1] at hrun
  exact ⟨a, hrun⟩
theorem OwnsNext.put {w : World} {b n : Nat} {lab : List Word} {ends : List (Nat × Word)} {sts : List St} (h : OwnsNext w b n lab) (hA : Auto lab ends sts) (hn : n < maxLen) {q : Nat} (hq : q < 9223372036854775808) {c : UInt8} {u : Word} (hu : lab[q]? = some u) (hnew : u ++ [c] ∉ lab) (hl : lab.length < 9223372036854775808) :
    ∃ w', (Instr.mapUpdate 54 (.map (some b)) (kv q c.toNat) (.int .i64 (lab.length : Int))).run Try.prog w = .ok () w' ∧ OwnsNext w' b (n + 1) (lab ++ [u ++ [c]]) ∧ w.grownBy w' (some b) := by
  obtain ⟨D, hD, hs⟩ := h
  have hc := c.toNat_lt
  obtain ⟨kl, hkl⟩ := key_is (q := q) (c := c.toNat) hq (by omega)
  have hv : plainElem (H := Unit) Try.prog 3 (.int .i64 (lab.length : Int)) = some (.lit (.int .i64 (lab.length : Int)), []) := plainElem_int Try.underlying3 (WalkArith.wf_i64 (by omega))
  obtain ⟨w', hrun, hD', hg⟩ := hD.update keyed3 Try.underlying54 hn hkl hv
  have hT := hD.isMap
  have hkk := keyed3.key hkl
  refine ⟨w', hrun, ⟨_, hD', fun q' c' kl' hkl' => ?_⟩, hg⟩
  rw [nxt_child hA hu hnew]
  by_cases he : q' = q ∧ c' = c
  · rw [if_pos he]
    obtain ⟨rfl, rfl⟩ := he
    rw [hkl] at hkl'
    cases hkl'
    refine ⟨fun r hr => ?_, fun hr => by cases hr⟩
    cases hr
    exact ⟨has_put_same hT hkk _, atKey_put_same hT hkk _ _⟩
  · rw [if_neg he]
    have hne : kl' ≠ kl := fun e => by
      subst e
      obtain ⟨e1, e2⟩ := kv_inj (keyed3.inj hkl' hkl)
      exact he ⟨e1, UInt8.toNat_inj.1 e2⟩
    rw [has_put_other hne, atKey_put_other hne]
    exact hs q' c' kl' hkl'
theorem ownsNext_made (w : World) : OwnsNext (w.alloc (.map #[] 0)) w.heap.size 0 [[]] := by
  refine ⟨_, World.ownsMap_made w _ _ _, fun q c kl _ => ⟨fun r hr => ?_, fun _ => rfl⟩⟩
  unfold nxt at hr
  cases q with
  | zero => simp [pos] at hr
  | succ q => simp at hr
theorem run_makeMap_hint (k : Int) (w : World) : (Instr.makeMap 54 (some (.int .i64 k))).run Try.prog w = .ok (.map (some w.heap.size)) (w.alloc (.map #[] 0)) := by
  simp [Instr.makeMap, run_underlying Try.underlying54, asInt, Result.andThen]
  rfl
end Go.Proofs.Ytpgiaofkabhgkaa
