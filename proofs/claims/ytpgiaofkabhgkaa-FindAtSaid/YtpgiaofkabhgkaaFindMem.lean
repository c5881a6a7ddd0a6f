/-
  How a Many of package find lies in memory.
-/
import Derived.Test.YtpgiaofkabhgkaaFindMap
import Derived.Maps.AppendAt
import Derived.Handy
import Derived.Lib.Hide
namespace Go.Proofs.Ytpgiaofkabhgkaa
set_option linter.unusedVariables false
set_option linter.unusedSimpArgs false
open Go.RowKit

def stCells (x : St × Value) : List Value := [.int .i64 (x.1.depth : Int), .int .i64 (x.1.fall : Int), .int .i64 (x.1.word : Int), x.2]
def rowCells (sts : List St) (vs : List Value) : List Value := (sts.zip vs).flatMap stCells
def natCells (l : List Nat) : List Value := l.map fun (i : Nat) => Value.int .i64 (i : Int)
theorem rowCells_at : ∀ (sts : List St) (vs : List Value) (q : Nat) (s : St) (v : Value), sts[q]? = some s → vs[q]? = some v → ∀ j, j < 4 → (rowCells sts vs)[4 * q + j]? = (stCells (s, v))[j]?
  | [], _, q, s, v, h, _, _, _ => by simp at h
  | _ :: _, [], q, s, v, _, h, _, _ => by simp at h
  | a :: sts, b :: vs, 0, s, v, h1, h2, j, hj => by
    simp at h1 h2
    subst h1 h2
    unfold rowCells
    rw [List.zip_cons_cons, List.flatMap_cons, Nat.mul_zero, Nat.zero_add, List.getElem?_append_left (by simp [stCells]; omega)]
  | a :: sts, b :: vs, q + 1, s, v, h1, h2, j, hj => by
    simp at h1 h2
    have := rowCells_at sts vs q s v h1 h2 j hj
    unfold rowCells at this ⊢
    rw [List.zip_cons_cons, List.flatMap_cons, List.getElem?_append_right (by simp [stCells]; omega)]
    rw [← this]
    congr 1
    simp [stCells]
    omega
theorem rowCells_len (sts : List St) (vs : List Value) (h : vs.length = sts.length) : (rowCells sts vs).length = sts.length * 4 := by
  unfold rowCells
  rw [List.length_flatMap]
  have : ∀ l : List (St × Value), (l.map fun x => (stCells x).length).sum = l.length * 4 := by
    intro l
    induction l with
    | nil => rfl
    | cons a l ih => simp only [List.map_cons, List.sum_cons, ih, List.length_cons]; simp [stCells]; omega
  rw [this, List.length_zip, h, Nat.min_self]

structure MemAt (w : World) (base mp c bm n sg scap : Nat) (vs : List Value) (lab : List Word) (sts : List St) : Prop where
  head : w.heap[mp]? = some (.cells #[.int .i64 (c : Int), .map (some bm), .slice (some ⟨sg, 0, none⟩) sts.length scap] 57 (0, 0))
  next : OwnsNext w bm n lab
  row : w.ownsRow base 65 4 (.slice (some ⟨sg, 0, none⟩) sts.length scap) sts.length (rowCells sts vs)
  vlen : vs.length = sts.length
  whi : ∀ (q : Nat) (s : St) (v : Value), sts[q]? = some s → vs[q]? = some v → w.ownsRow base 3 1 v s.which.length (natCells s.which)
  apart : ∀ (q q' : Nat) (v v' : Value), q ≠ q' → vs[q]? = some v → vs[q']? = some v' → v.ownBlock = none ∨ v.ownBlock ≠ v'.ownBlock

section
variable {w : World} {base mp c bm n sg scap : Nat} {vs : List Value} {lab : List Word} {sts : List St}
theorem MemAt.lt (h : MemAt w base mp c bm n sg scap vs lab sts) : mp < w.heap.size := (Array.getElem?_eq_some_iff.1 h.head).1
theorem MemAt.cell0 (h : MemAt w base mp c bm n sg scap vs lab sts) : w.cell? ⟨mp, 0, none⟩ = some (.int .i64 (c : Int)) := by simp [World.cell?, h.head]
theorem MemAt.cell1 (h : MemAt w base mp c bm n sg scap vs lab sts) : w.cell? ⟨mp, 1, none⟩ = some (.map (some bm)) := by simp [World.cell?, h.head]
theorem MemAt.cell2 (h : MemAt w base mp c bm n sg scap vs lab sts) : w.cell? ⟨mp, 2, none⟩ = some (.slice (some ⟨sg, 0, none⟩) sts.length scap) := by simp [World.cell?, h.head]
theorem MemAt.frozen (h : MemAt w base mp c bm n sg scap vs lab sts) (j : Nat) : w.frozen? ⟨mp, j, none⟩ = false := by simp [World.frozen?, h.head]
theorem MemAt.val (h : MemAt w base mp c bm n sg scap vs lab sts) {q : Nat} {s : St} (hs : sts[q]? = some s) : ∃ v, vs[q]? = some v := by
  have := (List.getElem?_eq_some_iff.1 hs).1
  exact ⟨_, List.getElem?_eq_getElem (by rw [h.vlen]; exact this)⟩
theorem MemAt.st (h : MemAt w base mp c bm n sg scap vs lab sts) {q : Nat} {s : St} {v : Value} (hs : sts[q]? = some s) (hv : vs[q]? = some v) (j : Nat) (hj : j < 4) : w.cell? ⟨sg, q * 4 + j, none⟩ = (stCells (s, v))[j]? := by
  have hq := (List.getElem?_eq_some_iff.1 hs).1
  rw [World.ownsRow.cellAt h.row (q * 4 + j) (by omega), Nat.mul_comm]
  exact rowCells_at sts vs q s v hs hv j hj
theorem MemAt.st0 (h : MemAt w base mp c bm n sg scap vs lab sts) {q : Nat} {s : St} (hs : sts[q]? = some s) : w.cell? ⟨sg, q * 4, none⟩ = some (.int .i64 (s.depth : Int)) := by
  obtain ⟨v, hv⟩ := h.val hs
  exact h.st hs hv 0 (by omega)
theorem MemAt.st1 (h : MemAt w base mp c bm n sg scap vs lab sts) {q : Nat} {s : St} (hs : sts[q]? = some s) : w.cell? ⟨sg, q * 4 + 1, none⟩ = some (.int .i64 (s.fall : Int)) := by
  obtain ⟨v, hv⟩ := h.val hs
  exact h.st hs hv 1 (by omega)
theorem MemAt.st2 (h : MemAt w base mp c bm n sg scap vs lab sts) {q : Nat} {s : St} (hs : sts[q]? = some s) : w.cell? ⟨sg, q * 4 + 2, none⟩ = some (.int .i64 (s.word : Int)) := by
  obtain ⟨v, hv⟩ := h.val hs
  exact h.st hs hv 2 (by omega)
theorem MemAt.st3 (h : MemAt w base mp c bm n sg scap vs lab sts) {q : Nat} {s : St} (hs : sts[q]? = some s) {v : Value} (hv : vs[q]? = some v) : w.cell? ⟨sg, q * 4 + 3, none⟩ = some v := h.st hs hv 3 (by omega)
theorem MemAt.below {w' : World} (h : MemAt w base mp c bm n sg scap vs lab sts) (hb : Below w.heap.size w w') : MemAt w' base mp c bm n sg scap vs lab sts := by
  have hg : w.grownBy w' none := ⟨hb.os, hb.tape, hb.output, hb.size, fun k hk _ => hb.block k hk⟩
  refine ⟨(hb.block mp h.lt).trans h.head, h.next.kept hg (by simp), h.row.kept hg (.inr (by simp [Value.ownBlock])), h.vlen, fun q s v hs hv => ?_, h.apart⟩
  have := h.whi q s v hs hv
  cases hv' : v.ownBlock with
  | none => exact this.kept hg (.inl hv')
  | some k => exact this.kept hg (.inr (by rw [hv']; simp))
end

set_option maxRecDepth 100000 in
set_option maxHeartbeats 1000000 in
theorem step_any {w : World} {base mp c bm n sg scap : Nat} {vs : List Value} {lab : List Word} {sts : List St} {ends : List (Nat × Word)} (hM : MemAt w base mp c bm n sg scap vs lab sts) (hA : Auto lab ends sts) (hsz : sts.length < 1000000000000)
    {q : Nat} {u : Word} (hq : lab[q]? = some u) (b : UInt8) :
    Calls Try.prog 35 #[.pointer (some ⟨mp, 0, none⟩), .int .i64 (q : Int), .int .u8 (b.toNat : Int)] w fun e w' => (∃ r : Nat, e = .returned (.int .i64 (r : Int)) ∧ ∃ v, lab[r]? = some v ∧ Long lab (u ++ [b]) v) ∧ w = w' := by
  have c1 := hM.cell1
  have c2 := hM.cell2
  have HM := Lib.hid hM
  have HA := Lib.hid hA
  have Hq := Lib.hid hq
  have hb := b.toNat_lt
  clear hM hA hq
  go_enter Try.func35, Try.ntmps35
  go_wp2
  go_loop [1] (fun at_ => ∃ (p : Nat) (v : Word), at_ = .int .i64 (p : Int) ∧ lab[p]? = some v ∧ Hid (StepAt lab u b v)) (fun at_ => ((lab[(intOf at_).toNat]?).map List.length).getD 0)
  case atStart => exact ⟨q, u, rfl, Hq.out, Lib.hid (stepAt_start (List.mem_of_getElem? Hq.out))⟩
  case round =>
    obtain ⟨p, v, rfl, hp, Hst⟩ := hrel
    have hpl := (List.getElem?_eq_some_iff.1 hp).1
    rw [← HA.out.len] at hpl
    have Hp := Lib.hid hp
    clear hp
    cases hx : nxt lab p b with
    | some r =>
      have hrun := HM.out.next.found (by omega) hx
      unfold kv at hrun
      have Hx := Lib.hid hx
      clear hx
      go_wp2
      go_ret
      refine ⟨⟨r, rfl, v ++ [b], ?_, ?_⟩, rfl⟩
      · have := Hx.out; rw [nxt_of Hp.out] at this; exact (pos_some HA.out.nodup).1 this
      · refine stepAt_found Hst.out ?_
        have := Hx.out; rw [nxt_of Hp.out] at this; exact List.mem_of_getElem? ((pos_some HA.out.nodup).1 this)
    | none =>
      obtain ⟨x, hrun⟩ := HM.out.next.missed (by omega) hx
      unfold kv at hrun
      have hmiss : v ++ [b] ∉ lab := by rw [nxt_of Hp.out] at hx; exact pos_none.1 hx
      have Hmiss := Lib.hid hmiss
      clear hx hmiss
      by_cases h0 : p = 0
      · subst h0
        rw [show ((0 : Nat) : Int) = 0 from rfl] at hrun
        go_wp2
        go_ret
        refine ⟨⟨0, rfl, [], HA.out.zero, ?_⟩, rfl⟩
        have e : v = [] := by have := Hp.out; rw [HA.out.zero] at this; exact (Option.some.inj this).symm
        subst e
        exact stepAt_root Hst.out Hmiss.out
      · have e0 : ((p : Int) == 0) = false := by simp; omega
        obtain ⟨s, hs⟩ : ∃ s, sts[p]? = some s := ⟨_, List.getElem?_eq_getElem hpl⟩
        have cf := HM.out.st1 hs
        have hvne : v ≠ [] := fun e => by
          subst e
          obtain ⟨h1, h2⟩ := List.getElem?_eq_some_iff.1 Hp.out
          obtain ⟨h3, h4⟩ := List.getElem?_eq_some_iff.1 HA.out.zero
          exact h0 ((List.getElem_inj HA.out.nodup).1 (h2.trans h4.symm))
        obtain ⟨v', hv', hF⟩ := HA.out.fall p v s Hp.out hs hvne
        have HF := Lib.hid hF
        have Hv' := Lib.hid hv'
        have hm : ((lab[s.fall]?).map List.length).getD 0 < ((lab[p]?).map List.length).getD 0 := by
          rw [hv', Hp.out]
          exact fall_short hF
        have Hm := Lib.hid hm
        clear hF hv' hs hm
        go_wp2
        go_round
        case rel => exact ⟨s.fall, v', rfl, Hv'.out, Lib.hid (stepAt_fall HA.out.closed Hst.out Hmiss.out HF.out)⟩
        case measure => simpa [intOf] using Hm.out
end Go.Proofs.Ytpgiaofkabhgkaa
