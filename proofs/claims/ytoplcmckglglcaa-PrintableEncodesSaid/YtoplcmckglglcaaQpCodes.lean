/-
  nuncio/qp.codes: an iterator over the codes of a text from an offset on.
-/
import Derived.RangeFuncNested
import Derived.RangeFuncBound
import Derived.RangeFuncCalls
import Derived.RangeFuncLeaves
import Derived.Shelf.Abstract
import Derived.Shelf.RegionOpen
import Derived.OwnWalkIn
import Derived.TacticsInMore
import Derived.LoopNIn
import Derived.LoopIn
import Derived.Test.YtoplcmckglglcaaOwn
import Derived.Test.YtoplcmckglglcaaQpAt
namespace Go.Proofs.Ytoplcmckglglcaa
set_option linter.unusedVariables false
set_option linter.unusedSimpArgs false
open Go.RowKit Go.Shelf
attribute [local go_sem] Oper.semAt_some

/-- A code. -/
abbrev CodeV := { x : ByteArray // 1 ≤ x.size ∧ x.size ≤ 3 }
def codeArgs (x : CodeV) : Array Value := #[.string x.1]
/-- The codes of a text. -/
def marksQ : List UInt8 → List (List UInt8)
  | [] => []
  | c :: r => markQ c r :: marksQ r
theorem marksQ_len (l : List UInt8) : (marksQ l).length = l.length := by
  induction l with
  | nil => rfl
  | cons c r ih => rw [marksQ, List.length_cons, ih]; rfl
def codeVAt (s : ByteArray) (k : Nat) (h : k < s.size) : CodeV := ⟨⟨(markQ s[k] (s.data.toList.drop (k + 1))).toArray⟩, markQ_len s[k] (s.data.toList.drop (k + 1))⟩
/-- The codes from fr on so far. -/
def UpC (s : ByteArray) (fr : Nat) (pre : List CodeV) : Prop := (pre.map fun x => x.1.data.toList) ++ marksQ (s.data.toList.drop (fr + pre.length)) = marksQ (s.data.toList.drop fr) ∧ fr + pre.length ≤ s.size
theorem UpC.next {s : ByteArray} {fr : Nat} {pre : List CodeV} (h : UpC s fr pre) (hk : fr + pre.length < s.size) : UpC s fr (pre ++ [codeVAt s (fr + pre.length) hk]) := by
  obtain ⟨h1, h2⟩ := h
  refine ⟨?_, by rw [List.length_append]; show fr + (pre.length + 1) ≤ _; omega⟩
  have e : s.data.toList.drop (fr + pre.length) = s[fr + pre.length] :: s.data.toList.drop (fr + pre.length + 1) := List.drop_eq_getElem_cons (by exact hk)
  rw [← h1, e, marksQ, List.map_append, List.append_assoc, List.length_append]
  rfl

/-- Two blocks lie as they lay. -/
def KeepTwo (Bf Bs : Nat) (W W' : World) : Prop := W'.heap[Bf]? = W.heap[Bf]? ∧ W'.heap[Bs]? = W.heap[Bs]?
theorem KeepTwo.t {Bf Bs : Nat} {A B C : World} (h : KeepTwo Bf Bs A B) (k : KeepTwo Bf Bs B C) : KeepTwo Bf Bs A C := ⟨k.1.trans h.1, k.2.trans h.2⟩
theorem KeepTwo.b {Bf Bs : Nat} {w : World} (h1 : Bf < w.heap.size) (h2 : Bs < w.heap.size) (W : World) (l : Nat) (o o' : Obj) (hl : w.heap.size ≤ l) (_ : W.heap[l]? = some o) (_ : o.isCells = false) (_ : o.isWalk = false) : KeepTwo Bf Bs W (W.putObj l o') :=
  ⟨World.putObj_heap_other (by omega), World.putObj_heap_other (by omega)⟩

set_option maxRecDepth 100000 in
set_option maxHeartbeats 1000000 in
theorem codes1_in (n : Nat) (hn : 1 ≤ n) (l Bf Bs : Nat) (s : ByteArray) (fr : Nat) (hfr : fr ≤ s.size) (hsz : s.size ≤ 100000) (J Jx : List CodeV → World → Prop) (hJab : ∀ pre W' W'', J pre W' → Below W'.heap.size W' W'' → J pre W'')
    (hY : ∀ pre x W, J pre W → pre.length < s.size + 1 → YieldAt Fence.wide (n - 1) Try.prog l (codeArgs x) W fun e W' =>
      (e = .returned (.bool true) ∧ J (pre ++ [x]) W' ∧ KeepTwo Bf Bs W W') ∨ (e = .returned (.bool false) ∧ Jx (pre ++ [x]) W'))
    (W : World) (hcf : Boxed W Bf 3 (.int .i64 (fr : Int))) (hcs : Boxed W Bs 9 (.string s)) (h0 : J [] W) :
    CallsIn Fence.wide n Try.prog 21 #[.func (.yield l) #[] #[], .pointer (some ⟨Bf, 0, none⟩), .pointer (some ⟨Bs, 0, none⟩)] W fun e W' => (∃ v, e = .returned v) ∧
      ((∃ ys : List CodeV, (UpC s fr ys ∧ fr + ys.length = s.size) ∧ J ys W') ∨ (∃ pre : List CodeV, UpC s fr pre ∧ Jx pre W')) := by
  refine callsIn_of_wp Try.func21 rfl trivial ?_ rfl
  simp only [Try.ntmps21, List.size_toArray, List.length_cons, List.length_nil, Nat.reduceAdd, Nat.reduceSub, Array.replicate_succ, Array.replicate_zero, List.push_toArray, List.append_toArray, List.nil_append, List.cons_append]
  have hcf0 := hcf.cell
  have hcs0 := hcs.cell
  gi_wp2
  gi_loopw [4] (fun i wr => ∃ (k : Nat) (pre : List CodeV), i = .int .i64 (k : Int) ∧ k = fr + pre.length ∧ UpC s fr pre ∧ J pre wr ∧ Boxed wr Bf 3 (.int .i64 (fr : Int)) ∧ Boxed wr Bs 9 (.string s))
    (fun i wr => s.size - (intOf i).toNat)
  case atStart =>
    exact ⟨fr, [], rfl, rfl, ⟨rfl, hfr⟩, h0, hcf, hcs⟩
  case round =>
    obtain ⟨k, pre, rfl, hk, hup, hJ, hf, hs⟩ := hrel
    have hk2 := hup.2
    have hcs1 := hs.cell
    clear hcf0 hcs0
    by_cases hlt : fr + pre.length < s.size
    · have Hup := Lib.hid (hup.next hlt)
      rw [← hk] at hlt
      have kC := fun (W : World) => codeAt_any W s k hlt hsz
      obtain ⟨x, hx⟩ : ∃ x, x = codeVAt s k hlt := ⟨_, rfl⟩
      have hx1 : (⟨(markQ s[k] (s.data.toList.drop (k + 1))).toArray⟩ : ByteArray) = x.1 := by rw [hx]; rfl
      rw [hx1] at kC
      have Hx := Lib.hid hx
      rw [show codeVAt s (fr + pre.length) (hk ▸ hlt) = x from by rw [hx]; subst hk; rfl] at Hup
      have Hk := Lib.hid hk
      have hk3 : pre.length < s.size + 1 := by omega
      clear hx hup hx1 hk
      gi_wp2_with fail
      refine ⟨trivial, ?_⟩
      refine (callsIn_wide.2 (kC _)).mono ?_
      rintro e w' ⟨rfl, hb'⟩
      obtain ⟨fn, tmps, assign, body, hy, hR⟩ := hY pre x w' (hJab _ _ _ hJ hb') hk3
      dsimp only [codeArgs] at hy
      gi_wp2_with fail
      have hf2 := boxed_below hf hb'
      have hs2 := boxed_below hs hb'
      refine hR.mono ?_
      rintro e W3 (⟨rfl, hJ3, hk3⟩ | ⟨rfl, hJx3⟩)
      · have hf3 : Boxed W3 Bf 3 (.int .i64 (fr : Int)) := hk3.1.trans hf2
        have hs3 : Boxed W3 Bs 9 (.string s) := hk3.2.trans hs2
        gi_wp2
        go_roundw
        case rel => exact ⟨k + 1, pre ++ [x], by go_num, by rw [List.length_append]; have := Hk.out; show k + 1 = fr + (pre.length + 1); omega, Hup.out, hJ3, hf3, hs3⟩
        case measure => simp [intOf]; omega
      · gi_wp2
        refine bodyPost_ret (results_none rfl _ _ _) rfl ?_
        exact ⟨⟨_, rfl⟩, .inr ⟨_, Hup.out, hJx3⟩⟩
    · have hltI : decide ((k : Int) < (s.size : Int)) = false := decide_eq_false (by omega)
      gi_wp2
      go_end0
      exact ⟨⟨_, rfl⟩, .inl ⟨pre, ⟨hup, by omega⟩, hJ⟩⟩

theorem codes_in (n : Nat) (s : ByteArray) (fr : Nat) (w : World) :
    CallsIn Fence.wide n Try.prog 12 #[.string s, .int .i64 (fr : Int)] w fun e w' => e = .returned (.func (.func 21) #[] #[.pointer (some ⟨w.heap.size + 1, 0, none⟩), .pointer (some ⟨w.heap.size, 0, none⟩)]) ∧ w' = (w.alloc (.cells #[.string s] 9)).alloc (.cells #[.int .i64 (fr : Int)] 3) := by
  refine callsIn_of_wp Try.func12 rfl trivial ?_ rfl
  simp only [Try.ntmps12, List.size_toArray, List.length_cons, List.length_nil, Nat.reduceAdd, Nat.reduceSub, Array.replicate_succ, Array.replicate_zero, List.push_toArray, List.append_toArray, List.nil_append, List.cons_append]
  gi_wp2
  go_ret
  exact ⟨rfl, rfl⟩

theorem codes_stops (n : Nat) (hn : 1 ≤ n) (Bf Bs : Nat) (s : ByteArray) (fr : Nat) (hfr : fr ≤ s.size) (hsz : s.size ≤ 100000) (w : World)
    (hcf : Boxed w Bf 3 (.int .i64 (fr : Int))) (hcs : Boxed w Bs 9 (.string s)) :
    SeqStopsK Fence.wide n Try.prog 21 #[.pointer (some ⟨Bf, 0, none⟩), .pointer (some ⟨Bs, 0, none⟩)] codeArgs (KeepTwo Bf Bs) (fun ys => UpC s fr ys ∧ fr + ys.length = s.size) (fun pre => UpC s fr pre) (s.size + 1) w := fun l J Jx W hW hJ _ hY h0 =>
  codes1_in n hn l Bf Bs s fr hfr hsz J Jx (fun pre W' W'' h hb => hJ pre W' W'' none h (grownBy_of_below hb none) (fun r e => by cases e)) hY W (boxed_below hcf hW) (boxed_below hcs hW) h0
end Go.Proofs.Ytoplcmckglglcaa
