/-
  nuncio/jstr.steps: an iterator over the runes of a text, as Next tells them.
-/
import Derived.RangeFuncNested
import Derived.RangeFuncBound
import Derived.RangeFuncCalls
import Derived.RangeFuncLeaves
import Derived.Shelf.Abstract
import Derived.Shelf.RegionOpen
import Derived.OwnWalkIn
import Derived.TacticsInMore
import Derived.LoopNIn
import Derived.LoopIn
import Derived.Test.YtahkfoaogcbecaaUtfNext
import Derived.Test.YtahkfoaogcbecaaPlainQuoted
import Derived.Test.YtahkfoaogcbecaaOwn
namespace Go.Proofs.Ytahkfoaogcbecaa
set_option linter.unusedVariables false
set_option linter.unusedSimpArgs false
open Go.RowKit Go.Shelf
attribute [local go_sem] Oper.semAt_some

/-- A rune. -/
abbrev RuneV := { r : Nat // isRune r }
def runeArgs (x : RuneV) : Array Value := #[.int .i32 (x.1 : Int)]
def runeAtV (s : ByteArray) (k : Nat) (h : k < s.size) : RuneV := ⟨(nxS s k).1, (nxS_ok s k h).1⟩
/-- The runes of s so far, up to offset k. -/
def UpR (s : ByteArray) (k : Nat) (pre : List RuneV) : Prop := pre.map (·.1) ++ runesJ (s.data.toList.drop k) = runesJ s.data.toList ∧ pre.length ≤ k
theorem UpR.next {s : ByteArray} {k : Nat} {pre : List RuneV} (h : UpR s k pre) (hk : k < s.size) : UpR s (k + (nxS s k).2) (pre ++ [runeAtV s k hk]) := by
  unfold UpR runesJ at *
  obtain ⟨h, hl⟩ := h
  have h1 := (nxS_ok s k hk).2.1
  refine ⟨?_, by rw [List.length_append, List.length_singleton]; omega⟩
  rw [stps_step s k hk, List.map_cons] at h
  rw [List.map_append, List.append_assoc]
  exact h
theorem UpR.done {s : ByteArray} {ys : List RuneV} (h : UpR s s.size ys) : ys.map (·.1) = runesJ s.data.toList := by
  have h := h.1
  unfold runesJ at h ⊢
  rw [drop_size, stps_nil, List.map_nil, List.append_nil] at h
  exact h

/-- One block lies as it lay. -/
def KeepBox (B : Nat) (W W' : World) : Prop := W'.heap[B]? = W.heap[B]?
theorem KeepBox.t {Bs : Nat} {A B C : World} (h : KeepBox Bs A B) (k : KeepBox Bs B C) : KeepBox Bs A C := Eq.trans k h
theorem KeepBox.b {Bs : Nat} {w : World} (h1 : Bs < w.heap.size) (W : World) (l : Nat) (o o' : Obj) (hl : w.heap.size ≤ l) (_ : W.heap[l]? = some o) (_ : o.isCells = false) (_ : o.isWalk = false) : KeepBox Bs W (W.putObj l o') :=
  World.putObj_heap_other (by omega)

set_option maxRecDepth 100000 in
set_option maxHeartbeats 1000000 in
theorem jsteps1_in (n : Nat) (hn : 1 ≤ n) (l Bs : Nat) (s : ByteArray) (hsz : s.size ≤ 100000) (J Jx : List RuneV → World → Prop) (hJab : ∀ pre W' W'', J pre W' → Below W'.heap.size W' W'' → J pre W'')
    (hY : ∀ pre x W, J pre W → pre.length < s.size + 1 → YieldAt Fence.wide (n - 1) Try.prog l (runeArgs x) W fun e W' =>
      (e = .returned (.bool true) ∧ J (pre ++ [x]) W' ∧ KeepBox Bs W W') ∨ (e = .returned (.bool false) ∧ Jx (pre ++ [x]) W'))
    (W : World) (hcs : Boxed W Bs 9 (.string s)) (h0 : J [] W) :
    CallsIn Fence.wide n Try.prog 31 #[.func (.yield l) #[] #[], .pointer (some ⟨Bs, 0, none⟩)] W fun e W' => (∃ v, e = .returned v) ∧
      ((∃ ys : List RuneV, UpR s s.size ys ∧ J ys W') ∨ (∃ pre : List RuneV, (∃ k, UpR s k pre) ∧ Jx pre W')) := by
  refine callsIn_of_wp Try.func31 rfl trivial ?_ rfl
  simp only [Try.ntmps31, List.size_toArray, List.length_cons, List.length_nil, Nat.reduceAdd, Nat.reduceSub, Array.replicate_succ, Array.replicate_zero, List.push_toArray, List.append_toArray, List.nil_append, List.cons_append]
  have hcs0 := hcs.cell
  gi_wp2
  gi_loopw [3] (fun i wr => ∃ (k : Nat) (pre : List RuneV), k ≤ s.size ∧ i = .int .i64 (k : Int) ∧ UpR s k pre ∧ J pre wr ∧ Boxed wr Bs 9 (.string s))
    (fun i wr => s.size - (intOf i).toNat)
  case atStart =>
    exact ⟨0, [], Nat.zero_le _, rfl, ⟨rfl, Nat.le_refl _⟩, h0, hcs⟩
  case round =>
    obtain ⟨k, pre, hk, rfl, hup, hJ, hs⟩ := hrel
    have hlen := hup.2
    have hcs1 := hs.cell
    clear hcs0
    by_cases hlt : k < s.size
    · have hok := nxS_ok s k hlt
      have hle := nxS_le s k hlt
      have hs1 := hok.2.1
      have hs2 := hok.2.2
      have Hup := Lib.hid (hup.next hlt)
      have kN := fun (W : World) => utfNext_in s k W (by omega) hlt
      obtain ⟨x, hx⟩ : ∃ x, x = runeAtV s k hlt := ⟨_, rfl⟩
      rw [← hx] at Hup
      have hx1 : (nxS s k).1 = x.1 := by rw [hx]; rfl
      obtain ⟨m, hm⟩ : ∃ m, m = (nxS s k).2 := ⟨_, rfl⟩
      simp only [nxV, hx1] at kN
      rw [← hm] at kN Hup hs1 hs2 hle
      clear hok hup hx hx1 hm
      gi_wp2_with fail
      refine ⟨trivial, ?_⟩
      refine (callsIn_wide.2 (kN _)).mono ?_
      rintro e w' ⟨rfl, q, rfl⟩
      have hb' : Below wr.heap.size wr (wr.drewN q) := ⟨rfl, rfl, rfl, Nat.le_refl _, fun _ _ => rfl⟩
      obtain ⟨fn, tmps, assign, body, hy, hR⟩ := hY pre x (wr.drewN q) (hJab _ _ _ hJ hb') (by omega)
      dsimp only [runeArgs] at hy
      gi_wp2_with fail
      have hs2' := boxed_below hs hb'
      refine hR.mono ?_
      rintro e W3 (⟨rfl, hJ3, hk3⟩ | ⟨rfl, hJx3⟩)
      · have hs3 : Boxed W3 Bs 9 (.string s) := hk3.trans hs2'
        gi_wp2
        go_roundw
        case rel => exact ⟨k + m, pre ++ [x], by omega, by go_num, Hup.out, hJ3, hs3⟩
        case measure => simp [intOf]; omega
      · gi_wp2
        refine bodyPost_ret (results_none rfl _ _ _) rfl ?_
        exact ⟨⟨_, rfl⟩, .inr ⟨_, ⟨_, Hup.out⟩, hJx3⟩⟩
    · obtain rfl : k = s.size := by omega
      gi_wp2
      go_end0
      exact ⟨⟨_, rfl⟩, .inl ⟨_, hup, hJ⟩⟩

theorem jsteps_in (n : Nat) (s : ByteArray) (w : World) :
    CallsIn Fence.wide n Try.prog 17 #[.string s] w fun e w' => e = .returned (.func (.func 31) #[] #[.pointer (some ⟨w.heap.size, 0, none⟩)]) ∧ w' = w.alloc (.cells #[.string s] 9) := by
  refine callsIn_of_wp Try.func17 rfl trivial ?_ rfl
  simp only [Try.ntmps17, List.size_toArray, List.length_cons, List.length_nil, Nat.reduceAdd, Nat.reduceSub, Array.replicate_succ, Array.replicate_zero, List.push_toArray, List.append_toArray, List.nil_append, List.cons_append]
  gi_wp2
  go_ret
  exact ⟨rfl, rfl⟩

theorem jsteps_stops (n : Nat) (hn : 1 ≤ n) (Bs : Nat) (s : ByteArray) (hsz : s.size ≤ 100000) (w : World) (hcs : Boxed w Bs 9 (.string s)) :
    SeqStopsK Fence.wide n Try.prog 31 #[.pointer (some ⟨Bs, 0, none⟩)] runeArgs (KeepBox Bs) (fun ys => UpR s s.size ys) (fun pre => ∃ k, UpR s k pre) (s.size + 1) w := fun l J Jx W hW hJ _ hY h0 =>
  jsteps1_in n hn l Bs s hsz J Jx (fun pre W' W'' h hb => hJ pre W' W'' none h (grownBy_of_below hb none) (fun r e => by cases e)) hY W (boxed_below hcs hW) h0
end Go.Proofs.Ytahkfoaogcbecaa
