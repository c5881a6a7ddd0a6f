/-
  The contract of nuncio/octet.parts: an iterator over the parts of a byte string.
-/
import Derived.RangeFuncNested
import Derived.RangeFuncBound
import Derived.RangeFuncCalls
import Derived.RangeFuncLeaves
import Derived.Shelf.Abstract
import Derived.Shelf.RegionOpen
import Derived.WalkKit
import Derived.OwnWalkIn
import Derived.TacticsInMore
import Derived.LoopNIn
import Derived.LoopIn
import Derived.Maps.AppendAt
import Derived.Test.YtjghnabepojddaaRows
import Derived.Test.YtjghnabepojddaaPlainCut
namespace Go.Proofs.Ytjghnabepojddaa
open Go.RowKit Go.Shelf
attribute [local go_sem] Oper.semAt_some

/-- Two blocks lie as they lay. -/
def KeepTwo (Bs Bb : Nat) (W W' : World) : Prop := W'.heap[Bs]? = W.heap[Bs]? ∧ W'.heap[Bb]? = W.heap[Bb]?
theorem KeepTwo.t {Bs Bb : Nat} {A B C : World} (h : KeepTwo Bs Bb A B) (k : KeepTwo Bs Bb B C) : KeepTwo Bs Bb A C := ⟨k.1.trans h.1, k.2.trans h.2⟩
theorem KeepTwo.b {Bs Bb : Nat} {w : World} (h1 : Bs < w.heap.size) (h2 : Bb < w.heap.size) (W : World) (l : Nat) (o o' : Obj) (hl : w.heap.size ≤ l) (_ : W.heap[l]? = some o) (_ : o.isCells = false) (_ : o.isWalk = false) : KeepTwo Bs Bb W (W.putObj l o') :=
  ⟨World.putObj_heap_other (by omega), World.putObj_heap_other (by omega)⟩

set_option maxRecDepth 100000 in
set_option maxHeartbeats 1000000 in
theorem parts1_in (F : Fence) (n : Nat) (hF : F.fn 38) (hro : F.round = none) (hn : 1 ≤ n) (l Bs Bb : Nat) (s : ByteArray) (b : Int) (hsz : s.size ≤ 281474976710656) (J Jx : List SmallB → World → Prop) (hJab : ∀ pre W' q, J pre W' → J pre (W'.drewN q))
    (hY : ∀ pre x W, J pre W → pre.length < s.size + 1 → YieldAt F (n - 1) Try.prog l #[.string x.1] W fun e W' =>
      (e = .returned (.bool true) ∧ J (pre ++ [x]) W' ∧ KeepTwo Bs Bb W W') ∨ (e = .returned (.bool false) ∧ Jx (pre ++ [x]) W'))
    (W : World) (hcs : W.cell? ⟨Bs, 0, none⟩ = some (.string s)) (hcb : W.cell? ⟨Bb, 0, none⟩ = some (.int .u8 b)) (h0 : J [] W) :
    CallsIn F n Try.prog 38 #[.func (.yield l) #[] #[], .pointer (some ⟨Bs, 0, none⟩), .pointer (some ⟨Bb, 0, none⟩)] W fun e W' => (∃ v, e = .returned v) ∧
      ((∃ ys : List SmallB, ys.map (·.1) = cutParts s b ∧ J ys W') ∨ (∃ pre : List SmallB, pre.length ≤ s.size + 1 ∧ Jx pre W')) := by
  have hmix : Try.prog.follows .mixedOrders = true := by kernel_rfl
  refine callsIn_of_wp Try.func38 rfl hF ?_ hro
  simp only [Try.ntmps38, List.size_toArray, List.length_cons, List.length_nil, Nat.reduceAdd, Nat.reduceSub, Array.replicate_succ, Array.replicate_zero, List.push_toArray, List.append_toArray, List.nil_append, List.cons_append]
  gi_wp2
  gi_loopw [4, 8] (fun fr i wr => ∃ (k : Nat) (pre : List SmallB), k ≤ s.size ∧ i = .int .i64 (k : Int) ∧ fr = .int .i64 ((cutTo s b k).2 : Int) ∧ pre.map (·.1) = (cutTo s b k).1 ∧ J pre wr ∧ wr.cell? ⟨Bs, 0, none⟩ = some (.string s) ∧ wr.cell? ⟨Bb, 0, none⟩ = some (.int .u8 b))
    (fun fr i wr => s.size - (intOf i).toNat)
  case atStart =>
    exact ⟨0, [], Nat.zero_le _, rfl, rfl, rfl, h0, hcs, hcb⟩
  case round =>
    obtain ⟨k, pre, hk, rfl, rfl, hpre, hJ, hs, hb⟩ := hrel
    have hle := cutTo_le s b k
    by_cases hlt : k < s.size
    · by_cases he : (s[k].toNat : Int) = b
      · have he1 : ((s[k].toNat : Int) == b) = true := by simp [he]
        have he2 : ((s[k].toNat : Int) != b) = false := by simp [he]
        have hcut := cutTo_hit hlt he
        have Hcut := Lib.hid hcut
        clear hcut he
        gi_wp2
        refine wpIn_region_quiet_lit hro hmix (by kernel_rfl) ?_
        repeat (gi_big_quiet_step (fail))
        refine wpQuietIn_nil ?_
        intro _ hw'
        obtain ⟨nq, hw''⟩ := hw'
        subst hw''
        obtain ⟨fn, tmps, assign, body, hy, hR⟩ := hY pre ⟨s.extract (cutTo s b k).2 k, by have := size_ex_le s (cutTo s b k).2 k; omega⟩ (wr.drewN nq) (hJab _ _ _ hJ) (by have := congrArg List.length hpre; simp at this; omega)
        dsimp only at hy
        gi_wp2
        refine hR.mono ?_
        rintro e W3 (⟨rfl, hJ3, hk3⟩ | ⟨rfl, hJx3⟩)
        · have hs3 : W3.cell? ⟨Bs, 0, none⟩ = some (.string s) := (World.cell?_of_block (a := ⟨Bs, 0, none⟩) hk3.1).trans hs
          have hb3 : W3.cell? ⟨Bb, 0, none⟩ = some (.int .u8 b) := (World.cell?_of_block (a := ⟨Bb, 0, none⟩) hk3.2).trans hb
          gi_wp2
          go_roundw
          case rel => exact ⟨k + 1, pre ++ [⟨s.extract (cutTo s b k).2 k, by have := size_ex_le s (cutTo s b k).2 k; omega⟩], by omega, by go_num, by rw [Hcut.out]; go_num, by rw [Hcut.out]; simp [hpre], hJ3, hs3, hb3⟩
          case measure => simp [intOf]; omega
        · gi_wp2
          refine bodyPost_ret (results_none rfl _ _ _) rfl ?_
          exact ⟨⟨_, rfl⟩, .inr ⟨_, by have := congrArg List.length hpre; simp at this ⊢; omega, hJx3⟩⟩
      · have he1 : ((s[k].toNat : Int) == b) = false := by simp [he]
        have he2 : ((s[k].toNat : Int) != b) = true := by simp [he]
        have hcut := cutTo_miss hlt he
        have Hcut := Lib.hid hcut
        clear hcut he
        gi_wp2
        refine wpIn_region_quiet_lit hro hmix (by kernel_rfl) ?_
        repeat (gi_big_quiet_step (fail))
        refine wpQuietIn_nil ?_
        intro _ hw'
        obtain ⟨nq, hw''⟩ := hw'
        subst hw''
        gi_wp2
        go_roundw
        case rel => exact ⟨k + 1, pre, by omega, by go_num, by rw [Hcut.out], by rw [Hcut.out]; exact hpre, hJab _ _ _ hJ, hs, hb⟩
        case measure => simp [intOf]; omega
    · obtain rfl : k = s.size := by omega
      obtain ⟨fn, tmps, assign, body, hy, hR⟩ := hY pre ⟨s.extract (cutTo s b s.size).2 s.size, by have := size_ex_le s (cutTo s b s.size).2 s.size; omega⟩ wr hJ (by have := congrArg List.length hpre; simp at this; omega)
      dsimp only at hy
      gi_wp2
      refine hR.mono ?_
      rintro e W3 (⟨rfl, hJ3, hk3⟩ | ⟨rfl, hJx3⟩)
      · gi_wp2
        go_end0
        exact ⟨⟨_, rfl⟩, .inl ⟨_, by rw [List.map_append, hpre]; rfl, hJ3⟩⟩
      · gi_wp2
        go_end0
        exact ⟨⟨_, rfl⟩, .inr ⟨_, by have := congrArg List.length hpre; simp at this ⊢; omega, hJx3⟩⟩
end Go.Proofs.Ytjghnabepojddaa
