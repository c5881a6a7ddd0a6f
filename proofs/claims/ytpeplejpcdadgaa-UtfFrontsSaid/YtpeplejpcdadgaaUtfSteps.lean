/-
  The contract of nuncio/utf.steps: an iterator over the steps of Next.
-/
import Derived.RangeFuncNested
import Derived.RangeFuncBound
import Derived.RangeFuncCalls
import Derived.RangeFuncLeaves
import Derived.Shelf.Abstract
import Derived.Shelf.RegionOpen
import Derived.OwnWalkIn
import Derived.TacticsInMore
import Derived.LoopNIn
import Derived.LoopIn
import Derived.Test.YtpeplejpcdadgaaUtfNext
namespace Go.Proofs.Ytpeplejpcdadgaa
open Go.RowKit Go.Shelf
attribute [local go_sem] Oper.semAt_some

/-- A step: a rune and a number of bytes. -/
abbrev StepV := { x : Nat × Nat // isRune x.1 ∧ 1 ≤ x.2 ∧ x.2 ≤ 4 }
def stepArgs (x : StepV) : Array Value := #[.int .i32 (x.1.1 : Int), .int .i64 (x.1.2 : Int)]
theorem nxS_ok (s : ByteArray) (k : Nat) (h : k < s.size) : isRune (nxS s k).1 ∧ 1 ≤ (nxS s k).2 ∧ (nxS s k).2 ≤ 4 := by
  have := nxL_size (s.data.toList.drop k) (by rw [Ne, List.drop_eq_nil_iff]; simpa using h)
  exact ⟨nxL_rune _, this.1, this.2.1⟩
theorem nxS_le (s : ByteArray) (k : Nat) (h : k < s.size) : k + (nxS s k).2 ≤ s.size := by
  have := (nxL_size (s.data.toList.drop k) (by rw [Ne, List.drop_eq_nil_iff]; simpa using h)).2.2
  rw [List.length_drop] at this
  have h2 : (nxS s k).2 ≤ s.data.toList.length - k := this
  simp at h2
  omega
def stepAt (s : ByteArray) (k : Nat) (h : k < s.size) : StepV := ⟨nxS s k, nxS_ok s k h⟩
/-- The steps of s so far, up to offset k. -/
def UpTo (s : ByteArray) (k : Nat) (pre : List StepV) : Prop := pre.map (·.1) ++ stps (s.data.toList.drop k) = stps s.data.toList
theorem UpTo.next {s : ByteArray} {k : Nat} {pre : List StepV} (h : UpTo s k pre) (hk : k < s.size) : UpTo s (k + (nxS s k).2) (pre ++ [stepAt s k hk]) := by
  unfold UpTo at *
  rw [stps_cons _ (by rw [Ne, List.drop_eq_nil_iff]; simpa using hk), List.drop_drop] at h
  rw [List.map_append, List.append_assoc]
  exact h
theorem UpTo.len {s : ByteArray} {k : Nat} {pre : List StepV} (h : UpTo s k pre) : pre.length ≤ s.size := by
  have h1 := stps_len _ s.data.toList (Nat.le_refl _)
  unfold UpTo at h
  rw [← h, List.length_append, List.length_map] at h1
  simp at h1
  omega

theorem UpTo.done {s : ByteArray} {ys : List StepV} (h : UpTo s s.size ys) : ys.map (·.1) = stps s.data.toList := by
  unfold UpTo at h
  rw [show s.data.toList.drop s.size = [] from by simp [List.drop_eq_nil_iff], stps_nil, List.append_nil] at h
  exact h

/-- One block lies as it lay. -/
def KeepOne (B : Nat) (W W' : World) : Prop := W'.heap[B]? = W.heap[B]?
theorem KeepOne.t {Bs : Nat} {A B C : World} (h : KeepOne Bs A B) (k : KeepOne Bs B C) : KeepOne Bs A C := Eq.trans k h
theorem KeepOne.b {Bs : Nat} {w : World} (h1 : Bs < w.heap.size) (W : World) (l : Nat) (o o' : Obj) (hl : w.heap.size ≤ l) (_ : W.heap[l]? = some o) (_ : o.isCells = false) (_ : o.isWalk = false) : KeepOne Bs W (W.putObj l o') :=
  World.putObj_heap_other (by omega)

set_option maxRecDepth 100000 in
set_option maxHeartbeats 1000000 in
theorem steps1_in (n : Nat) (hn : 1 ≤ n) (l Bs : Nat) (s : ByteArray) (hsz : s.size ≤ 281474976710656) (J Jx : List StepV → World → Prop) (hJab : ∀ pre W' q, J pre W' → J pre (W'.drewN q))
    (hY : ∀ pre x W, J pre W → pre.length < s.size + 1 → YieldAt Fence.wide (n - 1) Try.prog l (stepArgs x) W fun e W' =>
      (e = .returned (.bool true) ∧ J (pre ++ [x]) W' ∧ KeepOne Bs W W') ∨ (e = .returned (.bool false) ∧ Jx (pre ++ [x]) W'))
    (W : World) (hcs : W.cell? ⟨Bs, 0, none⟩ = some (.string s)) (h0 : J [] W) :
    CallsIn Fence.wide n Try.prog 29 #[.func (.yield l) #[] #[], .pointer (some ⟨Bs, 0, none⟩)] W fun e W' => (∃ v, e = .returned v) ∧
      ((∃ ys : List StepV, UpTo s s.size ys ∧ J ys W') ∨ (∃ pre : List StepV, (∃ k, UpTo s k pre) ∧ Jx pre W')) := by
  have hmix : Try.prog.follows .mixedOrders = true := by kernel_rfl
  refine callsIn_of_wp Try.func29 rfl trivial ?_ rfl
  simp only [Try.ntmps29, List.size_toArray, List.length_cons, List.length_nil, Nat.reduceAdd, Nat.reduceSub, Array.replicate_succ, Array.replicate_zero, List.push_toArray, List.append_toArray, List.nil_append, List.cons_append]
  gi_wp2
  gi_loopw [3] (fun i wr => ∃ (k : Nat) (pre : List StepV), k ≤ s.size ∧ i = .int .i64 (k : Int) ∧ UpTo s k pre ∧ J pre wr ∧ wr.cell? ⟨Bs, 0, none⟩ = some (.string s))
    (fun i wr => s.size - (intOf i).toNat)
  case atStart =>
    exact ⟨0, [], Nat.zero_le _, rfl, rfl, h0, hcs⟩
  case round =>
    obtain ⟨k, pre, hk, rfl, hup, hJ, hs⟩ := hrel
    have hlen := hup.len
    by_cases hlt : k < s.size
    · have hok := nxS_ok s k hlt
      have hle := nxS_le s k hlt
      have hs1 := hok.2.1
      have hs2 := hok.2.2
      have Hup := Lib.hid (hup.next hlt)
      clear hok hup
      gi_wp2_with (refine ⟨trivial, ?_⟩; gi_at_call 9; refine (callsIn_wide.2 (utfNext_in s k _ (by omega) hlt)).mono ?_; rintro e w' ⟨rfl, q, rfl⟩; simp only [nxV]; obtain ⟨fn, tmps, assign, body, hy, hR⟩ := hY pre (stepAt s k hlt) (wr.drewN q) (hJab _ _ _ hJ) (by omega); dsimp only [stepArgs, stepAt] at hy)
      refine hR.mono ?_
      rintro e W3 (⟨rfl, hJ3, hk3⟩ | ⟨rfl, hJx3⟩)
      · have hs3 : W3.cell? ⟨Bs, 0, none⟩ = some (.string s) := (World.cell?_of_block (a := ⟨Bs, 0, none⟩) hk3).trans hs
        gi_wp2
        go_roundw
        case rel => exact ⟨k + (nxS s k).2, pre ++ [stepAt s k hlt], by omega, by go_num, Hup.out, hJ3, hs3⟩
        case measure => simp [intOf]; omega
      · gi_wp2
        refine bodyPost_ret (results_none rfl _ _ _) rfl ?_
        exact ⟨⟨_, rfl⟩, .inr ⟨_, ⟨_, Hup.out⟩, hJx3⟩⟩
    · obtain rfl : k = s.size := by omega
      gi_wp2
      go_end0
      exact ⟨⟨_, rfl⟩, .inl ⟨_, hup, hJ⟩⟩

theorem steps_in (n : Nat) (s : ByteArray) (w : World) :
    CallsIn Fence.wide n Try.prog 26 #[.string s] w fun e w' => e = .returned (.func (.func 29) #[] #[.pointer (some ⟨w.heap.size, 0, none⟩)]) ∧ w' = w.alloc (.cells #[.string s] 9) := by
  refine callsIn_of_wp Try.func26 rfl trivial ?_ rfl
  simp only [Try.ntmps26, List.size_toArray, List.length_cons, List.length_nil, Nat.reduceAdd, Nat.reduceSub, Array.replicate_succ, Array.replicate_zero, List.push_toArray, List.append_toArray, List.nil_append, List.cons_append]
  gi_wp2
  go_ret
  exact ⟨rfl, rfl⟩

theorem steps_stops (n : Nat) (hn : 1 ≤ n) (Bs : Nat) (s : ByteArray) (hsz : s.size ≤ 281474976710656) (w : World) (hBs : Bs < w.heap.size)
    (hcs : w.cell? ⟨Bs, 0, none⟩ = some (.string s)) :
    SeqStopsK Fence.wide n Try.prog 29 #[.pointer (some ⟨Bs, 0, none⟩)] stepArgs (KeepOne Bs) (fun ys => UpTo s s.size ys) (fun pre => ∃ k, UpTo s k pre) (s.size + 1) w := fun l J Jx W hW hJ _ hY h0 =>
  steps1_in n hn l Bs s hsz J Jx (fun pre W' q h => hJ pre W' (W'.drewN q) none h ⟨rfl, rfl, rfl, Nat.le_refl _, fun _ _ _ => rfl⟩ (fun r e => by cases e)) hY W ((hW.cell (p := ⟨Bs, 0, none⟩) hBs).trans hcs) h0

theorem zip2 (i j : Tmp) (a b : Value) (t : Array Value) : ((#[i, j] : Array Tmp).zip #[a, b]).foldl (fun t (p, v) => t.setIfInBounds p v) t = (t.setIfInBounds i a).setIfInBounds j b := by simp
/-- A range over the steps of s. -/
theorem range_steps (s : ByteArray) (hsz : s.size ≤ 281474976710656) (w0 : World) {g : Operand} {i j : Tmp} {assign body : Code} {Q : Exit → Act → World → Prop} {a : Act}
    (hg : a.eval g = .func (.func 29) #[] #[.pointer (some ⟨w0.heap.size, 0, none⟩)])
    (I : List StepV → World → Prop) (Ix : Code → List StepV → World → Prop) (hI : OwnFrom (w0.heap.size + 1) I) (hIx : ∀ c, OwnFrom (w0.heap.size + 1) (Ix c)) (h0 : I [] (w0.alloc (.cells #[.string s] 9))) (a₁ : StepV → Act)
    (hassign : ∀ (l : Nat) (x : StepV) (W : World) (K : Act → World → Prop), K (a₁ x) W →
      assign.wpIn (Fence.wide.inRound l) 3 Try.prog (Exit.then K (fun _ _ _ => False)) { tmps := (a.tmps.setIfInBounds i (.int .i32 (x.1.1 : Int))).setIfInBounds j (.int .i64 (x.1.2 : Int)), defers := [] } W)
    (hbody : ∀ (l : Nat) (pre : List StepV) (x : StepV) (W : World), I pre W → pre.length < s.size + 1 → body.wpIn (Fence.wide.inRound l) 3 Try.prog (ownPostG (w0.heap.size + 1) (KeepOne w0.heap.size) I Ix (pre ++ [x]) W) (a₁ x) W)
    (hdone : ∀ (D : Nat) (xs : List StepV) (W : World), w0.heap.size + 1 ≤ D → UpTo s s.size xs → I xs W → W.heap[D]? = some (.deferred (some [])) → Q .normal { a with defers := { target := .collected D, args := #[] } :: a.defers } W)
    (hstop : ∀ (D : Nat) (c : Code) (pre : List StepV) (W : World), w0.heap.size + 1 ≤ D → (∃ k, UpTo s k pre) → Ix c pre W → W.heap[D]? = some (.deferred (some [])) → c.wpIn Fence.wide 5 Try.prog Q { a with defers := { target := .collected D, args := #[] } :: a.defers } W) :
    (Code.rangeFunc g #[i, j] assign body).wpIn Fence.wide 5 Try.prog Q a (w0.alloc (.cells #[.string s] 9)) := by
  have e : (w0.alloc (.cells #[.string s] 9)).heap.size = w0.heap.size + 1 := World.size_alloc _ _
  refine wpIn_rangeFunc_ownG rfl (by omega) hg trivial (enters_of Try.func29 (by kernel_rfl) rfl)
    (steps_stops 4 (by omega) w0.heap.size s hsz (w0.alloc (.cells #[.string s] 9)) (by omega) (by simp)) KeepOne.t (KeepOne.b (by omega)) (Below.refl _ _) (fun x => rfl)
    I Ix (by rw [e]; exact hI) (by rw [e]; exact hIx) h0 a₁ (fun l x W K hK => by unfold stepArgs; rw [zip2]; exact hassign l x W K hK) (by rw [e]; exact hbody) (by rw [e]; exact hdone) (by rw [e]; exact hstop)
end Go.Proofs.Ytpeplejpcdadgaa
