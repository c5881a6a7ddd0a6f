/-
  The contract of (*find.Many).walk: an iterator over the states of a string's bytes.
-/
import Derived.RangeFuncNested
import Derived.RangeFuncBound
import Derived.RangeFuncCalls
import Derived.RangeFuncLeaves
import Derived.Shelf.Abstract
import Derived.Shelf.RegionOpen
import Derived.OwnWalkIn
import Derived.TacticsInMore
import Derived.LoopNIn
import Derived.LoopIn
import Derived.Test.YtpgiaofkabhgkaaFindNew
import Derived.Test.YtpgiaofkabhgkaaPlainWalk
namespace Go.Proofs.Ytpgiaofkabhgkaa
set_option linter.unusedVariables false
set_option linter.unusedSimpArgs false
open Go.RowKit Go.Shelf
attribute [local go_sem] Oper.semAt_some

abbrev WStep (xs : List (Nat × Nat)) := { x : Nat × Nat // x ∈ xs }
def walkArgs {xs : List (Nat × Nat)} (x : WStep xs) : Array Value := #[.int .i64 (x.1.1 : Int), .int .i64 (x.1.2 : Int)]
theorem attach_at {xs : List (Nat × Nat)} {k : Nat} {x : Nat × Nat} (h : xs[k]? = some x) : xs.attach[k]? = some ⟨x, List.mem_of_getElem? h⟩ := by
  obtain ⟨h1, h2⟩ := List.getElem?_eq_some_iff.1 h
  rw [List.getElem?_eq_getElem (by simpa using h1)]
  congr 1
  apply Subtype.ext
  simpa using h2

/-- m's states and what walk yields of s: nobody made m, or New did. -/
def Src (w : World) (m : Value) (s : ByteArray) (xs : List (Nat × Nat)) (l : List ByteArray) : Prop :=
  (xs = [] ∧ l = [] ∧ (m = .pointer none ∨ ∃ mp, m = .pointer (some ⟨mp, 0, none⟩) ∧ w.heap[mp]? = some (.cells #[.int .i64 0, .map none, .slice none 0 0] 57 (0, 0)))) ∨
  (∃ base mp bm n sg scap vs lab ends sts, m = .pointer (some ⟨mp, 0, none⟩) ∧ MemAt w base mp l.length bm n sg scap vs lab sts ∧ Made l lab ends sts ∧ sts.length < 1000000000000 ∧ xs = walkL lab s)

/-- The blocks below D and two more lie as they lay. -/
def KeepM (D Bm Bs : Nat) (W W' : World) : Prop := (∀ k, k < D → W'.heap[k]? = W.heap[k]?) ∧ W'.heap[Bm]? = W.heap[Bm]? ∧ W'.heap[Bs]? = W.heap[Bs]?
theorem KeepM.t {D Bm Bs : Nat} {A B C : World} (h : KeepM D Bm Bs A B) (k : KeepM D Bm Bs B C) : KeepM D Bm Bs A C := ⟨fun i hi => (k.1 i hi).trans (h.1 i hi), k.2.1.trans h.2.1, k.2.2.trans h.2.2⟩
theorem KeepM.b {D Bm Bs : Nat} {w : World} (h0 : D ≤ w.heap.size) (h1 : Bm < w.heap.size) (h2 : Bs < w.heap.size) (W : World) (l : Nat) (o o' : Obj) (hl : w.heap.size ≤ l) (_ : W.heap[l]? = some o) (_ : o.isCells = false) (_ : o.isWalk = false) : KeepM D Bm Bs W (W.putObj l o') :=
  ⟨fun _ hk => World.putObj_heap_other (by omega), World.putObj_heap_other (by omega), World.putObj_heap_other (by omega)⟩

theorem MemAt.agree {w W : World} {base mp c bm n sg scap : Nat} {vs : List Value} {lab : List Word} {sts : List St} (h : MemAt w base mp c bm n sg scap vs lab sts) (ha : ∀ k, k < w.heap.size → W.heap[k]? = w.heap[k]?) : MemAt W base mp c bm n sg scap vs lab sts := by
  have hrow : ∀ {base : Nat} {e : TypeId} {size : Nat} {v : Value} {n : Nat} {xs : List Value}, w.ownsRow base e size v n xs → W.ownsRow base e size v n xs := by
    intro base e size v n xs hr
    refine ⟨hr.1, ?_⟩
    rcases hr.2 with hn | ⟨g, cap, cur, hv, hb, hg, rest⟩
    · exact .inl hn
    · exact .inr ⟨g, cap, cur, hv, hb, (ha g (Array.getElem?_eq_some_iff.1 hg).1).trans hg, rest⟩
  obtain ⟨D, ⟨es, clock, hb, rest⟩, h2⟩ := h.next
  exact ⟨(ha mp h.lt).trans h.head, ⟨D, ⟨es, clock, (ha bm (Array.getElem?_eq_some_iff.1 hb).1).trans hb, rest⟩, h2⟩, hrow h.row, h.vlen, fun q s v hs hv => hrow (h.whi q s v hs hv), h.apart⟩
theorem Src.agree {w W : World} {m : Value} {s : ByteArray} {xs : List (Nat × Nat)} {l : List ByteArray} (h : Src w m s xs l) (ha : ∀ k, k < w.heap.size → W.heap[k]? = w.heap[k]?) : Src W m s xs l := by
  rcases h with ⟨h1, h2, h3 | ⟨mp, h3, h4⟩⟩ | ⟨base, mp, bm, n, sg, scap, vs, lab, ends, sts, h1, h2, h3⟩
  · exact .inl ⟨h1, h2, .inl h3⟩
  · exact .inl ⟨h1, h2, .inr ⟨mp, h3, (ha mp (Array.getElem?_eq_some_iff.1 h4).1).trans h4⟩⟩
  · exact .inr ⟨base, mp, bm, n, sg, scap, vs, lab, ends, sts, h1, h2.agree ha, h3⟩

set_option maxRecDepth 100000 in
set_option maxHeartbeats 2000000 in
theorem walk1_in (n : Nat) (hn : 1 ≤ n) (l Bm Bs : Nat) (m : Value) (s : ByteArray) (hsz : s.size ≤ 1000000000000) (xs : List (Nat × Nat)) (pats : List ByteArray) (w : World) (hsrc : Src w m s xs pats) (J Jx : List (WStep xs) → World → Prop)
    (hJab : ∀ pre W' q, J pre W' → J pre (W'.drewN q)) (hJa : ∀ pre W, J pre W → (∀ k, k < w.heap.size → W.heap[k]? = w.heap[k]?) ∧ W.cell? ⟨Bm, 0, none⟩ = some m ∧ W.cell? ⟨Bs, 0, none⟩ = some (.string s))
    (hY : ∀ pre x W, J pre W → pre.length < s.size + 1 → YieldAt Fence.wide (n - 1) Try.prog l (walkArgs x) W fun e W' =>
      (e = .returned (.bool true) ∧ J (pre ++ [x]) W') ∨ (e = .returned (.bool false) ∧ Jx (pre ++ [x]) W'))
    (W : World) (h0 : J [] W) :
    CallsIn Fence.wide n Try.prog 34 #[.func (.yield l) #[] #[], .pointer (some ⟨Bm, 0, none⟩), .pointer (some ⟨Bs, 0, none⟩)] W fun e W' => (∃ v, e = .returned v) ∧
      (J xs.attach W' ∨ ∃ k, k ≤ xs.length ∧ Jx (xs.attach.take k) W') := by
  have hmix : Try.prog.follows .mixedOrders = true := by kernel_rfl
  obtain ⟨hag0, hc1, hc2⟩ := hJa [] W h0
  refine callsIn_of_wp Try.func34 rfl trivial ?_ rfl
  simp only [Try.ntmps34, List.size_toArray, List.length_cons, List.length_nil, Nat.reduceAdd, Nat.reduceSub, Array.replicate_succ, Array.replicate_zero, List.push_toArray, List.append_toArray, List.nil_append, List.cons_append]
  rcases hsrc with ⟨rfl, rfl, rfl | ⟨mp, rfl, hb⟩⟩ | ⟨base, mp, bm, nm, sg, scap, vs, lab, ends, sts, rfl, hM, hMd, hstl, rfl⟩
  · gi_wp2
    refine bodyPost_ret (results_none rfl _ _ _) rfl ?_
    exact ⟨⟨_, rfl⟩, .inl h0⟩
  · have hb' := (hag0 mp (Array.getElem?_eq_some_iff.1 hb).1).trans hb
    have c2 : W.cell? ⟨mp, 2, none⟩ = some (.slice none 0 0) := by simp [World.cell?, hb']
    gi_wp2
    refine bodyPost_ret (results_none rfl _ _ _) rfl ?_
    exact ⟨⟨_, rfl⟩, .inl h0⟩
  · have c2 := (hM.agree hag0).cell2
    have hpos : 0 < sts.length := by
      have := hMd.auto.len
      have h2 := (List.getElem?_eq_some_iff.1 hMd.auto.zero).1
      omega
    have he0 : ((sts.length : Int) == 0) = false := by rw [beq_eq_false_iff_ne]; omega
    have HM := Lib.hid hM
    have HMd := Lib.hid hMd
    have Hstl := Lib.hid hstl
    clear hM hMd hstl
    gi_wp2
    gi_loopw [4, 18] (fun av i wr => ∃ k q : Nat, k ≤ s.size ∧ i = .int .i64 (k : Int) ∧ av = .int .i64 (q : Int) ∧ Hid (lab[q]? = some (longS lab ((wordOf s).take k))) ∧ J ((walkL lab s).attach.take k) wr) (fun av i wr => s.size - (intOf i).toNat)
    case atStart =>
      exact ⟨0, 0, Nat.zero_le _, rfl, rfl, Lib.hid (by simpa [longS] using HMd.out.auto.zero), h0⟩
    case round =>
      obtain ⟨k, q, hk, rfl, rfl, Hq, hJ⟩ := hrel
      obtain ⟨hag, hb1, hb2⟩ := hJa _ _ hJ
      by_cases hlt : k < s.size
      · have hM1 := HM.out.agree hag
        have hM2 := hM1.below (w' := wr.drew) ⟨rfl, rfl, rfl, Nat.le_refl _, fun _ _ => rfl⟩
        have HM2 := Lib.hid hM2
        have hk1 : (k : Int) < (s.size : Int) := by omega
        have hx := walkL_at lab s hlt
        have hlen : ((walkL lab s).attach.take k).length = k := by rw [List.length_take, List.length_attach, walkL_len]; omega
        have Hx := Lib.hid hx
        have Hlen := Lib.hid hlen
        clear hM1 hM2 hag hx hlen
        gi_wp2
        refine wpIn_region_head 5 (fun _ => trivial) hmix (by kernel_rfl) (by kernel_rfl) ?_
        simp only [List.take_succ_cons, List.take_zero, List.drop_succ_cons, List.drop_zero]
        repeat (go_big_quiet_step (fail))
        refine wpQuiet_nil ?_
        gi_wp2_with (refine ⟨trivial, ?_⟩; gi_at_call 35; refine (callsIn_wide.2 (step_any HM2.out HMd.out.auto Hstl.out Hq.out s[k])).mono ?_; rintro e w' ⟨⟨r, rfl, v, hv, hL⟩, rfl⟩; have hlv := long_step HMd.out.auto.closed (longS_long (List.mem_of_getElem? HMd.out.auto.zero) _) hL; rw [← wordOf_take_succ s k hlt] at hlv; have hvl := hlv.uniq (longS_long (List.mem_of_getElem? HMd.out.auto.zero) ((wordOf s).take (k + 1))); have hri := idxOf_of HMd.out.auto.nodup hv; have hxr : (walkL lab s)[k]? = some (k + 1, r) := by { rw [Hx.out, ← hvl, hri] }; obtain ⟨xx, hxx, hxa⟩ : ∃ xx : WStep (walkL lab s), xx.1 = (k + 1, r) ∧ (walkL lab s).attach[k]? = some xx := ⟨⟨_, List.mem_of_getElem? hxr⟩, rfl, attach_at hxr⟩; clear hxr; obtain ⟨fn, tmps, assign, body, hy, hR⟩ := hY _ xx wr.drew (hJab _ _ 1 hJ) (by rw [Hlen.out]; omega); dsimp only [walkArgs] at hy; rw [hxx] at hy; dsimp only at hy; rw [Int.natCast_succ] at hy; have Hv := Lib.hid hv; have Hvl := Lib.hid hvl; have Hri := Lib.hid hri; have HR := Lib.hid hR; have Hxa := Lib.hid hxa; clear hv hL hlv hvl hri hR hxa hxx)
        have HY := Lib.hid hY
        have HJab := Lib.hid hJab
        have HJa := Lib.hid hJa
        clear hY hJab hJa
        refine HR.out.mono ?_
        have hnx : (walkL lab s).attach.take k ++ [xx] = (walkL lab s).attach.take (k + 1) := (take_snoc Hxa.out).symm
        rw [hnx]
        have Hnx := Lib.hid hnx
        clear hnx
        rintro e W3 (⟨rfl, hJ3⟩ | ⟨rfl, hJx3⟩)
        · gi_wp2
          go_roundw
          case rel => exact ⟨k + 1, r, by omega, by go_num, rfl, Lib.hid (by rw [Hv.out, Hvl.out]), hJ3⟩
          case measure => simp [intOf]; omega
        · gi_wp2
          refine bodyPost_ret (results_none rfl _ _ _) rfl ?_
          exact ⟨⟨_, rfl⟩, .inr ⟨k + 1, by rw [walkL_len]; omega, hJx3⟩⟩
      · obtain rfl : k = s.size := by omega
        gi_wp2
        go_end0
        rw [List.take_of_length_le (by rw [List.length_attach, walkL_len]; omega)] at hJ
        exact ⟨⟨_, rfl⟩, .inl hJ⟩

theorem walk_in (n : Nat) (mo : Option Addr) (s : ByteArray) (w : World) :
    CallsIn Fence.wide n Try.prog 24 #[.pointer mo, .string s] w fun e w' => e = .returned (.func (.func 34) #[] #[.pointer (some ⟨w.heap.size, 0, none⟩), .pointer (some ⟨w.heap.size + 1, 0, none⟩)]) ∧ w' = (w.alloc (.cells #[.pointer mo] 25)).alloc (.cells #[.string s] 9) := by
  refine callsIn_of_wp Try.func24 rfl trivial ?_ rfl
  simp only [Try.ntmps24, List.size_toArray, List.length_cons, List.length_nil, Nat.reduceAdd, Nat.reduceSub, Array.replicate_succ, Array.replicate_zero, List.push_toArray, List.append_toArray, List.nil_append, List.cons_append]
  gi_wp2
  go_ret
  exact ⟨rfl, rfl⟩

theorem walk_stops (n : Nat) (hn : 1 ≤ n) (Bm Bs : Nat) (m : Value) (s : ByteArray) (hsz : s.size ≤ 1000000000000) (xs : List (Nat × Nat)) (pats : List ByteArray) (w0 w : World) (hsrc : Src w0 m s xs pats) (h0 : w0.heap.size ≤ w.heap.size) (hag : ∀ k, k < w0.heap.size → w.heap[k]? = w0.heap[k]?) (hBm : Bm < w.heap.size) (hBs : Bs < w.heap.size)
    (hcm : w.cell? ⟨Bm, 0, none⟩ = some m) (hcs : w.cell? ⟨Bs, 0, none⟩ = some (.string s)) :
    SeqStopsK Fence.wide n Try.prog 34 #[.pointer (some ⟨Bm, 0, none⟩), .pointer (some ⟨Bs, 0, none⟩)] walkArgs (KeepM w0.heap.size Bm Bs) (fun ys : List (WStep xs) => ys = xs.attach) (fun pre => ∃ k, k ≤ xs.length ∧ pre = xs.attach.take k) (s.size + 1) w := fun l J Jx W hW hJ _ hY hJ0 => by
  have hsz' := hW.size
  have hW0 : ∀ k, k < w0.heap.size → W.heap[k]? = w0.heap[k]? := fun k hk => (hW.block k (by omega)).trans (hag k hk)
  have h1 := walk1_in n hn l Bm Bs m s hsz xs pats w0 hsrc (fun pre W' => J pre W' ∧ KeepM w0.heap.size Bm Bs W W') Jx
    (fun pre W' q h => ⟨hJ pre W' (W'.drewN q) none h.1 ⟨rfl, rfl, rfl, Nat.le_refl _, fun _ _ _ => rfl⟩ (fun r e => by cases e), h.2⟩)
    (fun pre W' h => ⟨fun k hk => (h.2.1 k hk).trans (hW0 k hk), (World.cell?_of_block (w := W) (a := ⟨Bm, 0, none⟩) h.2.2.1).trans ((hW.cell (p := ⟨Bm, 0, none⟩) hBm).trans hcm), (World.cell?_of_block (w := W) (a := ⟨Bs, 0, none⟩) h.2.2.2).trans ((hW.cell (p := ⟨Bs, 0, none⟩) hBs).trans hcs)⟩)
    (fun pre x W1 h hl => (hY pre x W1 h.1 hl).mono fun e W' he => by
      rcases he with ⟨rfl, h2, h3⟩ | h2
      · exact .inl ⟨rfl, h2, h.2.t h3⟩
      · exact .inr h2)
    W ⟨hJ0, fun _ _ => rfl, rfl, rfl⟩
  refine h1.mono ?_
  rintro e W' ⟨he, h2 | ⟨k, hk, h2⟩⟩
  · exact ⟨he, .inl ⟨xs.attach, rfl, h2.1⟩⟩
  · exact ⟨he, .inr ⟨_, ⟨k, hk, rfl⟩, h2⟩⟩

theorem zip2w (i j : Tmp) (a b : Value) (t : Array Value) : ((#[i, j] : Array Tmp).zip #[a, b]).foldl (fun t (p, v) => t.setIfInBounds p v) t = (t.setIfInBounds i a).setIfInBounds j b := by simp
/-- A range over walk. -/
theorem range_walk (m : Value) (s : ByteArray) (hsz : s.size ≤ 1000000000000) (xs : List (Nat × Nat)) (pats : List ByteArray) (wm : World) (hsrc : Src wm m s xs pats) (w0 : World) (hw0 : wm.heap.size ≤ w0.heap.size) (hag : ∀ k, k < wm.heap.size → w0.heap[k]? = wm.heap[k]?) {g : Operand} {i j : Tmp} {assign body : Code} {Q : Exit → Act → World → Prop} {a : Act}
    (hg : a.eval g = .func (.func 34) #[] #[.pointer (some ⟨w0.heap.size, 0, none⟩), .pointer (some ⟨w0.heap.size + 1, 0, none⟩)])
    (I : List (WStep xs) → World → Prop) (Ix : Code → List (WStep xs) → World → Prop) (hI : OwnFrom (w0.heap.size + 2) I) (hIx : ∀ c, OwnFrom (w0.heap.size + 2) (Ix c)) (h0 : I [] ((w0.alloc (.cells #[m] 25)).alloc (.cells #[.string s] 9))) (a₁ : WStep xs → Act)
    (hassign : ∀ (l : Nat) (x : WStep xs) (W : World) (K : Act → World → Prop), K (a₁ x) W →
      assign.wpIn (Fence.wide.inRound l) 3 Try.prog (Exit.then K (fun _ _ _ => False)) { tmps := (a.tmps.setIfInBounds i (.int .i64 (x.1.1 : Int))).setIfInBounds j (.int .i64 (x.1.2 : Int)), defers := [] } W)
    (hbody : ∀ (l : Nat) (pre : List (WStep xs)) (x : WStep xs) (W : World), I pre W → pre.length < s.size + 1 → body.wpIn (Fence.wide.inRound l) 3 Try.prog (ownPostG (w0.heap.size + 2) (KeepM wm.heap.size w0.heap.size (w0.heap.size + 1)) I Ix (pre ++ [x]) W) (a₁ x) W)
    (hdone : ∀ (D : Nat) (W : World), w0.heap.size + 2 ≤ D → I xs.attach W → W.heap[D]? = some (.deferred (some [])) → Q .normal { a with defers := { target := .collected D, args := #[] } :: a.defers } W)
    (hstop : ∀ (D : Nat) (c : Code) (k : Nat) (W : World), w0.heap.size + 2 ≤ D → k ≤ xs.length → Ix c (xs.attach.take k) W → W.heap[D]? = some (.deferred (some [])) → c.wpIn Fence.wide 5 Try.prog Q { a with defers := { target := .collected D, args := #[] } :: a.defers } W) :
    (Code.rangeFunc g #[i, j] assign body).wpIn Fence.wide 5 Try.prog Q a ((w0.alloc (.cells #[m] 25)).alloc (.cells #[.string s] 9)) := by
  have e : ((w0.alloc (.cells #[m] 25)).alloc (.cells #[.string s] 9)).heap.size = w0.heap.size + 2 := by simp
  have hm1 : ((w0.alloc (.cells #[m] 25)).alloc (.cells #[.string s] 9)).cell? ⟨w0.heap.size, 0, none⟩ = some m := (Boxed.alloc (Boxed.new w0 _ m) _).cell
  have hm2 : ((w0.alloc (.cells #[m] 25)).alloc (.cells #[.string s] 9)).cell? ⟨w0.heap.size + 1, 0, none⟩ = some (.string s) := by
    have := (Boxed.new (w0.alloc (.cells #[m] 25)) 9 (.string s)).cell
    rw [World.size_alloc] at this
    exact this
  refine wpIn_rangeFunc_ownG rfl (by omega) hg trivial (enters_of Try.func34 (by kernel_rfl) rfl)
    (walk_stops 4 (by omega) w0.heap.size (w0.heap.size + 1) m s hsz xs pats wm ((w0.alloc (.cells #[m] 25)).alloc (.cells #[.string s] 9)) hsrc (by omega) (fun k hk => by
      rw [Below.heap_alloc _ _ _ (by rw [World.size_alloc]; omega), Below.heap_alloc _ _ _ (by omega)]
      exact hag k hk) (by omega) (by omega) hm1 hm2) KeepM.t (KeepM.b (by omega) (by omega) (by omega)) (Below.refl _ _) (fun x => rfl)
    I Ix (by rw [e]; exact hI) (by rw [e]; exact hIx) h0 a₁ (fun l x W K hK => by unfold walkArgs; rw [zip2w]; exact hassign l x W K hK) (by rw [e]; exact hbody) (by rw [e]; exact fun D ys W h1 h2 h3 h4 => by subst h2; exact hdone D W h1 h3 h4) (by rw [e]; exact fun D c pre W h1 ⟨k, hk, h2⟩ h3 h4 => by subst h2; exact hstop D c k W h1 hk h3 h4)
end Go.Proofs.Ytpgiaofkabhgkaa
