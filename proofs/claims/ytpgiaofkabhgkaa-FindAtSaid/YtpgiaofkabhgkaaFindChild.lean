/-
  The contract of (*find.Many).child.
-/
import Derived.Test.YtpgiaofkabhgkaaFindPush
import Derived.Test.YtpgiaofkabhgkaaStages
import Derived.Great.BuildSlice
import Derived.RangeFuncNested
import Derived.TacticsInMore
import Derived.LoopIn
import Derived.LoopNIn
namespace Go.Proofs.Ytpgiaofkabhgkaa
set_option linter.unusedVariables false
set_option linter.unusedSimpArgs false
open Go.RowKit
attribute [local go_sem] Oper.semAt_some


section
variable {P : Program} {ops : Array Oper} {o : Oper} {a : Act} {w w' : World}
theorem eff_mapUpdate (hg : o.guard = none) {t : TypeId} {m k x : Operand} (ho : o.op = .mapUpdate t m k x) {vm vk vx : Value} (hm : a.eval m = vm) (hk : a.eval k = vk) (hx : a.eval x = vx) (hr : (Instr.mapUpdate t vm vk vx).run P w = .ok () w') : Eff P ops o undef a w w' := by
  refine ⟨by simp [Region.wanted, hg], .inr ⟨?_, rfl⟩⟩
  unfold execOp
  simp [ho, hm, hk, hx, hr, Result.andThen]
theorem eff_buildSlice1 (hg : o.guard = none) {t e : TypeId} {x : Operand} (ho : o.op = .buildSlice t 1 #[(0, x)]) {vx : Value} (hx : a.eval x = vx) {ie : TypeInfo} {z : Value} (hu : P.underlying t = some (.slice e)) (hie : P.info? e = some ie) (hz : ie.zero = some z) {size : Nat} (hsize : ie.size = size) (hsmall : ¬ 1 * size > 2 ^ 24) (hpos : ¬ 1 * size = 0) {cells : Array Value}
    (hf : Instr.fill (fun i => some (i * size, size)) ((Array.range (1 * size)).map (z.cells[· % z.cells.size]!)) [(0, vx)] = some cells) (hW : w' = w.alloc (.cells cells e)) {N : Nat} (hN : w.heap.size = N) : Eff P ops o (.slice (some ⟨N, 0, none⟩) 1 1) a w w' := by
  subst hN hW hsize
  refine ⟨by simp [Region.wanted, hg], .inl ?_⟩
  have hr := run_buildSlice (P := P) w t e 1 #[(0, vx)] cells ie z hu hie hz hsmall hpos hf
  simp [execOp, ho, hx, hr, Result.andThen]
theorem eff_storeCell (hg : o.guard = none) {t : TypeId} {x y : Operand} (ho : o.op = .store t x y) {vx vy : Value} (hx : a.eval x = vx) (hy : a.eval y = vy) (hr : (Instr.storeAt t vx vy).run P w = .ok () w') : Eff P ops o undef a w w' := by
  refine ⟨by simp [Region.wanted, hg], .inr ⟨?_, rfl⟩⟩
  simp [execOp, ho, hx, hy, hr, Result.andThen]
theorem eff_append (hg : o.guard = none) {x y : Operand} {t : TypeId} (ho : o.op = .call { callee := .builtin .append, args := #[x, y], argTypes := #[t, t] }) {vx vy v : Value} (hx : a.eval x = vx) (hy : a.eval y = vy) (hr : (Builtin.append_ #[t, t] o.type #[vx, vy]).run P w = .ok v w') : Eff P ops o v a w w' := by
  refine ⟨by simp [Region.wanted, hg], .inl ?_⟩
  simp [execOp, ho, resolve, invoke, builtin, hx, hy, hr, Result.andThen]
end

theorem fill_state (a b c : Int) : Instr.fill (fun i => some (i * 4, 4)) ((Array.range (1 * 4)).map fun x => (Value.agg #[.int .i64 0, .int .i64 0, .int .i64 0, .slice none 0 0]).cells[x % (Value.agg #[.int .i64 0, .int .i64 0, .int .i64 0, .slice none 0 0]).cells.size]!) [(0, .agg #[.int .i64 a, .int .i64 b, .int .i64 c, .slice none 0 0])] = some #[.int .i64 a, .int .i64 b, .int .i64 c, .slice none 0 0] := by
  kernel_rfl
/-- What child leaves. -/
def ChildDone (w : World) (base mp c bm n sg : Nat) (lab : List Word) (ends : List (Nat × Word)) (u : Word) (b : UInt8) (e : Ending) (w' : World) : Prop :=
  ∃ r : Nat, e = .returned (.int .i64 (r : Int)) ∧ ∃ n' sg' scap' vs' lab' sts', MemAt w' base mp c bm n' sg' scap' vs' lab' sts' ∧ Auto lab' ends sts' ∧ lab'[r]? = some (u ++ [b]) ∧
    (u ++ [b] ∈ lab ∧ lab' = lab ∨ u ++ [b] ∉ lab ∧ lab' = lab ++ [u ++ [b]]) ∧ n' ≤ n + 1 ∧ (sg' = sg ∨ w.heap.size ≤ sg') ∧ Frm w w' (fun k => k = mp ∨ k = bm ∨ k = sg)

set_option maxRecDepth 100000 in
set_option maxHeartbeats 4000000 in
theorem child_in (nn : Nat) (hnn : 1 ≤ nn) {w : World} {base mp c bm n sg scap : Nat} {vs : List Value} {lab : List Word} {sts : List St} {ends : List (Nat × Word)} (hM : MemAt w base mp c bm n sg scap vs lab sts) (hA : Auto lab ends sts) (hsz : sts.length < 1000000000000) (hn : n < 1000000000000)
    {q : Nat} {u : Word} (hq : lab[q]? = some u) (hul : u.length < 1000000000000) (hlong : ∀ x ∈ lab, x.length ≤ u.length + 1) (b : UInt8) (hbase : base ≤ w.heap.size) :
    CallsIn Fence.wide nn Try.prog 32 #[.pointer (some ⟨mp, 0, none⟩), .int .i64 (q : Int), .int .u8 (b.toNat : Int)] w (ChildDone w base mp c bm n sg lab ends u b) := by
  have hmix : Try.prog.follows .mixedOrders = true := by kernel_rfl
  have c1 := hM.cell1
  have c2 := hM.cell2
  have HM := Lib.hid hM
  have HA := Lib.hid hA
  have hql := (List.getElem?_eq_some_iff.1 hq).1
  rw [← hA.len] at hql
  have Hq := Lib.hid hq
  have Hlong := Lib.hid hlong
  have hb := b.toNat_lt
  clear hM hA hq hlong
  refine callsIn_of_wp Try.func32 rfl trivial ?_ rfl
  simp only [Try.ntmps32, List.size_toArray, List.length_cons, List.length_nil, Nat.reduceAdd, Nat.reduceSub, Array.replicate_succ, Array.replicate_zero, List.push_toArray, List.append_toArray, List.nil_append, List.cons_append]
  gi_wp2
  obtain ⟨w1, hw1⟩ : ∃ w1, w1 = w.alloc (.cells #[.int .i64 (q : Int), .int .i64 (b.toNat : Int)] 85) := ⟨_, rfl⟩
  rw [← hw1]
  have hB1 : Below w.heap.size w w1 := by rw [hw1]; exact (Below.refl _ w).alloc (Nat.le_refl _) _
  have HM1 := Lib.hid (HM.out.below hB1)
  have d1 := HM1.out.cell1
  have d2 := HM1.out.cell2
  have hk : w1.heap[w.heap.size]? = some (.cells #[.int .i64 (q : Int), .int .i64 (b.toNat : Int)] 85 (0, 0)) := by rw [hw1]; exact World.alloc_heap_new w _
  have k0 : w1.cell? ⟨w.heap.size, 0, none⟩ = some (.int .i64 (q : Int)) := by simp [World.cell?, hk]
  have k1 : w1.cell? ⟨w.heap.size, 1, none⟩ = some (.int .i64 (b.toNat : Int)) := by simp [World.cell?, hk]
  have hs1 : w1.heap.size = w.heap.size + 1 := by rw [hw1]; simp
  have HB1 := Lib.hid hB1
  have Hk := Lib.hid hk
  clear hw1 hB1 hk c1 c2
  cases hx : nxt lab q b with
  | some r =>
    have hrun := (HM1.out.next.kept (w' := w1.drew) (row := none) ⟨rfl, rfl, rfl, Nat.le_refl _, fun _ _ _ => rfl⟩ (by simp)).found (by omega) hx
    unfold kv at hrun
    have Hx := Lib.hid hx
    clear hx
    refine wpIn_region_reads (fun _ => trivial) hmix (by kernel_rfl) (by kernel_rfl) ?_
    repeat (go_big_quiet_step (fail))
    refine wpQuiet_nil ?_
    gi_wp2
    go_ret
    refine ⟨r, rfl, n, sg, scap, vs, lab, sts, HM1.out.below ⟨rfl, rfl, rfl, Nat.le_refl _, fun _ _ => rfl⟩, HA.out, ?_, .inl ⟨?_, rfl⟩, Nat.le_succ _, .inl rfl, Frm.of_below (w' := w1.drew) ⟨HB1.out.os, HB1.out.tape, HB1.out.output, HB1.out.size, HB1.out.block⟩ _⟩
    · have := Hx.out; rw [nxt_of Hq.out] at this; exact (pos_some HA.out.nodup).1 this
    · have := Hx.out; rw [nxt_of Hq.out] at this; exact List.mem_of_getElem? ((pos_some HA.out.nodup).1 this)
  | none =>
    obtain ⟨x, hrun⟩ := (HM1.out.next.kept (w' := w1.drew) (row := none) ⟨rfl, rfl, rfl, Nat.le_refl _, fun _ _ _ => rfl⟩ (by simp)).missed (by omega) hx
    unfold kv at hrun
    have hnew : u ++ [b] ∉ lab := by rw [nxt_of Hq.out] at hx; exact pos_none.1 hx
    have Hnew := Lib.hid hnew
    clear hx hnew
    refine wpIn_region_reads (fun _ => trivial) hmix (by kernel_rfl) (by kernel_rfl) ?_
    repeat (go_big_quiet_step (fail))
    refine wpQuiet_nil ?_
    clear hrun d1 d2 k0 k1
    obtain ⟨w2, hw2⟩ : ∃ w2, w2 = w1.drew := ⟨_, rfl⟩
    rw [← hw2]
    have hB2 : Below w1.heap.size w1 w2 := by rw [hw2]; exact ⟨rfl, rfl, rfl, Nat.le_refl _, fun _ _ => rfl⟩
    have HM2 := Lib.hid (HM1.out.below hB2)
    have hk2 : w2.heap[w.heap.size]? = some (.cells #[.int .i64 (q : Int), .int .i64 (b.toNat : Int)] 85 (0, 0)) := by rw [hw2]; exact Hk.out
    have d1 := HM2.out.cell1
    have d2 := HM2.out.cell2
    have k0 : w2.cell? ⟨w.heap.size, 0, none⟩ = some (.int .i64 (q : Int)) := by simp [World.cell?, hk2]
    have k1 : w2.cell? ⟨w.heap.size, 1, none⟩ = some (.int .i64 (b.toNat : Int)) := by simp [World.cell?, hk2]
    have hs2 : w2.heap.size = w.heap.size + 1 := by rw [hw2]; exact hs1
    have HB2 := Lib.hid hB2
    have Hk2 := Lib.hid hk2
    clear hw2 hB2 hk2
    by_cases h0 : q = 0
    · have e0 : ((q : Int) != 0) = false := by simp; omega
      have hu0 : u = [] := by
        have h1 := Hq.out
        rw [h0, HA.out.zero] at h1
        exact (Option.some.inj h1).symm
      have Hv : Hid (lab[0]? = some []) := Lib.hid HA.out.zero
      have hfall : Fall (lab ++ [u ++ [b]]) (u ++ [b]) [] := by rw [hu0]; exact fall_first (List.mem_of_getElem? HA.out.zero)
      have Hfall := Lib.hid hfall
      have Hu0 := Lib.hid hu0
      have H0 := Lib.hid h0
      clear hfall hu0 h0
      gi_wp2
      have hfl := (List.getElem?_eq_some_iff.1 Hv.out).1
      rw [← HA.out.len] at hfl
      obtain ⟨s0, hs0⟩ : ∃ s, sts[q]? = some s := ⟨_, List.getElem?_eq_getElem hql⟩
      obtain ⟨s1, hs1'⟩ : ∃ s, sts[0]? = some s := ⟨_, List.getElem?_eq_getElem hfl⟩
      have hdp := HA.out.depth q u s0 Hq.out hs0
      obtain ⟨w4, hput, hM4, hf4⟩ := put_mem (HM2.out.below (w' := w2.drew) ⟨rfl, rfl, rfl, Nat.le_refl _, fun _ _ => rfl⟩) HA.out hn hsz Hq.out Hnew.out
      unfold kv at hput
      have hs4 := hf4.size
      have hs4' : w2.heap.size ≤ w4.heap.size := hs4
      have hHl : w.heap.size ≠ bm := fun e => by
        have h1 := HM.out.next.lt
        omega
      have HM4 := Lib.hid hM4
      have Hf4 := Lib.hid hf4
      have Hput := Lib.hid hput
      have Hs0 := Lib.hid hs0
      have Hs1 := Lib.hid hs1'
      have Hdp := Lib.hid hdp
      clear hM4 hf4 hput hs0 hs1' hdp hs4
      refine wpIn_region_stages [6] (fun t => match t with | 0 => w2.drew | _ + 1 => w4) (fun _ => w2.drew) 0 (fun _ => trivial) hmix (by kernel_rfl) (by kernel_rfl) (by kernel_rfl) (fun t ht => ⟨0, by rw [Nat.le_zero.1 ht]⟩) rfl ?_
      refine wpSt_quiet 6 (by decide) (by kernel_rfl) ?_
      simp only [List.take_succ_cons, List.take_zero, List.drop_succ_cons, List.drop_zero]
      repeat (go_big_quiet_step (fail))
      refine wpQuiet_nil ?_
      refine wpSt_eff (j := 0) (by decide) rfl (eff_mapUpdate rfl rfl rfl rfl rfl Hput.out) ?_
      refine wpSt_done (wf := w4) rfl ?_
      gi_wp2
      go_frame
      clear d1 d2 k0 k1
      obtain ⟨w6, hw6⟩ : ∃ w6, w6 = w4.drew := ⟨_, rfl⟩
      have hM6 : MemAt w6 base mp c bm (n + 1) sg scap vs (lab ++ [u ++ [b]]) sts := by rw [hw6]; exact HM4.out.below ⟨rfl, rfl, rfl, Nat.le_refl _, fun _ _ => rfl⟩
      have hs6 : w.heap.size ≤ w6.heap.size := by rw [hw6]; show _ ≤ w4.heap.size; omega
      obtain ⟨i0, hi, hz0, hz1, hz2⟩ := info_parts infoState
      obtain ⟨g, cap, w7, happ, hg, hblk, hcell, hM8, hf8⟩ := push_mem 55 (s0.depth + 1) 0 s1.word hM6 hsz (by omega)
      have hsgl : sg ≠ mp := hM6.ne2.symm
      have hmpl := hM6.lt
      have hqb : q * 4 < 4 * sts.length := by omega
      have hfb : 2 < 4 * sts.length := by omega
      have hB7 : Below w6.heap.size w6 (w6.alloc (.cells #[.int .i64 ((s0.depth + 1 : Nat) : Int), .int .i64 ((0 : Nat) : Int), .int .i64 (s1.word : Int), .slice none 0 0] 65)) := (Below.refl _ w6).alloc (Nat.le_refl _) _
      have hM7 := hM6.below hB7
      have m7 : w7.cell? ⟨mp, 2, none⟩ = some (.slice (some ⟨sg, 0, none⟩) sts.length scap) := (World.cell?_of_block (w := w6) (a := ⟨mp, 2, none⟩) (hblk mp hmpl hM6.ne2)).trans hM6.cell2
      have f7 : w7.frozen? ⟨mp, 2, none⟩ = false := (World.frozen?_of_block (w := w6) (a := ⟨mp, 2, none⟩) (hblk mp hmpl hM6.ne2)).trans (hM6.frozen 2)
      obtain ⟨V, hV0, hV1, hV2⟩ : ∃ V : Nat → World, V 0 = w6 ∧ V 1 = w6.alloc (.cells #[.int .i64 ((s0.depth + 1 : Nat) : Int), .int .i64 ((0 : Nat) : Int), .int .i64 (s1.word : Int), .slice none 0 0] 65) ∧ ∀ t, V (t + 2) = w7 := ⟨fun t => match t with | 0 => w6 | 1 => w6.alloc (.cells #[.int .i64 ((s0.depth + 1 : Nat) : Int), .int .i64 ((0 : Nat) : Int), .int .i64 (s1.word : Int), .slice none 0 0] 65) | _ + 2 => w7, rfl, rfl, fun _ => rfl⟩
      have r1 : ∀ t, (V t).cell? ⟨mp, 2, none⟩ = some (.slice (some ⟨sg, 0, none⟩) sts.length scap) := fun t => by
        match t with
        | 0 => rw [hV0]; exact hM6.cell2
        | 1 => rw [hV1]; exact hM7.cell2
        | t + 2 => rw [hV2]; exact m7
      have r2 : ∀ t, (V t).cell? ⟨sg, q * 4, none⟩ = some (.int .i64 (s0.depth : Int)) := fun t => by
        match t with
        | 0 => rw [hV0]; exact hM6.st0 Hs0.out
        | 1 => rw [hV1]; exact hM7.st0 Hs0.out
        | t + 2 => rw [hV2, hcell _ hqb]; exact hM6.st0 Hs0.out
      have r3 : ∀ t, (V t).cell? ⟨sg, 2, none⟩ = some (.int .i64 (s1.word : Int)) := fun t => by
        match t with
        | 0 => rw [hV0]; exact hM6.st2 Hs1.out
        | 1 => rw [hV1]; exact hM7.st2 Hs1.out
        | t + 2 => rw [hV2, hcell _ hfb]; exact hM6.st2 Hs1.out
      have hdb : s0.depth < 1000000000000 := by rw [Hdp.out]; omega
      have HM8 := Lib.hid hM8
      have Hf8 := Lib.hid hf8
      have Happ := Lib.hid happ
      have Hw6 := Lib.hid hw6
      have HV0 := Lib.hid hV0
      have HV1 := Lib.hid hV1
      have HV2 := Lib.hid (hV2 0)
      have Hm7 := Lib.hid m7
      have Hf7 := Lib.hid f7
      clear hM8 hf8 happ hw6 hV0 hV1 hV2 m7 f7 hM6 hM7 hB7 hblk hcell
      refine wpIn_region_stages [24, 25, 28] (fun t => match t with | 0 => w6 | 1 => w6.alloc (.cells #[.int .i64 ((s0.depth + 1 : Nat) : Int), .int .i64 ((0 : Nat) : Int), .int .i64 (s1.word : Int), .slice none 0 0] 65) | 2 => w7 | _ + 3 => w7.setCell ⟨mp, 2, none⟩ (.slice (some ⟨g, 0, none⟩) (sts.length + 1) cap)) V 2 (fun _ => trivial) hmix (by kernel_rfl) (by kernel_rfl) (by kernel_rfl) (fun t ht => by
        match t, ht with
        | 0, _ => exact ⟨0, HV0.out.symm⟩
        | 1, _ => exact ⟨1, HV1.out.symm⟩
        | 2, _ => exact ⟨2, HV2.out.symm⟩) Hw6.out ?_
      refine wpSt_quiet 24 (by decide) (by kernel_rfl) ?_
      simp only [List.take_succ_cons, List.take_zero, List.drop_succ_cons, List.drop_zero]
      repeat (go_big_quiet_step (fail))
      refine wpQuiet_nil ?_
      refine wpSt_eff (j := 0) (by decide) rfl (eff_buildSlice1 rfl rfl (vx := .agg #[.int .i64 ((s0.depth : Int) + 1), .int .i64 ((0 : Nat) : Int), .int .i64 (s1.word : Int), .slice none 0 0]) rfl Try.underlying55 hi hz0 hz1 (by decide) (by decide) (by rw [Int.natCast_add]; exact fill_state _ _ _) rfl rfl) ?_
      refine wpSt_eff (j := 1) (by decide) rfl (eff_append rfl rfl rfl rfl Happ.out) ?_
      go_frame
      refine wpSt_quiet 2 (by decide) (by kernel_rfl) ?_
      simp only [List.take_succ_cons, List.take_zero, List.drop_succ_cons, List.drop_zero]
      repeat (go_big_quiet_step (fail))
      refine wpQuiet_nil ?_
      refine wpSt_eff (j := 2) (by decide) rfl (eff_storeCell rfl rfl rfl rfl ?_) ?_
      · have Hm7' := Hm7.out
        have Hf7' := Hf7.out
        go_simp
      refine wpSt_done (wf := w7.setCell ⟨mp, 2, none⟩ (.slice (some ⟨g, 0, none⟩) (sts.length + 1) cap)) rfl ?_
      go_frame
      gi_wp2
      go_ret
      have hs12 : w1.heap.size ≤ w2.heap.size := by omega
      have hf12 : Frm w w2 (fun k => k = mp ∨ k = bm ∨ k = sg) := Frm.of_below (HB1.out.trans (HB2.out.mono (by omega))) _
      have hf14 : Frm w w4 (fun k => k = mp ∨ k = bm ∨ k = sg) := hf12.trans (Frm.trans (Frm.drew w2 _) Hf4.out (fun k _ h => h)) (fun k _ h => .inr (.inl h))
      have hf16 : Frm w w6 (fun k => k = mp ∨ k = bm ∨ k = sg) := by rw [Hw6.out]; exact hf14.trans (Frm.drew w4 (fun _ => False)) (fun k _ h => h.elim)
      have hf18 := hf16.trans Hf8.out (fun k _ h => by rcases h with h | h; exact .inl h; exact .inr (.inr h))
      have hA' := HA.out.child (List.mem_of_getElem? Hq.out) Hnew.out Hlong.out Hv.out Hfall.out Hs1.out rfl
      rw [← Hdp.out] at hA'
      refine ⟨sts.length, rfl, n + 1, g, cap, _, lab ++ [u ++ [b]], _, HM8.out, hA', by rw [HA.out.len]; simp, .inr ⟨Hnew.out, rfl⟩, Nat.le_refl _, hg.imp id (fun h => by omega), hf18⟩
    · have e0 : ((q : Int) != 0) = true := by simp; omega
      obtain ⟨s, hs⟩ : ∃ s, sts[q]? = some s := ⟨_, List.getElem?_eq_getElem hql⟩
      have hune : u ≠ [] := fun e => by
        subst e
        obtain ⟨h1, h2⟩ := List.getElem?_eq_some_iff.1 Hq.out
        obtain ⟨h3, h4⟩ := List.getElem?_eq_some_iff.1 HA.out.zero
        exact h0 ((List.getElem_inj HA.out.nodup).1 (h2.trans h4.symm))
      obtain ⟨Fl, hFl, hF⟩ := HA.out.fall q u s Hq.out hs hune
      have HF := Lib.hid hF
      have HFl := Lib.hid hFl
      have Hs := Lib.hid hs
      clear hF hFl hs
      have cf2 := HM2.out.st1 Hs.out
      gi_wp2_with (refine ⟨trivial, ?_⟩; gi_at_call 35; refine (callsIn_wide.2 (step_any HM2.out HA.out hsz HFl.out b)).mono ?_; rintro e w' ⟨⟨f, rfl, v, hv, hL⟩, rfl⟩; have Hv := Lib.hid hv; have HL := Lib.hid hL; clear hv hL)
      have hfall : Fall (lab ++ [u ++ [b]]) (u ++ [b]) v := fall_child HA.out.closed Hnew.out HF.out HL.out
      have Hfall := Lib.hid hfall
      clear hfall
      have hfl := (List.getElem?_eq_some_iff.1 Hv.out).1
      rw [← HA.out.len] at hfl
      obtain ⟨s0, hs0⟩ : ∃ s, sts[q]? = some s := ⟨_, List.getElem?_eq_getElem hql⟩
      obtain ⟨s1, hs1'⟩ : ∃ s, sts[f]? = some s := ⟨_, List.getElem?_eq_getElem hfl⟩
      have hdp := HA.out.depth q u s0 Hq.out hs0
      obtain ⟨w4, hput, hM4, hf4⟩ := put_mem (HM2.out.below (w' := w2.drew) ⟨rfl, rfl, rfl, Nat.le_refl _, fun _ _ => rfl⟩) HA.out hn hsz Hq.out Hnew.out
      unfold kv at hput
      have hs4 := hf4.size
      have hs4' : w2.heap.size ≤ w4.heap.size := hs4
      have hHl : w.heap.size ≠ bm := fun e => by
        have h1 := HM.out.next.lt
        omega
      have HM4 := Lib.hid hM4
      have Hf4 := Lib.hid hf4
      have Hput := Lib.hid hput
      have Hs0 := Lib.hid hs0
      have Hs1 := Lib.hid hs1'
      have Hdp := Lib.hid hdp
      clear hM4 hf4 hput hs0 hs1' hdp hs4
      refine wpIn_region_stages [6] (fun t => match t with | 0 => w2.drew | _ + 1 => w4) (fun _ => w2.drew) 0 (fun _ => trivial) hmix (by kernel_rfl) (by kernel_rfl) (by kernel_rfl) (fun t ht => ⟨0, by rw [Nat.le_zero.1 ht]⟩) rfl ?_
      refine wpSt_quiet 6 (by decide) (by kernel_rfl) ?_
      simp only [List.take_succ_cons, List.take_zero, List.drop_succ_cons, List.drop_zero]
      repeat (go_big_quiet_step (fail))
      refine wpQuiet_nil ?_
      refine wpSt_eff (j := 0) (by decide) rfl (eff_mapUpdate rfl rfl rfl rfl rfl Hput.out) ?_
      refine wpSt_done (wf := w4) rfl ?_
      gi_wp2
      go_frame
      clear d1 d2 k0 k1
      obtain ⟨w6, hw6⟩ : ∃ w6, w6 = w4.drew := ⟨_, rfl⟩
      have hM6 : MemAt w6 base mp c bm (n + 1) sg scap vs (lab ++ [u ++ [b]]) sts := by rw [hw6]; exact HM4.out.below ⟨rfl, rfl, rfl, Nat.le_refl _, fun _ _ => rfl⟩
      have hs6 : w.heap.size ≤ w6.heap.size := by rw [hw6]; show _ ≤ w4.heap.size; omega
      obtain ⟨i0, hi, hz0, hz1, hz2⟩ := info_parts infoState
      obtain ⟨g, cap, w7, happ, hg, hblk, hcell, hM8, hf8⟩ := push_mem 55 (s0.depth + 1) f s1.word hM6 hsz (by omega)
      have hsgl : sg ≠ mp := hM6.ne2.symm
      have hmpl := hM6.lt
      have hqb : q * 4 < 4 * sts.length := by omega
      have hfb : f * 4 + 2 < 4 * sts.length := by omega
      have hB7 : Below w6.heap.size w6 (w6.alloc (.cells #[.int .i64 ((s0.depth + 1 : Nat) : Int), .int .i64 (f : Int), .int .i64 (s1.word : Int), .slice none 0 0] 65)) := (Below.refl _ w6).alloc (Nat.le_refl _) _
      have hM7 := hM6.below hB7
      have m7 : w7.cell? ⟨mp, 2, none⟩ = some (.slice (some ⟨sg, 0, none⟩) sts.length scap) := (World.cell?_of_block (w := w6) (a := ⟨mp, 2, none⟩) (hblk mp hmpl hM6.ne2)).trans hM6.cell2
      have f7 : w7.frozen? ⟨mp, 2, none⟩ = false := (World.frozen?_of_block (w := w6) (a := ⟨mp, 2, none⟩) (hblk mp hmpl hM6.ne2)).trans (hM6.frozen 2)
      obtain ⟨V, hV0, hV1, hV2⟩ : ∃ V : Nat → World, V 0 = w6 ∧ V 1 = w6.alloc (.cells #[.int .i64 ((s0.depth + 1 : Nat) : Int), .int .i64 (f : Int), .int .i64 (s1.word : Int), .slice none 0 0] 65) ∧ ∀ t, V (t + 2) = w7 := ⟨fun t => match t with | 0 => w6 | 1 => w6.alloc (.cells #[.int .i64 ((s0.depth + 1 : Nat) : Int), .int .i64 (f : Int), .int .i64 (s1.word : Int), .slice none 0 0] 65) | _ + 2 => w7, rfl, rfl, fun _ => rfl⟩
      have r1 : ∀ t, (V t).cell? ⟨mp, 2, none⟩ = some (.slice (some ⟨sg, 0, none⟩) sts.length scap) := fun t => by
        match t with
        | 0 => rw [hV0]; exact hM6.cell2
        | 1 => rw [hV1]; exact hM7.cell2
        | t + 2 => rw [hV2]; exact m7
      have r2 : ∀ t, (V t).cell? ⟨sg, q * 4, none⟩ = some (.int .i64 (s0.depth : Int)) := fun t => by
        match t with
        | 0 => rw [hV0]; exact hM6.st0 Hs0.out
        | 1 => rw [hV1]; exact hM7.st0 Hs0.out
        | t + 2 => rw [hV2, hcell _ hqb]; exact hM6.st0 Hs0.out
      have r3 : ∀ t, (V t).cell? ⟨sg, f * 4 + 2, none⟩ = some (.int .i64 (s1.word : Int)) := fun t => by
        match t with
        | 0 => rw [hV0]; exact hM6.st2 Hs1.out
        | 1 => rw [hV1]; exact hM7.st2 Hs1.out
        | t + 2 => rw [hV2, hcell _ hfb]; exact hM6.st2 Hs1.out
      have hdb : s0.depth < 1000000000000 := by rw [Hdp.out]; omega
      have HM8 := Lib.hid hM8
      have Hf8 := Lib.hid hf8
      have Happ := Lib.hid happ
      have Hw6 := Lib.hid hw6
      have HV0 := Lib.hid hV0
      have HV1 := Lib.hid hV1
      have HV2 := Lib.hid (hV2 0)
      have Hm7 := Lib.hid m7
      have Hf7 := Lib.hid f7
      clear hM8 hf8 happ hw6 hV0 hV1 hV2 m7 f7 hM6 hM7 hB7 hblk hcell
      refine wpIn_region_stages [24, 25, 28] (fun t => match t with | 0 => w6 | 1 => w6.alloc (.cells #[.int .i64 ((s0.depth + 1 : Nat) : Int), .int .i64 (f : Int), .int .i64 (s1.word : Int), .slice none 0 0] 65) | 2 => w7 | _ + 3 => w7.setCell ⟨mp, 2, none⟩ (.slice (some ⟨g, 0, none⟩) (sts.length + 1) cap)) V 2 (fun _ => trivial) hmix (by kernel_rfl) (by kernel_rfl) (by kernel_rfl) (fun t ht => by
        match t, ht with
        | 0, _ => exact ⟨0, HV0.out.symm⟩
        | 1, _ => exact ⟨1, HV1.out.symm⟩
        | 2, _ => exact ⟨2, HV2.out.symm⟩) Hw6.out ?_
      refine wpSt_quiet 24 (by decide) (by kernel_rfl) ?_
      simp only [List.take_succ_cons, List.take_zero, List.drop_succ_cons, List.drop_zero]
      repeat (go_big_quiet_step (fail))
      refine wpQuiet_nil ?_
      refine wpSt_eff (j := 0) (by decide) rfl (eff_buildSlice1 rfl rfl (vx := .agg #[.int .i64 ((s0.depth : Int) + 1), .int .i64 (f : Int), .int .i64 (s1.word : Int), .slice none 0 0]) rfl Try.underlying55 hi hz0 hz1 (by decide) (by decide) (by rw [Int.natCast_add]; exact fill_state _ _ _) rfl rfl) ?_
      refine wpSt_eff (j := 1) (by decide) rfl (eff_append rfl rfl rfl rfl Happ.out) ?_
      go_frame
      refine wpSt_quiet 2 (by decide) (by kernel_rfl) ?_
      simp only [List.take_succ_cons, List.take_zero, List.drop_succ_cons, List.drop_zero]
      repeat (go_big_quiet_step (fail))
      refine wpQuiet_nil ?_
      refine wpSt_eff (j := 2) (by decide) rfl (eff_storeCell rfl rfl rfl rfl ?_) ?_
      · have Hm7' := Hm7.out
        have Hf7' := Hf7.out
        go_simp
      refine wpSt_done (wf := w7.setCell ⟨mp, 2, none⟩ (.slice (some ⟨g, 0, none⟩) (sts.length + 1) cap)) rfl ?_
      go_frame
      gi_wp2
      go_ret
      have hs12 : w1.heap.size ≤ w2.heap.size := by omega
      have hf12 : Frm w w2 (fun k => k = mp ∨ k = bm ∨ k = sg) := Frm.of_below (HB1.out.trans (HB2.out.mono (by omega))) _
      have hf14 : Frm w w4 (fun k => k = mp ∨ k = bm ∨ k = sg) := hf12.trans (Frm.trans (Frm.drew w2 _) Hf4.out (fun k _ h => h)) (fun k _ h => .inr (.inl h))
      have hf16 : Frm w w6 (fun k => k = mp ∨ k = bm ∨ k = sg) := by rw [Hw6.out]; exact hf14.trans (Frm.drew w4 (fun _ => False)) (fun k _ h => h.elim)
      have hf18 := hf16.trans Hf8.out (fun k _ h => by rcases h with h | h; exact .inl h; exact .inr (.inr h))
      have hA' := HA.out.child (List.mem_of_getElem? Hq.out) Hnew.out Hlong.out Hv.out Hfall.out Hs1.out rfl
      rw [← Hdp.out] at hA'
      refine ⟨sts.length, rfl, n + 1, g, cap, _, lab ++ [u ++ [b]], _, HM8.out, hA', by rw [HA.out.len]; simp, .inr ⟨Hnew.out, rfl⟩, Nat.le_refl _, hg.imp id (fun h => by omega), hf18⟩
end Go.Proofs.Ytpgiaofkabhgkaa
