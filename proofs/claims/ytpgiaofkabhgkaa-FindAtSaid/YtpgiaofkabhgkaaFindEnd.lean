/-
  The contract of (*find.Many).end.
-/
import Derived.Test.YtpgiaofkabhgkaaFindChild
namespace Go.Proofs.Ytpgiaofkabhgkaa
set_option linter.unusedVariables false
set_option linter.unusedSimpArgs false
open Go.RowKit

theorem rowCells_set (sts : List St) (vs : List Value) (q : Nat) (s s' : St) (v v' : Value) (hs : sts[q]? = some s) (hv : vs[q]? = some v) (j : Nat) (hj : j < 4) (u : Value) (h : stCells (s', v') = (stCells (s, v)).set j u) :
    rowCells (sts.set q s') (vs.set q v') = (rowCells sts vs).set (4 * q + j) u := by
  induction sts generalizing vs q with
  | nil => simp at hs
  | cons a sts ih =>
    cases vs with
    | nil => simp at hv
    | cons b vs =>
      unfold rowCells at *
      cases q with
      | zero =>
        simp at hs hv
        subst hs hv
        simp only [List.set_cons_zero, List.zip_cons_cons, List.flatMap_cons, Nat.mul_zero, Nat.zero_add]
        rw [h, List.set_append_left _ _ (by simp [stCells]; omega)]
      | succ q =>
        simp at hs hv
        simp only [List.set_cons_succ, List.zip_cons_cons, List.flatMap_cons]
        rw [ih vs q hs hv, List.set_append_right _ _ (by simp [stCells]; omega)]
        congr 2
        simp [stCells]
        omega

section
variable {w : World} {base mp c bm n sg scap : Nat} {vs : List Value} {lab : List Word} {sts : List St}
/-- A field of a state is stored. -/
theorem MemAt.store (h : MemAt w base mp c bm n sg scap vs lab sts) {q : Nat} {s s' : St} {v v' : Value} (hs : sts[q]? = some s) (hv : vs[q]? = some v) (j : Nat) (hj : j < 4) (u : Value) (hc : stCells (s', v') = (stCells (s, v)).set j u)
    (hw : w.ownsRow base 3 1 v' s'.which.length (natCells s'.which)) (hap : ∀ (q' : Nat) (x : Value), q' ≠ q → vs[q']? = some x → (v'.ownBlock = none ∨ v'.ownBlock ≠ x.ownBlock) ∧ (x.ownBlock = none ∨ x.ownBlock ≠ v'.ownBlock)) :
    MemAt (w.setCell ⟨sg, q * 4 + j, none⟩ u) base mp c bm n sg scap (vs.set q v') lab (sts.set q s') ∧ Frm w (w.setCell ⟨sg, q * 4 + j, none⟩ u) (fun k => k = sg) := by
  have hf : Frm w (w.setCell ⟨sg, q * 4 + j, none⟩ u) (fun k => k = sg) := ⟨rfl, rfl, rfl, by simp [World.setCell], fun k _ hne => Below.heap_setCell _ _ _ _ hne⟩
  have hql := (List.getElem?_eq_some_iff.1 hs).1
  have hqv := (List.getElem?_eq_some_iff.1 hv).1
  have hvsg : ∀ k, v'.ownBlock = some k → k ≠ sg := fun k hk e => by
    obtain ⟨_, cur, hb⟩ := h.rowBlock
    rcases hw.2 with ⟨rfl, _⟩ | ⟨g, cap, cur', rfl, _, hg, _⟩
    · cases hk
    · cases hk
      have e' : g = sg := e
      rw [e'] at hg
      rw [hg] at hb
      simp at hb
  refine ⟨⟨?_, ?_, ?_, ?_, ?_, ?_⟩, hf⟩
  · rw [List.length_set]; exact (hf.block mp h.lt h.ne2).trans h.head
  · exact hf.next h.next h.ne3
  · have := (h.row.stored (q * 4 + j) u).1
    rw [List.length_set, rowCells_set sts vs q s s' v v' hs hv j hj u hc, Nat.mul_comm 4 q]
    exact this
  · simp [h.vlen]
  · intro k t x ht hx
    by_cases hk : k = q
    · subst hk
      rw [List.getElem?_set_self hql] at ht
      rw [List.getElem?_set_self hqv] at hx
      cases ht; cases hx
      exact hf.row hw hvsg
    · rw [List.getElem?_set_ne (fun e => hk e.symm)] at ht hx
      exact hf.row (h.whi k t x ht hx) (fun b hb => (h.ne4 (List.mem_of_getElem? hx) hb).2.2)
  · intro k k' x x' hne hx hx'
    by_cases hk : k = q
    · subst hk
      rw [List.getElem?_set_self hqv] at hx
      rw [List.getElem?_set_ne hne] at hx'
      cases hx
      exact (hap k' x' (fun e => hne e.symm) hx').1
    · rw [List.getElem?_set_ne (fun e => hk e.symm)] at hx
      by_cases hk' : k' = q
      · subst hk'
        rw [List.getElem?_set_self hqv] at hx'
        cases hx'
        exact (hap k x hk hx).2
      · rw [List.getElem?_set_ne (fun e => hk' e.symm)] at hx'
        exact h.apart k k' x x' hne hx hx'
end

theorem infoInt3 : (Try.prog.info? 3).map (fun i => (i.zero, i.size, i.bytes)) = some (some (.int .i64 0), 1, 8) := by kernel_rfl

/-- 'm.states[at].which = append(m.states[at].which, which)'. -/
theorem which_mem {w : World} {base mp c bm n sg scap : Nat} {vs : List Value} {lab : List Word} {sts : List St} (ty : TypeId) (i : Nat) (hM : MemAt w base mp c bm n sg scap vs lab sts) (hbase : base ≤ w.heap.size)
    {q : Nat} {s : St} {v : Value} (hs : sts[q]? = some s) (hv : vs[q]? = some v) (hl : s.which.length < 1000000000000) :
    ∃ v' w5, (Builtin.append_ #[63, 63] ty #[v, .slice (some ⟨w.heap.size, 0, none⟩) 1 1]).run Try.prog (w.alloc (.cells #[.int .i64 (i : Int)] 3)) = .ok v' w5 ∧ (∃ g cap, v' = .slice (some ⟨g, 0, none⟩) (s.which.length + 1) cap) ∧
      (∀ k, k < w.heap.size → some k ≠ v.ownBlock → w5.heap[k]? = w.heap[k]?) ∧
      MemAt (w5.setCell ⟨sg, q * 4 + 3, none⟩ v') base mp c bm n sg scap (vs.set q v') lab (sts.set q ⟨s.depth, s.fall, s.word, s.which ++ [i]⟩) ∧
      Frm w (w5.setCell ⟨sg, q * 4 + 3, none⟩ v') (fun k => k = sg ∨ some k = v.ownBlock) := by
  obtain ⟨i0, hi, hz0, hz1, hz2⟩ := info_parts infoInt3
  obtain ⟨w4, hw4⟩ : ∃ w4, w4 = w.alloc (.cells #[.int .i64 (i : Int)] 3) := ⟨_, rfl⟩
  rw [← hw4]
  have hB4 : Below w.heap.size w w4 := by rw [hw4]; exact (Below.refl _ w).alloc (Nat.le_refl _) _
  have hs4 : w4.heap.size = w.heap.size + 1 := by rw [hw4]; simp
  have hM4 := hM.below hB4
  have hnew : w4.heap[w.heap.size]? = some (.cells #[.int .i64 (i : Int)] 3 (0, 0)) := by rw [hw4]; exact World.alloc_heap_new w _
  obtain ⟨v', w5, hr, hown, hgr, _, hloc⟩ := run_append_own_at (P := Try.prog) w4 base 63 ty 3 i0 _ 1 8 Try.underlying63 hi hz0 hz1 hz2 rfl (by decide) v s.which.length _ (hM4.whi q s v hs hv) ⟨w.heap.size, 0, none⟩ 1 1 (natCells [i]) rfl (fun j u hj => by
      have hadd : (Addr.add ⟨w.heap.size, 0, none⟩ j) = ⟨w.heap.size, j, none⟩ := by cases j <;> simp [Addr.add]
      rw [hadd]
      simp only [World.cell?, hnew]
      rcases j with _ | j <;> simp [natCells] at hj ⊢ <;> first | exact hj | skip) (fun u hu => by simp [natCells] at hu; rw [hu]; rfl) (by unfold maxLen; omega) (by omega) (by omega)
  have hsgl : sg < w.heap.size := by obtain ⟨_, cur, h⟩ := hM.rowBlock; exact (Array.getElem?_eq_some_iff.1 h).1
  have hblk : ∀ k, k < w4.heap.size → some k ≠ v.ownBlock → w5.heap[k]? = w4.heap[k]? := fun k hk hne => hgr.block k hk hne
  have hf5 : Frm w w5 (fun k => some k = v.ownBlock) := ⟨hgr.os.trans hB4.os, hgr.tape.trans hB4.tape, hgr.output.trans hB4.output, by have := hgr.size; omega, fun k hk hne => (hblk k (by omega) hne).trans (hB4.block k hk)⟩
  have hvm := List.mem_of_getElem? hv
  have hn1 : ∀ k, k = mp ∨ k = bm ∨ k = sg → some k ≠ v.ownBlock := fun k hk e => by
    have := hM.ne4 hvm e.symm
    rcases hk with rfl | rfl | rfl
    · exact this.1 rfl
    · exact this.2.1 rfl
    · exact this.2.2 rfl
  -- behind the append: v as it was told before no longer owns its row, v' does
  have hq' : ∀ (q' : Nat) (x : Value), q' ≠ q → vs[q']? = some x → (v'.ownBlock = none ∨ v'.ownBlock ≠ x.ownBlock) ∧ (x.ownBlock = none ∨ x.ownBlock ≠ v'.ownBlock) := by
    intro q' x hne hx
    rcases hloc with e | e
    · rw [e]
      exact ⟨hM.apart q q' v x hne.symm hv hx, hM.apart q' q x v hne hx hv⟩
    · rw [e]
      have : x.ownBlock = none ∨ x.ownBlock ≠ some w4.heap.size := by
        cases h : x.ownBlock with
        | none => exact .inl rfl
        | some k =>
          refine .inr fun e2 => ?_
          obtain ⟨_, cur, hb⟩ := hM.valBlock (List.mem_of_getElem? hx) h
          have := (Array.getElem?_eq_some_iff.1 hb).1
          have e3 : k = w4.heap.size := Option.some.inj e2
          omega
      exact ⟨.inr (fun e2 => by rcases this with h | h; rw [h] at e2; cases e2; exact h e2.symm), this⟩
  have hrow5 : ∀ (q' : Nat) (t : St) (x : Value), q' ≠ q → sts[q']? = some t → vs[q']? = some x → w5.ownsRow base 3 1 x t.which.length (natCells t.which) := by
    intro q' t x hne ht hx
    refine hf5.row (hM.whi q' t x ht hx) (fun k hk e => ?_)
    rcases hM.apart q' q x v hne hx hv with h | h
    · rw [h] at hk; cases hk
    · exact h (hk.trans e)
  obtain ⟨g, cap, hform⟩ : ∃ g cap, v' = .slice (some ⟨g, 0, none⟩) (s.which.length + 1) cap := ownsRow_succ hown
  have hf6 : Frm w (w5.setCell ⟨sg, q * 4 + 3, none⟩ v') (fun k => k = sg ∨ some k = v.ownBlock) :=
    ⟨hf5.os, hf5.tape, hf5.output, by simp [World.setCell]; exact hf5.size, fun k hk hne => by
      rw [Below.heap_setCell _ _ _ _ (fun e => hne (.inl e))]
      exact hf5.block k hk (fun e => hne (.inr e))⟩
  have hql := (List.getElem?_eq_some_iff.1 hs).1
  have hqv := (List.getElem?_eq_some_iff.1 hv).1
  have hv'sg : ∀ k, v'.ownBlock = some k → k ≠ sg := fun k hk e => by
    rcases hloc with e2 | e2
    · rw [e2] at hk; exact hn1 k (.inr (.inr e)) hk.symm
    · rw [e2] at hk; have : w4.heap.size = k := Option.some.inj hk; omega
  refine ⟨v', w5, hr, ⟨g, cap, hform⟩, fun k hk hne => (hblk k (by omega) hne).trans (hB4.block k hk), ⟨?_, ?_, ?_, ?_, ?_, ?_⟩, hf6⟩
  · rw [List.length_set]
    refine (hf6.block mp hM.lt ?_).trans hM.head
    rintro (e | e)
    · exact hM.ne2 e
    · exact hn1 mp (.inl rfl) e
  · refine hf6.next hM.next ?_
    rintro (e | e)
    · exact hM.ne3 e
    · exact hn1 bm (.inr (.inl rfl)) e
  · have h5 : w5.ownsRow base 65 4 (.slice (some ⟨sg, 0, none⟩) sts.length scap) sts.length (rowCells sts vs) := hf5.row hM.row (fun k hk e => by cases hk; exact hn1 sg (.inr (.inr rfl)) e)
    have := (h5.stored (q * 4 + 3) v').1
    rw [List.length_set, rowCells_set sts vs q s ⟨s.depth, s.fall, s.word, s.which ++ [i]⟩ v v' hs hv 3 (by omega) v' rfl, Nat.mul_comm 4 q]
    exact this
  · simp [hM.vlen]
  · intro k t x ht hx
    have hfs : Frm w5 (w5.setCell ⟨sg, q * 4 + 3, none⟩ v') (fun k => k = sg) := ⟨rfl, rfl, rfl, by simp [World.setCell], fun k _ hne => Below.heap_setCell _ _ _ _ hne⟩
    by_cases hk : k = q
    · subst hk
      rw [List.getElem?_set_self hql] at ht
      rw [List.getElem?_set_self hqv] at hx
      cases ht; cases hx
      refine hfs.row ?_ hv'sg
      have : natCells (s.which ++ [i]) = natCells s.which ++ natCells [i] := by unfold natCells; rw [List.map_append]
      rw [this, List.length_append]
      exact hown
    · rw [List.getElem?_set_ne (fun e => hk e.symm)] at ht hx
      exact hfs.row (hrow5 k t x hk ht hx) (fun b hb => (hM.ne4 (List.mem_of_getElem? hx) hb).2.2)
  · intro k k' x x' hne hx hx'
    by_cases hk : k = q
    · subst hk
      rw [List.getElem?_set_self hqv] at hx
      rw [List.getElem?_set_ne hne] at hx'
      cases hx
      exact (hq' k' x' (fun e => hne e.symm) hx').1
    · rw [List.getElem?_set_ne (fun e => hk e.symm)] at hx
      by_cases hk' : k' = q
      · subst hk'
        rw [List.getElem?_set_self hqv] at hx'
        cases hx'
        exact (hq' k x hk hx).2
      · rw [List.getElem?_set_ne (fun e => hk' e.symm)] at hx'
        exact hM.apart k k' x x' hne hx hx'

theorem MemAt.frozenSt {w : World} {base mp c bm n sg scap : Nat} {vs : List Value} {lab : List Word} {sts : List St} (h : MemAt w base mp c bm n sg scap vs lab sts) (j : Nat) : w.frozen? ⟨sg, j, none⟩ = false := by
  obtain ⟨_, cur, hb⟩ := h.rowBlock
  simp [World.frozen?, hb]
theorem fill_int (a : Int) : Instr.fill (fun i => some (i * 1, 1)) ((Array.range (1 * 1)).map fun x => (Value.int .i64 0).cells[x % (Value.int .i64 0).cells.size]!) [(0, .int .i64 a)] = some #[.int .i64 a] := by
  kernel_rfl

set_option maxRecDepth 100000 in
set_option maxHeartbeats 4000000 in
theorem end_in (nn : Nat) {w : World} {base mp c bm n sg scap : Nat} {vs : List Value} {lab : List Word} {sts : List St} (hM : MemAt w base mp c bm n sg scap vs lab sts) (hsz : sts.length < 1000000000000) (hbase : base ≤ w.heap.size)
    {q : Nat} {s : St} (hs : sts[q]? = some s) (hwl : s.which.length < 1000000000000) (i : Nat) :
    CallsIn Fence.wide nn Try.prog 33 #[.pointer (some ⟨mp, 0, none⟩), .int .i64 (q : Int), .int .i64 (i : Int)] w fun e w' => (∃ v, e = .returned v) ∧ ∃ vs',
      MemAt w' base mp c bm n sg scap vs' lab (sts.set q ⟨s.depth, s.fall, q, s.which ++ [i]⟩) ∧ Frm w w' (fun k => k = sg ∨ ∃ v ∈ vs, v.ownBlock = some k) := by
  have hmix : Try.prog.follows .mixedOrders = true := by kernel_rfl
  have hql := (List.getElem?_eq_some_iff.1 hs).1
  obtain ⟨v, hv⟩ := hM.val hs
  have c2 := hM.cell2
  have cw := hM.st2 hs
  have fw := hM.frozenSt (q * 4 + 2)
  obtain ⟨hM1, hf1⟩ := hM.store (s' := ⟨s.depth, s.fall, q, s.which⟩) (v' := v) hs hv 2 (by omega) (.int .i64 (q : Int)) rfl (hM.whi q s v hs hv) (fun q' x hne hx => ⟨hM.apart q q' v x hne.symm hv hx, hM.apart q' q x v hne hx hv⟩)
  have hvset : vs.set q v = vs := by
    apply List.ext_getElem?
    intro k
    by_cases hk : k = q
    · subst hk; rw [List.getElem?_set_self (List.getElem?_eq_some_iff.1 hv).1, hv]
    · rw [List.getElem?_set_ne (fun e => hk e.symm)]
  rw [hvset] at hM1
  have HM1 := Lib.hid hM1
  have Hf1 := Lib.hid hf1
  have HM := Lib.hid hM
  have Hv := Lib.hid hv
  have Hs := Lib.hid hs
  clear hM1 hf1 hM hvset hv hs
  refine callsIn_of_wp Try.func33 rfl trivial ?_ rfl
  simp only [Try.ntmps33, List.size_toArray, List.length_cons, List.length_nil, Nat.reduceAdd, Nat.reduceSub, Array.replicate_succ, Array.replicate_zero, List.push_toArray, List.append_toArray, List.nil_append, List.cons_append]
  gi_wp2
  obtain ⟨w1, hw1⟩ : ∃ w1, w1 = w.setCell ⟨sg, q * 4 + 2, none⟩ (.int .i64 (q : Int)) := ⟨_, rfl⟩
  have hM1 := HM1.out
  have hf1 := Hf1.out
  rw [← hw1] at hM1 hf1 ⊢
  have Hw1 := Lib.hid hw1
  clear hw1 c2 cw fw
  obtain ⟨w6, hw6⟩ : ∃ w6, w6 = w1.drew := ⟨_, rfl⟩
  have hM6 : MemAt w6 base mp c bm n sg scap vs lab (sts.set q ⟨s.depth, s.fall, q, s.which⟩) := by rw [hw6]; exact hM1.below ⟨rfl, rfl, rfl, Nat.le_refl _, fun _ _ => rfl⟩
  have hf6 : Frm w w6 (fun k => k = sg) := by rw [hw6]; exact hf1.trans (Frm.drew w1 (fun _ => False)) (fun k _ h => h.elim)
  have hs6 : w.heap.size ≤ w6.heap.size := hf6.size
  have hsq : (sts.set q ⟨s.depth, s.fall, q, s.which⟩)[q]? = some ⟨s.depth, s.fall, q, s.which⟩ := List.getElem?_set_self hql
  obtain ⟨i0, hi, hz0, hz1, hz2⟩ := info_parts infoInt3
  obtain ⟨v', w7, happ, ⟨g, cap, rfl⟩, hblk, hM8, hf8⟩ := which_mem 63 i hM6 (by omega) hsq Hv.out hwl
  have hmpl := hM6.lt
  have hsgl : sg < w6.heap.size := by obtain ⟨_, cur, h⟩ := hM6.rowBlock; exact (Array.getElem?_eq_some_iff.1 h).1
  have hvm := List.mem_of_getElem? Hv.out
  have hmpne : some mp ≠ v.ownBlock := fun e => (hM6.ne4 hvm e.symm).1 rfl
  have hsgne : some sg ≠ v.ownBlock := fun e => (hM6.ne4 hvm e.symm).2.2 rfl
  have hM7 := hM6.below (w' := w6.alloc (.cells #[.int .i64 (i : Int)] 3)) ((Below.refl _ w6).alloc (Nat.le_refl _) _)
  obtain ⟨V, hV0, hV1, hV2⟩ : ∃ V : Nat → World, V 0 = w6 ∧ V 1 = w6.alloc (.cells #[.int .i64 (i : Int)] 3) ∧ ∀ t, V (t + 2) = w7 := ⟨fun t => match t with | 0 => w6 | 1 => w6.alloc (.cells #[.int .i64 (i : Int)] 3) | _ + 2 => w7, rfl, rfl, fun _ => rfl⟩
  dsimp only at hM8 happ hf8
  have m6 := hM6.cell2
  have m7 := hM7.cell2
  rw [List.length_set] at m6 m7
  have r1 : ∀ t, (V t).cell? ⟨mp, 2, none⟩ = some (.slice (some ⟨sg, 0, none⟩) sts.length scap) := fun t => by
    match t with
    | 0 => rw [hV0]; exact m6
    | 1 => rw [hV1]; exact m7
    | t + 2 => rw [hV2]; exact (World.cell?_of_block (w := w6) (a := ⟨mp, 2, none⟩) (hblk mp hmpl hmpne)).trans m6
  have r2 : ∀ t, (V t).cell? ⟨sg, q * 4 + 3, none⟩ = some v := fun t => by
    match t with
    | 0 => rw [hV0]; exact hM6.st3 hsq Hv.out
    | 1 => rw [hV1]; exact hM7.st3 hsq Hv.out
    | t + 2 => rw [hV2]; exact (World.cell?_of_block (w := w6) (a := ⟨sg, q * 4 + 3, none⟩) (hblk sg hsgl hsgne)).trans (hM6.st3 hsq Hv.out)
  have c7 : w7.cell? ⟨sg, q * 4 + 3, none⟩ = some v := (World.cell?_of_block (w := w6) (a := ⟨sg, q * 4 + 3, none⟩) (hblk sg hsgl hsgne)).trans (hM6.st3 hsq Hv.out)
  have f7 : w7.frozen? ⟨sg, q * 4 + 3, none⟩ = false := (World.frozen?_of_block (w := w6) (a := ⟨sg, q * 4 + 3, none⟩) (hblk sg hsgl hsgne)).trans (hM6.frozenSt _)
  have hvform : ∃ ao m cp, v = .slice ao m cp := by
    rcases (hM6.whi q _ v hsq Hv.out).2 with ⟨rfl, _⟩ | ⟨g, cp, cur, rfl, _⟩
    · exact ⟨_, _, _, rfl⟩
    · exact ⟨_, _, _, rfl⟩
  obtain ⟨ao, vm, vcp, hveq⟩ := hvform
  have HM8 := Lib.hid hM8
  have Hf8 := Lib.hid hf8
  have Hf6 := Lib.hid hf6
  have Happ := Lib.hid happ
  have Hw6 := Lib.hid hw6
  have HV0 := Lib.hid hV0
  have HV1 := Lib.hid hV1
  have HV2 := Lib.hid (hV2 0)
  have Hc7 := Lib.hid c7
  have Hf7 := Lib.hid f7
  have Hvm := Lib.hid hvm
  clear hM8 hf8 happ hw6 hV0 hV1 hV2 c7 f7 hM6 hM7 hblk m6 m7 hM1 hf1 hf6 hsq hvm hmpne hsgne
  refine wpIn_region_stages [14, 15, 18] (fun t => match t with | 0 => w6 | 1 => w6.alloc (.cells #[.int .i64 (i : Int)] 3) | 2 => w7 | _ + 3 => w7.setCell ⟨sg, q * 4 + 3, none⟩ (.slice (some ⟨g, 0, none⟩) (s.which.length + 1) cap)) V 2 (fun _ => trivial) hmix (by kernel_rfl) (by kernel_rfl) (by kernel_rfl) (fun t ht => by
    match t, ht with
    | 0, _ => exact ⟨0, HV0.out.symm⟩
    | 1, _ => exact ⟨1, HV1.out.symm⟩
    | 2, _ => exact ⟨2, HV2.out.symm⟩) Hw6.out ?_
  try go_frame
  refine wpSt_quiet 14 (by decide) (by kernel_rfl) ?_
  simp only [List.take_succ_cons, List.take_zero, List.drop_succ_cons, List.drop_zero]
  repeat (go_big_quiet_step (fail))
  refine wpQuiet_nil ?_
  refine wpSt_eff (j := 0) (by decide) rfl (eff_buildSlice1 rfl rfl (vx := .int .i64 (i : Int)) rfl Try.underlying63 hi hz0 hz1 (by decide) (by decide) (fill_int _) rfl rfl) ?_
  refine wpSt_eff (j := 1) (by decide) rfl (eff_append rfl rfl rfl rfl (by have := Happ.out; rw [hveq] at this; exact this)) ?_
  go_frame
  refine wpSt_quiet 2 (by decide) (by kernel_rfl) ?_
  simp only [List.take_succ_cons, List.take_zero, List.drop_succ_cons, List.drop_zero]
  repeat (go_big_quiet_step (fail))
  refine wpQuiet_nil ?_
  refine wpSt_eff (j := 2) (by decide) rfl (eff_storeCell rfl rfl rfl rfl ?_) ?_
  · have Hc7' := Hc7.out
    have Hf7' := Hf7.out
    rw [hveq] at Hc7'
    go_simp
  refine wpSt_done (wf := w7.setCell ⟨sg, q * 4 + 3, none⟩ (.slice (some ⟨g, 0, none⟩) (s.which.length + 1) cap)) rfl ?_
  go_frame
  gi_wp2
  go_end0
  have hM8 := HM8.out
  rw [List.set_set] at hM8
  exact ⟨⟨_, rfl⟩, _, hM8, (Hf6.out.mono (S' := fun k => k = sg ∨ ∃ v ∈ vs, v.ownBlock = some k) (fun k h => .inl h)).trans Hf8.out (fun k _ h => h.imp id fun h => ⟨v, Hvm.out, h.symm⟩)⟩
end Go.Proofs.Ytpgiaofkabhgkaa
