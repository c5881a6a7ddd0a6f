/-
  A state is appended to a Many; a transition is laid.
-/
import Derived.Test.YtpgiaofkabhgkaaFindMem
import Derived.RangeFuncNested
namespace Go.Proofs.Ytpgiaofkabhgkaa
set_option linter.unusedVariables false
set_option linter.unusedSimpArgs false
open Go.RowKit

theorem run_append_at2 {P : Program} (w : World) (base : Nat) (t ty e : TypeId) (i : TypeInfo) (z : Value) (size bytes : Nat) (ht : P.underlying t = some (.slice e)) (hi : P.info? e = some i) (hz : i.zero = some z)
    (hsize : i.size = size) (hby : i.bytes = bytes) (hzs : z.cells.size = size) (hsz : 0 < size)
    (g n cap : Nat) (xs : List Value) (hown : w.ownsRow base e size (.slice (some ⟨g, 0, none⟩) n cap) n xs)
    (a : Addr) (m c : Nat) (news : List Value) (hl : news.length = m * size) (hnews : ∀ j u, news[j]? = some u → w.cell? (a.add j) = some u) (h1 : ∀ u ∈ news, u.oneCell' = true)
    (h63 : n + m ≤ maxLen) (hbytes : (n + m) * bytes ≤ 140737488355328) (hbase : base ≤ w.heap.size) :
    ∃ g' cap' w', (Builtin.append_ #[t, t] ty #[.slice (some ⟨g, 0, none⟩) n cap, .slice (some a) m c]).run P w = .ok (.slice (some ⟨g', 0, none⟩) (n + m) cap') w' ∧ w'.ownsRow base e size (.slice (some ⟨g', 0, none⟩) (n + m) cap') (n + m) (xs ++ news) ∧
      (g' = g ∧ w.grownBy w' (some g) ∨ g' = w.heap.size ∧ w.grownBy w' none) := by
  obtain ⟨v', w', hr, h2, h3, _, _⟩ := run_append_own_at (P := P) w base t ty e i z size bytes ht hi hz hsize hby hzs hsz _ n xs hown a m c news hl hnews h1 h63 hbytes hbase
  rcases hown.2 with ⟨hv, _⟩ | ⟨g0, cap0, cur, hv, hbg, hg, hnc, hcm, hcs, htake⟩
  · cases hv
  · cases hv
    subst hsize
    subst hby
    by_cases hroom : n + m ≤ cap
    · have hfit : n * i.size + news.length ≤ cur.size := by rw [hl, hcs, ← Nat.add_mul]; exact Nat.mul_le_mul_right _ hroom
      have hr2 := run_append_room (P := P) w t ty e i ht hi g n cap cur hg a m c news hl hnews h1 hroom hfit
      rw [hr] at hr2
      cases hr2
      exact ⟨_, _, _, hr, h2, .inl ⟨rfl, h3⟩⟩
    · have holds : ∀ j u, xs[j]? = some u → w.cell? ((⟨g, 0, none⟩ : Addr).add j) = some u := hown.cells (g := g) rfl
      have hr2 := run_append_grow (P := P) w t ty e i z ht hi hz ⟨g, 0, none⟩ n cap xs hown.1 holds a m c news hl hnews (by omega) (by unfold maxLen at h63; omega) (growslice_fits (by omega) hbytes)
      rw [hr] at hr2
      cases hr2
      exact ⟨_, _, _, hr, h2, .inr ⟨rfl, ⟨rfl, rfl, rfl, by simp, fun k hk _ => Below.heap_alloc w.drew _ k hk⟩⟩⟩

/-- w' is w but for the blocks of S and new ones. -/
structure Frm (w w' : World) (S : Nat → Prop) : Prop where
  os : w'.os = w.os
  tape : w'.tape = w.tape
  output : w'.output = w.output
  size : w.heap.size ≤ w'.heap.size
  block : ∀ k, k < w.heap.size → ¬ S k → w'.heap[k]? = w.heap[k]?
theorem Frm.refl (w : World) (S : Nat → Prop) : Frm w w S := ⟨rfl, rfl, rfl, Nat.le_refl _, fun _ _ _ => rfl⟩
theorem Frm.trans {a b c : World} {S S' : Nat → Prop} (h : Frm a b S) (k : Frm b c S') (hs : ∀ k, k < a.heap.size → S' k → S k) : Frm a c S :=
  ⟨k.os.trans h.os, k.tape.trans h.tape, k.output.trans h.output, Nat.le_trans h.size k.size, fun i hi hn => (k.block i (Nat.lt_of_lt_of_le hi h.size) (fun e => hn (hs i hi e))).trans (h.block i hi hn)⟩
theorem Frm.of_below {w w' : World} (h : Below w.heap.size w w') (S : Nat → Prop) : Frm w w' S := ⟨h.os, h.tape, h.output, h.size, fun k hk _ => h.block k hk⟩
theorem Frm.mono {w w' : World} {S S' : Nat → Prop} (h : Frm w w' S) (hs : ∀ k, S k → S' k) : Frm w w' S' := ⟨h.os, h.tape, h.output, h.size, fun k hk hn => h.block k hk (fun e => hn (hs k e))⟩
theorem Frm.drew (w : World) (S : Nat → Prop) : Frm w w.drew S := ⟨rfl, rfl, rfl, Nat.le_refl _, fun _ _ _ => rfl⟩
theorem Frm.of_grown {w w' : World} {row : Option Nat} (h : w.grownBy w' row) : Frm w w' (fun k => some k = row) := ⟨h.os, h.tape, h.output, h.size, fun k hk hn => h.block k hk hn⟩
theorem Frm.below {w w' : World} {S : Nat → Prop} (h : Frm w w' S) {B : Nat} (hB : B ≤ w.heap.size) (hS : ∀ k, S k → B ≤ k) : Below B w w' :=
  ⟨h.os, h.tape, h.output, h.size, fun k hk => h.block k (by omega) (fun e => by have := hS k e; omega)⟩
theorem Frm.row {w w' : World} {S : Nat → Prop} (h : Frm w w' S) {base : Nat} {e : TypeId} {size : Nat} {v : Value} {n : Nat} {xs : List Value} (hr : w.ownsRow base e size v n xs) (hv : ∀ k, v.ownBlock = some k → ¬ S k) : w'.ownsRow base e size v n xs := by
  refine ⟨hr.1, ?_⟩
  rcases hr.2 with hn | ⟨g, cap, cur, rfl, hb, hgg, rest⟩
  · exact .inl hn
  · exact .inr ⟨g, cap, cur, rfl, hb, by rw [h.block g (Array.getElem?_eq_some_iff.1 hgg).1 (hv g rfl)]; exact hgg, rest⟩
theorem Frm.next {w w' : World} {S : Nat → Prop} (h : Frm w w' S) {b n : Nat} {lab : List Word} (hr : OwnsNext w b n lab) (hv : ¬ S b) : OwnsNext w' b n lab := by
  obtain ⟨D, ⟨es, clock, hb, rest⟩, h2⟩ := hr
  exact ⟨D, ⟨es, clock, (h.block b (Array.getElem?_eq_some_iff.1 hb).1 hv).trans hb, rest⟩, h2⟩


theorem MemAt.frm {w w' : World} {base mp c bm n sg scap : Nat} {vs : List Value} {lab : List Word} {sts : List St} {S : Nat → Prop} (h : MemAt w base mp c bm n sg scap vs lab sts) (hf : Frm w w' S)
    (h1 : ¬ S mp) (h2 : ¬ S bm) (h3 : ¬ S sg) (h4 : ∀ v ∈ vs, ∀ k, v.ownBlock = some k → ¬ S k) : MemAt w' base mp c bm n sg scap vs lab sts :=
  ⟨(hf.block mp h.lt h1).trans h.head, hf.next h.next h2, hf.row h.row (fun k hk => by cases hk; exact h3), h.vlen, fun q s v hs hv => hf.row (h.whi q s v hs hv) (h4 v (List.mem_of_getElem? hv)), h.apart⟩

/-! ### the blocks of a Many are apart -/
section
variable {w : World} {base mp c bm n sg scap : Nat} {vs : List Value} {lab : List Word} {sts : List St}
theorem MemAt.rowBlock (h : MemAt w base mp c bm n sg scap vs lab sts) : base ≤ sg ∧ ∃ cur, w.heap[sg]? = some (.cells cur 65 (0, 0)) := by
  rcases h.row.2 with ⟨hv, _⟩ | ⟨g, cap, cur, hv, hb, hg, _⟩
  · cases hv
  · cases hv; exact ⟨hb, cur, hg⟩
theorem MemAt.mapBlock (h : MemAt w base mp c bm n sg scap vs lab sts) : ∃ es clock, w.heap[bm]? = some (.map es clock) := by
  obtain ⟨D, ⟨es, clock, hb, _⟩, _⟩ := h.next
  exact ⟨es, clock, hb⟩
theorem MemAt.valBlock (h : MemAt w base mp c bm n sg scap vs lab sts) {v : Value} (hv : v ∈ vs) {k : Nat} (hk : v.ownBlock = some k) : base ≤ k ∧ ∃ cur, w.heap[k]? = some (.cells cur 3 (0, 0)) := by
  obtain ⟨q, hq⟩ := List.mem_iff_getElem?.1 hv
  have hql := (List.getElem?_eq_some_iff.1 hq).1
  rw [h.vlen] at hql
  have := h.whi q _ v (List.getElem?_eq_getElem hql) hq
  rcases this.2 with ⟨rfl, _⟩ | ⟨g, cap, cur, rfl, hb, hg, _⟩
  · cases hk
  · cases hk; exact ⟨hb, cur, hg⟩
theorem MemAt.ne1 (h : MemAt w base mp c bm n sg scap vs lab sts) : mp ≠ bm := fun e => by
  obtain ⟨es, clock, hb⟩ := h.mapBlock
  rw [← e, h.head] at hb; cases hb
theorem MemAt.ne2 (h : MemAt w base mp c bm n sg scap vs lab sts) : mp ≠ sg := fun e => by
  obtain ⟨_, cur, hb⟩ := h.rowBlock
  rw [← e, h.head] at hb
  simp at hb
theorem MemAt.ne3 (h : MemAt w base mp c bm n sg scap vs lab sts) : bm ≠ sg := fun e => by
  obtain ⟨_, cur, hb⟩ := h.rowBlock
  obtain ⟨es, clock, hb'⟩ := h.mapBlock
  rw [← e, hb'] at hb; cases hb
theorem MemAt.ne4 (h : MemAt w base mp c bm n sg scap vs lab sts) {v : Value} (hv : v ∈ vs) {k : Nat} (hk : v.ownBlock = some k) : k ≠ mp ∧ k ≠ bm ∧ k ≠ sg := by
  obtain ⟨_, cur, hb⟩ := h.valBlock hv hk
  refine ⟨fun e => ?_, fun e => ?_, fun e => ?_⟩
  · rw [e, h.head] at hb; simp at hb
  · obtain ⟨es, clock, hb'⟩ := h.mapBlock
    rw [e, hb'] at hb; cases hb
  · obtain ⟨_, cur', hb'⟩ := h.rowBlock
    rw [e, hb'] at hb
    simp at hb
end

/-- 'm.next[key] = to'. -/
theorem put_mem {w : World} {base mp c bm n sg scap : Nat} {vs : List Value} {lab : List Word} {sts : List St} {ends : List (Nat × Word)} (hM : MemAt w base mp c bm n sg scap vs lab sts) (hA : Auto lab ends sts) (hn : n < 1000000000000) (hsz : sts.length < 1000000000000)
    {q : Nat} {u : Word} {b : UInt8} (hq : lab[q]? = some u) (hnew : u ++ [b] ∉ lab) :
    ∃ w', (Instr.mapUpdate 54 (.map (some bm)) (kv q b.toNat) (.int .i64 (sts.length : Int))).run Try.prog w = .ok () w' ∧ MemAt w' base mp c bm (n + 1) sg scap vs (lab ++ [u ++ [b]]) sts ∧ Frm w w' (fun k => k = bm) := by
  have hql := (List.getElem?_eq_some_iff.1 hq).1
  have hl := hA.len
  obtain ⟨w', hr, hN, hg⟩ := hM.next.put hA (by unfold maxLen; omega) (q := q) (by omega) hq hnew (by omega)
  rw [← hl] at hr
  have hf : Frm w w' (fun k => k = bm) := ⟨hg.os, hg.tape, hg.output, hg.size, fun k hk hne => hg.block k hk (fun e => hne (Option.some.inj e))⟩
  exact ⟨w', hr, ⟨(hf.block mp hM.lt hM.ne1).trans hM.head, hN, hf.row hM.row (fun k hk => by cases hk; exact hM.ne3.symm), hM.vlen, fun q s v hs hv => hf.row (hM.whi q s v hs hv) (fun k hk => (hM.ne4 (List.mem_of_getElem? hv) hk).2.1), hM.apart⟩, hf⟩

theorem infoState : (Try.prog.info? 65).map (fun i => (i.zero, i.size, i.bytes)) = some (some (.agg #[.int .i64 0, .int .i64 0, .int .i64 0, .slice none 0 0]), 4, 48) := by kernel_rfl

theorem rowCells_snoc (sts : List St) (vs : List Value) (s : St) (v : Value) (h : vs.length = sts.length) : rowCells (sts ++ [s]) (vs ++ [v]) = rowCells sts vs ++ stCells (s, v) := by
  unfold rowCells
  rw [List.zip_append h.symm, List.flatMap_append]
  simp

theorem cell_setCell_same {w : World} {B : Nat} {cs : Array Value} {t : TypeId} {fr : Nat × Nat} (h : w.heap[B]? = some (.cells cs t fr)) (j : Nat) (v : Value) : (w.setCell ⟨B, j, none⟩ v).heap[B]? = some (.cells (cs.setIfInBounds j v) t fr) := by
  obtain ⟨hlt, hk⟩ := Array.getElem?_eq_some_iff.1 h
  show (w.heap.modify B _)[B]? = _
  rw [Array.getElem?_eq_getElem (by rw [Array.size_modify]; exact hlt), Array.getElem_modify_self, hk]
  simp

/-- 'm.states = append(m.states, state{..})'. -/
theorem push_mem {w : World} {base mp c bm n sg scap : Nat} {vs : List Value} {lab : List Word} {sts : List St} (ty : TypeId) (d f wd : Nat) (hM : MemAt w base mp c bm n sg scap vs lab sts) (hsz : sts.length < 1000000000000) (hbase : base ≤ w.heap.size) :
    ∃ g cap w5, (Builtin.append_ #[55, 55] ty #[.slice (some ⟨sg, 0, none⟩) sts.length scap, .slice (some ⟨w.heap.size, 0, none⟩) 1 1]).run Try.prog (w.alloc (.cells #[.int .i64 (d : Int), .int .i64 (f : Int), .int .i64 (wd : Int), .slice none 0 0] 65)) = .ok (.slice (some ⟨g, 0, none⟩) (sts.length + 1) cap) w5 ∧
      (g = sg ∨ w.heap.size ≤ g) ∧ (∀ k, k < w.heap.size → k ≠ sg → w5.heap[k]? = w.heap[k]?) ∧ (∀ j, j < 4 * sts.length → w5.cell? ⟨sg, j, none⟩ = w.cell? ⟨sg, j, none⟩) ∧
      MemAt (w5.setCell ⟨mp, 2, none⟩ (.slice (some ⟨g, 0, none⟩) (sts.length + 1) cap)) base mp c bm n g cap (vs ++ [.slice none 0 0]) lab (sts ++ [⟨d, f, wd, []⟩]) ∧
      Frm w (w5.setCell ⟨mp, 2, none⟩ (.slice (some ⟨g, 0, none⟩) (sts.length + 1) cap)) (fun k => k = mp ∨ k = sg) := by
  obtain ⟨i0, hi, hz0, hz1, hz2⟩ := info_parts infoState
  obtain ⟨w4, hw4⟩ : ∃ w4, w4 = w.alloc (.cells #[.int .i64 (d : Int), .int .i64 (f : Int), .int .i64 (wd : Int), .slice none 0 0] 65) := ⟨_, rfl⟩
  rw [← hw4]
  have hB4 : Below w.heap.size w w4 := by rw [hw4]; exact (Below.refl _ w).alloc (Nat.le_refl _) _
  have hs4 : w4.heap.size = w.heap.size + 1 := by rw [hw4]; simp
  have hM4 := hM.below hB4
  have hnew : w4.heap[w.heap.size]? = some (.cells #[.int .i64 (d : Int), .int .i64 (f : Int), .int .i64 (wd : Int), .slice none 0 0] 65 (0, 0)) := by rw [hw4]; exact World.alloc_heap_new w _
  obtain ⟨g, cap, w5, hr, hown, hgr⟩ := run_append_at2 (P := Try.prog) w4 base 55 ty 65 i0 _ 4 48 Try.underlying55 hi hz0 hz1 hz2 rfl (by decide) sg sts.length scap _ hM4.row ⟨w.heap.size, 0, none⟩ 1 1 (stCells (⟨d, f, wd, []⟩, .slice none 0 0)) rfl (fun j u hj => by
      have hadd : (Addr.add ⟨w.heap.size, 0, none⟩ j) = ⟨w.heap.size, j, none⟩ := by cases j <;> simp [Addr.add]
      rw [hadd]
      simp only [World.cell?, hnew]
      rcases j with _ | _ | _ | _ | j <;> simp [stCells] at hj ⊢ <;> first | exact hj | skip) (fun u hu => by simp [stCells] at hu; rcases hu with rfl | rfl | rfl | rfl <;> rfl) (by unfold maxLen; omega) (by omega) (by omega)
  have hsgl : sg < w.heap.size := by obtain ⟨_, cur, h⟩ := hM.rowBlock; exact (Array.getElem?_eq_some_iff.1 h).1
  have hcell : ∀ j, j < 4 * sts.length → w5.cell? ⟨sg, j, none⟩ = w.cell? ⟨sg, j, none⟩ := by
    intro j hj
    rcases hgr with ⟨rfl, hg⟩ | ⟨_, hg⟩
    · rw [World.ownsRow.cellAt hown j (by omega), World.ownsRow.cellAt hM.row j (by omega), List.getElem?_append_left (by rw [rowCells_len _ _ hM.vlen]; omega)]
    · rw [World.cell?_of_block (w := w4) (hg.block sg (by omega) (by simp)), World.cell?_of_block (w := w) (hB4.block sg hsgl)]
  have hblk : ∀ k, k < w4.heap.size → k ≠ sg → w5.heap[k]? = w4.heap[k]? := by
    intro k hk hne
    rcases hgr with ⟨_, hg⟩ | ⟨_, hg⟩
    · exact hg.block k hk (fun e => hne (Option.some.inj e))
    · exact hg.block k hk (by simp)
  have hsz5 : w4.heap.size ≤ w5.heap.size := by rcases hgr with ⟨_, hg⟩ | ⟨_, hg⟩ <;> exact hg.size
  have hst : w5.os = w4.os ∧ w5.tape = w4.tape ∧ w5.output = w4.output := by rcases hgr with ⟨_, hg⟩ | ⟨_, hg⟩ <;> exact ⟨hg.os, hg.tape, hg.output⟩
  have hf5 : Frm w w5 (fun k => k = sg) := ⟨hst.1.trans hB4.os, hst.2.1.trans hB4.tape, hst.2.2.trans hB4.output, by omega, fun k hk hne => (hblk k (by omega) hne).trans (hB4.block k hk)⟩
  have hg2 : g = sg ∨ w.heap.size ≤ g := by rcases hgr with ⟨h, _⟩ | ⟨h, _⟩ <;> omega
  have hmpl := hM.lt
  have hf6 : Frm w (w5.setCell ⟨mp, 2, none⟩ (.slice (some ⟨g, 0, none⟩) (sts.length + 1) cap)) (fun k => k = mp ∨ k = sg) :=
    ⟨hf5.os, hf5.tape, hf5.output, by simp [World.setCell]; exact hf5.size, fun k hk hne => by
      rw [Below.heap_setCell _ _ _ _ (fun e => hne (.inl e))]
      exact hf5.block k hk (fun e => hne (.inr e))⟩
  have hgmp : g ≠ mp := by
    rcases hg2 with h | h
    · rw [h]; exact hM.ne2.symm
    · omega
  refine ⟨g, cap, w5, hr, hg2, fun k hk hne => (hblk k (by omega) hne).trans (hB4.block k hk), hcell, ⟨?_, ?_, ?_, ?_, ?_, ?_⟩, hf6⟩
  · have h5 : w5.heap[mp]? = some (.cells #[.int .i64 (c : Int), .map (some bm), .slice (some ⟨sg, 0, none⟩) sts.length scap] 57 (0, 0)) := (hf5.block mp hmpl hM.ne2).trans hM.head
    rw [cell_setCell_same h5]
    simp
  · exact hf6.next hM.next (by rintro (e | e); exact hM.ne1 e.symm; exact hM.ne3 e)
  · rw [List.length_append, List.length_singleton, rowCells_snoc _ _ _ _ hM.vlen]
    refine hown.kept (row := some mp) ⟨rfl, rfl, rfl, by simp [World.setCell], fun k _ hk => Below.heap_setCell _ _ _ k (fun e => hk (by rw [e]))⟩ (.inr ?_)
    simp [Value.ownBlock]
    exact hgmp
  · simp [hM.vlen]
  · intro q s v hs hv
    rcases getElem?_snoc hs with ⟨hq, hs⟩ | ⟨rfl, rfl⟩
    · rcases getElem?_snoc hv with ⟨_, hv⟩ | ⟨hq', _⟩
      · exact hf6.row (hM.whi q s v hs hv) (fun k hk => by have := hM.ne4 (List.mem_of_getElem? hv) hk; rintro (e | e); exact this.1 e; exact this.2.2 e)
      · rw [hM.vlen] at hq'; omega
    · rcases getElem?_snoc hv with ⟨hq', _⟩ | ⟨_, rfl⟩
      · rw [hM.vlen] at hq'; omega
      · exact World.ownsRow_nil _ _ _ _
  · intro q q' v v' hne hv hv'
    rcases getElem?_snoc hv with ⟨_, hv⟩ | ⟨rfl, rfl⟩
    · rcases getElem?_snoc hv' with ⟨_, hv'⟩ | ⟨rfl, rfl⟩
      · exact hM.apart q q' v v' hne hv hv'
      · cases h : v.ownBlock with
        | none => exact .inl rfl
        | some k => exact .inr (by simp [Value.ownBlock])
    · exact .inl rfl
end Go.Proofs.Ytpgiaofkabhgkaa
