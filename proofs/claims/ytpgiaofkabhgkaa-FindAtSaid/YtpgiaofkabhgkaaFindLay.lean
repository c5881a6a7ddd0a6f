/-
  The contract of (*find.Many).lay.
-/
import Derived.Test.YtpgiaofkabhgkaaFindEnd
import Derived.Test.YtpgiaofkabhgkaaHeads
import Derived.Test.YtpgiaofkabhgkaaPlainLay
import Derived.Test.YtpgiaofkabhgkaaPlainCut
import Derived.Test.YtpgiaofkabhgkaaIsStrs
import Derived.Sort.LoopGhostIn
namespace Go.Proofs.Ytpgiaofkabhgkaa
set_option linter.unusedVariables false
set_option linter.unusedSimpArgs false
open Go.RowKit
attribute [local go_sem] Oper.semAt_some

structure PathE where
  pat : ByteArray
  idx : Nat
  at_ : Nat
def pathCells (d : Nat) (x : PathE) : List Value := [.int .i64 (x.idx : Int), .int .i64 (x.at_ : Int), .string (x.pat.extract d x.pat.size)]
def plCells (d : Nat) (pl : List PathE) : List Value := pl.flatMap (pathCells d)
theorem plCells_len (d : Nat) (pl : List PathE) : (plCells d pl).length = pl.length * 3 := by
  unfold plCells
  induction pl with
  | nil => rfl
  | cons a l ih => rw [List.flatMap_cons, List.length_append, ih, List.length_cons]; simp [pathCells]; omega
theorem plCells_at (d : Nat) : ∀ (pl : List PathE) (k : Nat) (x : PathE), pl[k]? = some x → ∀ j, j < 3 → (plCells d pl)[k * 3 + j]? = (pathCells d x)[j]?
  | [], k, x, h, _, _ => by simp at h
  | a :: l, 0, x, h, j, hj => by
    simp at h
    subst h
    unfold plCells
    rw [List.flatMap_cons, Nat.zero_mul, Nat.zero_add, List.getElem?_append_left (by simp [pathCells]; omega)]
  | a :: l, k + 1, x, h, j, hj => by
    simp at h
    have := plCells_at d l k x h j hj
    unfold plCells at this ⊢
    rw [List.flatMap_cons, List.getElem?_append_right (by simp [pathCells]; omega), ← this]
    congr 1
    simp [pathCells]
    omega
theorem extract_all (y : ByteArray) : y.extract 0 y.size = y := by
  refine bytes_ext ?_
  rw [Lib.extract_data, Lib.size_eq, List.drop_zero, Nat.sub_zero, List.take_length]
theorem rem_mem {l : List ByteArray} {p : ByteArray} (h : p ∈ l) : p.size ≤ rem l 0 := by
  unfold rem
  induction l with
  | nil => cases h
  | cons a l ih =>
    rw [List.map_cons, List.sum_cons]
    rcases List.mem_cons.1 h with rfl | h
    · omega
    · have := ih h; omega
theorem take_zip (l : List ByteArray) (k : Nat) (h : k < l.length) : l.zipIdx.take (k + 1) = l.zipIdx.take k ++ [(l[k], k)] := by
  refine take_snoc ?_
  simp [h]
/-- What the paths say. -/
structure PathsAt (l : List ByteArray) (lab : List Word) (d : Nat) (ps : List (ByteArray × Nat)) (pl : List PathE) : Prop where
  pats : pl.map (fun x => (x.pat, x.idx)) = ps
  at_ : ∀ x ∈ pl, lab[x.at_]? = some ((wordOf x.pat).take d)
theorem PathsAt.len {l : List ByteArray} {lab : List Word} {d : Nat} {ps : List (ByteArray × Nat)} {pl : List PathE} (h : PathsAt l lab d ps pl) : pl.length = ps.length := by rw [← h.pats, List.length_map]

theorem infoPath : (Try.prog.info? 77).map (fun i => (i.zero, i.size, i.bytes)) = some (some (.agg #[.int .i64 0, .int .i64 0, .string ⟨#[]⟩]), 3, 32) := by kernel_rfl


theorem ownsRow_base3 {W : World} {base base' : Nat} {e : TypeId} {size : Nat} {v : Value} {n : Nat} {xs : List Value} (h : W.ownsRow base e size v n xs) (hb : base' ≤ base) : W.ownsRow base' e size v n xs := by
  obtain ⟨h1, h2⟩ := h
  refine ⟨h1, ?_⟩
  rcases h2 with h2 | ⟨g, cap, cur, hv, hg, r⟩
  · exact .inl h2
  · exact .inr ⟨g, cap, cur, hv, by omega, r⟩
/-- What holds when depth d begins. -/
structure LayI (base mp c bm : Nat) (l : List ByteArray) (d : Nat) (w : World) (pv : Value) (wr : World) (n sg scap : Nat) (vs : List Value) (pl : List PathE) (lab : List Word) (ends : List (Nat × Word)) (sts : List St) : Prop where
  mem : MemAt wr base mp c bm n sg scap vs lab sts
  level : Level l d 0 lab ends sts
  cnt : n + rem l d ≤ rem l 0
  paths : PathsAt l lab d (todo l d) pl
  prow : wr.ownsRow base 77 3 pv pl.length (plCells d pl)
  bel : Below base w wr
  size : base ≤ wr.heap.size
/-- What holds behind k paths of depth d. -/
structure InI (base mp c bm L0 : Nat) (l : List ByteArray) (d : Nat) (w : World) (pv : Value) (pl : List PathE) (k : Nat) (lv : Value) (wr : World) (n sg scap : Nat) (vs : List Value) (ql : List PathE) (lab : List Word) (ends : List (Nat × Word)) (sts : List St) : Prop where
  mem : MemAt wr base mp c bm n sg scap vs lab sts
  level : Level l d k lab ends sts
  cnt : n + rem l d ≤ rem l 0 + k
  paths : PathsAt l lab d (todo l d) pl
  longer : PathsAt l lab (d + 1) (((todo l d).take k).filter fun p => decide (d + 1 < p.1.size)) ql
  prow : wr.ownsRow base 77 3 pv pl.length (plCells d pl)
  lrow : wr.ownsRow L0 77 3 lv ql.length (plCells (d + 1) ql)
  bel : Below base w wr
  size : L0 ≤ wr.heap.size


theorem row_apart {w : World} {base' L0 mp c bm n sg scap : Nat} {vs : List Value} {lab : List Word} {sts : List St} (hM : MemAt w base' mp c bm n sg scap vs lab sts) {v : Value} {k : Nat} {xs : List Value} (hr : w.ownsRow L0 77 3 v k xs) :
    ∀ j, v.ownBlock = some j → (j ≠ mp ∧ j ≠ bm ∧ j ≠ sg) ∧ ∀ x ∈ vs, x.ownBlock ≠ some j := by
  intro j hj
  rcases hr.2 with ⟨rfl, _⟩ | ⟨g, cap, cur, rfl, _, hg, _⟩
  · cases hj
  · obtain rfl : g = j := Option.some.inj hj
    refine ⟨⟨fun e => ?_, fun e => ?_, fun e => ?_⟩, fun x hx e => ?_⟩
    · rw [e, hM.head] at hg; simp at hg
    · obtain ⟨es, clock, hb⟩ := hM.mapBlock
      rw [e, hb] at hg; cases hg
    · obtain ⟨_, cur', hb⟩ := hM.rowBlock
      rw [e, hb] at hg; simp at hg
    · obtain ⟨_, cur', hb⟩ := hM.valBlock hx e
      rw [hb] at hg; simp at hg
theorem PathsAt.grow {l : List ByteArray} {lab lab' : List Word} {d : Nat} {ps : List (ByteArray × Nat)} {pl : List PathE} (h : PathsAt l lab d ps pl) (hg : ∀ (q : Nat) (u : Word), lab[q]? = some u → lab'[q]? = some u) : PathsAt l lab' d ps pl := ⟨h.pats, fun x hx => hg _ _ (h.at_ x hx)⟩
theorem word_next {p y : ByteArray} {d : Nat} (hy : y = p.extract d p.size) (hd : d < p.size) (h0 : 0 < y.size) : (wordOf p).take d ++ [y[0]] = (wordOf p).take (d + 1) := by
  have e : (wordOf p)[d]? = some y[0] := by
    have h1 : y.data.toList = (wordOf p).drop d := by
      rw [hy, Lib.extract_data]
      unfold wordOf
      rw [List.take_of_length_le (by rw [List.length_drop, ← Lib.size_eq]; omega)]
    have h2 : y.data.toList[0]? = some y[0] := by
      have : 0 < y.data.toList.length := by rw [← Lib.size_eq]; exact h0
      rw [List.getElem?_eq_getElem this]
      rfl
    rw [h1] at h2
    simpa using h2
  rw [List.take_add_one, e]
  rfl

/-- What holds behind child. -/
structure MidI (base mp c bm L0 : Nat) (l : List ByteArray) (d : Nat) (w : World) (pv : Value) (pl : List PathE) (k : Nat) (lv : Value) (w3 : World) (n3 sg3 scap3 : Nat) (vs3 : List Value) (ql : List PathE) (lab3 : List Word) (ends : List (Nat × Word)) (sts3 : List St) : Prop where
  mem : MemAt w3 base mp c bm n3 sg3 scap3 vs3 lab3 sts3
  cnt : n3 + rem l d ≤ rem l 0 + (k + 1)
  paths : PathsAt l lab3 d (todo l d) pl
  longer : PathsAt l lab3 (d + 1) (((todo l d).take k).filter fun p => decide (d + 1 < p.1.size)) ql
  prow : w3.ownsRow base 77 3 pv pl.length (plCells d pl)
  lrow : w3.ownsRow L0 77 3 lv ql.length (plCells (d + 1) ql)
  bel : Below base w w3
  size : L0 ≤ w3.heap.size

theorem mid_child {base mp c bm L0 : Nat} {l : List ByteArray} {d : Nat} {w : World} {pv : Value} {pl : List PathE} {k : Nat} {lv : Value} {wr w1 w3 : World} {n sg scap n3 sg3 scap3 : Nat} {vs vs3 : List Value} {ql : List PathE} {lab lab3 : List Word} {ends : List (Nat × Word)} {sts sts3 : List St}
    (hmp : base ≤ mp) (hbm : base ≤ bm) (hbL : base ≤ L0) (hI : InI base mp c bm L0 l d w pv pl k lv wr n sg scap vs ql lab ends sts) (hB : Below wr.heap.size wr w1) (hM3 : MemAt w3 base mp c bm n3 sg3 scap3 vs3 lab3 sts3) (hn3 : n3 ≤ n + 1)
    (hf : Frm w1.drew w3 (fun k => k = mp ∨ k = bm ∨ k = sg)) (hg : ∀ (q : Nat) (u : Word), lab[q]? = some u → lab3[q]? = some u) : MidI base mp c bm L0 l d w pv pl k lv w3 n3 sg3 scap3 vs3 ql lab3 ends sts3 := by
  have hb1 : Frm wr w1 (fun _ => False) := Frm.of_below hB _
  have hfr : Frm wr w3 (fun k => k = mp ∨ k = bm ∨ k = sg) := (hb1.mono (fun k h => h.elim)).trans ((Frm.drew w1 _).trans hf (fun k _ h => h)) (fun k _ h => h)
  have hsz := hfr.size
  have hI1 := hI.size
  have hsg := hI.mem.rowBlock.1
  refine ⟨hM3, by have := hI.cnt; omega, hI.paths.grow hg, hI.longer.grow hg, hfr.row hI.prow (fun j hj => ?_), hfr.row hI.lrow (fun j hj => ?_), hI.bel.trans (hfr.below (by omega) ?_), by omega⟩
  · obtain ⟨⟨h1, h2, h3⟩, _⟩ := row_apart hI.mem hI.prow j hj
    rintro (e | e | e)
    · exact h1 e
    · exact h2 e
    · exact h3 e
  · obtain ⟨⟨h1, h2, h3⟩, _⟩ := row_apart hI.mem hI.lrow j hj
    rintro (e | e | e)
    · exact h1 e
    · exact h2 e
    · exact h3 e
  · rintro j (e | e | e) <;> omega

theorem in_end {base mp c bm L0 : Nat} {l : List ByteArray} {d : Nat} {w : World} {pv : Value} {pl : List PathE} {k : Nat} {lv : Value} {w3 w5 : World} {n3 sg3 scap3 : Nat} {vs3 vs5 : List Value} {ql : List PathE} {lab lab3 : List Word} {ends : List (Nat × Word)} {sts sts3 : List St}
    (hbL : base ≤ L0) (hI : MidI base mp c bm L0 l d w pv pl k lv w3 n3 sg3 scap3 vs3 ql lab3 ends sts3) (hL : Level l d k lab ends sts) (hA3 : Auto lab3 ends sts3) {p : ByteArray} {i : Nat} (htd : (todo l d)[k]? = some (p, i)) (hp : d + 1 = p.size)
    (hor : lab3 = lab ∨ lab3 = lab ++ [(wordOf p).take (d + 1)]) {r : Nat} {s3 : St} (hr : lab3[r]? = some ((wordOf p).take (d + 1))) (hs : sts3[r]? = some s3)
    (hM5 : MemAt w5 base mp c bm n3 sg3 scap3 vs5 lab3 (sts3.set r ⟨s3.depth, s3.fall, r, s3.which ++ [i]⟩)) (hf5 : Frm w3 w5 (fun k => k = sg3 ∨ ∃ v ∈ vs3, v.ownBlock = some k)) :
    ∃ n sg scap vs ql lab ends sts, InI base mp c bm L0 l d w pv pl (k + 1) lv w5 n sg scap vs ql lab ends sts := by
  have e : (wordOf p).take (d + 1) = wordOf p := List.take_of_length_le (by rw [wordOf_len]; omega)
  rw [e] at hor hr
  have hsz := hf5.size
  have hI1 := hI.size
  refine ⟨n3, sg3, scap3, vs5, ql, lab3, _, _, hM5, level_fin hL htd hA3 hor hp hr hs, hI.cnt, hI.paths, ?_, hf5.row hI.prow (fun j hj => ?_), hf5.row hI.lrow (fun j hj => ?_), hI.bel.trans (hf5.below (by omega) ?_), by omega⟩
  · rw [take_snoc htd, List.filter_append]
    have : ([(p, i)] : List (ByteArray × Nat)).filter (fun p => decide (d + 1 < p.1.size)) = [] := by simp; omega
    rw [this, List.append_nil]
    exact hI.longer
  · obtain ⟨⟨_, _, h3⟩, h4⟩ := row_apart hI.mem hI.prow j hj
    rintro (e | ⟨v, hv, e⟩)
    · exact h3 e
    · exact h4 v hv e
  · obtain ⟨⟨_, _, h3⟩, h4⟩ := row_apart hI.mem hI.lrow j hj
    rintro (e | ⟨v, hv, e⟩)
    · exact h3 e
    · exact h4 v hv e
  · rintro j (e | ⟨v, hv, e⟩)
    · have := hI.mem.rowBlock.1; omega
    · exact (hI.mem.valBlock hv e).1

theorem in_longer {base mp c bm L0 : Nat} {l : List ByteArray} {d : Nat} {w : World} {pv : Value} {pl : List PathE} {k : Nat} {lv lv' : Value} {w3 w7 : World} {n3 sg3 scap3 : Nat} {vs3 : List Value} {ql : List PathE} {lab lab3 : List Word} {ends : List (Nat × Word)} {sts sts3 : List St}
    (hbL : base ≤ L0) (hI : MidI base mp c bm L0 l d w pv pl k lv w3 n3 sg3 scap3 vs3 ql lab3 ends sts3) (hL : Level l d k lab ends sts) (hA3 : Auto lab3 ends sts3) {p : ByteArray} {i : Nat} (htd : (todo l d)[k]? = some (p, i)) (hp : d + 1 < p.size)
    (hor : lab3 = lab ∨ lab3 = lab ++ [(wordOf p).take (d + 1)]) {r : Nat} (hr : lab3[r]? = some ((wordOf p).take (d + 1))) (hpg : ∀ j, pv.ownBlock = some j → j < L0)
    (hf7 : Frm w3 w7 (fun k => some k = lv.ownBlock)) (hown : w7.ownsRow L0 77 3 lv' (ql.length + 1) (plCells (d + 1) ql ++ pathCells (d + 1) ⟨p, i, r⟩)) :
    ∃ n sg scap vs ql lab ends sts, InI base mp c bm L0 l d w pv pl (k + 1) lv' w7 n sg scap vs ql lab ends sts := by
  have hsz := hf7.size
  have hI1 := hI.size
  have hap := row_apart hI.mem hI.lrow
  have hlt := hI.lrow.lt
  refine ⟨n3, sg3, scap3, vs3, ql ++ [⟨p, i, r⟩], lab3, ends, sts3, hI.mem.frm hf7 (fun e => (hap mp e.symm).1.1 rfl) (fun e => (hap bm e.symm).1.2.1 rfl) (fun e => (hap sg3 e.symm).1.2.2 rfl) (fun v hv j hj e => (hap j e.symm).2 v hv hj),
    level_child hL htd hA3 hor hp, hI.cnt, hI.paths, ?_, hf7.row hI.prow (fun j hj e => ?_), ?_, hI.bel.trans (hf7.below (by omega) (fun j e => ?_)), by omega⟩
  · rw [take_snoc htd, List.filter_append]
    have : ([(p, i)] : List (ByteArray × Nat)).filter (fun p => decide (d + 1 < p.1.size)) = [(p, i)] := by simp [hp]
    rw [this]
    refine ⟨by rw [List.map_append, hI.longer.pats]; rfl, fun x hx => ?_⟩
    rcases List.mem_append.1 hx with hx | hx
    · exact hI.longer.at_ x hx
    · simp at hx; subst hx; exact hr
  · have h1 := hpg j hj
    have h2 := (hlt j e.symm).1
    omega
  · have e : plCells (d + 1) (ql ++ [⟨p, i, r⟩]) = plCells (d + 1) ql ++ pathCells (d + 1) ⟨p, i, r⟩ := by unfold plCells; rw [List.flatMap_append]; simp
    rw [e, List.length_append]
    exact hown
  · have := (hlt j e.symm).1; omega


theorem extract_tail (p : ByteArray) (d : Nat) : (p.extract d p.size).extract 1 (p.extract d p.size).size = p.extract (d + 1) p.size := by
  refine bytes_ext ?_
  rw [Lib.extract_data, Lib.extract_data, Lib.extract_data]
  simp only [ByteArray.size_extract, Nat.min_self]
  rw [List.drop_take, List.drop_drop, List.take_take]
  congr 1
  omega
theorem fill_path (a b : Int) (s : ByteArray) : Instr.fill (fun i => some (i * 3, 3)) ((Array.range (1 * 3)).map fun x => (Value.agg #[.int .i64 0, .int .i64 0, .string ⟨#[]⟩]).cells[x % (Value.agg #[.int .i64 0, .int .i64 0, .string ⟨#[]⟩]).cells.size]!) [(0, .agg #[.int .i64 a, .int .i64 b, .string s])] = some #[.int .i64 a, .int .i64 b, .string s] := by
  kernel_rfl
/-- 'longer = append(longer, path{..})'. -/
theorem append_path {w6 : World} {L0 : Nat} {lv : Value} {ql : List PathE} {d i q : Nat} {p z : ByteArray} {ty : TypeId} (hr : w6.ownsRow L0 77 3 lv ql.length (plCells (d + 1) ql)) (hs : L0 ≤ w6.heap.size) (hb : ql.length ≤ 100000000000) (hz : z = p.extract (d + 1) p.size) :
    ∃ v' w7, (Builtin.append_ #[75, 75] ty #[lv, .slice (some ⟨w6.heap.size, 0, none⟩) 1 1]).run Try.prog (w6.alloc (.cells #[.int .i64 (i : Int), .int .i64 (q : Int), .string z] 77)) = .ok v' w7 ∧
      w7.ownsRow L0 77 3 v' (ql.length + 1) (plCells (d + 1) ql ++ pathCells (d + 1) ⟨p, i, q⟩) ∧ Frm w6 w7 (fun k => some k = lv.ownBlock) := by
  obtain ⟨i0, hi, hz0, hz1, hz2⟩ := info_parts infoPath
  have hnew := World.alloc_heap_new w6 (.cells #[.int .i64 (i : Int), .int .i64 (q : Int), .string z] 77)
  obtain ⟨v', w7, h1, h2, h3, _, _⟩ := run_append_own_at (P := Try.prog) (w6.alloc (.cells #[.int .i64 (i : Int), .int .i64 (q : Int), .string z] 77)) L0 75 ty 77 i0 _ 3 32 Try.underlying75 hi hz0 hz1 hz2 rfl (by decide) lv ql.length _ (hr.alloc _) ⟨w6.heap.size, 0, none⟩ 1 1 (pathCells (d + 1) ⟨p, i, q⟩) rfl (fun j u hj => by
      have hadd : (Addr.add ⟨w6.heap.size, 0, none⟩ j) = ⟨w6.heap.size, j, none⟩ := by cases j <;> simp [Addr.add]
      rw [hadd]
      simp only [World.cell?, hnew]
      rcases j with _ | _ | _ | j <;> simp [pathCells, ← hz] at hj ⊢ <;> first | exact hj | skip) (fun u hu => by simp [pathCells] at hu; rcases hu with rfl | rfl | rfl <;> rfl) (by unfold maxLen; omega) (by omega) (by rw [World.size_alloc]; omega)
  exact ⟨v', w7, h1, h2, ⟨h3.os, h3.tape, h3.output, by have := h3.size; rw [World.size_alloc] at this; omega, fun k hk hne => by
    rw [h3.block k (by rw [World.size_alloc]; omega) hne]
    exact Below.heap_alloc _ _ _ hk⟩⟩
set_option maxRecDepth 100000 in
set_option maxHeartbeats 4000000 in
theorem lay_in (nn : Nat) (hnn : 2 ≤ nn) {w : World} {base mp c bm n sg scap : Nat} {vs : List Value} (hM : MemAt w base mp c bm n sg scap vs [[]] [⟨0, 0, 0, []⟩]) (hn : n = 0) (hbase : base ≤ w.heap.size) (hmp : base ≤ mp) (hbm : base ≤ bm)
    (l : List ByteArray) (lv : Value) (hv : IsStrs w lv l) (hl : l.length < 1000000000) (hrem : rem l 0 < 100000000000) :
    CallsIn Fence.wide nn Try.prog 23 #[.pointer (some ⟨mp, 0, none⟩), lv] w fun e w' => (∃ v, e = .returned v) ∧ Below base w w' ∧
      ∃ n sg scap vs lab ends sts, MemAt w' base mp c bm n sg scap vs lab sts ∧ Made l lab ends sts ∧ sts.length < 1000000000000 := by
  have hmix : Try.prog.follows .mixedOrders = true := by kernel_rfl
  obtain ⟨i0, hi, hz0, hz1, hz2⟩ := info_parts infoPath
  obtain ⟨ao, lcap, rfl⟩ := hv.form
  have hnn1 : 1 ≤ nn := by omega
  have HM := Lib.hid hM
  have Hv := Lib.hid hv
  clear hM hv
  refine callsIn_of_wp Try.func23 rfl trivial ?_ rfl
  simp only [Try.ntmps23, List.size_toArray, List.length_cons, List.length_nil, Nat.reduceAdd, Nat.reduceSub, Array.replicate_succ, Array.replicate_zero, List.push_toArray, List.append_toArray, List.nil_append, List.cons_append]
  gi_wp2
  gi_loopw [4, 13] (fun pv i wr => ∃ (k : Nat) (pl : List PathE), k ≤ l.length ∧ i = .int .i64 (k : Int) ∧ wr.ownsRow w.heap.size 77 3 pv pl.length (plCells 0 pl) ∧ Hid (PathsAt l [[]] 0 ((l.zipIdx.take k).filter fun p => decide (0 < p.1.size)) pl) ∧ Below w.heap.size w wr) (fun pv i wr => l.length - (intOf i).toNat)
  case atStart =>
    exact ⟨0, [], Nat.zero_le _, rfl, World.ownsRow_nil _ _ _ _, Lib.hid ⟨rfl, by simp⟩, Below.refl _ _⟩
  case round =>
    obtain ⟨k, pl, hk, rfl, hrow, Hpa, hB⟩ := hrel
    by_cases hlt : k < l.length
    · rcases Hv.out with ⟨ao', cap', he, hl0⟩ | ⟨b, off, cap', he, hbl, hc⟩
      · rw [hl0] at hlt; simp at hlt
      · cases he
        have c1 := (hB.cell (p := ⟨b, off + k, none⟩) hbl).trans (hc k hlt)
        obtain ⟨y, hy⟩ : ∃ y, y = l[k] := ⟨_, rfl⟩
        rw [← hy] at c1
        have Hy := Lib.hid hy
        clear hy hc
        have hsB := hB.size
        have hpl : pl.length ≤ k := by
          rw [Hpa.out.len]
          exact Nat.le_trans (List.length_filter_le _ _) (by rw [List.length_take]; omega)
        have hHB := Lib.hid hB
        clear hB
        by_cases h0 : y.size = 0
        · have he : y.toList.isEmpty = true := by rw [Lib.toList_data]; rw [Lib.size_eq] at h0; rw [List.eq_nil_of_length_eq_zero h0]; rfl
          have H0 := Lib.hid h0
          clear h0
          gi_wp2
          go_roundw
          case rel =>
            refine ⟨k + 1, pl, by omega, by go_num, hrow, ?_, hHB.out⟩
            rw [take_zip l k hlt, List.filter_append, ← Hy.out]
            simpa [H0.out] using Hpa
          case measure => simp [intOf]; omega
        · have he : y.toList.isEmpty = false := by
            rw [Lib.toList_data]
            rw [Lib.size_eq] at h0
            cases hyl : y.data.toList with
            | nil => rw [hyl] at h0; simp at h0
            | cons a b => rfl
          have H0 := Lib.hid h0
          clear h0
          have hnew : ∀ (j : Nat) (u : Value), (pathCells 0 ⟨y, k, 0⟩)[j]? = some u → (wr.alloc (.cells #[.int .i64 (k : Int), .int .i64 0, .string y] 77)).cell? ((⟨wr.heap.size, 0, none⟩ : Addr).add j) = some u := by
            intro j u hj
            have hadd : (Addr.add ⟨wr.heap.size, 0, none⟩ j) = ⟨wr.heap.size, j, none⟩ := by cases j <;> simp [Addr.add]
            have hnw := World.alloc_heap_new wr (.cells #[.int .i64 (k : Int), .int .i64 0, .string y] 77)
            rw [hadd]
            simp only [World.cell?, hnw]
            rcases j with _ | _ | _ | j <;> simp [pathCells, extract_all] at hj ⊢ <;> first | exact hj | skip
          gi_wp2_with (gi_at_builtin; refine wpListIn_append_own _ rfl _ _ 75 rfl w.heap.size 77 i0 _ 3 32 Try.underlying75 hi hz0 hz1 hz2 rfl (by decide) _ _ _ rfl (hrow.alloc _) ⟨wr.heap.size, 0, none⟩ 1 1 (pathCells 0 ⟨y, k, 0⟩) rfl rfl hnew (by simp [pathCells, Value.oneCell']) (by unfold maxLen; omega) (by omega) (by simp; omega) ?_; intro v' w1 hown' hgrow _; obtain ⟨g', cap', rfl⟩ := ownsRow_succ hown')
          go_roundw
          case rel =>
            refine ⟨k + 1, pl ++ [⟨y, k, 0⟩], by omega, by go_num, ?_, ?_, (hHB.out.alloc hsB _).grown hgrow (by rw [World.size_alloc]; omega) (fun j ej => (hrow.lt j ej).1)⟩
            · have e : plCells 0 (pl ++ [⟨y, k, 0⟩]) = plCells 0 pl ++ pathCells 0 ⟨y, k, 0⟩ := by unfold plCells; rw [List.flatMap_append]; simp
              rw [e, List.length_append]
              exact hown'
            · rw [take_zip l k hlt, List.filter_append, ← Hy.out]
              refine Lib.hid ⟨?_, ?_⟩
              · rw [List.map_append, Hpa.out.pats]
                have : decide (0 < y.size) = true := decide_eq_true (by have := H0.out; omega)
                simp [this]
              · intro x hx
                rcases List.mem_append.1 hx with hx | hx
                · exact Hpa.out.at_ x hx
                · simp at hx; subst hx; simp
          case measure => simp [intOf]; omega
    · obtain rfl : k = l.length := by omega
      rw [show l.zipIdx.take l.length = l.zipIdx from List.take_of_length_le (by simp)] at Hpa
      have hL0 : LayI base mp c bm l 0 w _ wr n sg scap vs pl [[]] [] [⟨0, 0, 0, []⟩] :=
        ⟨HM.out.below hB, level_start l, by omega, Hpa.out, ownsRow_base3 hrow hbase, hB.mono hbase, by have := hB.size; omega⟩
      have HL0 := Lib.hid hL0
      clear hL0 hrow Hpa hB
      gi_wp2
      gi_loopg [4] (rem l 0) (fun r pv wr => ∃ d, r = rem l d ∧ ∃ n sg scap vs pl lab ends sts, LayI base mp c bm l d w pv wr n sg scap vs pl lab ends sts)
      case atStart => exact ⟨0, rfl, n, sg, scap, vs, pl, _, _, _, HL0.out⟩
      case round =>
        obtain ⟨d, rfl, n, sg, scap, vs, pl, lab, ends, sts, hL⟩ := hrel
        have hpl := hL.paths.len
        have hrs := rem_step l d
        have hr0 : rem l d ≤ rem l 0 := by have := hL.cnt; omega
        by_cases h0 : pl.length = 0
        · have hf : ∃ ao cap, u4 = .slice ao 0 cap := by
            rcases hL.prow.2 with ⟨h, _⟩ | ⟨g, cap, cur, h, _⟩
            · exact ⟨_, _, h⟩
            · exact ⟨_, _, by rw [h, h0]⟩
          obtain ⟨ao', cap', rfl⟩ := hf
          have HL := Lib.hid hL
          have H0 := Lib.hid (show todo l d = [] from List.eq_nil_of_length_eq_zero (by omega))
          clear hL h0
          gi_wp2
          go_end0
          have hm := level_done HL.out.level H0.out
          have hcn := HL.out.level.cnt
          exact ⟨⟨_, rfl⟩, HL.out.bel, _, _, _, _, _, _, _, HL.out.mem, hm, by omega⟩
        · obtain ⟨g, cap, rfl⟩ : ∃ g cap, u4 = .slice (some ⟨g, 0, none⟩) pl.length cap := by
            rcases hL.prow.2 with ⟨_, h⟩ | ⟨g, cap, cur, h, _⟩
            · exact absurd h h0
            · exact ⟨_, _, h⟩
          have hI0 : InI base mp c bm wr.heap.size l d w (.slice (some ⟨g, 0, none⟩) pl.length cap) pl 0 (.slice none 0 0) wr n sg scap vs [] lab ends sts :=
            ⟨hL.mem, hL.level, by have := hL.cnt; omega, hL.paths, ⟨rfl, by simp⟩, hL.prow, World.ownsRow_nil _ _ _ _, hL.bel, Nat.le_refl _⟩
          have hg : g < wr.heap.size := (hL.prow.lt g rfl).2
          have hbw := hL.size
          have HI0 := Lib.hid hI0
          have hplb : pl.length ≤ 100000000000 := by omega
          have hpos : 0 < pl.length := by omega
          have Hpl := Lib.hid hpl
          have Hrs := Lib.hid hrs
          have Hg := Lib.hid hg
          clear hL hI0 hpl hrs hg
          obtain ⟨L0, hL0⟩ : ∃ L0, L0 = wr.heap.size := ⟨_, rfl⟩
          rw [← hL0] at HI0 Hg hbw
          clear hL0
          gi_wp2
          gi_loopw [7, 32] (fun lv i wx => ∃ k n sg scap vs ql lab ends sts, k ≤ pl.length ∧ i = .int .i64 (k : Int) ∧ InI base mp c bm L0 l d w (.slice (some ⟨g, 0, none⟩) pl.length cap) pl k lv wx n sg scap vs ql lab ends sts) (fun lv i wx => pl.length - (intOf i).toNat)
          case atStart => exact ⟨0, _, _, _, _, _, _, _, _, Nat.zero_le _, rfl, HI0.out⟩
          case round =>
            obtain ⟨k, n, sg, scap, vs, ql, lab, ends, sts, hk, rfl, hI⟩ := hrel
            by_cases hlt : k < pl.length
            · obtain ⟨x, hx⟩ : ∃ x, pl[k]? = some x := ⟨_, List.getElem?_eq_getElem hlt⟩
              have htd : (todo l d)[k]? = some (x.pat, x.idx) := by rw [← hI.paths.pats, List.getElem?_map, hx]; rfl
              obtain ⟨hds, hli⟩ := todo_mem (List.mem_of_getElem? htd)
              have hat := hI.paths.at_ x (List.mem_of_getElem? hx)
              have hcell : ∀ j, j < 3 → wr.cell? ⟨g, k * 3 + j, none⟩ = (pathCells d x)[j]? := fun j hj => by
                rw [World.ownsRow.cellAt hI.prow (k * 3 + j) (by omega)]
                exact plCells_at d pl k x hx j hj
              obtain ⟨y, hy⟩ : ∃ y, y = x.pat.extract d x.pat.size := ⟨_, rfl⟩
              have hys : y.size = x.pat.size - d := by rw [hy]; simp
              have c0 : wr.cell? ⟨g, k * 3, none⟩ = some (.int .i64 (x.idx : Int)) := hcell 0 (by omega)
              have c1 : wr.cell? ⟨g, k * 3 + 1, none⟩ = some (.int .i64 (x.at_ : Int)) := hcell 1 (by omega)
              have c2 : wr.cell? ⟨g, k * 3 + 2, none⟩ = some (.string y) := by rw [hy]; exact hcell 2 (by omega)
              have HI := Lib.hid hI
              have Hy := Lib.hid hy
              have Htd := Lib.hid htd
              have Hat := Lib.hid hat
              have Hx := Lib.hid hx
              clear hI hy htd hat hcell hli hx
              gi_wp2
              have hB0 : Below wr.heap.size wr (wr.alloc (.cells #[.int .i64 (x.idx : Int), .int .i64 (x.at_ : Int), .string y] 77)) := (Below.refl _ wr).alloc (Nat.le_refl _) _
              obtain ⟨w1, hw1⟩ : ∃ w1, w1 = wr.alloc (.cells #[.int .i64 (x.idx : Int), .int .i64 (x.at_ : Int), .string y] 77) := ⟨_, rfl⟩
              have hbox : w1.heap[wr.heap.size]? = some (.cells #[.int .i64 (x.idx : Int), .int .i64 (x.at_ : Int), .string y] 77 (0, 0)) := by rw [hw1]; exact World.alloc_heap_new wr _
              have hs1 : w1.heap.size = wr.heap.size + 1 := by rw [hw1]; simp
              rw [← hw1] at hB0 ⊢
              obtain ⟨B, hBq⟩ : ∃ B, B = wr.heap.size := ⟨_, rfl⟩
              rw [← hBq] at hbox ⊢
              have b0 : w1.cell? ⟨B, 0, none⟩ = some (.int .i64 (x.idx : Int)) := by simp [World.cell?, hbox]
              have b1 : w1.cell? ⟨B, 1, none⟩ = some (.int .i64 (x.at_ : Int)) := by simp [World.cell?, hbox]
              have b2 : w1.cell? ⟨B, 2, none⟩ = some (.string y) := by simp [World.cell?, hbox]
              have hy0 : 0 < y.size := by omega
              have hy0' : (0 : Int) < (y.size : Int) := by omega
              have HB0 := Lib.hid hB0
              have Hbox := Lib.hid hbox
              have HBq := Lib.hid hBq
              have Hs1 := Lib.hid hs1
              have Hys := Lib.hid hys
              clear hw1 hB0 hbox hBq hs1 c0 c1 c2 hys
              refine wpIn_region_head 6 (fun _ => trivial) hmix (by kernel_rfl) (by kernel_rfl) ?_
              simp only [List.take_succ_cons, List.take_zero, List.drop_succ_cons, List.drop_zero]
              repeat (go_big_quiet_step (fail))
              refine wpQuiet_nil ?_
              have hM1 := (HI.out.mem.below HB0.out).below (w' := w1.drew) ⟨rfl, rfl, rfl, Nat.le_refl _, fun _ _ => rfl⟩
              have hcn := HI.out.level.cnt
              have hc2 := HI.out.cnt
              have HM1 := Lib.hid hM1
              have Hcn := Lib.hid hcn
              have Hc2 := Lib.hid hc2
              have hut : ((wordOf x.pat).take d).length = d := by rw [List.length_take, wordOf_len]; omega
              have Hut := Lib.hid hut
              have hpr : pl.length ≤ rem l d := by rw [Hpl.out]; have := Hrs.out; omega
              have hb1 : sts.length < 1000000000000 := by omega
              have hb2 : n < 1000000000000 := by omega
              have hb3 : ((wordOf x.pat).take d).length < 1000000000000 := by
                have h1 := HI.out.level.auto
                obtain ⟨s, hs⟩ : ∃ s, sts[x.at_]? = some s := ⟨_, List.getElem?_eq_getElem (by have := (List.getElem?_eq_some_iff.1 Hat.out).1; rw [h1.len]; exact this)⟩
                have := rem_mem (List.mem_of_getElem? (todo_mem (List.mem_of_getElem? Htd.out)).2)
                omega
              have Hb1 := Lib.hid hb1
              have Hb2 := Lib.hid hb2
              have Hb3 := Lib.hid hb3
              have Hpr := Lib.hid hpr
              clear hM1 hcn hc2 hut b0 b1 b2 hb1 hb2 hb3 hpr
              have hBne : ¬ (B = mp ∨ B = bm ∨ B = sg) := by
                have h1 := HI.out.mem.lt
                have h2 := HI.out.mem.next.lt
                have h3 : sg < wr.heap.size := by obtain ⟨_, cur, h⟩ := HI.out.mem.rowBlock; exact (Array.getElem?_eq_some_iff.1 h).1
                have h4 := HBq.out
                omega
              have HBne := Lib.hid hBne
              clear hBne
              by_cases hy1 : y.size = 1
              · have e1 : ((y.size : Int) == 1) = true := by rw [hy1]; rfl
                have Hy1 := Lib.hid hy1
                clear hy1
                gi_wp2_with (first | (refine ⟨trivial, ?_⟩; gi_at_call 32; refine (child_in (nn - 1) (by omega) HM1.out HI.out.level.auto Hb1.out Hb2.out Hat.out Hb3.out (by rw [Hut.out]; exact HI.out.level.short) y[0] (by show base ≤ w1.heap.size; rw [Hs1.out]; have := HI.out.size; omega)).mono ?_; rintro e w3 ⟨r, rfl, n3, sg3, scap3, vs3, lab3, sts3, hM3, hA3, hr3, hor3, hn3, hsg3, hf3⟩; have hbox3 : w3.heap[B]? = some (.cells #[.int .i64 (x.idx : Int), .int .i64 (x.at_ : Int), .string y] 77 (0, 0)) := (hf3.block B (by show B < w1.heap.size; rw [Hs1.out, HBq.out]; omega) HBne.out).trans Hbox.out; have b0 : w3.cell? ⟨B, 0, none⟩ = some (.int .i64 (x.idx : Int)) := by { simp [World.cell?, hbox3] }; have b2 : w3.cell? ⟨B, 2, none⟩ = some (.string y) := by { simp [World.cell?, hbox3] }; have HM3 := Lib.hid hM3; have HA3 := Lib.hid hA3; have Hr3 := Lib.hid hr3; have Hor3 := Lib.hid hor3; have Hn3 := Lib.hid hn3; have Hsg3 := Lib.hid hsg3; have Hf3 := Lib.hid hf3; have Hbox3 := Lib.hid hbox3; clear hM3 hA3 hr3 hor3 hn3 hsg3 hf3 hbox3) | (fail))

                have hbL : base ≤ L0 := hbw
                have hwn := word_next Hy.out (by have := Hys.out; omega) hy0
                have hmor : lab3 = lab ∨ lab3 = lab ++ [(wordOf x.pat).take (d + 1)] := by
                  have h := Hor3.out
                  rw [hwn] at h
                  exact h.imp (fun h => h.2) (fun h => h.2)
                have hgr : ∀ (q : Nat) (u : Word), lab[q]? = some u → lab3[q]? = some u := fun q u h => by
                  rcases hmor with e | e
                  · rw [e]; exact h
                  · rw [e]; exact getElem?_snoc_old h
                have hmid := mid_child hmp hbm hbL HI.out HB0.out HM3.out Hn3.out Hf3.out hgr
                have hr3 := Hr3.out
                rw [hwn] at hr3
                have Hmid := Lib.hid hmid
                have Hmor := Lib.hid hmor
                have Hmr3 := Lib.hid hr3
                obtain ⟨s3, hs3⟩ : ∃ s, sts3[r]? = some s := ⟨_, List.getElem?_eq_getElem (by rw [HA3.out.len]; exact (List.getElem?_eq_some_iff.1 hr3).1)⟩
                have Hs3 := Lib.hid hs3
                have hb4 : sts3.length < 1000000000000 := by
                  have h1 := HA3.out.len
                  have h2 := HI.out.level.auto.len
                  have h3 := Hb1.out
                  have h4 := Hcn.out
                  have h5 := Hpr.out
                  rcases hmor with e | e
                  · rw [e] at h1; omega
                  · rw [e, List.length_append, List.length_singleton] at h1; omega
                have hb5 : base ≤ w3.heap.size := by have := hmid.size; omega
                have hb6 : s3.which.length < 1000000000000 := by
                  rw [HA3.out.which r _ s3 hr3 hs3, HI.out.level.whs _ (fun e => by have := congrArg List.length e; rw [List.length_take, wordOf_len, List.length_nil] at this; omega)]
                  have hz : l.zipIdx.length = l.length := by simp
                  have ht : (todo l d).length ≤ l.length := by rw [← hz]; exact List.length_filter_le _ _
                  split
                  · have := idxsOf_len l.zipIdx ((wordOf x.pat).take (d + 1))
                    unfold idxs
                    omega
                  · split
                    · have := idxsOf_len ((todo l d).take k) ((wordOf x.pat).take (d + 1))
                      rw [List.length_take] at this
                      omega
                    · simp
                have Hb4 := Lib.hid hb4
                have Hb5 := Lib.hid hb5
                have Hb6 := Lib.hid hb6
                clear hb4 hb5 hb6 hs3 hr3 hmid hmor hgr hwn
                gi_wp2_with (refine ⟨trivial, ?_⟩; gi_at_call 33; refine (end_in (nn - 1) HM3.out Hb4.out Hb5.out Hs3.out Hb6.out x.idx).mono ?_; rintro e w5 ⟨⟨ev, rfl⟩, vs5, hM5, hf5⟩; have HM5 := Lib.hid hM5; have Hf5 := Lib.hid hf5; clear hM5 hf5)
                go_roundw
                case rel =>
                  obtain ⟨n5, sg5, scap5, vs6, ql5, lab5, ends5, sts5, hI5⟩ := in_end hbw Hmid.out HI.out.level HA3.out Htd.out (by have := Hys.out; have := Hy1.out; omega) Hmor.out Hmr3.out Hs3.out HM5.out Hf5.out
                  exact ⟨k + 1, n5, sg5, scap5, vs6, ql5, lab5, ends5, sts5, by omega, by go_num, hI5⟩
                case measure => simp [intOf]; omega
              · have e1 : ((y.size : Int) == 1) = false := by simp; omega
                have Hy1 := Lib.hid hy1
                clear hy1
                gi_wp2_with (first | (refine ⟨trivial, ?_⟩; gi_at_call 32; refine (child_in (nn - 1) (by omega) HM1.out HI.out.level.auto Hb1.out Hb2.out Hat.out Hb3.out (by rw [Hut.out]; exact HI.out.level.short) y[0] (by show base ≤ w1.heap.size; rw [Hs1.out]; have := HI.out.size; omega)).mono ?_; rintro e w3 ⟨r, rfl, n3, sg3, scap3, vs3, lab3, sts3, hM3, hA3, hr3, hor3, hn3, hsg3, hf3⟩; have hbox3 : w3.heap[B]? = some (.cells #[.int .i64 (x.idx : Int), .int .i64 (x.at_ : Int), .string y] 77 (0, 0)) := (hf3.block B (by show B < w1.heap.size; rw [Hs1.out, HBq.out]; omega) HBne.out).trans Hbox.out; have b0 : w3.cell? ⟨B, 0, none⟩ = some (.int .i64 (x.idx : Int)) := by { simp [World.cell?, hbox3] }; have b2 : w3.cell? ⟨B, 2, none⟩ = some (.string y) := by { simp [World.cell?, hbox3] }; have HM3 := Lib.hid hM3; have HA3 := Lib.hid hA3; have Hr3 := Lib.hid hr3; have Hor3 := Lib.hid hor3; have Hn3 := Lib.hid hn3; have Hsg3 := Lib.hid hsg3; have Hf3 := Lib.hid hf3; have Hbox3 := Lib.hid hbox3; clear hM3 hA3 hr3 hor3 hn3 hsg3 hf3 hbox3) | (fail))

                have hbL : base ≤ L0 := hbw
                have hwn := word_next Hy.out (by have := Hys.out; omega) hy0
                have hmor : lab3 = lab ∨ lab3 = lab ++ [(wordOf x.pat).take (d + 1)] := by
                  have h := Hor3.out
                  rw [hwn] at h
                  exact h.imp (fun h => h.2) (fun h => h.2)
                have hgr : ∀ (q : Nat) (u : Word), lab[q]? = some u → lab3[q]? = some u := fun q u h => by
                  rcases hmor with e | e
                  · rw [e]; exact h
                  · rw [e]; exact getElem?_snoc_old h
                have hmid := mid_child hmp hbm hbL HI.out HB0.out HM3.out Hn3.out Hf3.out hgr
                have hr3 := Hr3.out
                rw [hwn] at hr3
                have hpg : ∀ j, (Value.slice (some ⟨g, 0, none⟩) pl.length cap).ownBlock = some j → j < L0 := fun j hj => by cases hj; exact Hg.out
                have hlong : d + 1 < x.pat.size := by have := Hys.out; have := Hy1.out; omega
                have hqlb : ql.length ≤ 100000000000 := by
                  rw [hmid.longer.len]
                  refine Nat.le_trans (List.length_filter_le _ _) ?_
                  rw [List.length_take]
                  omega
                obtain ⟨w6, hw6⟩ : ∃ w6, w6 = w3.drew := ⟨_, rfl⟩
                have hlr6 : w6.ownsRow L0 77 3 u7 ql.length (plCells (d + 1) ql) := by rw [hw6]; exact hmid.lrow
                have hs6 : L0 ≤ w6.heap.size := by rw [hw6]; exact hmid.size
                have hbox6 : w6.heap[B]? = some (.cells #[.int .i64 (x.idx : Int), .int .i64 (x.at_ : Int), .string y] 77 (0, 0)) := by rw [hw6]; exact Hbox3.out
                obtain ⟨z, hz⟩ : ∃ z, z = y.extract 1 y.size := ⟨_, rfl⟩
                obtain ⟨v', w7, happ, hown, hf7⟩ := append_path (p := x.pat) (z := z) hlr6 hs6 hqlb (by rw [hz, Hy.out]; exact extract_tail _ _) (i := x.idx) (q := r) (ty := 75)
                have hBr : some B ≠ u7.ownBlock := fun e => by
                  have h1 := HI.out.lrow.lt B e.symm
                  have h2 := HBq.out
                  omega
                have hBl : B < w6.heap.size := (Array.getElem?_eq_some_iff.1 hbox6).1
                have hbox61 : (w6.alloc (.cells #[.int .i64 (x.idx : Int), .int .i64 (r : Int), .string z] 77)).heap[B]? = some (.cells #[.int .i64 (x.idx : Int), .int .i64 (x.at_ : Int), .string y] 77 (0, 0)) := (Below.heap_alloc w6 _ _ hBl).trans hbox6
                have hbox7 : w7.heap[B]? = some (.cells #[.int .i64 (x.idx : Int), .int .i64 (x.at_ : Int), .string y] 77 (0, 0)) := (hf7.block B hBl hBr).trans hbox6
                obtain ⟨V, hV0, hV1, hV2⟩ : ∃ V : Nat → World, V 0 = w6 ∧ V 1 = w6.alloc (.cells #[.int .i64 (x.idx : Int), .int .i64 (r : Int), .string z] 77) ∧ ∀ t, V (t + 2) = w7 := ⟨fun t => match t with | 0 => w6 | 1 => w6.alloc (.cells #[.int .i64 (x.idx : Int), .int .i64 (r : Int), .string z] 77) | _ + 2 => w7, rfl, rfl, fun _ => rfl⟩
                have hVb : ∀ t, (V t).heap[B]? = some (.cells #[.int .i64 (x.idx : Int), .int .i64 (x.at_ : Int), .string y] 77 (0, 0)) := fun t => by
                  match t with
                  | 0 => rw [hV0]; exact hbox6
                  | 1 => rw [hV1]; exact hbox61
                  | t + 2 => rw [hV2]; exact hbox7
                have r0 : ∀ t, (V t).cell? ⟨B, 0, none⟩ = some (.int .i64 (x.idx : Int)) := fun t => by simp [World.cell?, hVb t]
                have r2 : ∀ t, (V t).cell? ⟨B, 2, none⟩ = some (.string y) := fun t => by simp [World.cell?, hVb t]
                have hin := in_longer hbw hmid HI.out.level HA3.out Htd.out hlong hmor hr3 hpg ((Frm.drew w3 _).trans (by rw [← hw6]; exact hf7) (fun k _ h => h)) hown
                have Hin := Lib.hid hin
                have Happ := Lib.hid happ
                have Hw6 := Lib.hid hw6
                have HV0 := Lib.hid hV0
                have HV1 := Lib.hid hV1
                have HV2 := Lib.hid (hV2 0)
                have Hz := Lib.hid hz
                have hy1' : (1 : Int) ≤ (y.size : Int) := by omega
                clear hin happ hw6 hV0 hV1 hV2 hVb hbox61 hbox7 hbox6 hBr hBl hf7 hown hlr6 hs6 hqlb hlong hpg hr3 hmid hgr hmor hwn hbL b0 b2 hz
                refine wpIn_region_stages [8, 9] (fun t => match t with | 0 => w6 | 1 => w6.alloc (.cells #[.int .i64 (x.idx : Int), .int .i64 (r : Int), .string z] 77) | _ + 2 => w7) V 2 (fun _ => trivial) hmix (by kernel_rfl) (by kernel_rfl) (by kernel_rfl) (fun t ht => by
                  match t, ht with
                  | 0, _ => exact ⟨0, HV0.out.symm⟩
                  | 1, _ => exact ⟨1, HV1.out.symm⟩
                  | 2, _ => exact ⟨2, HV2.out.symm⟩) Hw6.out ?_
                refine wpSt_quiet 8 (by decide) (by kernel_rfl) ?_
                simp only [List.take_succ_cons, List.take_zero, List.drop_succ_cons, List.drop_zero]
                repeat (go_big_quiet_step (fail))
                refine wpQuiet_nil ?_
                refine wpSt_eff (j := 0) (by decide) rfl (eff_buildSlice1 rfl rfl (vx := .agg #[.int .i64 (x.idx : Int), .int .i64 (r : Int), .string (y.extract 1 y.size)]) rfl Try.underlying75 hi hz0 hz1 (by decide) (by decide) (by rw [← Hz.out]; exact fill_path _ _ _) rfl rfl) ?_
                refine wpSt_eff (j := 1) (by decide) rfl (eff_append rfl rfl rfl rfl Happ.out) ?_
                go_frame
                refine wpSt_quiet 1 (by decide) (by kernel_rfl) ?_
                simp only [List.take_succ_cons, List.take_zero, List.drop_succ_cons, List.drop_zero]
                repeat (go_big_quiet_step (fail))
                refine wpQuiet_nil ?_
                refine wpSt_done (wf := w7) rfl ?_
                try go_frame
                gi_wp2
                go_roundw
                case rel =>
                  obtain ⟨n5, sg5, scap5, vs6, ql5, lab5, ends5, sts5, hI5⟩ := Hin.out
                  exact ⟨k + 1, n5, sg5, scap5, vs6, ql5, lab5, ends5, sts5, by omega, by go_num, hI5⟩
                case measure => simp [intOf]; omega
            · obtain rfl : k = pl.length := by omega
              have hnx : LayI base mp c bm l (d + 1) w u7 wr n sg scap vs ql lab ends sts := by
                have hc := hI.cnt
                have hlv := hI.level
                have hlg := hI.longer
                rw [Hpl.out] at hc hlv hlg
                rw [List.take_length, ← todo_next] at hlg
                exact ⟨hI.mem, level_next hlv, by have := Hrs.out; omega, hlg, ownsRow_base3 hI.lrow hbw, hI.bel, by have := hI.size; omega⟩
              have Hnx := Lib.hid hnx
              clear hnx hI
              gi_wp2
              have hlt2 : rem l (d + 1) < rem l d := by have h1 := Hrs.out; have h2 := Hpl.out; omega
              have Hlt2 := Lib.hid hlt2
              clear hlt2
              gi_roundg (rem l (d + 1))
              case measure => exact Hlt2.out
              case rel => exact ⟨d + 1, rfl, _, _, _, _, _, _, _, _, Hnx.out⟩
end Go.Proofs.Ytpgiaofkabhgkaa
