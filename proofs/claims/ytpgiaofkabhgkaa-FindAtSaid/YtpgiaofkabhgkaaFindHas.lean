/-
  Contracts of (*find.Many).Len and (*find.Many).Has.
-/
import Derived.Test.YtpgiaofkabhgkaaFindWalk
namespace Go.Proofs.Ytpgiaofkabhgkaa
set_option linter.unusedVariables false
set_option linter.unusedSimpArgs false
open Go.RowKit Go.Shelf
attribute [local go_sem] Oper.semAt_some

/-- What a step's state holds. -/
theorem Src.reads {w : World} {m : Value} {s : ByteArray} {xs : List (Nat × Nat)} {l : List ByteArray} (h : Src w m s xs l) (x : WStep xs) :
    ∃ (base mp bm n sg scap : Nat) (vs : List Value) (lab : List Word) (ends : List (Nat × Word)) (sts : List St) (st : St) (k : Nat), m = .pointer (some ⟨mp, 0, none⟩) ∧ MemAt w base mp l.length bm n sg scap vs lab sts ∧ Made l lab ends sts ∧ sts.length < 1000000000000 ∧ sts[x.1.2]? = some st ∧ xs[k]? = some x.1 ∧ x.1.1 = k + 1 ∧ k < s.size ∧
      lab[x.1.2]? = some (longS lab ((wordOf s).take (k + 1))) ∧ xs = walkL lab s := by
  rcases h with ⟨rfl, _⟩ | ⟨base, mp, bm, n, sg, scap, vs, lab, ends, sts, h1, h2, h3, h4, rfl⟩
  · exact absurd x.2 (by simp)
  · obtain ⟨k, hk⟩ := List.mem_iff_getElem?.1 x.2
    obtain ⟨e1, e2, e3⟩ := walkL_lab (List.mem_of_getElem? h3.auto.zero) h3.auto.nodup s hk
    have hl := (List.getElem?_eq_some_iff.1 e3).1
    rw [← h3.auto.len] at hl
    exact ⟨base, mp, bm, n, sg, scap, vs, lab, ends, sts, _, k, h1, h2, h3, h4, List.getElem?_eq_getElem hl, hk, e1, e2, e3, rfl⟩
/-- Every hit ends at a step. -/
theorem Src.covers {w : World} {m : Value} {s : ByteArray} {xs : List (Nat × Nat)} {l : List ByteArray} (h : Src w m s xs l) {a i e : Nat} (he : HitE l s a i e) : ∃ x : WStep xs, x.1.1 = e := by
  have hlt := he.lt
  rcases h with ⟨rfl, rfl, _⟩ | ⟨base, mp, bm, n, sg, scap, vs, lab, ends, sts, h1, h2, h3, h4, rfl⟩
  · simp at hlt
  · have := walkL_at lab s (k := e - 1) (by omega)
    exact ⟨⟨_, List.mem_of_getElem? this⟩, by show e - 1 + 1 = e; omega⟩
/-- A state has a word just if a hit ends there. -/
theorem Made.word_iff {l : List ByteArray} {lab : List Word} {ends : List (Nat × Word)} {sts : List St} (h : Made l lab ends sts) {s : ByteArray} {k : Nat} {x : Nat × Nat} (hx : (walkL lab s)[k]? = some x) {st : St} (hs : sts[x.2]? = some st) (hk : k < s.size) : st.word ≠ 0 ↔ ∃ a i, HitE l s a i (k + 1) := by
  obtain ⟨v, hv, h1, h2, h3⟩ := h.word hx hs
  have h0 := h.auto.root hv
  constructor
  · intro hne
    have hvn : v ≠ [] := fun e => hne (h0.2 e)
    have hE := h1.resolve_left hvn
    obtain ⟨_, i, p, hi, hp⟩ := h.ended_iff.1 hE
    have hle := h2.length_le
    rw [List.length_take, wordOf_len] at hle
    exact ⟨k + 1 - v.length, i, h.hit.2 ⟨v, hE, idxs_mem.2 ⟨p, hi, hp⟩, h2, by omega, by omega⟩⟩
  · rintro ⟨a, i, hh⟩ he
    obtain ⟨u, hE, hi, hu, _⟩ := h.hit.1 hh
    have := h3 u hE hu
    rw [h0.1 he] at this
    exact (h.ended_iff.1 hE).1 (List.suffix_nil.1 this)
theorem Src.ptr {w : World} {m : Value} {s : ByteArray} {xs : List (Nat × Nat)} {l : List ByteArray} (h : Src w m s xs l) : m = .pointer none ∨ ∃ mp, m = .pointer (some ⟨mp, 0, none⟩) := by
  rcases h with ⟨_, _, h | ⟨mp, h, _⟩⟩ | ⟨base, mp, bm, n, sg, scap, vs, lab, ends, sts, h1, _⟩
  · exact .inl h
  · exact .inr ⟨mp, h⟩
  · exact .inr ⟨mp, h1⟩
theorem isMany_src {w : World} {base mp : Nat} {l : List ByteArray} (h : IsMany w base mp l) (s : ByteArray) : ∃ xs, Src w (.pointer (some ⟨mp, 0, none⟩)) s xs l := by
  obtain ⟨bm, n, sg, scap, vs, lab, ends, sts, h1, h2, h3⟩ := h
  exact ⟨_, .inr ⟨base, mp, bm, n, sg, scap, vs, lab, ends, sts, rfl, h1, h2, h3, rfl⟩⟩
theorem IsMany.below {w w' : World} {base mp : Nat} {l : List ByteArray} (h : IsMany w base mp l) (hb : Below w.heap.size w w') : IsMany w' base mp l := by
  obtain ⟨bm, n, sg, scap, vs, lab, ends, sts, h1, h2, h3⟩ := h
  exact ⟨bm, n, sg, scap, vs, lab, ends, sts, h1.below hb, h2, h3⟩

set_option maxHeartbeats 400000 in
theorem len_any (m : Value) (s : ByteArray) (xs : List (Nat × Nat)) (l : List ByteArray) (w : World) (h : Src w m s xs l) :
    Calls Try.prog 11 #[m] w fun e w' => e = .returned (.int .i64 (l.length : Int)) ∧ w = w' := by
  rcases h with ⟨_, rfl, rfl | ⟨mp, rfl, hb⟩⟩ | ⟨base, mp, bm, n, sg, scap, vs, lab, ends, sts, rfl, h2, _⟩
  · go_enter Try.func11, Try.ntmps11
    go_wp2
    go_ret
    exact ⟨rfl, rfl⟩
  · have c0 : w.cell? ⟨mp, 0, none⟩ = some (.int .i64 0) := by simp [World.cell?, hb]
    go_enter Try.func11, Try.ntmps11
    go_wp2
    go_ret
    exact ⟨rfl, rfl⟩
  · have c0 := h2.cell0
    clear h2
    go_enter Try.func11, Try.ntmps11
    go_wp2
    go_ret
    exact ⟨rfl, rfl⟩

/-- The result of a function that keeps its one bool in a cell. -/
theorem results_cell_bool {fn : Func} {p : Tmp} {ty : TypeId} (h : fn.results = #[.cell p ty]) (tmps : Array Value) (P : Program) (w : World) {g : Nat} {b : Bool}
    (hp : tmps.getD p undef = .pointer (some ⟨g, 0, none⟩)) (ha : ∀ w, (isAgg ty).run P w = .ok false w) (hc : w.cell? ⟨g, 0, none⟩ = some (.bool b)) : (results fn tmps).run P w = .ok (.bool b) w := by
  have hp' : tmps[p]?.getD undef = .pointer (some ⟨g, 0, none⟩) := by simpa using hp
  simp [results, h, hp', ha, hc, go_sem]

def HasHit (l : List ByteArray) (s : ByteArray) : Prop := ∃ a i e, HitE l s a i e

set_option maxRecDepth 100000 in
set_option maxHeartbeats 2000000 in
theorem has_any (mo : Option Addr) (s : ByteArray) (xs : List (Nat × Nat)) (l : List ByteArray) (w : World) (hs : s.size ≤ 1000000000000) (h : Src w (.pointer mo) s xs l) :
    Calls Try.prog 14 #[.pointer mo, .string s] w fun e W' => ∃ b : Bool, e = .returned (.bool b) ∧ (b = true ↔ HasHit l s) ∧ Below w.heap.size w W' := by
  refine (callsIn_wide (n := 5)).1 ?_
  have hmix : Try.prog.follows .mixedOrders = true := by kernel_rfl
  have HS := Lib.hid h
  clear h
  refine callsIn_of_wp_marks Try.func14 rfl trivial ?_ rfl
  simp only [Try.ntmps14, List.size_toArray, List.length_cons, List.length_nil, Nat.reduceAdd, Nat.reduceSub, Array.replicate_succ, Array.replicate_zero, List.push_toArray, List.append_toArray, List.nil_append, List.cons_append]
  gi_wp2_with (refine ⟨trivial, ?_⟩; gi_at_call 24; refine (walk_in _ _ _ _).mono ?_; rintro e w' ⟨rfl, rfl⟩)
  have bM := Boxed.new w 25 (.pointer mo)
  have bR := Boxed.new (w.alloc (.cells #[.pointer mo] 25)) 4 (.bool false)
  rw [World.size_alloc] at bR
  have hB0 : Below w.heap.size w ((w.alloc (.cells #[.pointer mo] 25)).alloc (.cells #[.bool false] 4)) := ((Below.refl _ w).alloc (Nat.le_refl _) _).alloc (by simp) _
  obtain ⟨w0, hw0⟩ : ∃ w0, (w.alloc (.cells #[.pointer mo] 25)).alloc (.cells #[.bool false] 4) = w0 := ⟨_, rfl⟩
  have hz : w.heap.size + 1 + 1 = w0.heap.size := by rw [← hw0]; simp
  have bM0 : Boxed w0 w.heap.size 25 (.pointer mo) := by rw [← hw0]; exact bM.alloc _
  rw [hw0] at bR hB0
  have hB1 : Below w.heap.size w ((w0.alloc (.cells #[.pointer mo] 25)).alloc (.cells #[.string s] 9)) := (hB0.alloc (by omega) _).alloc (by simp; omega) _
  simp only [hw0, hz]
  clear bM hw0
  refine range_walk (.pointer mo) s hs xs l w HS.out w0 (by omega) hB0.block rfl
    (fun (pre : List (WStep xs)) W => ((Boxed W w.heap.size 25 (.pointer mo) ∧ Boxed W (w.heap.size + 1) 4 (.bool false)) ∧ Below w.heap.size w W) ∧ ∀ x ∈ pre, ¬ ∃ a i, HitE l s a i x.1.1)
    (fun c pre W => ((Boxed W w.heap.size 25 (.pointer mo) ∧ Boxed W (w.heap.size + 1) 4 (.bool true)) ∧ Below w.heap.size w W) ∧ c = .ret ∧ HasHit l s)
    (OwnFrom.and (OwnFrom.and (OwnFrom.and (Own.from (boxed_own w.heap.size 25 (fun _ : List (WStep xs) => Value.pointer mo)) _) (Own.from (boxed_own (w.heap.size + 1) 4 (fun _ : List (WStep xs) => Value.bool false)) _)) (ownFrom_below (Nat.le_refl _) (by omega))) (ownFrom_pure _ _))
    (fun c => OwnFrom.and (OwnFrom.and (OwnFrom.and (Own.from (boxed_own w.heap.size 25 (fun _ : List (WStep xs) => Value.pointer mo)) _) (Own.from (boxed_own (w.heap.size + 1) 4 (fun _ : List (WStep xs) => Value.bool true)) _)) (ownFrom_below (Nat.le_refl _) (by omega))) (ownFrom_pure _ (fun _ => c = .ret ∧ HasHit l s)))
    ⟨⟨⟨(bM0.alloc _).alloc _, (bR.alloc _).alloc _⟩, hB1⟩, by simp⟩
    (fun x => { tmps := #[.pointer mo, .string s, .pointer (some ⟨w.heap.size, 0, none⟩), undef, .pointer (some ⟨w.heap.size + 1, 0, none⟩), undef, .int .i64 (x.1.2 : Int), .pointer mo, .string s, .func (.func 34) #[] #[.pointer (some ⟨w0.heap.size, 0, none⟩), .pointer (some ⟨w0.heap.size + 1, 0, none⟩)], .int .i64 (x.1.1 : Int), .int .i64 (x.1.2 : Int), undef, undef, undef, undef, undef, undef, undef, undef, undef], defers := [] }) ?assign ?body ?done ?stop
  case assign =>
    intro l x W K hK
    gi_wp2
    exact hK
  case body =>
    rintro l' pre x W ⟨⟨⟨hm, hr⟩, hB⟩, hno⟩ hlt
    obtain ⟨base, mp, bm, n, sg, scap, vs, lab, ends, sts, st, k, hmo, hM, hMd, hsl, hst, hxk, hx1, hks, hlab, rfl⟩ := HS.out.reads x
    cases hmo
    have hM' := hM.below hB
    have c2 := hM'.cell2
    have cw := hM'.st2 hst
    have hql := (List.getElem?_eq_some_iff.1 hst).1
    have hc := hm.cell
    have hcr := hr.cell
    have hfr := hr.frozen
    have hwi := hMd.word_iff hxk hst hks
    rw [← hx1] at hwi
    have Hwi := Lib.hid hwi
    have HB := Lib.hid hB
    have Hno := Lib.hid hno
    have Hm := Lib.hid hm
    have Hr := Lib.hid hr
    clear hwi hB hno hm hr hM hM' hMd hst hxk hx1 hlab
    by_cases c1 : st.word = 0
    · have e1 : ((st.word : Int) != 0) = false := by simp; omega
      gi_wp2
      refine ⟨(KeepsOthers.refl _).from _, ⟨fun _ _ => rfl, rfl, rfl⟩, ⟨⟨Hm.out, Hr.out⟩, HB.out⟩, fun y hy => ?_⟩
      rcases List.mem_append.1 hy with hy | hy
      · exact Hno.out y hy
      · simp at hy
        subst hy
        exact fun h => Hwi.out.2 h c1
    · have e1 : ((st.word : Int) != 0) = true := by simp; omega
      gi_wp2
      obtain ⟨a, i, hh⟩ := Hwi.out.1 c1
      exact ⟨(KeepsOthers.setCell _ _ _).from _, ⟨⟨Hm.out.other (by omega) _, Hr.out.set _⟩, HB.out.setCell (by dsimp only; omega) _⟩, rfl, a, i, _, hh⟩
  case done =>
    rintro D W hD ⟨⟨⟨hm, hr⟩, hB⟩, hno⟩ hK
    have hc := hr.cell
    have hf := hr.frozen
    gi_wp2
    have hK' : (W.setCell ⟨w.heap.size + 1, 0, none⟩ (.bool false)).heap[D]? = some (.deferred (some [])) := (Below.heap_setCell _ _ _ _ (by dsimp only; omega)).trans hK
    refine ⟨by simp, .inl ⟨_, _, rfl, run_takeDeferred hK', ?_⟩⟩
    have hc' := (show Boxed ((W.setCell ⟨w.heap.size + 1, 0, none⟩ (.bool false)).putObj D (.deferred none)) (w.heap.size + 1) 4 (.bool false) from (World.putObj_heap_other (by omega)).trans (hr.set (.bool false))).cell
    refine ⟨_, results_cell_bool rfl _ _ _ rfl (fun _ => by kernel_rfl) hc', false, rfl, ?_, (hB.setCell (by dsimp only; omega) _).trans (belowK_b (w := w) (Nat.le_refl _) _ D _ _ (by omega) hK' rfl rfl)⟩
    refine ⟨fun h => (by cases h), fun ⟨a, i, e, hh⟩ => ?_⟩
    obtain ⟨x, hx⟩ := HS.out.covers hh
    exact absurd ⟨a, i, hx ▸ hh⟩ (hno x (List.mem_attach _ _))
  case stop =>
    rintro D c k W _ hk ⟨⟨⟨hm, hr⟩, hB⟩, rfl, hh⟩ hK
    have hc := hr.cell
    gi_wp2
    refine ⟨by simp, .inl ⟨_, _, rfl, run_takeDeferred hK, ?_⟩⟩
    have hc' := (show Boxed (W.putObj D (.deferred none)) (w.heap.size + 1) 4 (.bool true) from (World.putObj_heap_other (by omega)).trans hr).cell
    exact ⟨_, results_cell_bool rfl _ _ _ rfl (fun _ => by kernel_rfl) hc', true, rfl, ⟨fun _ => hh, fun _ => rfl⟩, hB.trans (belowK_b (w := w) (Nat.le_refl _) _ D _ _ (by omega) hK rfl rfl)⟩
end Go.Proofs.Ytpgiaofkabhgkaa
