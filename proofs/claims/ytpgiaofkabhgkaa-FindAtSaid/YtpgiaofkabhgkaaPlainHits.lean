/-
  Plain mathematics of find.Hits: all hits, in order.
-/
import Derived.Test.YtpgiaofkabhgkaaPlainWalk
namespace Go.Proofs.Ytpgiaofkabhgkaa
set_option linter.unusedVariables false
set_option linter.unusedSimpArgs false

def lexLt (x y : Nat × Nat) : Prop := x.1 < y.1 ∨ x.1 = y.1 ∧ x.2 < y.2
theorem sorted_ext : ∀ (l1 l2 : List (Nat × Nat)), l1.Pairwise lexLt → l2.Pairwise lexLt → (∀ x, x ∈ l1 ↔ x ∈ l2) → l1 = l2
  | [], [], _, _, _ => rfl
  | [], b :: l2, _, _, h => by have := (h b).2 (by simp); cases this
  | a :: l1, [], _, _, h => by have := (h a).1 (by simp); cases this
  | a :: l1, b :: l2, h1, h2, h => by
    obtain ⟨a1, a2⟩ := List.pairwise_cons.1 h1
    obtain ⟨b1, b2⟩ := List.pairwise_cons.1 h2
    have hab : a = b := by
      rcases List.mem_cons.1 ((h a).1 (by simp)) with e | e
      · exact e
      · rcases List.mem_cons.1 ((h b).2 (by simp)) with e' | e'
        · exact e'.symm
        · have r1 := a1 b e'
          have r2 := b1 a e
          unfold lexLt at r1 r2
          omega
    subst hab
    congr 1
    refine sorted_ext l1 l2 a2 b2 fun x => ⟨fun hx => ?_, fun hx => ?_⟩
    · rcases List.mem_cons.1 ((h x).1 (List.mem_cons_of_mem _ hx)) with e | e
      · have := a1 x hx
        rw [e] at this
        unfold lexLt at this
        omega
      · exact e
    · rcases List.mem_cons.1 ((h x).2 (List.mem_cons_of_mem _ hx)) with e | e
      · have := b1 x hx
        rw [e] at this
        unfold lexLt at this
        omega
      · exact e

def standB (p s : ByteArray) (a : Nat) : Bool := decide (0 < p.size) && (wordOf p).isPrefixOf ((wordOf s).drop a)
def hitB (l : List ByteArray) (s : ByteArray) (a i : Nat) : Bool := ((l[i]?).map fun p => standB p s a).getD false
theorem hitB_iff {l : List ByteArray} {s : ByteArray} {a i : Nat} : hitB l s a i = true ↔ ∃ e, HitE l s a i e := by
  rw [hitE_iff]
  unfold hitB
  cases h : l[i]? with
  | none => simp
  | some p =>
    simp only [Option.map_some, Option.getD_some, standB, Bool.and_eq_true, decide_eq_true_eq, List.isPrefixOf_iff_prefix]
    exact ⟨fun h => ⟨p, rfl, h⟩, fun ⟨_, e, h⟩ => by cases e; exact h⟩
/-- All hits, in order. -/
def hitsL (l : List ByteArray) (s : ByteArray) : List (Nat × Nat) := (List.range s.size).flatMap fun a => ((List.range l.length).filter fun i => hitB l s a i).map fun i => (a, i)
theorem mem_hitsL {l : List ByteArray} {s : ByteArray} {x : Nat × Nat} : x ∈ hitsL l s ↔ ∃ e, HitE l s x.1 x.2 e := by
  unfold hitsL
  simp only [List.mem_flatMap, List.mem_map, List.mem_filter, List.mem_range]
  constructor
  · rintro ⟨a, ha, i, ⟨hi, hb⟩, rfl⟩
    exact hitB_iff.1 hb
  · rintro ⟨e, he⟩
    have := he.lt
    exact ⟨x.1, by omega, x.2, ⟨by omega, hitB_iff.2 ⟨e, he⟩⟩, rfl⟩
theorem range_pairwise (n : Nat) : (List.range n).Pairwise (· < ·) := List.pairwise_lt_range
theorem hitsL_sorted (l : List ByteArray) (s : ByteArray) : (hitsL l s).Pairwise lexLt := by
  unfold hitsL
  rw [List.pairwise_flatMap]
  refine ⟨fun a _ => ?_, ?_⟩
  · rw [List.pairwise_map]
    exact (((range_pairwise _).filter _)).imp (fun h => .inr ⟨rfl, h⟩)
  · refine (range_pairwise _).imp fun {a b} hab x hx y hy => ?_
    simp only [List.mem_map] at hx hy
    obtain ⟨i, _, rfl⟩ := hx
    obtain ⟨j, _, rfl⟩ := hy
    exact .inl hab

/-- What has been collected: the hits that end at a step of es; and of those that end at e the ones at or before the longer words, or with the first j of v's numbers. -/
structure Got (l : List ByteArray) (s : ByteArray) (es : Nat → Prop) (e n : Nat) (js : List Nat) (L : List (Nat × Nat)) : Prop where
  nodup : L.Nodup
  mem : ∀ a i, (a, i) ∈ L ↔ ∃ e', HitE l s a i e' ∧ (es e' ∨ e' = e ∧ (a + n < e ∨ a + n = e ∧ i ∈ js))
theorem got_start (l : List ByteArray) (s : ByteArray) : Got l s (fun _ => False) 0 0 [] [] := ⟨by simp, fun a i => by
  constructor
  · intro h; cases h
  · rintro ⟨e', h, h' | ⟨rfl, _⟩⟩
    · exact h'.elim
    · have := h.lt; omega⟩
/-- A step begins: nothing of it has come, for no word is longer than all before. -/
theorem got_open {l : List ByteArray} {s : ByteArray} {es : Nat → Prop} {e0 n0 : Nat} {js0 : List Nat} {e n : Nat} {L : List (Nat × Nat)} (h : Got l s es e0 n0 js0 L) (h0 : ∀ a i e', HitE l s a i e' → ((es e' ∨ e' = e0 ∧ (a + n0 < e0 ∨ a + n0 = e0 ∧ i ∈ js0)) ↔ es e'))
    (hn : ∀ a i, HitE l s a i e → ¬ a + n < e) : Got l s es e n [] L := ⟨h.nodup, fun a i => (h.mem a i).trans ⟨fun ⟨e', h1, h2⟩ => ⟨e', h1, .inl ((h0 a i e' h1).1 h2)⟩, fun ⟨e', h1, h2⟩ => ⟨e', h1, (h0 a i e' h1).2 (by
    rcases h2 with h2 | ⟨rfl, h2 | ⟨_, h2⟩⟩
    · exact h2
    · exact absurd h2 (hn a i h1)
    · cases h2)⟩⟩⟩
/-- One more number of the word. -/
theorem got_one {l : List ByteArray} {s : ByteArray} {es : Nat → Prop} {e n j : Nat} {js : List Nat} {L : List (Nat × Nat)} (h : Got l s es e n js L) (hh : HitE l s (e - n) j e) (hne : ¬ es e) (hj : j ∉ js) (hn : n ≤ e) : Got l s es e n (js ++ [j]) (L ++ [(e - n, j)]) := by
  refine ⟨?_, fun a i => ?_⟩
  · rw [List.nodup_append]
    refine ⟨h.nodup, by simp, fun x hx y hy => ?_⟩
    simp at hy
    subst hy
    rintro rfl
    obtain ⟨e', h1, h2⟩ := (h.mem _ _).1 hx
    have := h1.uniq hh
    subst this
    rcases h2 with h2 | ⟨_, h2 | ⟨_, h2⟩⟩
    · exact hne h2
    · omega
    · exact hj h2
  · rw [List.mem_append, h.mem, List.mem_singleton]
    constructor
    · rintro (⟨e', h1, h2⟩ | h2)
      · refine ⟨e', h1, h2.imp id fun ⟨h3, h4⟩ => ⟨h3, h4.imp id fun ⟨h5, h6⟩ => ⟨h5, List.mem_append_left _ h6⟩⟩⟩
      · cases h2
        exact ⟨e, hh, .inr ⟨rfl, .inr ⟨by omega, by simp⟩⟩⟩
    · rintro ⟨e', h1, h2 | ⟨rfl, h2 | ⟨h2, h3⟩⟩⟩
      · exact .inl ⟨e', h1, .inl h2⟩
      · exact .inl ⟨e', h1, .inr ⟨rfl, .inl h2⟩⟩
      · rcases List.mem_append.1 h3 with h3 | h3
        · exact .inl ⟨e', h1, .inr ⟨rfl, .inr ⟨h2, h3⟩⟩⟩
        · simp at h3
          exact .inr (by rw [h3]; congr 1; omega)
/-- The word is done: on to the next shorter one. -/
theorem got_next {l : List ByteArray} {s : ByteArray} {es : Nat → Prop} {e n n' : Nat} {js : List Nat} {L : List (Nat × Nat)} (h : Got l s es e n js L) (hn : ∀ a i, HitE l s a i e → ((a + n < e ∨ a + n = e ∧ i ∈ js) ↔ a + n' < e)) : Got l s es e n' [] L := ⟨h.nodup, fun a i => (h.mem a i).trans ⟨fun ⟨e', h1, h2⟩ => ⟨e', h1, h2.imp id fun ⟨h3, h4⟩ => ⟨h3, .inl ((hn a i (h3 ▸ h1)).1 h4)⟩⟩, fun ⟨e', h1, h2⟩ => ⟨e', h1, h2.imp id fun ⟨h3, h4⟩ => ⟨h3, (hn a i (h3 ▸ h1)).2 (by
    rcases h4 with h4 | ⟨_, h4⟩
    · exact h4
    · cases h4)⟩⟩⟩⟩
/-- The step is done. -/
theorem got_close {l : List ByteArray} {s : ByteArray} {es : Nat → Prop} {e : Nat} {L : List (Nat × Nat)} (h : Got l s es e 0 [] L) : Got l s (fun x => es x ∨ x = e) 0 0 [] L := ⟨h.nodup, fun a i => (h.mem a i).trans ⟨fun ⟨e', h1, h2⟩ => ⟨e', h1, .inl (h2.imp id fun h3 => h3.1)⟩, fun ⟨e', h1, h2⟩ => ⟨e', h1, by
    rcases h2 with (h2 | rfl) | ⟨rfl, h2 | ⟨_, h2⟩⟩
    · exact .inl h2
    · exact .inr ⟨rfl, .inl (by have := h1.lt; omega)⟩
    · omega
    · cases h2⟩⟩⟩
/-- All has come. -/
theorem got_all {l : List ByteArray} {s : ByteArray} {es : Nat → Prop} {L : List (Nat × Nat)} (h : Got l s es 0 0 [] L) (hall : ∀ a i e, HitE l s a i e → es e) : L.Nodup ∧ ∀ x, x ∈ L ↔ x ∈ hitsL l s := ⟨h.nodup, fun x => by
  rw [mem_hitsL]
  refine (h.mem x.1 x.2).trans ⟨fun ⟨e', h1, _⟩ => ⟨e', h1⟩, fun ⟨e', h1⟩ => ⟨e', h1, .inl (hall _ _ _ h1)⟩⟩⟩

theorem nodup_lt : ∀ (n : Nat) (L : List Nat), L.Nodup → (∀ x ∈ L, x < n) → L.length ≤ n
  | 0, L, _, h => by
    cases L with
    | nil => simp
    | cons a L => have := h a (by simp); omega
  | n + 1, L, hn, h => by
    have h1 := nodup_lt n (L.erase n) (hn.erase n) (fun x hx => by
      have h2 := (hn.mem_erase_iff).1 hx
      have h3 := h x h2.2
      omega)
    rw [List.length_erase] at h1
    split at h1 <;> omega
/-- What one step appends. -/
def StepHits (l : List ByteArray) (s : ByteArray) (e : Nat) (A : List (Nat × Nat)) : Prop := A.Nodup ∧ ∀ a i, (a, i) ∈ A ↔ HitE l s a i e
theorem nodup_map_inj {α β : Type} {f : α → β} : ∀ {L : List α}, L.Nodup → (∀ x ∈ L, ∀ y ∈ L, f x = f y → x = y) → (L.map f).Nodup
  | [], _, _ => by simp
  | a :: L, hn, h => by
    obtain ⟨h1, h2⟩ := List.nodup_cons.1 hn
    rw [List.map_cons, List.nodup_cons]
    refine ⟨fun hm => ?_, nodup_map_inj h2 (fun x hx y hy => h x (List.mem_cons_of_mem _ hx) y (List.mem_cons_of_mem _ hy))⟩
    obtain ⟨b, hb, he⟩ := List.mem_map.1 hm
    have := h b (List.mem_cons_of_mem _ hb) a (by simp) he
    exact h1 (this ▸ hb)
theorem got_len {l : List ByteArray} {s : ByteArray} {e n : Nat} {js : List Nat} {A : List (Nat × Nat)} (h : Got l s (fun _ => False) e n js A) : A.length ≤ l.length := by
  have hm : ∀ x ∈ A, HitE l s x.1 x.2 e := fun x hx => by
    obtain ⟨e', h1, h2 | h2⟩ := (h.mem x.1 x.2).1 hx
    · exact h2.elim
    · exact h2.1 ▸ h1
  rw [← List.length_map (f := fun x : Nat × Nat => x.2)]
  refine nodup_lt _ _ (nodup_map_inj h.nodup fun x hx y hy he => ?_) fun i hi => ?_
  · obtain ⟨p, h1, h2, h3, _⟩ := hm x hx
    obtain ⟨p', h1', h2', h3', _⟩ := hm y hy
    rw [he, h1'] at h1
    cases h1
    exact Prod.ext (by omega) he
  · obtain ⟨x, hx, rfl⟩ := List.mem_map.1 hi
    exact (hm x hx).lt.2.2
theorem got_step {l : List ByteArray} {s : ByteArray} {e : Nat} {A : List (Nat × Nat)} (h : Got l s (fun _ => False) e 0 [] A) : StepHits l s e A := by
  refine ⟨h.nodup, fun a i => (h.mem a i).trans ⟨fun ⟨e', h1, h2⟩ => ?_, fun h1 => ⟨e, h1, .inr ⟨rfl, .inl (by have := h1.lt; omega)⟩⟩⟩⟩
  rcases h2 with h2 | ⟨rfl, _⟩
  · exact h2.elim
  · exact h1
theorem got_begin {l : List ByteArray} {s : ByteArray} {e n : Nat} (hn : ∀ a i, HitE l s a i e → ¬ a + n < e) : Got l s (fun _ => False) e n [] [] := by
  refine ⟨by simp, fun a i => ⟨fun h => (by cases h), fun ⟨e', h1, h2⟩ => ?_⟩⟩
  rcases h2 with h2 | ⟨rfl, h2 | ⟨_, h2⟩⟩
  · exact h2.elim
  · exact absurd h2 (hn a i h1)
  · cases h2

/-- What has been collected behind so many steps. -/
def Coll (l : List ByteArray) (s : ByteArray) (es : List Nat) (L : List (Nat × Nat)) : Prop := ∃ As : List (List (Nat × Nat)), As.length = es.length ∧ L = As.flatten ∧ ∀ (k : Nat) (e : Nat) (A : List (Nat × Nat)), es[k]? = some e → As[k]? = some A → StepHits l s e A
theorem coll_nil (l : List ByteArray) (s : ByteArray) : Coll l s [] [] := ⟨[], rfl, rfl, fun k e A h => by simp at h⟩
theorem coll_snoc {l : List ByteArray} {s : ByteArray} {es : List Nat} {L A : List (Nat × Nat)} {e : Nat} (h : Coll l s es L) (hA : StepHits l s e A) : Coll l s (es ++ [e]) (L ++ A) := by
  obtain ⟨As, h1, rfl, h3⟩ := h
  refine ⟨As ++ [A], by simp [h1], by simp, fun k e' A' he' hA' => ?_⟩
  rcases getElem?_snoc he' with ⟨hk, he'⟩ | ⟨hk, rfl⟩
  · rcases getElem?_snoc hA' with ⟨_, hA'⟩ | ⟨hk', _⟩
    · exact h3 k e' A' he' hA'
    · omega
  · rcases getElem?_snoc hA' with ⟨hk', _⟩ | ⟨_, rfl⟩
    · omega
    · exact hA
theorem coll_len {l : List ByteArray} {s : ByteArray} : ∀ {es : List Nat} {L : List (Nat × Nat)}, Coll l s es L → L.length ≤ es.length * l.length := by
  rintro es L ⟨As, h1, rfl, h3⟩
  rw [List.length_flatten]
  have key : ∀ (As : List (List (Nat × Nat))), (∀ A ∈ As, A.length ≤ l.length) → (As.map List.length).sum ≤ As.length * l.length := by
    intro As
    induction As with
    | nil => simp
    | cons A As ih =>
      intro h
      have h2 := ih (fun B hB => h B (List.mem_cons_of_mem _ hB))
      have h4 := h A (by simp)
      rw [List.map_cons, List.sum_cons, List.length_cons, Nat.succ_mul]
      omega
  rw [← h1]
  refine key As fun A hA => ?_
  obtain ⟨k, hk⟩ := List.mem_iff_getElem?.1 hA
  have hkl := (List.getElem?_eq_some_iff.1 hk).1
  rw [h1] at hkl
  have := h3 k _ A (List.getElem?_eq_getElem hkl) hk
  refine got_len (n := 0) (js := []) ⟨this.1, fun a i => (this.2 a i).trans ⟨fun h => ⟨_, h, .inr ⟨rfl, .inl (by have := h.lt; omega)⟩⟩, fun ⟨e', h5, h6⟩ => ?_⟩⟩
  rcases h6 with h6 | ⟨rfl, _⟩
  · exact h6.elim
  · exact h5
/-- All steps: all hits. -/
theorem coll_all {l : List ByteArray} {s : ByteArray} {es : List Nat} {L : List (Nat × Nat)} (h : Coll l s es L) (hn : es.Nodup) (hall : ∀ a i e, HitE l s a i e → e ∈ es) : L.Nodup ∧ ∀ x, x ∈ L ↔ x ∈ hitsL l s := by
  obtain ⟨As, h1, rfl, h3⟩ := h
  have hat : ∀ A ∈ As, ∃ (k e : Nat), As[k]? = some A ∧ es[k]? = some e ∧ StepHits l s e A := fun A hA => by
    obtain ⟨k, hk⟩ := List.mem_iff_getElem?.1 hA
    have hkl := (List.getElem?_eq_some_iff.1 hk).1
    rw [h1] at hkl
    exact ⟨k, _, hk, List.getElem?_eq_getElem hkl, h3 k _ A (List.getElem?_eq_getElem hkl) hk⟩
  constructor
  · rw [List.nodup_iff_pairwise_ne, List.pairwise_flatten]
    refine ⟨fun A hA => ?_, ?_⟩
    · obtain ⟨_, e, _, _, h⟩ := hat A hA
      exact List.nodup_iff_pairwise_ne.1 h.1
    · rw [List.pairwise_iff_getElem]
      intro i j hi hj hij x hx y hy hxy
      subst hxy
      have ei : i < es.length := by omega
      have ej : j < es.length := by omega
      have q1 := (h3 i es[i] As[i] (List.getElem?_eq_getElem ei) (List.getElem?_eq_getElem hi)).2 x.1 x.2
      have q2 := (h3 j es[j] As[j] (List.getElem?_eq_getElem ej) (List.getElem?_eq_getElem hj)).2 x.1 x.2
      have := (q1.1 hx).uniq (q2.1 hy)
      have := (List.getElem_inj hn).1 this
      omega
  · intro x
    rw [mem_hitsL, List.mem_flatten]
    constructor
    · rintro ⟨A, hA, hx⟩
      obtain ⟨_, e, _, _, h⟩ := hat A hA
      exact ⟨e, (h.2 x.1 x.2).1 hx⟩
    · rintro ⟨e, he⟩
      obtain ⟨k, hk⟩ := List.mem_iff_getElem?.1 (hall _ _ _ he)
      have hkl := (List.getElem?_eq_some_iff.1 hk).1
      rw [← h1] at hkl
      exact ⟨As[k], List.getElem_mem hkl, ((h3 k e As[k] hk (List.getElem?_eq_getElem hkl)).2 x.1 x.2).2 he⟩
theorem idxs_nodup (l : List ByteArray) (u : Word) : (idxs l u).Nodup := by
  unfold idxs idxsOf
  refine nodup_map_inj ?_ fun x hx y hy h => ?_
  · rw [List.nodup_iff_pairwise_ne]
    refine List.Pairwise.filter _ ?_
    have := List.pairwise_iff_getElem (R := fun x y : ByteArray × Nat => x ≠ y) (l := l.zipIdx)
    rw [this]
    intro i j hi hj hij e
    have := congrArg Prod.snd e
    simp at this
    omega
  · obtain ⟨h1, _⟩ := List.mem_filter.1 hx
    obtain ⟨h2, _⟩ := List.mem_filter.1 hy
    have e1 := List.mem_zipIdx_iff_getElem?.1 h1
    have e2 := List.mem_zipIdx_iff_getElem?.1 h2
    rw [h] at e1
    rw [e1] at e2
    exact Prod.ext (Option.some.inj e2) h
end Go.Proofs.Ytpgiaofkabhgkaa
