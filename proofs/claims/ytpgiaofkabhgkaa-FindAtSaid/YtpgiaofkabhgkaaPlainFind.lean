/-
  Plain mathematics of package find: states labelled by words, falls, words that end.
-/
namespace Go.Proofs.Ytpgiaofkabhgkaa
set_option linter.unusedVariables false
set_option linter.unusedSimpArgs false

abbrev Word := List UInt8
structure St where
  depth : Nat
  fall : Nat
  word : Nat
  which : List Nat

/-! ### suffixes -/
theorem suffix_same {a b : Word} (h : a <:+ b) (hl : b.length ≤ a.length) : a = b := h.eq_of_length_le hl
theorem suffix_of_suffix {a b u : Word} (ha : a <:+ u) (hb : b <:+ u) (hl : a.length ≤ b.length) : a <:+ b := List.suffix_of_suffix_length_le ha hb hl
theorem suffix_snoc_iff {x u : Word} {c : UInt8} : x <:+ u ++ [c] ↔ x = [] ∨ ∃ y, x = y ++ [c] ∧ y <:+ u := by
  constructor
  · rintro ⟨t, ht⟩
    rcases List.eq_nil_or_concat x with rfl | ⟨y, d, rfl⟩
    · exact .inl rfl
    · rw [List.concat_eq_append] at ht ⊢
      refine .inr ⟨y, ?_⟩
      rw [← List.append_assoc] at ht
      have h1 := List.append_inj' ht (by simp)
      obtain ⟨h2, h3⟩ := h1
      simp only [List.cons.injEq, and_true] at h3
      exact ⟨by rw [h3], ⟨t, h2⟩⟩
  · rintro (rfl | ⟨y, rfl, t, ht⟩)
    · exact List.nil_suffix
    · exact ⟨t, by rw [← List.append_assoc, ht]⟩
theorem snoc_suffix {y v : Word} {c : UInt8} (h : y <:+ v) : y ++ [c] <:+ v ++ [c] := suffix_snoc_iff.2 (.inr ⟨y, rfl, h⟩)

/-! ### falls and the like -/
def Fall (lab : List Word) (u v : Word) : Prop := v ∈ lab ∧ v <:+ u ∧ v ≠ u ∧ ∀ x ∈ lab, x <:+ u → x ≠ u → x <:+ v
def Long (lab : List Word) (u v : Word) : Prop := v ∈ lab ∧ v <:+ u ∧ ∀ x ∈ lab, x <:+ u → x <:+ v
def Wd (E : Word → Prop) (u v : Word) : Prop := v <:+ u ∧ (E v ∨ v = []) ∧ ∀ x, E x → x <:+ u → x <:+ v
def Ended (ends : List (Nat × Word)) (u : Word) : Prop := ∃ i, (i, u) ∈ ends
def Wh (ends : List (Nat × Word)) (u : Word) : List Nat := (ends.filter fun p => p.2 == u).map (·.1)

structure Auto (lab : List Word) (ends : List (Nat × Word)) (sts : List St) : Prop where
  len : sts.length = lab.length
  zero : lab[0]? = some []
  nodup : lab.Nodup
  closed : ∀ u c, u ++ [c] ∈ lab → u ∈ lab
  depth : ∀ (q : Nat) (u : Word) (s : St), lab[q]? = some u → sts[q]? = some s → s.depth = u.length
  fall : ∀ (q : Nat) (u : Word) (s : St), lab[q]? = some u → sts[q]? = some s → u ≠ [] → ∃ v, lab[s.fall]? = some v ∧ Fall lab u v
  word : ∀ (q : Nat) (u : Word) (s : St), lab[q]? = some u → sts[q]? = some s → ∃ v, lab[s.word]? = some v ∧ Wd (Ended ends) u v
  which : ∀ (q : Nat) (u : Word) (s : St), lab[q]? = some u → sts[q]? = some s → s.which = Wh ends u
  ended : ∀ u, Ended ends u → u ∈ lab ∧ u ≠ []

/-- Where a word stands on the list. -/
def pos (lab : List Word) (u : Word) : Option Nat := if u ∈ lab then some (lab.idxOf u) else none
theorem pos_some {lab : List Word} (hn : lab.Nodup) {u : Word} {r : Nat} : pos lab u = some r ↔ lab[r]? = some u := by
  unfold pos
  constructor
  · intro h
    split at h
    · rename_i hm
      cases h
      rw [List.getElem?_eq_getElem (List.idxOf_lt_length_of_mem hm)]
      simp
    · cases h
  · intro h
    have hm := List.mem_of_getElem? h
    rw [if_pos hm]
    obtain ⟨hr, he⟩ := List.getElem?_eq_some_iff.1 h
    congr 1
    have h2 := List.idxOf_lt_length_of_mem hm
    exact (List.getElem_inj hn).1 (by rw [List.getElem_idxOf h2, he])
theorem pos_none {lab : List Word} {u : Word} : pos lab u = none ↔ u ∉ lab := by
  unfold pos
  split <;> simp_all
def nxt (lab : List Word) (q : Nat) (c : UInt8) : Option Nat := match lab[q]? with | none => none | some u => pos lab (u ++ [c])
theorem nxt_of {lab : List Word} {q : Nat} {u : Word} (h : lab[q]? = some u) (c : UInt8) : nxt lab q c = pos lab (u ++ [c]) := by unfold nxt; rw [h]
theorem nxt_lt {lab : List Word} (hn : lab.Nodup) {q r : Nat} {c : UInt8} (h : nxt lab q c = some r) : r < lab.length := by
  unfold nxt at h
  split at h
  · cases h
  · exact (List.getElem?_eq_some_iff.1 ((pos_some hn).1 h)).1
theorem mem_at {lab : List Word} {u : Word} (h : u ∈ lab) : ∃ q : Nat, lab[q]? = some u := List.mem_iff_getElem?.1 h

theorem fall_short {lab : List Word} {u v : Word} (h : Fall lab u v) : v.length < u.length := by
  obtain ⟨_, hs, hne, _⟩ := h
  have := hs.length_le
  rcases Nat.lt_or_ge v.length u.length with h | h
  · exact h
  · exact absurd (suffix_same hs h) hne
theorem Long.uniq {lab : List Word} {u v v' : Word} (h : Long lab u v) (h' : Long lab u v') : v = v' := by
  have h1 := h.2.2 v' h'.1 h'.2.1
  have h2 := h'.2.2 v h.1 h.2.1
  exact suffix_same h2 h1.length_le
theorem Long.self {lab : List Word} {u : Word} (h : u ∈ lab) : Long lab u u := ⟨h, List.suffix_refl _, fun _ _ hx => hx⟩

/-! ### step -/
/-- What holds while step goes from u by c: it stands at v. -/
def StepAt (lab : List Word) (u : Word) (c : UInt8) (v : Word) : Prop := v ∈ lab ∧ v <:+ u ∧ ∀ y, y ++ [c] ∈ lab → y <:+ u → y <:+ v
theorem stepAt_start {lab : List Word} {u : Word} {c : UInt8} (h : u ∈ lab) : StepAt lab u c u := ⟨h, List.suffix_refl _, fun _ _ hy => hy⟩
theorem stepAt_found {lab : List Word} {u v : Word} {c : UInt8} (h : StepAt lab u c v) (hm : v ++ [c] ∈ lab) : Long lab (u ++ [c]) (v ++ [c]) := by
  refine ⟨hm, snoc_suffix h.2.1, fun x hx hs => ?_⟩
  rcases suffix_snoc_iff.1 hs with rfl | ⟨y, rfl, hy⟩
  · exact List.nil_suffix
  · exact snoc_suffix (h.2.2 y hx hy)
theorem stepAt_root {lab : List Word} {u : Word} {c : UInt8} (h : StepAt lab u c []) (hm : [c] ∉ lab) : Long lab (u ++ [c]) [] := by
  refine ⟨h.1, List.nil_suffix, fun x hx hs => ?_⟩
  rcases suffix_snoc_iff.1 hs with rfl | ⟨y, rfl, hy⟩
  · exact List.suffix_refl _
  · have := List.suffix_nil.1 (h.2.2 y hx hy)
    subst this
    exact absurd hx hm
theorem stepAt_fall {lab : List Word} {u v v' : Word} {c : UInt8} (hcl : ∀ u c, u ++ [c] ∈ lab → u ∈ lab) (h : StepAt lab u c v) (hm : v ++ [c] ∉ lab) (hf : Fall lab v v') : StepAt lab u c v' := by
  refine ⟨hf.1, hf.2.1.trans h.2.1, fun y hy hs => ?_⟩
  have h1 := h.2.2 y hy hs
  refine hf.2.2.2 y (hcl y c hy) h1 (fun e => ?_)
  subst e
  exact hm hy

/-! ### a new state -/
theorem getElem?_snoc {α : Type} {l : List α} {x y : α} {q : Nat} (h : (l ++ [x])[q]? = some y) : (q < l.length ∧ l[q]? = some y) ∨ (q = l.length ∧ y = x) := by
  rcases Nat.lt_trichotomy q l.length with hlt | rfl | hgt
  · rw [List.getElem?_append_left hlt] at h
    exact .inl ⟨hlt, h⟩
  · simp at h
    exact .inr ⟨rfl, h.symm⟩
  · rw [List.getElem?_eq_none (by simp; omega)] at h
    cases h
theorem getElem?_snoc_old {α : Type} {l : List α} {x y : α} {q : Nat} (h : l[q]? = some y) : (l ++ [x])[q]? = some y := by
  rw [List.getElem?_append_left (List.getElem?_eq_some_iff.1 h).1]; exact h

theorem fall_grow {lab : List Word} {u v n : Word} (h : Fall lab u v) (hl : u.length ≤ n.length) : Fall (lab ++ [n]) u v := by
  refine ⟨List.mem_append_left _ h.1, h.2.1, h.2.2.1, fun x hx hs hne => ?_⟩
  rcases List.mem_append.1 hx with hx | hx
  · exact h.2.2.2 x hx hs hne
  · simp at hx
    subst hx
    exact absurd (suffix_same hs hl) hne
theorem fall_child {lab : List Word} {u F v : Word} {c : UInt8} (hcl : ∀ u c, u ++ [c] ∈ lab → u ∈ lab) (hnew : u ++ [c] ∉ lab) (hF : Fall lab u F) (hL : Long lab (F ++ [c]) v) : Fall (lab ++ [u ++ [c]]) (u ++ [c]) v := by
  refine ⟨List.mem_append_left _ hL.1, hL.2.1.trans (snoc_suffix hF.2.1), fun e => hnew (e ▸ hL.1), fun x hx hs hne => ?_⟩
  rcases List.mem_append.1 hx with h1 | h1
  · rcases suffix_snoc_iff.1 hs with rfl | ⟨y, rfl, hy⟩
    · exact List.nil_suffix
    · exact hL.2.2 _ h1 (snoc_suffix (hF.2.2.2 y (hcl y c h1) hy (fun e => hnew (e ▸ h1))))
  · simp at h1
    exact absurd h1 hne
theorem fall_first {lab : List Word} {c : UInt8} (h0 : [] ∈ lab) : Fall (lab ++ [[c]]) [c] [] := by
  refine ⟨List.mem_append_left _ h0, List.nil_suffix, by simp, fun x hx hs hne => ?_⟩
  rcases suffix_snoc_iff (u := []).1 hs with rfl | ⟨y, rfl, hy⟩
  · exact List.suffix_refl _
  · have := List.suffix_nil.1 hy
    subst this
    exact absurd rfl hne
theorem wh_none {ends : List (Nat × Word)} {u : Word} (h : ¬ Ended ends u) : Wh ends u = [] := by
  unfold Wh
  rw [List.map_eq_nil_iff, List.filter_eq_nil_iff]
  intro p hp he
  exact h ⟨p.1, by rw [← eq_of_beq he]; exact hp⟩
theorem wh_some {ends : List (Nat × Word)} {u : Word} (h : Ended ends u) : Wh ends u ≠ [] := by
  obtain ⟨i, hi⟩ := h
  unfold Wh
  rw [Ne, List.map_eq_nil_iff, List.filter_eq_nil_iff]
  intro h
  exact h _ hi (by simp)

/-- A child of state q is laid. -/
theorem Auto.child {lab : List Word} {ends : List (Nat × Word)} {sts : List St} (h : Auto lab ends sts) {u : Word} {c : UInt8} (hu : u ∈ lab) (hnew : u ++ [c] ∉ lab) (hlong : ∀ x ∈ lab, x.length ≤ u.length + 1)
    {f wd : Nat} {v : Word} (hf : lab[f]? = some v) (hfall : Fall (lab ++ [u ++ [c]]) (u ++ [c]) v) {s : St} (hs : sts[f]? = some s) (hwd : wd = s.word) :
    Auto (lab ++ [u ++ [c]]) ends (sts ++ [⟨u.length + 1, f, wd, []⟩]) := by
  have hlen : ∀ x ∈ lab, x.length ≤ (u ++ [c]).length := fun x hx => by simpa using hlong x hx
  refine ⟨by simp [h.len], getElem?_snoc_old h.zero, ?_, ?_, ?_, ?_, ?_, ?_, ?_⟩
  · rw [List.nodup_append]
    exact ⟨h.nodup, by simp, fun a ha b hb => by simp at hb; subst hb; intro e; exact hnew (e ▸ ha)⟩
  · intro x d hx
    rcases List.mem_append.1 hx with hx | hx
    · exact List.mem_append_left _ (h.closed x d hx)
    · simp at hx
      obtain ⟨rfl, -⟩ := List.append_inj' (List.mem_singleton.1 (by simpa using hx) : x ++ [d] = u ++ [c]) (by simp)
      exact List.mem_append_left _ hu
  · intro q x t hx ht
    rcases getElem?_snoc hx with ⟨hq, hx⟩ | ⟨rfl, rfl⟩
    · rcases getElem?_snoc ht with ⟨_, ht⟩ | ⟨rfl, rfl⟩
      · exact h.depth q x t hx ht
      · rw [h.len] at hq; omega
    · rcases getElem?_snoc ht with ⟨hq, _⟩ | ⟨_, rfl⟩
      · rw [h.len] at hq; omega
      · simp
  · intro q x t hx ht hne
    rcases getElem?_snoc hx with ⟨hq, hx⟩ | ⟨rfl, rfl⟩
    · rcases getElem?_snoc ht with ⟨_, ht⟩ | ⟨rfl, rfl⟩
      · obtain ⟨y, hy, hF⟩ := h.fall q x t hx ht hne
        exact ⟨y, getElem?_snoc_old hy, fall_grow hF (hlen x (List.mem_of_getElem? hx))⟩
      · rw [h.len] at hq; omega
    · rcases getElem?_snoc ht with ⟨hq, _⟩ | ⟨_, rfl⟩
      · rw [h.len] at hq; omega
      · exact ⟨v, getElem?_snoc_old hf, hfall⟩
  · intro q x t hx ht
    rcases getElem?_snoc hx with ⟨hq, hx⟩ | ⟨rfl, rfl⟩
    · rcases getElem?_snoc ht with ⟨_, ht⟩ | ⟨rfl, rfl⟩
      · obtain ⟨y, hy, hW⟩ := h.word q x t hx ht
        exact ⟨y, getElem?_snoc_old hy, hW⟩
      · rw [h.len] at hq; omega
    · rcases getElem?_snoc ht with ⟨hq, _⟩ | ⟨_, rfl⟩
      · rw [h.len] at hq; omega
      · obtain ⟨y, hy, hW⟩ := h.word f v s hf hs
        refine ⟨y, by rw [hwd]; exact getElem?_snoc_old hy, hW.1.trans hfall.2.1, hW.2.1, fun x hE hx => ?_⟩
        have hm := (h.ended x hE).1
        exact hW.2.2 x hE (hfall.2.2.2 x (List.mem_append_left _ hm) hx (fun e => hnew (e ▸ hm)))
  · intro q x t hx ht
    rcases getElem?_snoc hx with ⟨hq, hx⟩ | ⟨rfl, rfl⟩
    · rcases getElem?_snoc ht with ⟨_, ht⟩ | ⟨rfl, rfl⟩
      · exact h.which q x t hx ht
      · rw [h.len] at hq; omega
    · rcases getElem?_snoc ht with ⟨hq, _⟩ | ⟨_, rfl⟩
      · rw [h.len] at hq; omega
      · exact (wh_none fun hE => hnew (h.ended _ hE).1).symm
  · intro x hE
    exact ⟨List.mem_append_left _ (h.ended x hE).1, (h.ended x hE).2⟩

theorem nxt_child {lab : List Word} {ends : List (Nat × Word)} {sts : List St} (h : Auto lab ends sts) {u : Word} {c : UInt8} {q : Nat} (hq : lab[q]? = some u) (hnew : u ++ [c] ∉ lab) (q' : Nat) (c' : UInt8) :
    nxt (lab ++ [u ++ [c]]) q' c' = if q' = q ∧ c' = c then some lab.length else nxt lab q' c' := by
  have hn' : (lab ++ [u ++ [c]]).Nodup := by
    rw [List.nodup_append]
    exact ⟨h.nodup, by simp, fun a ha b hb => by simp at hb; subst hb; intro e; exact hnew (e ▸ ha)⟩
  rcases Nat.lt_or_ge q' lab.length with hlt | hge
  · have hx : lab[q']? = some lab[q'] := List.getElem?_eq_getElem hlt
    rw [nxt_of (getElem?_snoc_old hx), nxt_of hx]
    by_cases hc : q' = q ∧ c' = c
    · rw [if_pos hc]
      obtain ⟨rfl, rfl⟩ := hc
      rw [hq] at hx
      cases hx
      exact (pos_some hn').2 (by simp)
    · rw [if_neg hc]
      have hne : lab[q'] ++ [c'] ≠ u ++ [c] := fun e => by
        obtain ⟨e1, e2⟩ := List.append_inj' e (by simp)
        refine hc ⟨?_, by simpa using e2⟩
        obtain ⟨h1, h2⟩ := List.getElem?_eq_some_iff.1 hq
        exact (List.getElem_inj h.nodup).1 (e1.trans h2.symm)
      cases hp : pos lab (lab[q'] ++ [c']) with
      | some r => exact (pos_some hn').2 (getElem?_snoc_old ((pos_some h.nodup).1 hp))
      | none =>
        rw [pos_none] at hp ⊢
        intro hm
        rcases List.mem_append.1 hm with hm | hm
        · exact hp hm
        · exact hne (by simpa using hm)
  · have hne : ¬ (q' = q ∧ c' = c) := fun e => by
      have := (List.getElem?_eq_some_iff.1 hq).1
      omega
    rw [if_neg hne]
    have e1 : nxt lab q' c' = none := by unfold nxt; rw [List.getElem?_eq_none hge]
    rw [e1]
    rcases Nat.lt_or_ge lab.length q' with hlt | hle
    · unfold nxt; rw [List.getElem?_eq_none (by simp; omega)]
    · obtain rfl : q' = lab.length := by omega
      rw [nxt_of (u := u ++ [c]) (by simp), pos_none]
      intro hm
      rcases List.mem_append.1 hm with hm | hm
      · exact hnew (h.closed _ _ hm)
      · simp at hm

/-- A pattern ends at state q. -/
theorem wh_snoc (ends : List (Nat × Word)) (i : Nat) (u x : Word) : Wh (ends ++ [(i, u)]) x = if u = x then Wh ends x ++ [i] else Wh ends x := by
  unfold Wh
  rw [List.filter_append, List.map_append]
  by_cases h : u = x
  · subst h; simp
  · rw [if_neg h]; simp [h]
theorem ended_snoc {ends : List (Nat × Word)} {i : Nat} {u x : Word} : Ended (ends ++ [(i, u)]) x ↔ Ended ends x ∨ x = u := by
  unfold Ended
  constructor
  · rintro ⟨j, hj⟩
    rcases List.mem_append.1 hj with hj | hj
    · exact .inl ⟨j, hj⟩
    · simp at hj; exact .inr hj.2
  · rintro (⟨j, hj⟩ | rfl)
    · exact ⟨j, List.mem_append_left _ hj⟩
    · exact ⟨i, by simp⟩
theorem Auto.fin {lab : List Word} {ends : List (Nat × Word)} {sts : List St} (h : Auto lab ends sts) {u : Word} {q i : Nat} {s : St} (hq : lab[q]? = some u) (hs : sts[q]? = some s) (hne : u ≠ []) (hlong : ∀ x ∈ lab, x.length ≤ u.length) :
    Auto lab (ends ++ [(i, u)]) (sts.set q ⟨s.depth, s.fall, q, s.which ++ [i]⟩) := by
  have hql : q < sts.length := (List.getElem?_eq_some_iff.1 hs).1
  have hset : ∀ {k : Nat} {t : St}, (sts.set q ⟨s.depth, s.fall, q, s.which ++ [i]⟩)[k]? = some t → (k = q ∧ t = ⟨s.depth, s.fall, q, s.which ++ [i]⟩) ∨ (k ≠ q ∧ sts[k]? = some t) := by
    intro k t ht
    by_cases hk : k = q
    · subst hk
      rw [List.getElem?_set_self hql] at ht
      exact .inl ⟨rfl, (Option.some.inj ht).symm⟩
    · rw [List.getElem?_set_ne (fun e => hk e.symm)] at ht
      exact .inr ⟨hk, ht⟩
  refine ⟨by simp [h.len], h.zero, h.nodup, h.closed, ?_, ?_, ?_, ?_, ?_⟩
  · intro k x t hx ht
    rcases hset ht with ⟨rfl, rfl⟩ | ⟨_, ht⟩
    · exact h.depth k x s hx hs
    · exact h.depth k x t hx ht
  · intro k x t hx ht hxne
    rcases hset ht with ⟨rfl, rfl⟩ | ⟨_, ht⟩
    · exact h.fall k x s hx hs hxne
    · exact h.fall k x t hx ht hxne
  · intro k x t hx ht
    rcases hset ht with ⟨rfl, rfl⟩ | ⟨hk, ht⟩
    · rw [hq] at hx
      cases hx
      exact ⟨u, hq, List.suffix_refl _, .inl (ended_snoc.2 (.inr rfl)), fun y _ hy => hy⟩
    · obtain ⟨v, hv, hW⟩ := h.word k x t hx ht
      refine ⟨v, hv, hW.1, ?_, fun y hE hy => ?_⟩
      · rcases hW.2.1 with hE | h0
        · exact .inl (ended_snoc.2 (.inl hE))
        · exact .inr h0
      · rcases ended_snoc.1 hE with hE | rfl
        · exact hW.2.2 y hE hy
        · have e := suffix_same hy (hlong x (List.mem_of_getElem? hx))
          subst e
          obtain ⟨h1, h2⟩ := List.getElem?_eq_some_iff.1 hx
          obtain ⟨h3, h4⟩ := List.getElem?_eq_some_iff.1 hq
          exact absurd ((List.getElem_inj h.nodup).1 (h2.trans h4.symm)) hk
  · intro k x t hx ht
    rcases hset ht with ⟨rfl, rfl⟩ | ⟨hk, ht⟩
    · rw [hq] at hx
      cases hx
      rw [wh_snoc, if_pos rfl, h.which k u s hq hs]
    · rw [wh_snoc, if_neg, h.which k x t hx ht]
      rintro rfl
      obtain ⟨h1, h2⟩ := List.getElem?_eq_some_iff.1 hx
      obtain ⟨h3, h4⟩ := List.getElem?_eq_some_iff.1 hq
      exact hk ((List.getElem_inj h.nodup).1 (h2.trans h4.symm))
  · intro x hE
    rcases ended_snoc.1 hE with hE | rfl
    · exact h.ended x hE
    · exact ⟨List.mem_of_getElem? hq, hne⟩

/-- Nothing but the root. -/
theorem auto_root : Auto [[]] [] [⟨0, 0, 0, []⟩] := by
  have hq : ∀ {q : Nat} {u : Word}, ([[]] : List Word)[q]? = some u → q = 0 ∧ u = [] := by
    intro q u h
    cases q with
    | zero => simp at h; exact ⟨rfl, h⟩
    | succ q => simp at h
  have hs : ∀ {q : Nat} {s : St}, ([⟨0, 0, 0, []⟩] : List St)[q]? = some s → s = ⟨0, 0, 0, []⟩ := by
    intro q u h
    cases q with
    | zero => simp at h; exact h.symm
    | succ q => simp at h
  refine ⟨rfl, rfl, by simp, by simp, ?_, ?_, ?_, ?_, ?_⟩
  · intro q u s h h'; rw [(hq h).2, hs h']; rfl
  · intro q u s h _ hne; exact absurd (hq h).2 hne
  · intro q u s h h'
    rw [hs h']
    exact ⟨[], rfl, List.nil_suffix, .inr rfl, fun x ⟨i, hi⟩ => by simp at hi⟩
  · intro q u s h h'; rw [hs h']; rfl
  · rintro u ⟨i, hi⟩; simp at hi
end Go.Proofs.Ytpgiaofkabhgkaa
