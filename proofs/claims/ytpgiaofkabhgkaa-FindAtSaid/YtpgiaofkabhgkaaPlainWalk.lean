/-
  Plain mathematics of find.walk: the state behind each byte; where patterns end.
-/
import Derived.Test.YtpgiaofkabhgkaaPlainLay
namespace Go.Proofs.Ytpgiaofkabhgkaa
set_option linter.unusedVariables false
set_option linter.unusedSimpArgs false

/-- The longest suffix on the list. -/
def longS (lab : List Word) : Word → Word
  | [] => []
  | c :: u => if c :: u ∈ lab then c :: u else longS lab u
theorem longS_long {lab : List Word} (h0 : [] ∈ lab) : ∀ u : Word, Long lab u (longS lab u)
  | [] => ⟨h0, List.suffix_refl _, fun x _ hx => hx⟩
  | c :: u => by
    unfold longS
    split
    · rename_i h
      exact Long.self h
    · rename_i h
      obtain ⟨h1, h2, h3⟩ := longS_long h0 u
      refine ⟨h1, h2.trans (List.suffix_cons _ _), fun x hx hs => ?_⟩
      rcases List.suffix_cons_iff.1 hs with rfl | hs
      · exact absurd hx h
      · exact h3 x hx hs
theorem long_step {lab : List Word} (hcl : ∀ u c, u ++ [c] ∈ lab → u ∈ lab) {u f v : Word} {c : UInt8} (hf : Long lab u f) (hv : Long lab (f ++ [c]) v) : Long lab (u ++ [c]) v := by
  refine ⟨hv.1, hv.2.1.trans (snoc_suffix hf.2.1), fun x hx hs => ?_⟩
  rcases suffix_snoc_iff.1 hs with rfl | ⟨y, rfl, hy⟩
  · exact List.nil_suffix
  · exact hv.2.2 _ hx (snoc_suffix (hf.2.2 y (hcl y c hx) hy))
theorem idxOf_of {lab : List Word} (hn : lab.Nodup) {r : Nat} {v : Word} (h : lab[r]? = some v) : lab.idxOf v = r := by
  have := (pos_some hn).2 h
  unfold pos at this
  rw [if_pos (List.mem_of_getElem? h)] at this
  exact Option.some.inj this

/-- What walk yields of s. -/
def walkL (lab : List Word) (s : ByteArray) : List (Nat × Nat) := (List.range s.size).map fun j => (j + 1, lab.idxOf (longS lab ((wordOf s).take (j + 1))))
theorem walkL_len (lab : List Word) (s : ByteArray) : (walkL lab s).length = s.size := by simp [walkL]
theorem walkL_at (lab : List Word) (s : ByteArray) {k : Nat} (h : k < s.size) : (walkL lab s)[k]? = some (k + 1, lab.idxOf (longS lab ((wordOf s).take (k + 1)))) := by
  unfold walkL
  rw [List.getElem?_map, List.getElem?_range h]
  rfl
theorem walkL_lab {lab : List Word} (h0 : [] ∈ lab) (hn : lab.Nodup) (s : ByteArray) {k : Nat} {x : Nat × Nat} (h : (walkL lab s)[k]? = some x) : x.1 = k + 1 ∧ k < s.size ∧ lab[x.2]? = some (longS lab ((wordOf s).take (k + 1))) := by
  have hk : k < s.size := by have := (List.getElem?_eq_some_iff.1 h).1; rw [walkL_len] at this; exact this
  rw [walkL_at lab s hk] at h
  cases h
  have hm := (longS_long h0 ((wordOf s).take (k + 1))).1
  refine ⟨rfl, hk, ?_⟩
  have := List.idxOf_lt_length_of_mem hm
  rw [List.getElem?_eq_getElem this]
  simp
theorem wordOf_take_succ (s : ByteArray) (k : Nat) (h : k < s.size) : (wordOf s).take (k + 1) = (wordOf s).take k ++ [s[k]] := by
  have hk : k < s.data.toList.length := h
  unfold wordOf
  rw [List.take_add_one, List.getElem?_eq_getElem hk]
  rfl

/-! ### hits -/
/-- Pattern i stands at a and ends behind it at e. -/
def HitE (l : List ByteArray) (s : ByteArray) (a i e : Nat) : Prop := ∃ p, l[i]? = some p ∧ 0 < p.size ∧ a + p.size = e ∧ e ≤ s.size ∧ wordOf p <:+ (wordOf s).take e
theorem HitE.lt {l : List ByteArray} {s : ByteArray} {a i e : Nat} (h : HitE l s a i e) : a < e ∧ e ≤ s.size ∧ i < l.length := by
  obtain ⟨p, h1, h2, h3, h4, _⟩ := h
  exact ⟨by omega, h4, (List.getElem?_eq_some_iff.1 h1).1⟩
theorem HitE.uniq {l : List ByteArray} {s : ByteArray} {a i e e' : Nat} (h : HitE l s a i e) (h' : HitE l s a i e') : e = e' := by
  obtain ⟨p, h1, h2, h3, _⟩ := h
  obtain ⟨p', h1', h2', h3', _⟩ := h'
  rw [h1] at h1'
  cases h1'
  omega
/-- The same, by what stands at a. -/
theorem hitE_iff {l : List ByteArray} {s : ByteArray} {a i : Nat} : (∃ e, HitE l s a i e) ↔ ∃ p, l[i]? = some p ∧ 0 < p.size ∧ wordOf p <+: (wordOf s).drop a := by
  constructor
  · rintro ⟨e, p, h1, h2, h3, h4, t, ht⟩
    refine ⟨p, h1, h2, ?_⟩
    have hl : t.length = a := by
      have := congrArg List.length ht
      rw [List.length_append, List.length_take, wordOf_len, wordOf_len] at this
      omega
    have : (wordOf s).drop a = wordOf p ++ (wordOf s).drop e := by
      have h5 : wordOf s = t ++ (wordOf p ++ (wordOf s).drop e) := by rw [← List.append_assoc, ht, List.take_append_drop]
      rw [← hl]
      conv => lhs; rw [h5]
      rw [List.drop_left]
    rw [this]
    exact List.prefix_append _ _
  · rintro ⟨p, h1, h2, r, hr⟩
    have hle : a + p.size ≤ s.size := by
      have := congrArg List.length hr
      rw [List.length_append, List.length_drop, wordOf_len, wordOf_len] at this
      omega
    refine ⟨a + p.size, p, h1, h2, rfl, hle, (wordOf s).take a, ?_⟩
    rw [List.take_add, ← hr, List.take_left' (wordOf_len p)]

section
variable {l : List ByteArray} {lab : List Word} {ends : List (Nat × Word)} {sts : List St}
theorem Made.ended_iff (h : Made l lab ends sts) {u : Word} : Ended ends u ↔ u ≠ [] ∧ ∃ (i : Nat) (p : ByteArray), l[i]? = some p ∧ wordOf p = u := by
  constructor
  · intro hE
    have hne := (h.auto.ended u hE).2
    refine ⟨hne, ?_⟩
    have := wh_some hE
    rw [h.whs u hne] at this
    cases hi : idxs l u with
    | nil => exact absurd hi this
    | cons i r =>
      have hm : i ∈ idxs l u := by rw [hi]; simp
      obtain ⟨p, h1, h2⟩ := idxs_mem.1 hm
      exact ⟨i, p, h1, h2⟩
  · rintro ⟨hne, i, p, h1, h2⟩
    have hm : i ∈ idxs l u := idxs_mem.2 ⟨p, h1, h2⟩
    by_cases hE : Ended ends u
    · exact hE
    · have := wh_none hE
      rw [h.whs u hne] at this
      rw [this] at hm
      cases hm
theorem Made.which (h : Made l lab ends sts) {q : Nat} {u : Word} {s : St} (hq : lab[q]? = some u) (hs : sts[q]? = some s) (hne : u ≠ []) : s.which = idxs l u := by rw [h.auto.which q u s hq hs, h.whs u hne]
/-- The word of the state behind e bytes: the longest pattern that ends there. -/
theorem Made.word (h : Made l lab ends sts) {s : ByteArray} {k : Nat} {x : Nat × Nat} (hx : (walkL lab s)[k]? = some x) {st : St} (hs : sts[x.2]? = some st) :
    ∃ v, lab[st.word]? = some v ∧ (v = [] ∨ Ended ends v) ∧ v <:+ (wordOf s).take (k + 1) ∧ ∀ u, Ended ends u → u <:+ (wordOf s).take (k + 1) → u <:+ v := by
  obtain ⟨h1, h2, h3⟩ := walkL_lab (List.mem_of_getElem? h.auto.zero) h.auto.nodup s hx
  obtain ⟨v, hv, hW⟩ := h.auto.word x.2 _ st h3 hs
  have hL := longS_long (List.mem_of_getElem? h.auto.zero) ((wordOf s).take (k + 1))
  refine ⟨v, hv, hW.2.1.symm, hW.1.trans hL.2.1, fun u hE hu => hW.2.2 u hE (hL.2.2 u (h.auto.ended u hE).1 hu)⟩
/-- The next shorter pattern that ends at the same place. -/
theorem Made.next (h : Made l lab ends sts) {q : Nat} {v : Word} {sq sf : St} (hq : lab[q]? = some v) (hs : sts[q]? = some sq) (hne : v ≠ []) (hf : sts[sq.fall]? = some sf) :
    ∃ v', lab[sf.word]? = some v' ∧ (v' = [] ∨ Ended ends v') ∧ v' <:+ v ∧ v'.length < v.length ∧ ∀ u, Ended ends u → u <:+ v → u ≠ v → u <:+ v' := by
  obtain ⟨F, hF, hfall⟩ := h.auto.fall q v sq hq hs hne
  obtain ⟨v', hv', hW⟩ := h.auto.word sq.fall F sf hF hf
  have h1 := fall_short hfall
  have h2 := hW.1.length_le
  exact ⟨v', hv', hW.2.1.symm, hW.1.trans hfall.2.1, by omega, fun u hE hu hne' => hW.2.2 u hE (hfall.2.2.2 u (h.auto.ended u hE).1 hu hne')⟩
theorem Auto.root (h : Auto lab ends sts) {q : Nat} {v : Word} (hq : lab[q]? = some v) : q = 0 ↔ v = [] := by
  constructor
  · rintro rfl
    rw [h.zero] at hq
    exact (Option.some.inj hq).symm
  · rintro rfl
    obtain ⟨h1, h2⟩ := List.getElem?_eq_some_iff.1 hq
    obtain ⟨h3, h4⟩ := List.getElem?_eq_some_iff.1 h.zero
    exact (List.getElem_inj h.nodup).1 (h2.trans h4.symm)
/-- A hit, by the word that ends. -/
theorem Made.hit (h : Made l lab ends sts) {s : ByteArray} {a i e : Nat} : HitE l s a i e ↔ ∃ u, Ended ends u ∧ i ∈ idxs l u ∧ u <:+ (wordOf s).take e ∧ e ≤ s.size ∧ a + u.length = e := by
  constructor
  · rintro ⟨p, h1, h2, h3, h4, h5⟩
    refine ⟨wordOf p, h.ended_iff.2 ⟨fun e => ?_, i, p, h1, rfl⟩, idxs_mem.2 ⟨p, h1, rfl⟩, h5, h4, by rw [wordOf_len]; exact h3⟩
    have := wordOf_len p
    rw [e] at this
    simp at this
    omega
  · rintro ⟨u, hE, hi, hu, he, ha⟩
    obtain ⟨p, h1, rfl⟩ := idxs_mem.1 hi
    have hne := (h.ended_iff.1 hE).1
    refine ⟨p, h1, ?_, by rw [← wordOf_len]; exact ha, he, hu⟩
    rcases Nat.eq_zero_or_pos p.size with h0 | h0
    · exact absurd (List.eq_nil_of_length_eq_zero (by rw [wordOf_len]; exact h0)) hne
    · exact h0
end
end Go.Proofs.Ytpgiaofkabhgkaa
