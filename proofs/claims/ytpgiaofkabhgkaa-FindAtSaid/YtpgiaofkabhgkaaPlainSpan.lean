/-
  Spans: what hits cover.
-/
import Derived.Test.YtpgiaofkabhgkaaPlainHits
namespace Go.Proofs.Ytpgiaofkabhgkaa
set_option linter.unusedVariables false
set_option linter.unusedSimpArgs false

def hitEB (l : List ByteArray) (s : ByteArray) (a i e : Nat) : Bool := ((l[i]?).map fun p => standB p s a && decide (a + p.size = e)).getD false
theorem hitEB_iff {l : List ByteArray} {s : ByteArray} {a i e : Nat} : hitEB l s a i e = true ↔ HitE l s a i e := by
  constructor
  · intro h
    have hB : hitB l s a i = true := by
      unfold hitEB at h
      unfold hitB
      cases hp : l[i]? with
      | none => rw [hp] at h; simp at h
      | some p => rw [hp] at h; simp at h; simpa using h.1
    obtain ⟨e', he⟩ := hitB_iff.1 hB
    obtain ⟨p, h1, h2, h3, h4, h5⟩ := he
    unfold hitEB at h
    rw [h1] at h
    simp at h
    have : e = e' := by omega
    subst this
    exact ⟨p, h1, h2, h3, h4, h5⟩
  · intro he
    have hB := hitB_iff.2 ⟨e, he⟩
    obtain ⟨p, h1, h2, h3, h4, h5⟩ := he
    unfold hitB at hB
    unfold hitEB
    rw [h1] at hB ⊢
    simp at hB ⊢
    exact ⟨hB, h3⟩

/-- How many bytes the longest text has that ends at a place: 0 if none ends there. -/
def wl (l : List ByteArray) (s : ByteArray) (e : Nat) : Nat := ((List.range e).find? fun a => (List.range l.length).any fun i => hitEB l s a i e).elim 0 (e - ·)
theorem wl_spec (l : List ByteArray) (s : ByteArray) (e : Nat) : (wl l s e = 0 ∧ ∀ a i, ¬ HitE l s a i e) ∨ (0 < wl l s e ∧ wl l s e ≤ e ∧ (∃ i, HitE l s (e - wl l s e) i e) ∧ ∀ a i, HitE l s a i e → e - wl l s e ≤ a) := by
  unfold wl
  cases h : (List.range e).find? fun a => (List.range l.length).any fun i => hitEB l s a i e with
  | none =>
    refine .inl ⟨rfl, fun a i hh => ?_⟩
    have hlt := hh.lt
    have h1 := List.find?_eq_none.1 h a (List.mem_range.2 hlt.1)
    exact h1 (List.any_eq_true.2 ⟨i, List.mem_range.2 hlt.2.2, hitEB_iff.2 hh⟩)
  | some a =>
    have h1 := List.find?_some h
    have h2 := List.mem_range.1 (List.mem_of_find?_eq_some h)
    obtain ⟨i, hi, hh⟩ := List.any_eq_true.1 h1
    have hh := hitEB_iff.1 hh
    have hea : e - (e - a) = a := by omega
    refine .inr ⟨by show 0 < e - a; omega, by show e - a ≤ e; omega, ⟨i, ?_⟩, fun a' i' h' => ?_⟩
    · show HitE l s (e - (e - a)) i e
      rw [hea]
      exact hh
    · show e - (e - a) ≤ a'
      rw [hea]
      rcases Nat.lt_or_ge a' a with hlt | hge
      · exfalso
        have hlt' := h'.lt
        rw [List.find?_range_eq_some] at h
        have := h.2.2 a' hlt
        simp only [Bool.not_eq_true', List.any_eq_false, List.mem_range] at this
        exact this i' hlt'.2.2 (hitEB_iff.2 h')
      · exact hge

theorem made_wl {l : List ByteArray} {lab : List Word} {ends : List (Nat × Word)} {sts : List St} (h : Made l lab ends sts) {s : ByteArray} {k : Nat} (hk : k < s.size) {wd : Word} (h1 : wd = [] ∨ Ended ends wd) (h2 : wd <:+ (wordOf s).take (k + 1)) (h3 : ∀ u, Ended ends u → u <:+ (wordOf s).take (k + 1) → u <:+ wd) : wl l s (k + 1) = wd.length := by
  have hle : wd.length ≤ k + 1 := by have := h2.length_le; rw [List.length_take] at this; omega
  have hhit : wd ≠ [] → ∃ i, HitE l s (k + 1 - wd.length) i (k + 1) := fun hne => by
    have hE := h1.resolve_left hne
    obtain ⟨_, i, p, hp, hw⟩ := h.ended_iff.1 hE
    exact ⟨i, h.hit.2 ⟨wd, hE, idxs_mem.2 ⟨p, hp, hw⟩, h2, by omega, by omega⟩⟩
  rcases wl_spec l s (k + 1) with ⟨h0, hno⟩ | ⟨hp, hle', ⟨i, hh⟩, hmin⟩
  · rw [h0]
    by_cases hne : wd = []
    · rw [hne]; rfl
    · obtain ⟨i, hh⟩ := hhit hne
      exact absurd hh (hno _ _)
  · obtain ⟨u, hE, _, hu, _, hau⟩ := h.hit.1 hh
    have hs := (h3 u hE hu).length_le
    have hne : wd ≠ [] := fun e => by rw [e, List.length_nil] at hs; omega
    obtain ⟨i', hh'⟩ := hhit hne
    have hm := hmin _ _ hh'
    generalize wl l s (k + 1) = m at *
    omega

/-- The last spans that meet a new one go into it. -/
def popR : List (Nat × Nat) → Nat → List (Nat × Nat) × Nat
  | [], f => ([], f)
  | x :: r, f => if f ≤ x.2 then popR r (min f x.1) else (x :: r, f)
def covStep (l : List ByteArray) (s : ByteArray) (r : List (Nat × Nat)) (e : Nat) : List (Nat × Nat) :=
  if wl l s e = 0 then r else ((popR r (e - wl l s e)).2, e) :: (popR r (e - wl l s e)).1
def covR (l : List ByteArray) (s : ByteArray) (es : List Nat) : List (Nat × Nat) := es.foldl (covStep l s) []
theorem covR_snoc (l : List ByteArray) (s : ByteArray) (es : List Nat) (e : Nat) : covR l s (es ++ [e]) = covStep l s (covR l s es) e := by unfold covR; rw [List.foldl_append]; rfl
theorem popR_len : ∀ (r : List (Nat × Nat)) (f : Nat), (popR r f).1.length ≤ r.length
  | [], f => Nat.le_refl _
  | x :: r, f => by
    unfold popR
    split
    · have := popR_len r (min f x.1); simp; omega
    · exact Nat.le_refl _
theorem covR_len (l : List ByteArray) (s : ByteArray) (es : List Nat) : (covR l s es).length ≤ es.length := by
  have : ∀ (es : List Nat) (r : List (Nat × Nat)), (es.foldl (covStep l s) r).length ≤ r.length + es.length := by
    intro es
    induction es with
    | nil => intro r; exact Nat.le_refl _
    | cons e es ih =>
      intro r
      rw [List.foldl_cons]
      have h1 := ih (covStep l s r e)
      have h2 : (covStep l s r e).length ≤ r.length + 1 := by
        unfold covStep
        split
        · omega
        · have := popR_len r (e - wl l s e); simp; omega
      simp at h1 ⊢
      omega
  simpa [covR] using this es []

/-- Apart, in order, below a place. -/
def SpansBelow : List (Nat × Nat) → Nat → Prop
  | [], _ => True
  | x :: r, c => x.1 < x.2 ∧ x.2 < c ∧ SpansBelow r x.1
theorem SpansBelow.mono : ∀ {r : List (Nat × Nat)} {c d : Nat}, SpansBelow r c → c ≤ d → SpansBelow r d
  | [], _, _, _, _ => trivial
  | _ :: _, _, _, h, hc => ⟨h.1, by have := h.2.1; omega, h.2.2⟩
def InR (r : List (Nat × Nat)) (p : Nat) : Prop := ∃ x ∈ r, x.1 ≤ p ∧ p < x.2
theorem inR_cons {x : Nat × Nat} {r : List (Nat × Nat)} {p : Nat} : InR (x :: r) p ↔ (x.1 ≤ p ∧ p < x.2) ∨ InR r p := by
  unfold InR
  simp
theorem popR_spec : ∀ (r : List (Nat × Nat)) (f e : Nat), SpansBelow r e → f < e → SpansBelow (popR r f).1 (popR r f).2 ∧ (popR r f).2 ≤ f ∧ ∀ p, ((popR r f).2 ≤ p ∧ p < e ∨ InR (popR r f).1 p) ↔ (f ≤ p ∧ p < e ∨ InR r p)
  | [], f, e, _, _ => ⟨trivial, Nat.le_refl _, fun p => Iff.rfl⟩
  | x :: r, f, e, h, hf => by
    unfold popR
    by_cases hc : f ≤ x.2
    · rw [if_pos hc]
      have h1 := h.1
      have h2 := h.2.1
      have hr : SpansBelow r e := h.2.2.mono (by omega)
      obtain ⟨k1, k2, k3⟩ := popR_spec r (min f x.1) e hr (by omega)
      refine ⟨k1, by omega, fun p => ?_⟩
      rw [k3, inR_cons]
      constructor
      · rintro (h | h)
        · by_cases hp : f ≤ p
          · exact .inl ⟨hp, h.2⟩
          · exact .inr (.inl ⟨by omega, by omega⟩)
        · exact .inr (.inr h)
      · rintro (h | h | h)
        · exact .inl ⟨by omega, h.2⟩
        · exact .inl ⟨by omega, by omega⟩
        · exact .inr h
    · rw [if_neg hc]
      exact ⟨⟨h.1, by omega, h.2.2⟩, Nat.le_refl _, fun p => Iff.rfl⟩

theorem covR_spec (l : List ByteArray) (s : ByteArray) : ∀ n, n ≤ s.size → SpansBelow (covR l s ((List.range n).map (· + 1))) (n + 1) ∧ ∀ p, InR (covR l s ((List.range n).map (· + 1))) p ↔ ∃ a i e, e ≤ n ∧ HitE l s a i e ∧ a ≤ p ∧ p < e
  | 0, _ => ⟨trivial, fun p => ⟨fun ⟨x, hx, _⟩ => (by simp [covR] at hx), fun ⟨a, i, e, he, hh, _⟩ => by have := hh.lt; omega⟩⟩
  | n + 1, hn => by
    obtain ⟨h1, h2⟩ := covR_spec l s n (by omega)
    rw [List.range_succ, List.map_append, List.map_cons, List.map_nil, covR_snoc]
    generalize covR l s ((List.range n).map (· + 1)) = r at h1 h2 ⊢
    unfold covStep
    rcases wl_spec l s (n + 1) with ⟨h0, hno⟩ | ⟨hp, hle, ⟨i, hh⟩, hmin⟩
    · rw [if_pos h0]
      refine ⟨h1.mono (by omega), fun p => ?_⟩
      rw [h2]
      constructor
      · rintro ⟨a, i, e, he, h⟩
        exact ⟨a, i, e, by omega, h⟩
      · rintro ⟨a, i, e, he, h⟩
        refine ⟨a, i, e, ?_, h⟩
        rcases Nat.lt_or_ge n e with hlt | hge
        · obtain rfl : e = n + 1 := by omega
          exact absurd h.1 (hno _ _)
        · exact hge
    · rw [if_neg (by omega)]
      obtain ⟨k1, k2, k3⟩ := popR_spec r (n + 1 - wl l s (n + 1)) (n + 1) h1 (by omega)
      refine ⟨⟨by show _ < n + 1; omega, by show n + 1 < n + 1 + 1; omega, k1⟩, fun p => ?_⟩
      rw [inR_cons]
      show ((popR r (n + 1 - wl l s (n + 1))).2 ≤ p ∧ p < n + 1) ∨ _ ↔ _
      rw [k3, h2]
      constructor
      · rintro (⟨ha, hb⟩ | ⟨a, i, e, he, h⟩)
        · exact ⟨_, i, n + 1, by omega, hh, ha, hb⟩
        · exact ⟨a, i, e, by omega, h⟩
      · rintro ⟨a, i, e, he, h, ha, hb⟩
        rcases Nat.lt_or_ge n e with hlt | hge
        · obtain rfl : e = n + 1 := by omega
          have := hmin _ _ h
          exact .inl ⟨by omega, hb⟩
        · exact .inr ⟨a, i, e, hge, h, ha, hb⟩

/-- Does a hit cover a place? -/
def covB (l : List ByteArray) (s : ByteArray) (p : Nat) : Bool := (hitsL l s).any fun x => decide (x.1 ≤ p ∧ p < x.1 + ((l[x.2]?).map ByteArray.size).getD 0)
theorem covB_iff {l : List ByteArray} {s : ByteArray} {p : Nat} : covB l s p = true ↔ ∃ a i e, HitE l s a i e ∧ a ≤ p ∧ p < e := by
  unfold covB
  rw [List.any_eq_true]
  constructor
  · rintro ⟨x, hx, hd⟩
    obtain ⟨e, he⟩ := mem_hitsL.1 hx
    have hd := of_decide_eq_true hd
    have he' := he
    obtain ⟨p', h1, h2, h3, h4, h5⟩ := he'
    rw [h1] at hd
    simp at hd
    exact ⟨x.1, x.2, e, he, hd.1, by omega⟩
  · rintro ⟨a, i, e, he, h1, h2⟩
    refine ⟨(a, i), mem_hitsL.2 ⟨e, he⟩, decide_eq_true ?_⟩
    obtain ⟨p', k1, k2, k3, k4, k5⟩ := he
    simp [k1]
    omega
/-- The text with all hits blotted, and how many bytes that were. -/
def blotBytes (l : List ByteArray) (s : ByteArray) (by_ : UInt8) : List UInt8 := (List.range s.size).map fun p => if covB l s p then by_ else s.data.getD p 0
def blotN (l : List ByteArray) (s : ByteArray) : Nat := (List.range s.size).countP (covB l s)
def spansOf (l : List ByteArray) (s : ByteArray) : List (Nat × Nat) := (covR l s ((List.range s.size).map (· + 1))).reverse
theorem spansOf_spec (l : List ByteArray) (s : ByteArray) : SpansBelow (spansOf l s).reverse (s.size + 1) ∧ ∀ p, InR (spansOf l s) p ↔ covB l s p = true := by
  obtain ⟨h1, h2⟩ := covR_spec l s s.size (Nat.le_refl _)
  unfold spansOf
  refine ⟨by rw [List.reverse_reverse]; exact h1, fun p => ?_⟩
  have : InR (covR l s ((List.range s.size).map (· + 1))).reverse p ↔ InR (covR l s ((List.range s.size).map (· + 1))) p := by unfold InR; simp
  rw [this, h2, covB_iff]
  constructor
  · rintro ⟨a, i, e, _, h⟩; exact ⟨a, i, e, h⟩
  · rintro ⟨a, i, e, h⟩; exact ⟨a, i, e, h.1.lt.2.1, h⟩
/-- The bytes that spans cover. -/
def spanN : List (Nat × Nat) → Nat
  | [] => 0
  | x :: r => (x.2 - x.1) + spanN r
theorem countP_below (n a b : Nat) (hb : b ≤ n) (ha : a ≤ b) : (List.range n).countP (fun p => decide (a ≤ p ∧ p < b)) = b - a := by
  induction n with
  | zero => simp; omega
  | succ n ih =>
    rw [List.range_succ, List.countP_append]
    by_cases h : b ≤ n
    · rw [ih h]
      simp
      omega
    · obtain rfl : b = n + 1 := by omega
      have : (List.range n).countP (fun p => decide (a ≤ p ∧ p < n + 1)) = n - min a n := by
        clear ih hb ha h
        induction n with
        | zero => simp
        | succ n ih =>
          rw [List.range_succ, List.countP_append]
          have e1 : (List.range n).countP (fun p => decide (a ≤ p ∧ p < n + 1 + 1)) = (List.range n).countP (fun p => decide (a ≤ p ∧ p < n + 1)) := by
            apply List.countP_congr
            intro p hp
            have := List.mem_range.1 hp
            simp
            omega
          rw [e1, ih]
          simp [List.countP_cons]
          split <;> omega
      rw [this]
      simp [List.countP_cons]
      split <;> omega
theorem countP_or (xs : List Nat) (P Q : Nat → Bool) (h : ∀ p, ¬ (P p = true ∧ Q p = true)) : xs.countP (fun p => P p || Q p) = xs.countP P + xs.countP Q := by
  induction xs with
  | nil => rfl
  | cons x xs ih =>
    rw [List.countP_cons, List.countP_cons, List.countP_cons, ih]
    have := h x
    cases hP : P x <;> cases hQ : Q x <;> simp_all <;> omega
def inRB (r : List (Nat × Nat)) (p : Nat) : Bool := r.any fun x => decide (x.1 ≤ p ∧ p < x.2)
theorem inRB_iff {r : List (Nat × Nat)} {p : Nat} : inRB r p = true ↔ InR r p := by unfold inRB InR; simp
theorem spans_lt : ∀ {r : List (Nat × Nat)} {c : Nat}, SpansBelow r c → ∀ p, InR r p → p < c
  | [], _, _, p, ⟨x, hx, _⟩ => by simp at hx
  | x :: r, c, h, p, hp => by
    rcases inR_cons.1 hp with h1 | h1
    · have := h.2.1; omega
    · have := spans_lt h.2.2 p h1; have := h.1; have := h.2.1; omega
theorem count_spans : ∀ (r : List (Nat × Nat)) (c n : Nat), SpansBelow r c → c ≤ n + 1 → (List.range n).countP (inRB r) = spanN r
  | [], c, n, _, _ => by
    rw [show inRB [] = fun _ => false from rfl]
    simp [spanN]
  | x :: r, c, n, h, hc => by
    have h1 := h.1
    have h2 := h.2.1
    have ih := count_spans r x.1 n h.2.2 (by omega)
    have e : inRB (x :: r) = fun p => decide (x.1 ≤ p ∧ p < x.2) || inRB r p := by funext p; rfl
    rw [e, countP_or _ _ _ (fun p ⟨k1, k2⟩ => by
      have k1 := of_decide_eq_true k1
      have := spans_lt h.2.2 p (inRB_iff.1 k2)
      omega), ih, countP_below n x.1 x.2 (by omega) (by omega)]
    rfl
theorem spanN_append (a b : List (Nat × Nat)) : spanN (a ++ b) = spanN a + spanN b := by
  induction a with
  | nil => simp [spanN]
  | cons x a ih => rw [List.cons_append, spanN, spanN, ih]; omega
theorem spanN_reverse (r : List (Nat × Nat)) : spanN r.reverse = spanN r := by
  induction r with
  | nil => rfl
  | cons x r ih => rw [List.reverse_cons, spanN_append, ih, spanN, spanN, spanN]; omega
theorem blotN_spans (l : List ByteArray) (s : ByteArray) : spanN (spansOf l s) = blotN l s := by
  obtain ⟨h1, h2⟩ := spansOf_spec l s
  have := count_spans _ _ s.size h1 (by omega)
  rw [spanN_reverse] at this
  rw [← this]
  unfold blotN
  apply List.countP_congr
  intro p _
  rw [inRB_iff, ← h2]
  unfold InR
  simp
end Go.Proofs.Ytpgiaofkabhgkaa
