/-
  The first hit, in mathematics.
-/
import Derived.Test.YtpgiaofkabhgkaaPlainSpan
namespace Go.Proofs.Ytpgiaofkabhgkaa
set_option linter.unusedVariables false
set_option linter.unusedSimpArgs false

/-- The least number of a text that stands between two places. -/
def bestI (l : List ByteArray) (s : ByteArray) (a e : Nat) : Nat := ((List.range l.length).find? fun i => hitEB l s a i e).getD 0
theorem bestI_spec {l : List ByteArray} {s : ByteArray} {a e i : Nat} (h : HitE l s a i e) : HitE l s a (bestI l s a e) e ∧ ∀ j, HitE l s a j e → bestI l s a e ≤ j := by
  unfold bestI
  cases hf : (List.range l.length).find? fun i => hitEB l s a i e with
  | none => exact absurd (hitEB_iff.2 h) (List.find?_eq_none.1 hf i (List.mem_range.2 h.lt.2.2))
  | some b =>
    have hb : hitEB l s a b e = true := List.find?_some (p := fun i => hitEB l s a i e) hf
    refine ⟨hitEB_iff.1 hb, fun j hj => ?_⟩
    show b ≤ j
    rcases Nat.lt_or_ge j b with hlt | hge
    · rw [List.find?_range_eq_some] at hf
      have := hf.2.2 j hlt
      rw [hitEB_iff.2 hj] at this
      cases this
    · exact hge
def better : Option (Nat × Nat) → Nat × Nat → Option (Nat × Nat)
  | none, h => some h
  | some f, h => if h.1 < f.1 ∨ h.1 = f.1 ∧ h.2 < f.2 then some h else some f
def firstStep (l : List ByteArray) (s : ByteArray) (acc : Option (Nat × Nat)) (e : Nat) : Option (Nat × Nat) := if wl l s e = 0 then acc else better acc (e - wl l s e, bestI l s (e - wl l s e) e)
def firstR (l : List ByteArray) (s : ByteArray) (es : List Nat) : Option (Nat × Nat) := es.foldl (firstStep l s) none
theorem firstR_snoc (l : List ByteArray) (s : ByteArray) (es : List Nat) (e : Nat) : firstR l s (es ++ [e]) = firstStep l s (firstR l s es) e := by unfold firstR; rw [List.foldl_append]; rfl
def lexLe (f x : Nat × Nat) : Prop := f.1 < x.1 ∨ f.1 = x.1 ∧ f.2 ≤ x.2
/-- acc is the first of the hits that end at n or before. -/
def FirstTo (l : List ByteArray) (s : ByteArray) (n : Nat) : Option (Nat × Nat) → Prop
  | none => ∀ a i e, e ≤ n → ¬ HitE l s a i e
  | some f => (∃ e, e ≤ n ∧ HitE l s f.1 f.2 e) ∧ ∀ a i e, e ≤ n → HitE l s a i e → lexLe f (a, i)
theorem firstR_spec (l : List ByteArray) (s : ByteArray) : ∀ n, n ≤ s.size → FirstTo l s n (firstR l s ((List.range n).map (· + 1)))
  | 0, _ => fun a i e he hh => by have := hh.lt; omega
  | n + 1, hn => by
    have ih := firstR_spec l s n (by omega)
    rw [List.range_succ, List.map_append, List.map_cons, List.map_nil, firstR_snoc]
    generalize firstR l s ((List.range n).map (· + 1)) = acc at ih ⊢
    unfold firstStep
    rcases wl_spec l s (n + 1) with ⟨h0, hno⟩ | ⟨hp, hle, ⟨i, hh⟩, hmin⟩
    · rw [if_pos h0]
      cases acc with
      | none =>
        intro a i e he hh
        rcases Nat.lt_or_ge n e with hlt | hge
        · obtain rfl : e = n + 1 := by omega
          exact hno _ _ hh
        · exact ih a i e hge hh
      | some f =>
        obtain ⟨⟨e, he, hf⟩, hm⟩ := ih
        refine ⟨⟨e, by omega, hf⟩, fun a i e he hh => ?_⟩
        rcases Nat.lt_or_ge n e with hlt | hge
        · obtain rfl : e = n + 1 := by omega
          exact absurd hh (hno _ _)
        · exact hm a i e hge hh
    · rw [if_neg (by omega)]
      obtain ⟨hb, hbm⟩ := bestI_spec hh
      generalize bestI l s (n + 1 - wl l s (n + 1)) (n + 1) = b at hb hbm ⊢
      have hbest : ∀ a i, HitE l s a i (n + 1) → lexLe (n + 1 - wl l s (n + 1), b) (a, i) := fun a i h => by
        have h1 := hmin a i h
        unfold lexLe
        by_cases heq : n + 1 - wl l s (n + 1) = a
        · subst heq
          exact .inr ⟨rfl, hbm i h⟩
        · exact .inl (by show n + 1 - wl l s (n + 1) < a; omega)
      generalize n + 1 - wl l s (n + 1) = a0 at hb hbest ⊢
      cases acc with
      | none =>
        refine ⟨⟨n + 1, Nat.le_refl _, hb⟩, fun a i e he hh => ?_⟩
        rcases Nat.lt_or_ge n e with hlt | hge
        · obtain rfl : e = n + 1 := by omega
          exact hbest a i hh
        · exact absurd hh (ih a i e hge)
      | some f =>
        obtain ⟨⟨e, he, hf⟩, hm⟩ := ih
        unfold better
        dsimp only
        by_cases hc : a0 < f.1 ∨ a0 = f.1 ∧ b < f.2
        · rw [if_pos hc]
          refine ⟨⟨n + 1, Nat.le_refl _, hb⟩, fun a i e he hh => ?_⟩
          rcases Nat.lt_or_ge n e with hlt | hge
          · obtain rfl : e = n + 1 := by omega
            exact hbest a i hh
          · have := hm a i e hge hh
            unfold lexLe at *
            dsimp only at *
            omega
        · rw [if_neg hc]
          refine ⟨⟨e, by omega, hf⟩, fun a i e he hh => ?_⟩
          rcases Nat.lt_or_ge n e with hlt | hge
          · obtain rfl : e = n + 1 := by omega
            have := hbest a i hh
            unfold lexLe at *
            dsimp only at *
            omega
          · exact hm a i e hge hh
/-- What is the first of the hits up to a place is the first of all, if the later ones begin behind it. -/
theorem first_head {l : List ByteArray} {s : ByteArray} {n : Nat} {acc : Option (Nat × Nat)} (h : FirstTo l s n acc) (hl : ∀ a i e, n < e → HitE l s a i e → ∃ f, acc = some f ∧ f.1 < a) : acc = (hitsL l s).head? := by
  have hsrt := hitsL_sorted l s
  cases acc with
  | none =>
    cases hL : hitsL l s with
    | nil => rfl
    | cons x r =>
      obtain ⟨e, he⟩ := mem_hitsL.1 (show x ∈ hitsL l s by rw [hL]; exact List.mem_cons_self)
      rcases Nat.lt_or_ge n e with hlt | hge
      · obtain ⟨f, hf, _⟩ := hl _ _ e hlt he
        cases hf
      · exact absurd he (h _ _ e hge)
  | some f =>
    obtain ⟨⟨e, he, hf⟩, hm⟩ := h
    have hmem : f ∈ hitsL l s := mem_hitsL.2 ⟨e, hf⟩
    cases hL : hitsL l s with
    | nil => rw [hL] at hmem; cases hmem
    | cons x r =>
      rw [hL] at hmem hsrt
      obtain ⟨e', he'⟩ := mem_hitsL.1 (show x ∈ hitsL l s by rw [hL]; exact List.mem_cons_self)
      have hfx : lexLe f x := by
        rcases Nat.lt_or_ge n e' with hlt | hge
        · obtain ⟨f', hf', hlt'⟩ := hl _ _ e' hlt he'
          cases hf'
          exact .inl hlt'
        · exact hm _ _ e' hge he'
      rcases List.mem_cons.1 hmem with rfl | hr
      · rfl
      · have hxf := (List.pairwise_cons.1 hsrt).1 f hr
        unfold lexLe at hfx
        unfold lexLt at hxf
        omega
/-- The indices of the texts that end a state stand in order. -/
theorem idxs_sorted (l : List ByteArray) (u : Word) : (idxs l u).Pairwise (· < ·) := by
  unfold idxs idxsOf
  have h : (l.zipIdx.map (·.2)).Pairwise (· < ·) := by
    rw [List.zipIdx_map_snd]
    exact List.pairwise_lt_range'
  exact h.sublist (List.Sublist.map _ List.filter_sublist)
end Go.Proofs.Ytpgiaofkabhgkaa
