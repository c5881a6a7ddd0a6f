/-
  The first hit from a place on, and First's end, in mathematics.
-/
import Derived.Test.YtpgiaofkabhgkaaPlainFirst
import Derived.Test.YtpgiaofkabhgkaaFindHas
namespace Go.Proofs.Ytpgiaofkabhgkaa
set_option linter.unusedVariables false
set_option linter.unusedSimpArgs false

theorem wordOf_from (s : ByteArray) (f : Nat) : wordOf (s.extract f s.size) = (wordOf s).drop f := by
  have hs : s.data.size = s.size := rfl
  unfold wordOf
  rw [ByteArray.data_extract, Array.toList_extract]
  rw [List.extract_eq_take_drop, List.take_of_length_le]
  simp
theorem hit_shift {l : List ByteArray} {s : ByteArray} {f a i : Nat} : (∃ e, HitE l (s.extract f s.size) a i e) ↔ ∃ e, HitE l s (f + a) i e := by
  rw [hitE_iff, hitE_iff, wordOf_from, List.drop_drop]
theorem mem_shift {l : List ByteArray} {s : ByteArray} {f : Nat} {x : Nat × Nat} : x ∈ hitsL l (s.extract f s.size) ↔ (x.1 + f, x.2) ∈ hitsL l s := by
  rw [mem_hitsL, mem_hitsL, hit_shift, Nat.add_comm]
theorem find_sorted {L : List (Nat × Nat)} (hL : L.Pairwise lexLt) {P : Nat × Nat → Bool} {x : Nat × Nat} (hx : x ∈ L) (hp : P x = true) (hmin : ∀ y ∈ L, P y = true → lexLe x y) : L.find? P = some x := by
  cases hf : L.find? P with
  | none => exact absurd hp (List.find?_eq_none.1 hf x hx)
  | some y =>
    have hyp := List.find?_some hf
    obtain ⟨la, lb, hE, hno⟩ := (List.find?_eq_some_iff_append.1 hf).2
    subst hE
    have h1 := hmin y (List.mem_append_right _ List.mem_cons_self) hyp
    rcases List.mem_append.1 hx with h | h
    · have := hno x h
      rw [hp] at this
      cases this
    · rcases List.mem_cons.1 h with h | h
      · rw [h]
      · have h2 := (List.pairwise_cons.1 (List.pairwise_append.1 hL).2.1).1 x h
        unfold lexLe at h1
        unfold lexLt at h2
        omega
theorem head_min {L : List (Nat × Nat)} (hL : L.Pairwise lexLt) {x : Nat × Nat} (h : L.head? = some x) : x ∈ L ∧ ∀ y ∈ L, lexLe x y := by
  cases L with
  | nil => cases h
  | cons a r =>
    obtain rfl : a = x := by simpa using h
    refine ⟨List.mem_cons_self, fun y hy => ?_⟩
    rcases List.mem_cons.1 hy with rfl | hy
    · exact .inr ⟨rfl, Nat.le_refl _⟩
    · rcases (List.pairwise_cons.1 hL).1 y hy with h | ⟨h1, h2⟩
      · exact .inl h
      · exact .inr ⟨h1, by omega⟩
/-- What the first of the hits behind f bytes is, among all. -/
theorem first_shift (l : List ByteArray) (s : ByteArray) (fr : Int) : (if (s.size : Int) ≤ max fr 0 then none else ((hitsL l (s.extract (max fr 0).toNat s.size)).head?.map fun x => (x.1 + (max fr 0).toNat, x.2))) = (hitsL l s).find? fun x => decide (fr ≤ (x.1 : Int)) := by
  obtain ⟨f, hf⟩ : ∃ f : Nat, max fr 0 = (f : Int) := ⟨(max fr 0).toNat, by omega⟩
  have hpf : ∀ x : Nat × Nat, decide (fr ≤ (x.1 : Int)) = decide (f ≤ x.1) := fun x => by
    rw [decide_eq_decide]
    omega
  simp only [hpf]
  rw [hf, Int.toNat_natCast]
  by_cases hn : (s.size : Int) ≤ (f : Int)
  · rw [if_pos hn]
    refine (List.find?_eq_none.2 fun y hy => ?_).symm
    obtain ⟨e, he⟩ := mem_hitsL.1 hy
    have := he.lt
    simp
    omega
  · rw [if_neg hn]
    cases hh : (hitsL l (s.extract f s.size)).head? with
    | none =>
      refine (List.find?_eq_none.2 fun y hy hp => ?_).symm
      have hp : f ≤ y.1 := by simpa using hp
      have : (y.1 - f, y.2) ∈ hitsL l (s.extract f s.size) := by
        rw [mem_shift, show (y.1 - f, y.2).1 + f = y.1 from by dsimp only; omega]
        exact hy
      rw [List.head?_eq_none_iff.1 hh] at this
      cases this
    | some x =>
      obtain ⟨h1, h2⟩ := head_min (hitsL_sorted _ _) hh
      refine (find_sorted (hitsL_sorted l s) (mem_shift.1 h1) (by simp) fun y hy hp => ?_).symm
      have hp : f ≤ y.1 := by simpa using hp
      have : (y.1 - f, y.2) ∈ hitsL l (s.extract f s.size) := by
        rw [mem_shift, show (y.1 - f, y.2).1 + f = y.1 from by dsimp only; omega]
        exact hy
      have := h2 _ this
      unfold lexLe at *
      dsimp only at *
      omega

theorem Src.places {w : Go.World} {m : Go.Value} {s : ByteArray} {xs : List (Nat × Nat)} {l : List ByteArray} (h : Src w m s xs l) : (xs = [] ∧ l = []) ∨ xs.map Prod.fst = (List.range s.size).map (· + 1) := by
  rcases h with ⟨rfl, rfl, _⟩ | ⟨base, mp, bm, n, sg, scap, vs, lab, ends, sts, h1, h2, h3, h4, rfl⟩
  · exact .inl ⟨rfl, rfl⟩
  · right
    unfold walkL
    rw [List.map_map]
    rfl
theorem attach_fst (xs : List (Nat × Nat)) (k : Nat) : ((xs.attach.take k).map fun x => x.1.1) = (xs.map Prod.fst).take k := by
  rw [show (fun x : WStep xs => x.1.1) = Prod.fst ∘ Subtype.val from rfl, ← List.map_map, List.map_take, List.attach_map_subtype_val, List.map_take]
theorem Src.first_to {w : Go.World} {m : Go.Value} {s : ByteArray} {xs : List (Nat × Nat)} {l : List ByteArray} (h : Src w m s xs l) {k : Nat} (hk : k ≤ xs.length) : FirstTo l s k (firstR l s ((xs.attach.take k).map fun x => x.1.1)) := by
  rw [attach_fst]
  rcases h.places with ⟨rfl, rfl⟩ | hp
  · have e0 : firstR [] s (List.take k (List.map Prod.fst ([] : List (Nat × Nat)))) = none := by simp [firstR]
    rw [e0]
    intro a i e _ hh
    have := hh.lt
    simp at this
  · have hl : xs.length = s.size := by
      have := congrArg List.length hp
      simpa using this
    rw [hp, ← List.map_take, List.take_range, show min k s.size = k from by omega]
    exact firstR_spec l s k (by omega)
theorem Src.first_all {w : Go.World} {m : Go.Value} {s : ByteArray} {xs : List (Nat × Nat)} {l : List ByteArray} (h : Src w m s xs l) : firstR l s (xs.attach.map fun x => x.1.1) = (hitsL l s).head? := by
  have h1 := h.first_to (Nat.le_refl _)
  rw [List.take_of_length_le (by rw [List.length_attach]; exact Nat.le_refl _)] at h1
  refine first_head h1 fun a i e he hh => ?_
  have := hh.lt
  rcases h.places with ⟨rfl, rfl⟩ | hp
  · simp at this
  · have hl : xs.length = s.size := by
      have := congrArg List.length hp
      simpa using this
    omega
theorem Src.first_stop {w : Go.World} {m : Go.Value} {s : ByteArray} {xs : List (Nat × Nat)} {l : List ByteArray} (h : Src w m s xs l) {k : Nat} (hk : k ≤ xs.length) {x : WStep xs} (hx : (xs.attach.take k).getLast? = some x) {f : Nat × Nat}
    (hf : firstR l s ((xs.attach.take k).dropLast.map fun x => x.1.1) = some f) (hl : ∀ a i e, x.1.1 ≤ e → HitE l s a i e → f.1 < a) : some f = (hitsL l s).head? := by
  have hk0 : 0 < k := by
    rcases Nat.eq_zero_or_pos k with rfl | h0
    · simp at hx
    · exact h0
  have hlen : (xs.attach.take k).length = k := by rw [List.length_take, List.length_attach]; omega
  have hd : (xs.attach.take k).dropLast = xs.attach.take (k - 1) := by
    rw [List.dropLast_eq_take, hlen, List.take_take]
    congr 1
    omega
  have h1 := h.first_to (k := k - 1) (by omega)
  rw [hd] at hf
  rw [hf] at h1
  refine first_head h1 fun a i e he hh => ⟨f, rfl, hl a i e ?_ hh⟩
  rw [List.getLast?_eq_getElem?, hlen, List.getElem?_take_of_lt (by omega)] at hx
  have hx2 : (xs.map Prod.fst)[k - 1]? = some x.1.1 := by
    have := attach_fst xs k
    have h3 : ((xs.attach.take k).map fun x => x.1.1)[k - 1]? = some x.1.1 := by
      rw [List.getElem?_map, List.getElem?_take_of_lt (by omega), hx]
      rfl
    rw [this, List.getElem?_take_of_lt (by omega)] at h3
    exact h3
  rcases h.places with ⟨rfl, rfl⟩ | hp
  · simp at hk
    omega
  · have hl : xs.length = s.size := by
      have := congrArg List.length hp
      simpa using this
    rw [hp, List.getElem?_map, List.getElem?_range (by omega)] at hx2
    simp at hx2
    omega
end Go.Proofs.Ytpgiaofkabhgkaa
