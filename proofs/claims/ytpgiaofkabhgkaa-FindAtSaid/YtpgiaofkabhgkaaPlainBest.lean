/-
  What First reads of a state, in mathematics.
-/
import Derived.Test.YtpgiaofkabhgkaaPlainFirst
import Derived.Test.YtpgiaofkabhgkaaFindHas
namespace Go.Proofs.Ytpgiaofkabhgkaa
set_option linter.unusedVariables false
set_option linter.unusedSimpArgs false

section
variable {l : List ByteArray} {lab : List Word} {ends : List (Nat × Word)} {sts : List St}
theorem Made.hit_at (h : Made l lab ends sts) {s : ByteArray} {k : Nat} (hk : k < s.size) {wd : Word} (hE : Ended ends wd) (h2 : wd <:+ (wordOf s).take (k + 1)) (i : Nat) : HitE l s (k + 1 - wd.length) i (k + 1) ↔ i ∈ idxs l wd := by
  have hle : wd.length ≤ k + 1 := by have := h2.length_le; rw [List.length_take] at this; omega
  rw [h.hit]
  constructor
  · rintro ⟨u, hu, hi, hs, _, ha⟩
    have : u = wd := suffix_same (suffix_of_suffix hs h2 (by omega)) (by omega)
    rw [← this]
    exact hi
  · intro hi
    exact ⟨wd, hE, hi, h2, by omega, by omega⟩
/-- The first of the texts that end a state. -/
theorem Made.best (h : Made l lab ends sts) {s : ByteArray} {k : Nat} (hk : k < s.size) {wd : Word} (hE : Ended ends wd) (h2 : wd <:+ (wordOf s).take (k + 1)) : ∃ r, idxs l wd = bestI l s (k + 1 - wd.length) (k + 1) :: r := by
  obtain ⟨hne, i, p, hp, hw⟩ := h.ended_iff.1 hE
  have him : i ∈ idxs l wd := idxs_mem.2 ⟨p, hp, hw⟩
  obtain ⟨hb, hm⟩ := bestI_spec ((h.hit_at hk hE h2 i).2 him)
  have hbm := (h.hit_at hk hE h2 _).1 hb
  have hs := idxs_sorted l wd
  cases hi : idxs l wd with
  | nil => rw [hi] at him; cases him
  | cons j r =>
    rw [hi] at hs hbm
    have hj : j ∈ idxs l wd := by rw [hi]; exact List.mem_cons_self
    have h3 := hm j ((h.hit_at hk hE h2 j).2 hj)
    refine ⟨r, ?_⟩
    rcases List.mem_cons.1 hbm with e | e
    · rw [e]
    · have := (List.pairwise_cons.1 hs).1 _ e
      omega
theorem Made.root_which (h : Made l lab ends sts) {s : St} (hs : sts[0]? = some s) : s.which = [] := by
  rw [h.auto.which 0 [] s h.auto.zero hs]
  refine wh_none fun hE => (h.ended_iff.1 hE).1 rfl
theorem Auto.takes (h : Auto lab ends sts) {u : Word} (hu : u ∈ lab) : ∀ d, u.take (u.length - d) ∈ lab
  | 0 => by rw [Nat.sub_zero, List.take_length]; exact hu
  | d + 1 => by
    have ih := h.takes hu d
    have e : u.take (u.length - (d + 1)) = (u.take (u.length - d)).dropLast := by
      rw [List.dropLast_eq_take, List.take_take, List.length_take]
      congr 1
      omega
    rw [e]
    rcases List.eq_nil_or_concat (u.take (u.length - d)) with h0 | ⟨v, c, hc⟩
    · rw [h0] at ih ⊢
      exact ih
    · rw [hc] at ih ⊢
      rw [List.concat_eq_append, List.dropLast_concat]
      rw [List.concat_eq_append] at ih
      exact h.closed v c ih
/-- A hit that ends at a place or behind it begins at most as far ahead of it as the state there is deep. -/
theorem Made.begins (h : Made l lab ends sts) {s : ByteArray} {k : Nat} (hk : k < s.size) {a i e : Nat} (he : k + 1 ≤ e) (hh : HitE l s a i e) : k + 1 ≤ a + (longS lab ((wordOf s).take (k + 1))).length := by
  rcases Nat.lt_or_ge a (k + 1) with ha | ha
  · obtain ⟨u, hE, _, hu, hes, hau⟩ := h.hit.1 hh
    have hm := (h.auto.ended u hE).1
    have hL := longS_long (List.mem_of_getElem? h.auto.zero) ((wordOf s).take (k + 1))
    have htk := h.auto.takes hm (u.length - (k + 1 - a))
    rw [show u.length - (u.length - (k + 1 - a)) = k + 1 - a from by omega] at htk
    have hlT : ((wordOf s).take e).length = e := by rw [List.length_take, wordOf_len]; omega
    have hud : u = ((wordOf s).take e).drop a := by
      obtain ⟨t, ht⟩ := hu
      rw [← ht]
      have : t.length = a := by
        have := congrArg List.length ht
        rw [List.length_append, hlT] at this
        omega
      rw [← this, List.drop_left]
    have hsf : u.take (k + 1 - a) <:+ (wordOf s).take (k + 1) := by
      rw [hud, List.drop_take, List.take_take, show min (k + 1 - a) (e - a) = k + 1 - a from by omega, ← List.drop_take]
      exact List.drop_suffix _ _
    have h1 := (hL.2.2 _ htk hsf).length_le
    rw [List.length_take] at h1
    omega
  · omega
end
end Go.Proofs.Ytpgiaofkabhgkaa
