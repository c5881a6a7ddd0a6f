/-
  Plain mathematics of find.lay: patterns laid depth by depth.
-/
import Derived.Test.YtpgiaofkabhgkaaPlainFind
namespace Go.Proofs.Ytpgiaofkabhgkaa
set_option linter.unusedVariables false
set_option linter.unusedSimpArgs false

def wordOf (p : ByteArray) : Word := p.data.toList
theorem wordOf_len (p : ByteArray) : (wordOf p).length = p.size := rfl
/-- The patterns longer than d, with their numbers. -/
def todo (l : List ByteArray) (d : Nat) : List (ByteArray × Nat) := l.zipIdx.filter fun p => decide (d < p.1.size)
def rem (l : List ByteArray) (d : Nat) : Nat := (l.map fun p => p.size - d).sum
def idxsOf (ps : List (ByteArray × Nat)) (u : Word) : List Nat := (ps.filter fun p => wordOf p.1 == u).map (·.2)
def idxs (l : List ByteArray) (u : Word) : List Nat := idxsOf l.zipIdx u

theorem rem_step_aux (d : Nat) : ∀ (l : List ByteArray) (k : Nat), (l.map fun p => p.size - d).sum = (l.map fun p => p.size - (d + 1)).sum + ((l.zipIdx k).filter fun p => decide (d < p.1.size)).length
  | [], _ => by simp
  | a :: l, k => by
    rw [List.zipIdx_cons, List.filter_cons, List.map_cons, List.map_cons, List.sum_cons, List.sum_cons, rem_step_aux d l (k + 1)]
    by_cases h : d < a.size
    · rw [if_pos (by simpa using h), List.length_cons]; omega
    · rw [if_neg (by simpa using h)]; omega
theorem rem_step (l : List ByteArray) (d : Nat) : rem l d = rem l (d + 1) + (todo l d).length := rem_step_aux d l 0
theorem todo_next (l : List ByteArray) (d : Nat) : todo l (d + 1) = (todo l d).filter fun p => decide (d + 1 < p.1.size) := by
  unfold todo
  rw [List.filter_filter]
  congr 1
  funext p
  by_cases h1 : d + 1 < p.1.size <;> by_cases h2 : d < p.1.size <;> simp [h1, h2] <;> omega
theorem todo_mem {l : List ByteArray} {d : Nat} {p : ByteArray} {i : Nat} (h : (p, i) ∈ todo l d) : d < p.size ∧ l[i]? = some p := by
  unfold todo at h
  obtain ⟨h1, h2⟩ := List.mem_filter.1 h
  exact ⟨by simpa using h2, by simpa using List.mem_zipIdx_iff_getElem?.1 h1⟩
theorem idxsOf_app (a b : List (ByteArray × Nat)) (u : Word) : idxsOf (a ++ b) u = idxsOf a u ++ idxsOf b u := by
  unfold idxsOf; rw [List.filter_append, List.map_append]
theorem idxsOf_one (p : ByteArray) (i : Nat) (u : Word) : idxsOf [(p, i)] u = if wordOf p = u then [i] else [] := by
  unfold idxsOf
  by_cases h : wordOf p = u <;> simp [h]
theorem idxsOf_filter {ps : List (ByteArray × Nat)} {f : ByteArray × Nat → Bool} {u : Word} (h : ∀ p, wordOf p.1 = u → f p = true) : idxsOf (ps.filter f) u = idxsOf ps u := by
  unfold idxsOf
  rw [List.filter_filter]
  congr 1
  refine List.filter_congr fun p _ => ?_
  by_cases e : wordOf p.1 = u
  · simp [e, h p e]
  · simp [e]
theorem idxsOf_none {ps : List (ByteArray × Nat)} {u : Word} (h : ∀ p ∈ ps, wordOf p.1 ≠ u) : idxsOf ps u = [] := by
  unfold idxsOf
  rw [List.map_eq_nil_iff, List.filter_eq_nil_iff]
  intro p hp he
  exact h p hp (by simpa using he)
theorem idxsOf_len (ps : List (ByteArray × Nat)) (u : Word) : (idxsOf ps u).length ≤ ps.length := by
  unfold idxsOf; rw [List.length_map]; exact List.length_filter_le _ _

/-- Behind k patterns of depth d. -/
structure Level (l : List ByteArray) (d k : Nat) (lab : List Word) (ends : List (Nat × Word)) (sts : List St) : Prop where
  auto : Auto lab ends sts
  short : ∀ x ∈ lab, x.length ≤ d + 1
  whs : ∀ u, u ≠ [] → Wh ends u = if u.length ≤ d then idxs l u else if u.length = d + 1 then idxsOf ((todo l d).take k) u else []
  cnt : sts.length + rem l d ≤ 1 + rem l 0 + k

theorem level_start (l : List ByteArray) : Level l 0 0 [[]] [] [⟨0, 0, 0, []⟩] := by
  refine ⟨auto_root, by simp, fun u hu => ?_, by simp⟩
  have h0 : ¬ u.length ≤ 0 := fun h => hu (List.eq_nil_of_length_eq_zero (by omega))
  rw [if_neg h0]
  split <;> rfl
theorem level_next {l : List ByteArray} {d : Nat} {lab : List Word} {ends : List (Nat × Word)} {sts : List St} (h : Level l d (todo l d).length lab ends sts) : Level l (d + 1) 0 lab ends sts := by
  refine ⟨h.auto, fun x hx => by have := h.short x hx; omega, fun u hu => ?_, ?_⟩
  · rw [h.whs u hu, List.take_length, List.take_zero]
    by_cases h1 : u.length ≤ d
    · rw [if_pos h1, if_pos (by omega)]
    · rw [if_neg h1]
      by_cases h2 : u.length = d + 1
      · rw [if_pos h2, if_pos (by omega)]
        exact idxsOf_filter fun p hp => by have := wordOf_len p.1; rw [hp] at this; simp; omega
      · rw [if_neg h2, if_neg (by omega)]
        split <;> rfl
  · have := h.cnt
    have := rem_step l d
    omega
theorem take_snoc {α : Type} {L : List α} {k : Nat} {x : α} (h : L[k]? = some x) : L.take (k + 1) = L.take k ++ [x] := by
  rw [List.take_add_one, h]; rfl

/-- A pattern's next state has been laid. -/
theorem level_child {l : List ByteArray} {d k : Nat} {lab lab' : List Word} {ends : List (Nat × Word)} {sts sts' : List St} (h : Level l d k lab ends sts) {p : ByteArray} {i : Nat} (hp : (todo l d)[k]? = some (p, i)) (hA : Auto lab' ends sts')
    (hl : lab' = lab ∨ lab' = lab ++ [(wordOf p).take (d + 1)]) (hlong : d + 1 < p.size) : Level l d (k + 1) lab' ends sts' := by
  have hlen : ((wordOf p).take (d + 1)).length = d + 1 := by rw [List.length_take, wordOf_len]; omega
  refine ⟨hA, fun x hx => ?_, fun u hu => ?_, ?_⟩
  · rcases hl with rfl | rfl
    · exact h.short x hx
    · rcases List.mem_append.1 hx with hx | hx
      · exact h.short x hx
      · simp at hx; rw [hx, hlen]; omega
  · rw [h.whs u hu, take_snoc hp, idxsOf_app, idxsOf_one]
    split
    · rfl
    · split
      · rename_i h2
        rw [if_neg, List.append_nil]
        intro e
        have := wordOf_len p
        rw [e] at this
        omega
      · rfl
  · have h1 := h.cnt
    have h2 := hA.len
    have h3 := h.auto.len
    rcases hl with rfl | rfl
    · omega
    · simp at h2; omega
/-- .. and it has ended there. -/
theorem level_fin {l : List ByteArray} {d k : Nat} {lab lab' : List Word} {ends : List (Nat × Word)} {sts sts' : List St} (h : Level l d k lab ends sts) {p : ByteArray} {i : Nat} (hp : (todo l d)[k]? = some (p, i)) (hA : Auto lab' ends sts')
    (hl : lab' = lab ∨ lab' = lab ++ [wordOf p]) (hlong : d + 1 = p.size) {q : Nat} {s : St} (hq : lab'[q]? = some (wordOf p)) (hs : sts'[q]? = some s) : Level l d (k + 1) lab' (ends ++ [(i, wordOf p)]) (sts'.set q ⟨s.depth, s.fall, q, s.which ++ [i]⟩) := by
  have hlen : (wordOf p).length = d + 1 := by rw [wordOf_len]; omega
  have hsh : ∀ x ∈ lab', x.length ≤ d + 1 := by
    intro x hx
    rcases hl with rfl | rfl
    · exact h.short x hx
    · rcases List.mem_append.1 hx with hx | hx
      · exact h.short x hx
      · simp at hx; rw [hx, hlen]; omega
  have hne : wordOf p ≠ [] := fun e => by rw [e] at hlen; simp at hlen
  refine ⟨hA.fin hq hs hne (fun x hx => by rw [hlen]; exact hsh x hx), hsh, fun u hu => ?_, ?_⟩
  · rw [wh_snoc, h.whs u hu, take_snoc hp, idxsOf_app, idxsOf_one]
    by_cases e : wordOf p = u
    · rw [if_pos e, if_pos e]
      subst e
      rw [if_neg (by omega), if_pos hlen, if_neg (by omega), if_pos hlen]
    · rw [if_neg e, if_neg e, List.append_nil]
  · have h1 := h.cnt
    have h2 := hA.len
    have h3 := h.auto.len
    rw [List.length_set]
    rcases hl with rfl | rfl
    · omega
    · simp at h2; omega

/-- Nothing is left to do: the automaton of these patterns. -/
structure Made (l : List ByteArray) (lab : List Word) (ends : List (Nat × Word)) (sts : List St) : Prop where
  auto : Auto lab ends sts
  whs : ∀ u, u ≠ [] → Wh ends u = idxs l u
theorem level_done {l : List ByteArray} {d : Nat} {lab : List Word} {ends : List (Nat × Word)} {sts : List St} (h : Level l d 0 lab ends sts) (h0 : todo l d = []) : Made l lab ends sts := by
  refine ⟨h.auto, fun u hu => ?_⟩
  rw [h.whs u hu]
  split
  · rfl
  · rename_i hd
    have : idxs l u = [] := idxsOf_none fun p hp e => by
      have hm : p ∈ todo l d := List.mem_filter.2 ⟨hp, by have := wordOf_len p.1; rw [e] at this; simp; omega⟩
      rw [h0] at hm
      cases hm
    rw [this]
    split <;> simp [idxsOf]
theorem idxs_mem {l : List ByteArray} {u : Word} {i : Nat} : i ∈ idxs l u ↔ ∃ p, l[i]? = some p ∧ wordOf p = u := by
  unfold idxs idxsOf
  simp only [List.mem_map, List.mem_filter, Prod.exists, exists_eq_right]
  constructor
  · rintro ⟨p, h1, h2⟩
    exact ⟨p, by simpa using List.mem_zipIdx_iff_getElem?.1 h1, by simpa using h2⟩
  · rintro ⟨p, h1, h2⟩
    exact ⟨p, List.mem_zipIdx_iff_getElem?.2 (by simpa using h1), by simpa using h2⟩
end Go.Proofs.Ytpgiaofkabhgkaa
