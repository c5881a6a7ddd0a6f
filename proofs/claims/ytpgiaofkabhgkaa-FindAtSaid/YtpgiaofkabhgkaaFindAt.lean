/-
  find.At and nuncio/nuncioref03's At.
-/
import Derived.Test.YtpgiaofkabhgkaaIdx
import Derived.Test.YtpgiaofkabhgkaaFindFirst
import Derived.Lib.IndexLaws
namespace Go.Proofs.Ytpgiaofkabhgkaa
set_option linter.unusedVariables false
set_option linter.unusedSimpArgs false
open Go.RowKit Go.Shelf

/-- The least place from fr on at which a text stands. -/
def atO (s p : ByteArray) (fr : Int) : Option Nat := (List.range s.size).find? fun a => decide (fr ≤ (a : Int)) && standB p s a
def atI : Option Nat → Int
  | some a => (a : Int)
  | none => -1
theorem hitB_one (p s : ByteArray) (a : Nat) : hitB [p] s a 0 = standB p s a := rfl
theorem first_one (s p : ByteArray) (fr : Int) : firstFrom [p] s fr = (atO s p fr).map fun a => (a, 0) := by
  unfold firstFrom
  cases h : atO s p fr with
  | none =>
    refine List.find?_eq_none.2 fun y hy hp => ?_
    obtain ⟨e, he⟩ := mem_hitsL.1 hy
    have hlt := he.lt
    have hi : y.2 = 0 := by have := hlt.2.2; simp at this; exact this
    have h1 := List.find?_eq_none.1 h y.1 (List.mem_range.2 (by omega))
    have hs : standB p s y.1 = true := by rw [← hitB_one, hitB_iff, ← hi]; exact ⟨e, he⟩
    rw [hs, Bool.and_true] at h1
    exact h1 hp
  | some a =>
    unfold atO at h
    rw [List.find?_range_eq_some] at h
    obtain ⟨h1, h2, h3⟩ := h
    rw [Bool.and_eq_true] at h1
    obtain ⟨e, he⟩ := hitB_iff.1 ((hitB_one p s a).trans h1.2)
    refine find_sorted (hitsL_sorted [p] s) (mem_hitsL.2 ⟨e, he⟩) h1.1 fun y hy hp => ?_
    obtain ⟨e', he'⟩ := mem_hitsL.1 hy
    have hlt := he'.lt
    have hi : y.2 = 0 := by have := hlt.2.2; simp at this; exact this
    rcases Nat.lt_or_ge y.1 a with hya | hya
    · have h4 := h3 y.1 hya
      have hs : standB p s y.1 = true := by rw [← hitB_one, hitB_iff, ← hi]; exact ⟨e', he'⟩
      rw [hs, Bool.and_true] at h4
      have hp' : decide (fr ≤ (y.1 : Int)) = true := hp
      rw [hp'] at h4
      cases h4
    · unfold lexLe
      dsimp only
      omega
theorem index_at (s p : ByteArray) (fr : Int) (f : Nat) (hf : max fr 0 = (f : Int)) (hfs : f < s.size) (hp : 0 < p.size) :
    Lib.index (s.extract f s.size).data.toList p.data.toList = match atO s p fr with | some a => ((a - f : Nat) : Int) | none => -1 := by
  have hw : (s.extract f s.size).data.toList = (wordOf s).drop f := wordOf_from s f
  have hocc : ∀ j, Lib.occAt ((wordOf s).drop f) p.data.toList j = standB p s (f + j) := fun j => by
    unfold Lib.occAt standB
    rw [List.drop_drop, decide_eq_true hp, Bool.true_and]
    rfl
  rw [hw]
  have hlen : ((wordOf s).drop f).length = s.size - f := by rw [List.length_drop, wordOf_len]
  cases h : atO s p fr with
  | none =>
    refine Lib.index_none fun j hj => ?_
    rw [hocc]
    rw [hlen] at hj
    rcases Nat.lt_or_ge (f + j) s.size with h1 | h1
    · have h2 := List.find?_eq_none.1 h (f + j) (List.mem_range.2 h1)
      rw [decide_eq_true (show fr ≤ ((f + j : Nat) : Int) by omega), Bool.true_and] at h2
      simpa using h2
    · unfold standB
      rw [decide_eq_true hp, Bool.true_and, List.drop_eq_nil_of_le (by rw [wordOf_len]; omega)]
      have : (wordOf p).length = p.size := wordOf_len p
      cases hq : wordOf p with
      | nil => rw [hq] at this; simp at this; omega
      | cons a t => rfl
  | some a =>
    unfold atO at h
    rw [List.find?_range_eq_some] at h
    obtain ⟨h1, h2, h3⟩ := h
    rw [Bool.and_eq_true, decide_eq_true_eq] at h1
    have ha := List.mem_range.1 h2
    refine Lib.index_first (by omega) ?_ fun j hj => ?_
    · rw [hocc, show f + (a - f) = a by omega]
      exact h1.2
    · rw [hocc]
      have h4 := h3 (f + j) (by omega)
      rw [decide_eq_true (show fr ≤ ((f + j : Nat) : Int) by omega), Bool.true_and] at h4
      simpa using h4
theorem atO_empty (s p : ByteArray) (fr : Int) (hp : p.size = 0) : atO s p fr = none := List.find?_eq_none.2 fun a _ h => by
  rw [standB_none s p a hp, Bool.and_false] at h
  cases h
theorem atO_far (s p : ByteArray) (fr : Int) (hp : (s.size : Int) ≤ max fr 0) : atO s p fr = none := List.find?_eq_none.2 fun a ha h => by
  have := List.mem_range.1 ha
  rw [Bool.and_eq_true, decide_eq_true_eq] at h
  omega
theorem atO_lt {s p : ByteArray} {fr : Int} {a : Nat} (h : atO s p fr = some a) : a < s.size ∧ fr ≤ (a : Int) := by
  unfold atO at h
  rw [List.find?_range_eq_some] at h
  have h1 := h.1
  rw [Bool.and_eq_true, decide_eq_true_eq] at h1
  exact ⟨List.mem_range.1 h.2.1, h1.1⟩

set_option maxRecDepth 100000 in
set_option maxHeartbeats 1000000 in
theorem at_any (s p : ByteArray) (fr m : Int) (w : World) (hs : s.size ≤ 1000000) (hf : -9223372036854775808 ≤ fr ∧ fr ≤ 9223372036854775807) (hm : w.cell? ⟨0, 0, none⟩ = some (.int .i64 m)) :
    Calls Try.prog 20 #[.string s, .string p, .int .i64 fr] w fun e w' => e = .returned (.int .i64 (atI (atO s p fr))) ∧ w' = w := by
  obtain ⟨hf1, hf2⟩ := hf
  obtain ⟨f, hfm⟩ : ∃ f : Nat, max fr 0 = (f : Int) := ⟨(max fr 0).toNat, by omega⟩
  have hfb : (f : Int) ≤ 9223372036854775807 := by omega
  obtain ⟨R, hR⟩ : ∃ R, R = atI (atO s p fr) := ⟨_, rfl⟩
  rw [← hR]
  by_cases hp : p.size = 0
  · have he : p = ByteArray.empty := by
      apply ByteArray.ext
      exact Array.eq_empty_of_size_eq_zero hp
    have hRv : R = -1 := by rw [hR, atO_empty s p fr hp]; rfl
    subst he
    subst hRv
    clear hR hp
    go_enter Try.func20, Try.ntmps20
    go_wp2
    go_ret
    exact ⟨rfl, rfl⟩
  · have hne : (p.toList == ByteArray.empty.toList) = false := bytes_beq_other (fun e => hp (by rw [e]; rfl))
    have hnil : ¬ p.toList = [] := fun e => by
      have h1 : p.data.toList = [] := by rw [← Lib.toList_data]; exact e
      have h2 : (wordOf p).length = 0 := by unfold wordOf; rw [h1]; rfl
      rw [wordOf_len] at h2
      exact hp h2
    have hemp : p.toList.isEmpty = false := by
      cases h : p.toList with
      | nil => exact absurd h hnil
      | cons a t => rfl
    clear hne
    by_cases hn : s.size ≤ f
    · have hRv : R = -1 := by rw [hR, atO_far s p fr (by omega)]; rfl
      subst hRv
      have hge : decide (s.size ≤ f) = true := decide_eq_true hn
      clear hR hp
      go_enter Try.func20, Try.ntmps20
      go_wp2
      go_ret
      exact ⟨rfl, rfl⟩
    · have hge : decide (s.size ≤ f) = false := decide_eq_false hn
      have hi := index_at s p fr f hfm (by omega) (by omega)
      have kI := fun W hW => Try.strings_Index (s.extract f s.size) p m W (by simp; omega) hW
      rw [hi] at kI
      have hflt : (f : Int) ≤ (s.size : Int) := by omega
      cases ha : atO s p fr with
      | none =>
        rw [ha] at kI hR
        dsimp only [atI] at hR
        have hR' : R = -1 := hR
        subst hR'
        have KI := Lib.hid kI
        clear hi hR hp kI ha
        go_enter Try.func20, Try.ntmps20
        go_wp2_with (go_at_call 31; refine ((KI.out _ hm)).mono ?_; rintro e w' ⟨rfl, rfl⟩)
        go_ret
        exact ⟨rfl, rfl⟩
      | some a =>
        rw [ha] at kI hR
        obtain ⟨hal, haf⟩ := atO_lt ha
        dsimp only [atI] at hR
        obtain ⟨d, hd⟩ : ∃ d : Nat, d = a - f := ⟨_, rfl⟩
        dsimp only at kI
        rw [← hd] at kI
        have had : (a : Int) = (f : Int) + (d : Int) := by omega
        have hdb : (d : Int) ≤ 1000000 := by omega
        have hfb2 : (f : Int) ≤ 1000000 := by omega
        subst hR
        rw [had]
        have KI := Lib.hid kI
        clear hi hp kI ha hd had hal haf hfb
        go_enter Try.func20, Try.ntmps20
        go_wp2_with (go_at_call 31; refine ((KI.out _ hm)).mono ?_; rintro e w' ⟨rfl, rfl⟩)
        go_ret
        exact ⟨rfl, rfl⟩

theorem atO_step (s p : ByteArray) (fr : Int) (j : Nat) : (List.range (j + 1)).find? (fun a : Nat => decide (fr ≤ (a : Int)) && standB p s a) = ((List.range j).find? fun a : Nat => decide (fr ≤ (a : Int)) && standB p s a).or (if fr ≤ (j : Int) ∧ standB p s j = true then some j else none) := by
  rw [List.range_succ, List.find?_append]
  congr 1
  rw [List.find?_cons]
  by_cases h : fr ≤ (j : Int)
  · cases hs : standB p s j with
    | true => simp [h]
    | false => simp [h]
  · simp [h]
set_option maxRecDepth 100000 in
set_option maxHeartbeats 1000000 in
theorem refAt_any (s p : ByteArray) (fr : Int) (w : World) (hs : s.size ≤ 1000000) (hp : p.size ≤ 1000000) :
    Calls Try.prog 21 #[.string s, .string p, .int .i64 fr] w fun e w' => e = .returned (.int .i64 (atI (atO s p fr))) ∧ Below w.heap.size w w' := by
  obtain ⟨R, hR⟩ : ∃ R, R = atI (atO s p fr) := ⟨_, rfl⟩
  rw [← hR]
  have HR := Lib.hid hR
  clear hR
  go_enter Try.func21, Try.ntmps21
  go_wp2
  go_loopw [7] (fun iv wr => ∃ j : Nat, j ≤ s.size ∧ iv = .int .i64 (j : Int) ∧ Hid ((List.range j).find? (fun a : Nat => decide (fr ≤ (a : Int)) && standB p s a) = none) ∧ Below w.heap.size w wr) (fun iv wr => s.size - (intOf iv).toNat)
  case atStart => exact ⟨0, Nat.zero_le _, rfl, Lib.hid rfl, Below.refl _ _⟩
  case round =>
    obtain ⟨j, hj, rfl, Hno, hB⟩ := hrel
    have hstep := atO_step s p fr j
    rw [Hno.out, Option.none_or] at hstep
    by_cases hjs : j < s.size
    · have kS := fun W => stands_any s p j W (by omega) (by omega) hj
      by_cases hfr : fr ≤ (j : Int)
      · have hd : decide ((j : Int) ≥ fr) = true := decide_eq_true hfr
        cases hst : standB p s j with
        | true =>
          rw [if_pos ⟨hfr, hst⟩] at hstep
          have hRv : R = (j : Int) := by
            rw [HR.out]
            have : atO s p fr = some j := by
              unfold atO
              rw [show s.size = (j + 1) + (s.size - (j + 1)) by omega, List.range_add, List.find?_append, hstep]
              rfl
            rw [this]
            rfl
          simp only [hst] at kS
          clear hstep
          go_wp2_with (go_at_call 29; refine (kS _).mono ?_; rintro e w' ⟨rfl, rfl⟩)

          go_ret
          exact ⟨by rw [hRv]; rfl, hB⟩
        | false =>
          rw [if_neg (fun h => by rw [hst] at h; exact absurd h.2 (by decide))] at hstep
          have Hstep := Lib.hid hstep
          simp only [hst] at kS
          clear hstep
          go_wp2_with (go_at_call 29; refine (kS _).mono ?_; rintro e w' ⟨rfl, rfl⟩)

          go_roundw
          case rel => exact ⟨j + 1, by omega, by go_num, Hstep, hB⟩
          case measure => simp [intOf]; omega
      · have hd : decide ((j : Int) ≥ fr) = false := decide_eq_false hfr
        rw [if_neg (fun h => hfr h.1)] at hstep
        have Hstep := Lib.hid hstep
        clear hstep
        go_wp2

        go_roundw
        case rel => exact ⟨j + 1, by omega, by go_num, Hstep, hB⟩
        case measure => simp [intOf]; omega
    · obtain rfl : j = s.size := by omega
      have hRv : R = -1 := by
        rw [HR.out]
        unfold atO
        rw [Hno.out]
        rfl
      clear hstep
      go_wp2
      go_ret
      exact ⟨by rw [hRv]; rfl, hB⟩
end Go.Proofs.Ytpgiaofkabhgkaa
