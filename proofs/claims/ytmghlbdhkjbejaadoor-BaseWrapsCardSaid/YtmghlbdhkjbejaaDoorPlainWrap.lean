/-
  Wrapped text, in mathematics.
-/
import Derived.Test.YtmghlbdhkjbejaaDoorPlainBase
namespace Go.Proofs.YtmghlbdhkjbejaaDoor
set_option linter.unusedVariables false
set_option linter.unusedSimpArgs false

def wrapL (w : Nat) (s : List UInt8) : List UInt8 := if h : 0 < w ∧ w < s.length then s.take w ++ ([13, 10] ++ wrapL w (s.drop w)) else s
termination_by s.length
decreasing_by rw [List.length_drop]; omega
theorem wrapL_long {w : Nat} {s : List UInt8} (h0 : 0 < w) (h : w < s.length) : wrapL w s = s.take w ++ ([13, 10] ++ wrapL w (s.drop w)) := by rw [wrapL, dif_pos ⟨h0, h⟩]
theorem wrapL_short {w : Nat} {s : List UInt8} (h : s.length ≤ w) : wrapL w s = s := by rw [wrapL, dif_neg (by omega)]
def wrapI (s : List UInt8) (width : Int) : List UInt8 := if width < 1 then s else wrapL width.toNat s
theorem wrap_ind {P : List UInt8 → Prop} (w : Nat) (h0 : 0 < w) (h1 : ∀ s, s.length ≤ w → P s) (h2 : ∀ s, w < s.length → P (s.drop w) → P s) (s : List UInt8) : P s := by
  have : ∀ m, ∀ s : List UInt8, s.length ≤ m → P s := by
    intro m
    induction m with
    | zero => intro s hs; exact h1 s (by omega)
    | succ m ih =>
      intro s hs
      rcases Nat.lt_or_ge w s.length with h | h
      · exact h2 s h (ih _ (by rw [List.length_drop]; omega))
      · exact h1 s h
  exact this _ s (Nat.le_refl _)
theorem wrapL_len (w : Nat) (h0 : 0 < w) (s : List UInt8) : (wrapL w s).length ≤ 3 * s.length := by
  refine wrap_ind (P := fun s => (wrapL w s).length ≤ 3 * s.length) w h0 (fun s h => ?_) (fun s h ih => ?_) s
  · rw [wrapL_short h]; omega
  · rw [wrapL_long h0 h, List.length_append, List.length_append, List.length_take]
    rw [List.length_drop] at ih
    simp
    omega

/-- What Unmail takes away. -/
def blankB (c : UInt8) : Bool := c == 9 || c == 10 || c == 13 || c == 32
def bareL (s : List UInt8) : List UInt8 := s.filter fun c => !blankB c
theorem bareL_id {s : List UInt8} (h : ∀ c ∈ s, c ≠ 9 ∧ c ≠ 10 ∧ c ≠ 13 ∧ c ≠ 32) : bareL s = s := by
  unfold bareL
  rw [List.filter_eq_self]
  intro c hc
  obtain ⟨h1, h2, h3, h4⟩ := h c hc
  unfold blankB
  simp [h1, h2, h3, h4]
theorem bareL_wrap (w : Nat) (h0 : 0 < w) (s : List UInt8) : bareL (wrapL w s) = bareL s := by
  refine wrap_ind (P := fun s => bareL (wrapL w s) = bareL s) w h0 (fun s h => by rw [wrapL_short h]) (fun s h ih => ?_) s
  rw [wrapL_long h0 h]
  have e : bareL ([13, 10] ++ wrapL w (s.drop w)) = bareL (wrapL w (s.drop w)) := by unfold bareL; rw [List.filter_append]; rfl
  unfold bareL at *
  rw [List.filter_append, e, ih, ← List.filter_append, List.take_append_drop]
theorem unmail_mail (x : List UInt8) : bareL (wrapL 76 (encL x)) = encL x := by rw [bareL_wrap 76 (by decide), bareL_id (encL_mem x)]

/-- The law's look at the lines. -/
def lineAt (n : Nat) (c : UInt8) : Nat := if c = 10 then 0 else n + 1
def lineR : Nat → List UInt8 → Bool
  | _, [] => true
  | n, c :: r => !(decide (76 < lineAt n c) && !(c == 13)) && lineR (lineAt n c) r
theorem lineR_run : ∀ (a : List UInt8) (n : Nat) (r : List UInt8), (∀ c ∈ a, c ≠ 10) → n + a.length ≤ 76 → lineR n (a ++ r) = lineR (n + a.length) r
  | [], n, r, _, _ => rfl
  | c :: a, n, r, h, hl => by
    have hc : lineAt n c = n + 1 := by unfold lineAt; rw [if_neg (h c List.mem_cons_self)]
    rw [List.length_cons] at hl
    rw [List.cons_append, lineR, hc, decide_eq_false (by omega), Bool.false_and, Bool.not_false, Bool.true_and, lineR_run a (n + 1) r (fun x hx => h x (List.mem_cons_of_mem _ hx)) (by omega), List.length_cons]
    congr 1
    omega
theorem lineR_wrap (s : List UInt8) (h : ∀ c ∈ s, c ≠ 10) : lineR 0 (wrapL 76 s) = true := by
  revert h
  refine wrap_ind (P := fun s => (∀ c ∈ s, c ≠ 10) → lineR 0 (wrapL 76 s) = true) 76 (by decide) (fun s hs h => ?_) (fun s hs ih h => ?_) s
  · rw [wrapL_short hs]
    have := lineR_run s 0 [] h (by omega)
    rw [List.append_nil] at this
    rw [this]
    rfl
  · rw [wrapL_long (by decide) hs, lineR_run _ 0 _ (fun c hc => h c (List.mem_of_mem_take hc)) (by rw [List.length_take]; omega)]
    have e : (s.take 76).length = 76 := by rw [List.length_take]; omega
    rw [e]
    have := ih (fun c hc => h c (List.mem_of_mem_drop hc))
    show lineR 76 (13 :: 10 :: wrapL 76 (s.drop 76)) = true
    rw [lineR, lineR]
    simpa [lineAt] using this
/-- The digits of a text, in any other one's code. -/
theorem inner_sub (A B C : List UInt8) : ((((encL (A ++ B ++ C)).drop ((4 * A.length + 2) / 3)).take ((chunks 6 ((bitsS B).drop (4 * (A.length % 3) % 6))).length)) = (chunks 6 ((bitsS B).drop (4 * (A.length % 3) % 6))).map dig) ∧
    (0 < (chunks 6 ((bitsS B).drop (4 * (A.length % 3) % 6))).length → (4 * A.length + 2) / 3 + (chunks 6 ((bitsS B).drop (4 * (A.length % 3) % 6))).length ≤ (encL (A ++ B ++ C)).length) := by
  obtain ⟨sk, hsk⟩ : ∃ sk, sk = 4 * (A.length % 3) % 6 := ⟨_, rfl⟩
  obtain ⟨at_, hat⟩ : ∃ a, a = (4 * A.length + 2) / 3 := ⟨_, rfl⟩
  rw [← hsk, ← hat]
  have hk : 6 * at_ = 8 * A.length + sk := by omega
  by_cases hs : (bitsS B).length < sk
  · rw [List.drop_of_length_le (by omega), chunks_lt (l := []) (by decide)]
    simp
  · have hL : bitsS (A ++ B ++ C) ++ zerosTo 6 (bitsS (A ++ B ++ C)).length = bitsS A ++ (bitsS B ++ (bitsS C ++ zerosTo 6 (bitsS (A ++ B ++ C)).length)) := by
      rw [bitsS_app, bitsS_app]
      simp only [List.append_assoc]
    have hdrop : (encV (bitsS (A ++ B ++ C))).drop at_ = chunks 6 ((bitsS B).drop sk) ++ chunks 6 (restC 6 ((bitsS B).drop sk) ++ (bitsS C ++ zerosTo 6 (bitsS (A ++ B ++ C)).length)) := by
      unfold encV
      rw [← chunks_drop (by decide), hk, hL, List.drop_append, List.drop_of_length_le (by rw [bitsS_len]; omega), List.nil_append, bitsS_len, show 8 * A.length + sk - 8 * A.length = sk by omega, List.drop_append_of_le_length (by omega), chunks_app (by decide)]
    obtain ⟨X, hX⟩ : ∃ X, X = chunks 6 ((bitsS B).drop sk) := ⟨_, rfl⟩
    rw [← hX] at hdrop ⊢
    have hd2 : (encL (A ++ B ++ C)).drop at_ = X.map dig ++ ((chunks 6 (restC 6 ((bitsS B).drop sk) ++ (bitsS C ++ zerosTo 6 (bitsS (A ++ B ++ C)).length))).map dig ++ (List.replicate (padN (encD (A ++ B ++ C)).length) 61).drop (at_ - (encD (A ++ B ++ C)).length)) := by
      unfold encL
      rw [List.drop_append]
      have h1 : (encD (A ++ B ++ C)).drop at_ = ((encV (bitsS (A ++ B ++ C))).drop at_).map dig := by unfold encD; rw [List.map_drop]
      rw [h1, hdrop, List.map_append, List.append_assoc]
    constructor
    · rw [hd2, List.take_append_of_le_length (by rw [List.length_map]; exact Nat.le_refl _), List.take_of_length_le (by rw [List.length_map]; exact Nat.le_refl _)]
    · intro h0
      have := congrArg List.length hd2
      rw [List.length_append, List.length_map, List.length_drop] at this
      omega
end Go.Proofs.YtmghlbdhkjbejaaDoor
