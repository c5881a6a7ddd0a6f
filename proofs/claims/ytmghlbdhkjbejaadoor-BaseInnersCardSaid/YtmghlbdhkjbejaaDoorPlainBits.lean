/-
  Numbers and their bits, cut into pieces of one length, in mathematics.
-/
import Derived.Test.YtmghlbdhkjbejaaDoorPlainCut
namespace Go.Proofs.YtmghlbdhkjbejaaDoor
set_option linter.unusedVariables false
set_option linter.unusedSimpArgs false

/-- The number whose bits, the highest first, are these. -/
def valB (l : List Nat) : Nat := l.foldl (fun n x => 2 * n + x) 0
/-- The n lowest bits of a number, the highest first. -/
def bitsW : Nat → Nat → List Nat
  | 0, _ => []
  | n + 1, v => bitsW n (v / 2) ++ [v % 2]
def IsBits (l : List Nat) : Prop := ∀ x ∈ l, x < 2

theorem valB_snoc (l : List Nat) (x : Nat) : valB (l ++ [x]) = 2 * valB l + x := by unfold valB; rw [List.foldl_append]; rfl
theorem valB_nil : valB [] = 0 := rfl
theorem bitsW_len : ∀ (n v : Nat), (bitsW n v).length = n
  | 0, _ => rfl
  | n + 1, v => by unfold bitsW; rw [List.length_append, bitsW_len n]; rfl
theorem bitsW_bits : ∀ (n v : Nat), IsBits (bitsW n v)
  | 0, _ => fun x hx => by simp [bitsW] at hx
  | n + 1, v => fun x hx => by
    unfold bitsW at hx
    rcases List.mem_append.1 hx with h | h
    · exact bitsW_bits n _ x h
    · rw [List.mem_singleton.1 h]; omega
theorem valB_bitsW : ∀ (n v : Nat), valB (bitsW n v) = v % 2 ^ n
  | 0, v => by simp [bitsW, valB]; omega
  | n + 1, v => by
    unfold bitsW
    rw [valB_snoc, valB_bitsW n, Nat.pow_succ, Nat.mul_comm (2 ^ n) 2, Nat.mod_mul]
    omega
theorem snoc_ind {P : List Nat → Prop} (h0 : P []) (h1 : ∀ l x, P l → P (l ++ [x])) (l : List Nat) : P l := by
  have : ∀ n, ∀ l : List Nat, l.length = n → P l := by
    intro n
    induction n with
    | zero => intro l hl; rw [List.eq_nil_of_length_eq_zero hl]; exact h0
    | succ n ih =>
      intro l hl
      rcases List.eq_nil_or_concat l with h | ⟨m, x, h⟩
      · rw [h] at hl; simp at hl
      · rw [h, List.concat_eq_append] at hl ⊢
        exact h1 m x (ih m (by simp at hl; omega))
  exact this _ l rfl
theorem bitsW_valB (l : List Nat) (h : IsBits l) : bitsW l.length (valB l) = l := by
  revert h
  refine snoc_ind (P := fun l => IsBits l → bitsW l.length (valB l) = l) (fun _ => rfl) (fun l x ih h => ?_) l
  have hx : x < 2 := h x (by simp)
  rw [List.length_append, valB_snoc]
  show bitsW (l.length + 1) _ = _
  unfold bitsW
  rw [show (2 * valB l + x) / 2 = valB l by omega, show (2 * valB l + x) % 2 = x by omega, ih (fun y hy => h y (List.mem_append_left _ hy))]
theorem valB_lt (l : List Nat) (h : IsBits l) : valB l < 2 ^ l.length := by
  revert h
  refine snoc_ind (P := fun l => IsBits l → valB l < 2 ^ l.length) (fun _ => by simp [valB]) (fun l x ih h => ?_) l
  have hx : x < 2 := h x (by simp)
  have := ih (fun y hy => h y (List.mem_append_left _ hy))
  rw [List.length_append, valB_snoc]
  show _ < 2 ^ (l.length + 1)
  rw [Nat.pow_succ]
  omega
theorem valB_app (a : List Nat) (b : List Nat) : valB (a ++ b) = valB a * 2 ^ b.length + valB b := by
  refine snoc_ind (P := fun b => valB (a ++ b) = valB a * 2 ^ b.length + valB b) (by simp [valB]) (fun b x ih => ?_) b
  rw [← List.append_assoc, valB_snoc, ih, valB_snoc, List.length_append]
  show _ = valB a * 2 ^ (b.length + 1) + _
  rw [Nat.pow_succ, ← Nat.mul_assoc]
  omega
theorem valB_zeros (n : Nat) : valB (List.replicate n 0) = 0 := by
  induction n with
  | zero => rfl
  | succ n ih => rw [List.replicate_succ', valB_snoc, ih]
theorem valB_take {l : List Nat} (h : IsBits l) (k : Nat) (hk : k ≤ l.length) : valB (l.take k) = valB l / 2 ^ (l.length - k) := by
  have e := valB_app (l.take k) (l.drop k)
  rw [List.take_append_drop, List.length_drop] at e
  have hlt := valB_lt (l.drop k) (fun x hx => h x (List.mem_of_mem_drop hx))
  rw [List.length_drop] at hlt
  rw [e, Nat.mul_comm, Nat.mul_add_div (Nat.two_pow_pos _), Nat.div_eq_of_lt hlt, Nat.add_zero]
theorem valB_drop {l : List Nat} (h : IsBits l) (k : Nat) (hk : k ≤ l.length) : valB (l.drop k) = valB l % 2 ^ (l.length - k) := by
  have e := valB_app (l.take k) (l.drop k)
  rw [List.take_append_drop, List.length_drop] at e
  have hlt := valB_lt (l.drop k) (fun x hx => h x (List.mem_of_mem_drop hx))
  rw [List.length_drop] at hlt
  rw [e, Nat.mul_comm, Nat.mul_add_mod, Nat.mod_eq_of_lt hlt]
theorem isBits_app {a b : List Nat} (ha : IsBits a) (hb : IsBits b) : IsBits (a ++ b) := fun x hx => (List.mem_append.1 hx).elim (ha x) (hb x)
theorem isBits_zeros (n : Nat) : IsBits (List.replicate n 0) := fun x hx => by rw [(List.mem_replicate.1 hx).2]; decide
theorem isBits_drop {a : List Nat} (h : IsBits a) (k : Nat) : IsBits (a.drop k) := fun x hx => h x (List.mem_of_mem_drop hx)
theorem isBits_flat (n : Nat) (l : List Nat) : IsBits (l.flatMap (bitsW n)) := fun x hx => by
  obtain ⟨y, _, hy⟩ := List.mem_flatMap.1 hx
  exact bitsW_bits n y x hy
theorem flat_len (n : Nat) (l : List Nat) : (l.flatMap (bitsW n)).length = n * l.length := by
  induction l with
  | nil => rfl
  | cons a l ih => rw [List.flatMap_cons, List.length_append, ih, bitsW_len, List.length_cons, Nat.mul_succ]; omega

/-- The numbers of the whole pieces of n bits, and the bits that are left. -/
def chunks (n : Nat) (l : List Nat) : List Nat := if h : 0 < n ∧ n ≤ l.length then valB (l.take n) :: chunks n (l.drop n) else []
termination_by l.length
decreasing_by rw [List.length_drop]; omega
def restC (n : Nat) (l : List Nat) : List Nat := if h : 0 < n ∧ n ≤ l.length then restC n (l.drop n) else l
termination_by l.length
decreasing_by rw [List.length_drop]; omega
theorem chunks_lt {n : Nat} {l : List Nat} (h : l.length < n) : chunks n l = [] := by rw [chunks, dif_neg (by omega)]
theorem restC_lt {n : Nat} {l : List Nat} (h : l.length < n) : restC n l = l := by rw [restC, dif_neg (by omega)]
theorem chunks_ge {n : Nat} {l : List Nat} (h0 : 0 < n) (h : n ≤ l.length) : chunks n l = valB (l.take n) :: chunks n (l.drop n) := by rw [chunks, dif_pos ⟨h0, h⟩]
theorem restC_ge {n : Nat} {l : List Nat} (h0 : 0 < n) (h : n ≤ l.length) : restC n l = restC n (l.drop n) := by rw [restC, dif_pos ⟨h0, h⟩]
theorem len_ind {P : List Nat → Prop} (n : Nat) (h0 : 0 < n) (h1 : ∀ l, l.length < n → P l) (h2 : ∀ l, n ≤ l.length → P (l.drop n) → P l) (l : List Nat) : P l := by
  have : ∀ m, ∀ l : List Nat, l.length ≤ m → P l := by
    intro m
    induction m with
    | zero => intro l hl; exact h1 l (by omega)
    | succ m ih =>
      intro l hl
      rcases Nat.lt_or_ge l.length n with h | h
      · exact h1 l h
      · exact h2 l h (ih _ (by rw [List.length_drop]; omega))
  exact this _ l (Nat.le_refl _)
theorem chunks_app {n : Nat} (h0 : 0 < n) (l y : List Nat) : chunks n (l ++ y) = chunks n l ++ chunks n (restC n l ++ y) := by
  refine len_ind (P := fun l => chunks n (l ++ y) = chunks n l ++ chunks n (restC n l ++ y)) n h0 (fun l h => ?_) (fun l h ih => ?_) l
  · rw [chunks_lt h, restC_lt h]; rfl
  · rw [chunks_ge h0 (by rw [List.length_append]; omega), chunks_ge h0 h, restC_ge h0 h, List.take_append_of_le_length h, List.drop_append_of_le_length h, ih]; rfl
theorem restC_app {n : Nat} (h0 : 0 < n) (l y : List Nat) : restC n (l ++ y) = restC n (restC n l ++ y) := by
  refine len_ind (P := fun l => restC n (l ++ y) = restC n (restC n l ++ y)) n h0 (fun l h => ?_) (fun l h ih => ?_) l
  · rw [restC_lt h]
  · rw [restC_ge h0 (by rw [List.length_append]; omega), restC_ge h0 h, List.drop_append_of_le_length h, ih]
theorem restC_len {n : Nat} (h0 : 0 < n) (l : List Nat) : (restC n l).length = l.length % n := by
  refine len_ind (P := fun l => (restC n l).length = l.length % n) n h0 (fun l h => ?_) (fun l h ih => ?_) l
  · rw [restC_lt h, Nat.mod_eq_of_lt h]
  · rw [restC_ge h0 h, ih, List.length_drop, ← Nat.mod_eq_sub_mod h]
theorem chunks_len {n : Nat} (h0 : 0 < n) (l : List Nat) : (chunks n l).length = l.length / n := by
  refine len_ind (P := fun l => (chunks n l).length = l.length / n) n h0 (fun l h => ?_) (fun l h ih => ?_) l
  · rw [chunks_lt h, Nat.div_eq_of_lt h]; rfl
  · rw [chunks_ge h0 h, List.length_cons, ih, List.length_drop, Nat.div_eq_sub_div h0 h]
theorem restC_suffix {n : Nat} (h0 : 0 < n) (l : List Nat) : restC n l <:+ l := by
  refine len_ind (P := fun l => restC n l <:+ l) n h0 (fun l h => ?_) (fun l h ih => ?_) l
  · rw [restC_lt h]; exact List.suffix_refl _
  · rw [restC_ge h0 h]; exact ih.trans (List.drop_suffix _ _)
theorem chunks_bits {n : Nat} (h0 : 0 < n) (l : List Nat) (h : IsBits l) : (chunks n l).flatMap (bitsW n) ++ restC n l = l := by
  revert h
  refine len_ind (P := fun l => IsBits l → (chunks n l).flatMap (bitsW n) ++ restC n l = l) n h0 (fun l h hb => ?_) (fun l h ih hb => ?_) l
  · rw [chunks_lt h, restC_lt h]; rfl
  · rw [chunks_ge h0 h, restC_ge h0 h, List.flatMap_cons, List.append_assoc, ih (isBits_drop hb n)]
    have e := bitsW_valB (l.take n) (fun x hx => hb x (List.mem_of_mem_take hx))
    rw [List.length_take, Nat.min_eq_left h] at e
    rw [e, List.take_append_drop]
theorem chunks_mem {n : Nat} (h0 : 0 < n) (l : List Nat) (h : IsBits l) : ∀ x ∈ chunks n l, x < 2 ^ n := by
  revert h
  refine len_ind (P := fun l => IsBits l → ∀ x ∈ chunks n l, x < 2 ^ n) n h0 (fun l h hb => ?_) (fun l h ih hb => ?_) l
  · rw [chunks_lt h]; simp
  · rw [chunks_ge h0 h]
    intro x hx
    rcases List.mem_cons.1 hx with rfl | hx
    · have := valB_lt (l.take n) (fun x hx => hb x (List.mem_of_mem_take hx))
      rwa [List.length_take, Nat.min_eq_left h] at this
    · exact ih (isBits_drop hb n) x hx
theorem chunks_flat {n : Nat} (h0 : 0 < n) : ∀ (vs : List Nat), (∀ v ∈ vs, v < 2 ^ n) → ∀ y : List Nat, chunks n (vs.flatMap (bitsW n) ++ y) = vs ++ chunks n y ∧ restC n (vs.flatMap (bitsW n) ++ y) = restC n y
  | [], _, y => ⟨rfl, rfl⟩
  | v :: vs, h, y => by
    have ih := chunks_flat h0 vs (fun x hx => h x (List.mem_cons_of_mem _ hx)) y
    have hl := bitsW_len n v
    rw [List.flatMap_cons, List.append_assoc]
    constructor
    · rw [chunks_ge h0 (by rw [List.length_append, hl]; omega), List.take_append_of_le_length (by omega), List.take_of_length_le (by omega), List.drop_append_of_le_length (by omega), List.drop_of_length_le (by omega), valB_bitsW, Nat.mod_eq_of_lt (h v List.mem_cons_self), List.nil_append, ih.1]
      rfl
    · rw [restC_ge h0 (by rw [List.length_append, hl]; omega), List.drop_append_of_le_length (by omega), List.drop_of_length_le (by omega), List.nil_append, ih.2]
theorem chunks_drop {n : Nat} (h0 : 0 < n) : ∀ (k : Nat) (l : List Nat), chunks n (l.drop (n * k)) = (chunks n l).drop k
  | 0, l => by simp
  | k + 1, l => by
    rcases Nat.lt_or_ge l.length n with h | h
    · rw [chunks_lt h, chunks_lt (by rw [List.length_drop]; omega)]; simp
    · rw [chunks_ge h0 h, List.drop_succ_cons, ← chunks_drop h0 k, List.drop_drop, Nat.mul_succ, Nat.add_comm]
end Go.Proofs.YtmghlbdhkjbejaaDoor
