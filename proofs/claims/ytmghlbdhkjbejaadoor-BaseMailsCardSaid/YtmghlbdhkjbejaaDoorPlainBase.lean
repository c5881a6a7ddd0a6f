/-
  base64, in mathematics: encodings and what they are the encodings of.
-/
import Derived.Test.YtmghlbdhkjbejaaDoorPlainBits
namespace Go.Proofs.YtmghlbdhkjbejaaDoor
set_option linter.unusedVariables false
set_option linter.unusedSimpArgs false

def digTab : List UInt8 := [65, 66, 67, 68, 69, 70, 71, 72, 73, 74, 75, 76, 77, 78, 79, 80, 81, 82, 83, 84, 85, 86, 87, 88, 89, 90, 97, 98, 99, 100, 101, 102, 103, 104, 105, 106, 107, 108, 109, 110, 111, 112, 113, 114, 115, 116, 117, 118, 119, 120, 121, 122, 48, 49, 50, 51, 52, 53, 54, 55, 56, 57, 43, 47]
def dig (v : Nat) : UInt8 := digTab.getD v 0
/-- The value of a digit; 64: it is none. -/
def dval (c : UInt8) : Nat := digTab.idxOf c
theorem dval_dig (v : Nat) (h : v < 64) : dval (dig v) = v := by
  have : ∀ v : Fin 64, dval (dig v.1) = v.1 := by decide +kernel
  exact this ⟨v, h⟩
theorem dig_dval' : ∀ n : Fin 256, dval (UInt8.ofNat n.1) < 64 → dig (dval (UInt8.ofNat n.1)) = UInt8.ofNat n.1 := by decide +kernel
theorem dig_dval (c : UInt8) (h : dval c < 64) : dig (dval c) = c := by
  have := dig_dval' ⟨c.toNat, c.toNat_lt⟩
  simp only [UInt8.ofNat_toNat] at this
  exact this h
theorem dval_le (c : UInt8) : dval c ≤ 64 := by
  have := List.idxOf_le_length (a := c) (l := digTab)
  exact this
theorem dval_pad : dval 61 = 64 := by decide +kernel
theorem dig_ne (v : Nat) (h : v < 64) : dig v ≠ 61 ∧ dig v ≠ 9 ∧ dig v ≠ 10 ∧ dig v ≠ 13 ∧ dig v ≠ 32 := by
  have : ∀ v : Fin 64, dig v.1 ≠ 61 ∧ dig v.1 ≠ 9 ∧ dig v.1 ≠ 10 ∧ dig v.1 ≠ 13 ∧ dig v.1 ≠ 32 := by decide +kernel
  exact this ⟨v, h⟩

def bitsS (b : List UInt8) : List Nat := (b.map UInt8.toNat).flatMap (bitsW 8)
theorem bitsS_app (a b : List UInt8) : bitsS (a ++ b) = bitsS a ++ bitsS b := by unfold bitsS; rw [List.map_append, List.flatMap_append]
theorem bitsS_len (b : List UInt8) : (bitsS b).length = 8 * b.length := by unfold bitsS; rw [flat_len, List.length_map]
theorem bitsS_bits (b : List UInt8) : IsBits (bitsS b) := isBits_flat 8 _
theorem bytes_lt (b : List UInt8) : ∀ v ∈ b.map UInt8.toNat, v < 2 ^ 8 := fun v hv => by
  obtain ⟨c, _, rfl⟩ := List.mem_map.1 hv
  exact c.toNat_lt
theorem ofNat_toNat_map (b : List UInt8) : (b.map UInt8.toNat).map UInt8.ofNat = b := by
  rw [List.map_map]
  conv => rhs; rw [← List.map_id b]
  exact List.map_congr_left fun v _ => UInt8.ofNat_toNat
theorem toNat_ofNat_map (l : List Nat) (h : ∀ v ∈ l, v < 2 ^ 8) : (l.map UInt8.ofNat).map UInt8.toNat = l := by
  rw [List.map_map]
  conv => rhs; rw [← List.map_id l]
  refine List.map_congr_left fun v hv => ?_
  have := h v hv
  show (UInt8.ofNat v).toNat = v
  rw [UInt8.toNat_ofNat']
  exact Nat.mod_eq_of_lt this

def zerosTo (n k : Nat) : List Nat := List.replicate ((n - k % n) % n) 0
/-- The values of the digits of bits. -/
def encV (l : List Nat) : List Nat := chunks 6 (l ++ zerosTo 6 l.length)
theorem encV_nil : encV [] = [] := chunks_lt (by decide)
theorem encV_eq (l : List Nat) (h : IsBits l) : encV l = chunks 6 l ++ (if restC 6 l = [] then [] else [valB (restC 6 l) * 2 ^ (6 - (restC 6 l).length)]) := by
  unfold encV
  rw [chunks_app (by decide)]
  congr 1
  have hl := restC_len (n := 6) (by decide) l
  generalize restC 6 l = r at hl ⊢
  unfold zerosTo
  by_cases h0 : r = []
  · subst h0
    rw [← hl, if_pos rfl]
    exact chunks_lt (by decide)
  · rw [if_neg h0]
    have hp : 0 < r.length := List.length_pos_iff.2 h0
    have hz : (6 - l.length % 6) % 6 = 6 - r.length := by omega
    rw [hz]
    have hL : (r ++ List.replicate (6 - r.length) 0).length = 6 := by rw [List.length_append, List.length_replicate]; omega
    rw [chunks_ge (by decide) (by omega), List.take_of_length_le (by omega), List.drop_of_length_le (by omega), chunks_lt (by decide), valB_app, valB_zeros, List.length_replicate, Nat.add_zero]
theorem encV_cons (l : List Nat) (h : l ≠ []) : encV l = valB ((l ++ List.replicate 6 0).take 6) :: encV (l.drop 6) := by
  have hp : 0 < l.length := List.length_pos_iff.2 h
  unfold encV zerosTo
  rcases Nat.lt_or_ge l.length 6 with hlt | hge
  · have hz : (6 - l.length % 6) % 6 = 6 - l.length := by omega
    have hL : (l ++ List.replicate (6 - l.length) 0).length = 6 := by rw [List.length_append, List.length_replicate]; omega
    rw [hz, chunks_ge (by decide) (by omega), List.take_of_length_le (by omega), List.drop_of_length_le (by omega), List.drop_of_length_le (by omega)]
    congr 1
    · rw [List.take_append, List.take_of_length_le (by omega), List.take_replicate, Nat.min_eq_left (by omega)]
  · have hz : (6 - l.length % 6) % 6 = (6 - (l.drop 6).length % 6) % 6 := by rw [List.length_drop]; omega
    rw [chunks_ge (by decide) (by rw [List.length_append]; omega), List.take_append_of_le_length hge, List.drop_append_of_le_length hge, List.take_append_of_le_length hge, hz]
theorem encV_lt (l : List Nat) (h : IsBits l) : ∀ v ∈ encV l, v < 64 := chunks_mem (by decide) _ (isBits_app h (isBits_zeros _))
theorem encV_len (l : List Nat) : (encV l).length = (l.length + (6 - l.length % 6) % 6) / 6 := by unfold encV zerosTo; rw [chunks_len (by decide), List.length_append, List.length_replicate]
theorem encV_back (l : List Nat) (h : IsBits l) : (encV l).flatMap (bitsW 6) = l ++ zerosTo 6 l.length := by
  have e := chunks_bits (n := 6) (by decide) (l ++ zerosTo 6 l.length) (isBits_app h (isBits_zeros _))
  have hr : restC 6 (l ++ zerosTo 6 l.length) = [] := by
    refine List.eq_nil_of_length_eq_zero ?_
    rw [restC_len (by decide), List.length_append]
    unfold zerosTo
    rw [List.length_replicate]
    omega
  rw [hr, List.append_nil] at e
  exact e

def padN (m : Nat) : Nat := (4 - m % 4) % 4
def encD (x : List UInt8) : List UInt8 := (encV (bitsS x)).map dig
def encL (x : List UInt8) : List UInt8 := encD x ++ List.replicate (padN (encD x).length) 61
theorem encD_len (x : List UInt8) : (encD x).length = (8 * x.length + (6 - 8 * x.length % 6) % 6) / 6 := by unfold encD; rw [List.length_map, encV_len, bitsS_len]
theorem encD_pad (x : List UInt8) : padN (encD x).length ≤ 2 := by rw [encD_len]; unfold padN; omega
theorem encD_mem (x : List UInt8) : ∀ c ∈ encD x, c ≠ 61 ∧ c ≠ 9 ∧ c ≠ 10 ∧ c ≠ 13 ∧ c ≠ 32 := fun c hc => by
  obtain ⟨v, hv, rfl⟩ := List.mem_map.1 hc
  exact dig_ne v (encV_lt _ (bitsS_bits x) v hv)
theorem encL_mem (x : List UInt8) : ∀ c ∈ encL x, c ≠ 9 ∧ c ≠ 10 ∧ c ≠ 13 ∧ c ≠ 32 := fun c hc => by
  rcases List.mem_append.1 hc with h | h
  · exact (encD_mem x c h).2
  · rw [(List.mem_replicate.1 h).2]; decide
theorem encL_len4 (x : List UInt8) : (encL x).length % 4 = 0 := by unfold encL padN; rw [List.length_append, List.length_replicate]; omega
theorem encL_len (x : List UInt8) : (encL x).length ≤ 2 * x.length + 4 := by
  have h1 := encD_pad x
  have h2 := encD_len x
  unfold encL
  rw [List.length_append, List.length_replicate]
  omega

/-- Without its last byte, if that is a pad. -/
def trimP (s : List UInt8) : List UInt8 := if s.getLast? = some 61 then s.dropLast else s
theorem trimP_pad (s : List UInt8) : trimP (s ++ [61]) = s := by
  unfold trimP
  rw [List.getLast?_concat, if_pos rfl, List.dropLast_concat]
theorem trimP_no {s : List UInt8} (h : ∀ c ∈ s, c ≠ 61) : trimP s = s := by
  unfold trimP
  rw [if_neg]
  intro e
  exact h 61 (List.mem_of_getLast? e) rfl
theorem trimP_form (s : List UInt8) : ∃ k, k ≤ 1 ∧ s = trimP s ++ List.replicate k 61 := by
  unfold trimP
  by_cases h : s.getLast? = some 61
  · rw [if_pos h]
    refine ⟨1, Nat.le_refl _, ?_⟩
    rcases List.eq_nil_or_concat s with e | ⟨m, x, e⟩
    · rw [e] at h; simp at h
    · rw [e, List.concat_eq_append] at h ⊢
      rw [List.getLast?_concat] at h
      rw [List.dropLast_concat, Option.some.inj h]
      rfl
  · rw [if_neg h]
    exact ⟨0, by omega, by simp⟩
def digBits (c : List UInt8) : List Nat := (c.map dval).flatMap (bitsW 6)
/-- What the code returns. -/
def decL (s : List UInt8) : Option (List UInt8) :=
  if s.length % 4 = 0 then
    if (trimP (trimP s)).all fun c => decide (dval c < 64) then
      if valB (restC 8 (digBits (trimP (trimP s)))) = 0 then some ((chunks 8 (digBits (trimP (trimP s)))).map UInt8.ofNat) else none
    else none
  else none
theorem replicate_two (k : Nat) (h : k ≤ 2) (d : List UInt8) (hd : ∀ c ∈ d, c ≠ 61) : trimP (trimP (d ++ List.replicate k 61)) = d := by
  match k, h with
  | 0, _ => rw [List.replicate_zero, List.append_nil, trimP_no hd, trimP_no hd]
  | 1, _ => rw [List.replicate_one, trimP_pad, trimP_no hd]
  | 2, _ => rw [show (List.replicate 2 (61 : UInt8)) = [61] ++ [61] from rfl, ← List.append_assoc, trimP_pad, trimP_pad]
theorem dec_enc (x : List UInt8) : decL (encL x) = some x := by
  have htr : trimP (trimP (encL x)) = encD x := replicate_two _ (encD_pad x) _ (fun c hc => (encD_mem x c hc).1)
  have hall : ((encD x).all fun c => decide (dval c < 64)) = true := by
    rw [List.all_eq_true]
    intro c hc
    obtain ⟨v, hv, rfl⟩ := List.mem_map.1 hc
    have hv := encV_lt _ (bitsS_bits x) v hv
    rw [dval_dig v hv]
    exact decide_eq_true hv
  have hmap : (encD x).map dval = encV (bitsS x) := by
    unfold encD
    rw [List.map_map]
    conv => rhs; rw [← List.map_id (encV (bitsS x))]
    refine List.map_congr_left fun v hv => ?_
    exact dval_dig v (encV_lt _ (bitsS_bits x) v hv)
  have hb : digBits (encD x) = bitsS x ++ zerosTo 6 (bitsS x).length := by unfold digBits; rw [hmap, encV_back _ (bitsS_bits x)]
  have hz : (zerosTo 6 (bitsS x).length).length < 8 := by unfold zerosTo; rw [List.length_replicate]; omega
  obtain ⟨h1, h2⟩ := chunks_flat (n := 8) (by decide) (x.map UInt8.toNat) (bytes_lt x) (zerosTo 6 (bitsS x).length)
  unfold decL
  rw [if_pos (encL_len4 x), htr, if_pos hall, hb]
  unfold bitsS at h1 h2 hz ⊢
  rw [h1, h2, restC_lt hz, chunks_lt hz, if_pos (by unfold zerosTo; exact valB_zeros _), List.append_nil, ofNat_toNat_map]

/-- The bytes of a text's digits, whatever stands between them. -/
def bitsR (s : List UInt8) : List Nat := s.flatMap fun c => if dval c < 64 then bitsW 6 (dval c) else []
def outR (s : List UInt8) : List UInt8 := (chunks 8 (bitsR s)).map UInt8.ofNat
def decR (s : List UInt8) : Option (List UInt8) := if encL (outR s) = s then some (outR s) else none
theorem bitsR_digits : ∀ (c : List UInt8), (∀ x ∈ c, dval x < 64) → bitsR c = digBits c
  | [], _ => rfl
  | a :: c, h => by
    have ih := bitsR_digits c (fun x hx => h x (List.mem_cons_of_mem _ hx))
    unfold bitsR digBits at *
    rw [List.flatMap_cons, List.map_cons, List.flatMap_cons, ih, if_pos (h a List.mem_cons_self)]
theorem bitsR_pads (k : Nat) : bitsR (List.replicate k 61) = [] := by
  unfold bitsR
  rw [List.flatMap_eq_nil_iff]
  intro c hc
  rw [(List.mem_replicate.1 hc).2, dval_pad]
  rfl
theorem bitsR_app (a b : List UInt8) : bitsR (a ++ b) = bitsR a ++ bitsR b := by unfold bitsR; rw [List.flatMap_append]
theorem bitsW_zero : ∀ n, bitsW n 0 = List.replicate n 0
  | 0 => rfl
  | n + 1 => by unfold bitsW; rw [Nat.zero_div, bitsW_zero n, List.replicate_succ']
theorem enc_dec {s x : List UInt8} (h : decL s = some x) : encL x = s ∧ outR s = x := by
  unfold decL at h
  by_cases h4 : s.length % 4 = 0
  · rw [if_pos h4] at h
    by_cases ha : ((trimP (trimP s)).all fun c => decide (dval c < 64)) = true
    · rw [if_pos ha] at h
      by_cases hv : valB (restC 8 (digBits (trimP (trimP s)))) = 0
      · rw [if_pos hv] at h
        have hx := (Option.some.inj h).symm
        obtain ⟨k1, hk1, e1⟩ := trimP_form s
        obtain ⟨k2, hk2, e2⟩ := trimP_form (trimP s)
        generalize trimP (trimP s) = c at *
        have hs : s = c ++ List.replicate (k2 + k1) 61 := by rw [← List.replicate_append_replicate, ← List.append_assoc, ← e2]; exact e1
        have hc : ∀ y ∈ c, dval y < 64 := fun y hy => of_decide_eq_true (List.all_eq_true.1 ha y hy)
        have hcv : ∀ v ∈ c.map dval, v < 2 ^ 6 := fun v hv => by
          obtain ⟨y, hy, rfl⟩ := List.mem_map.1 hv
          exact hc y hy
        have hlb : IsBits (digBits c) := isBits_flat 6 _
        have hll : (digBits c).length = 6 * c.length := by unfold digBits; rw [flat_len, List.length_map]
        have hsl : s.length = c.length + (k2 + k1) := by rw [hs, List.length_append, List.length_replicate]
        have hout : outR s = x := by
          unfold outR
          rw [hs, bitsR_app, bitsR_digits c hc, bitsR_pads, List.append_nil, hx]
        have hch := chunks_mem (n := 8) (by decide) _ hlb
        have hxn : x.map UInt8.toNat = chunks 8 (digBits c) := by rw [hx, toNat_ofNat_map _ hch]
        have hrl := restC_len (n := 8) (by decide) (digBits c)
        have hrz : restC 8 (digBits c) = List.replicate (restC 8 (digBits c)).length 0 := by
          have hrb : IsBits (restC 8 (digBits c)) := fun y hy => hlb y ((restC_suffix (by decide) _).subset hy)
          have := bitsW_valB _ hrb
          rw [hv, bitsW_zero] at this
          exact this.symm
        have hbits : bitsS x ++ List.replicate (restC 8 (digBits c)).length 0 = digBits c := by
          have e := chunks_bits (n := 8) (by decide) _ hlb
          unfold bitsS
          rw [hxn, ← hrz]
          exact e
        have hbl : (bitsS x).length + (restC 8 (digBits c)).length = 6 * c.length := by rw [← hll, ← hbits, List.length_append, List.length_replicate, hbits]
        have hb8 := bitsS_len x
        have hr3 : (restC 8 (digBits c)).length = 0 ∨ (restC 8 (digBits c)).length = 2 ∨ (restC 8 (digBits c)).length = 4 := by
          rw [hrl, hll]
          have : c.length % 4 = 0 ∨ c.length % 4 = 2 ∨ c.length % 4 = 3 := by omega
          omega
        have hz : (6 - (bitsS x).length % 6) % 6 = (restC 8 (digBits c)).length := by
          clear hrl hll hsl
          generalize (restC 8 (digBits c)).length = r at *
          generalize (bitsS x).length = q at *
          omega
        have henc : encD x = c := by
          unfold encD encV zerosTo
          rw [hz, hbits]
          have := (chunks_flat (n := 6) (by decide) (c.map dval) hcv []).1
          rw [List.append_nil, chunks_lt (l := []) (by decide), List.append_nil] at this
          unfold digBits
          rw [this, List.map_map]
          conv => rhs; rw [← List.map_id c]
          exact List.map_congr_left fun y hy => dig_dval y (hc y hy)
        refine ⟨?_, hout⟩
        unfold encL
        rw [henc, hs]
        congr 2
        unfold padN
        omega
      · rw [if_neg hv] at h; cases h
    · rw [if_neg ha] at h; cases h
  · rw [if_neg h4] at h; cases h
theorem dec_eq (s : List UInt8) : decL s = decR s := by
  unfold decR
  cases h : decL s with
  | some x =>
    obtain ⟨h1, h2⟩ := enc_dec h
    rw [h2, if_pos h1]
  | none =>
    rw [if_neg]
    intro e
    have := dec_enc (outR s)
    rw [e, h] at this
    cases this
end Go.Proofs.YtmghlbdhkjbejaaDoor
