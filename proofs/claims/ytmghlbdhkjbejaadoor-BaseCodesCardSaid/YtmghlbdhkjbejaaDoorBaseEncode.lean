/-
  The contracts of b64.Encode and b64.Inner.
-/
import Derived.Test.YtmghlbdhkjbejaaDoorBaseComplete
import Derived.Lib.AppendStr
namespace Go.Proofs.YtmghlbdhkjbejaaDoor
set_option linter.unusedVariables false
set_option linter.unusedSimpArgs false
open Go.RowKit

theorem rest_last (l : List UInt8) (c : UInt8) (k : Nat) (hk : (restC 6 (bitsS (l ++ [c]))).length = k) : valB (restC 6 (bitsS (l ++ [c]))) = c.toNat % 2 ^ k := by
  have hk6 : k < 6 := by rw [← hk, restC_len (by decide)]; omega
  obtain ⟨t, ht⟩ := restC_suffix (n := 6) (by decide) (bitsS (l ++ [c]))
  have hb : bitsS (l ++ [c]) = bitsS l ++ bitsW 8 c.toNat := by rw [bitsS_app]; unfold bitsS; simp
  have hlen : (bitsS (l ++ [c])).length = (bitsS l).length + 8 := by rw [hb, List.length_append, bitsW_len]
  have htl : t.length + k = (bitsS l).length + 8 := by rw [← hlen, ← ht, List.length_append, hk]
  have hr : restC 6 (bitsS (l ++ [c])) = (bitsW 8 c.toNat).drop (8 - k) := by
    have h1 : (bitsS (l ++ [c])).drop t.length = restC 6 (bitsS (l ++ [c])) := by
      conv => lhs; rw [← ht]
      rw [List.drop_left]
    rw [← h1, hb, List.drop_append, List.drop_of_length_le (by omega), List.nil_append]
    congr 1
    omega
  rw [hr, valB_drop (bitsW_bits 8 _) _ (by rw [bitsW_len]; omega), valB_bitsW, bitsW_len, Nat.mod_eq_of_lt (show c.toNat < 2 ^ 8 from c.toNat_lt)]
  congr 2
  omega
theorem encD_last (l : List UInt8) (c : UInt8) (k : Nat) (hk : (restC 6 (bitsS (l ++ [c]))).length = k) (h0 : 0 < k) : encD (l ++ [c]) = (chunks 6 (bitsS (l ++ [c]))).map dig ++ [dig (c.toNat * 2 ^ (6 - k) % 64)] := by
  unfold encD
  have hne : restC 6 (bitsS (l ++ [c])) ≠ [] := fun e => by rw [e] at hk; simp at hk; omega
  have hk6 : k < 6 := by rw [← hk, restC_len (by decide)]; omega
  rw [encV_eq _ (bitsS_bits _), if_neg hne, rest_last l c k hk, hk, List.map_append]
  congr 2
  show [dig _] = _
  congr 2
  have e : (64 : Nat) = 2 ^ k * 2 ^ (6 - k) := by rw [← Nat.pow_add, show k + (6 - k) = 6 by omega]
  rw [e, Nat.mul_mod_mul_right]
theorem encD_even (x : List UInt8) (h : (restC 6 (bitsS x)).length = 0) : encD x = (chunks 6 (bitsS x)).map dig := by
  unfold encD
  rw [encV_eq _ (bitsS_bits _), if_pos (List.eq_nil_of_length_eq_zero h), List.append_nil]
/-- 'c<<k & 63', c a byte. -/
theorem and63_u8 (x : Nat) (hx : x < 256) : bits .and .u8 (x : Int) 63 = ((x % 64 : Nat) : Int) := by
  have h := (bits_nat .u8 8 (by decide) (fun n h0 h1 => by simp only [IntKind.wrap, IntKind.bits, IntKind.signed]; simp; omega) x 63 hx (by decide)).1
  rw [show ((63 : Nat) : Int) = 63 from rfl] at h
  rw [h, show (63 : Nat) = 2 ^ 6 - 1 from rfl, Nat.and_two_pow_sub_one_eq_mod]

set_option maxRecDepth 100000 in
set_option maxHeartbeats 2000000 in
theorem inner_any (w : World) (ht : Tab w) (b : ByteArray) (ph : Int) (hb : b.size ≤ 1000000) :
    Calls Tryd.prog 18 #[.string b, .int .i64 ph] w fun e w' => e = .returned (.string (if 0 ≤ ph ∧ ph ≤ 2 then ⟨((chunks 6 ((bitsS b.data.toList).drop (4 * ph.toNat % 6))).map dig).toArray⟩ else ByteArray.empty)) ∧ Below w.heap.size w w' := by
  by_cases h0 : ph < 0
  · rw [if_neg (by omega)]
    go_enter Tryd.func18, Tryd.ntmps18
    go_wp2
    go_ret
    exact ⟨rfl, Below.refl _ _⟩
  · by_cases h2 : 2 < ph
    · rw [if_neg (by omega)]
      clear h0
      have h0 : ¬ ph < 0 := by omega
      go_enter Tryd.func18, Tryd.ntmps18
      go_wp2
      go_ret
      exact ⟨rfl, Below.refl _ _⟩
    · rw [if_pos (by omega)]
      obtain ⟨p, hp⟩ : ∃ p : Nat, ph = (p : Int) := ⟨ph.toNat, by omega⟩
      subst hp
      rw [Int.toNat_natCast]
      obtain ⟨sk, hsk⟩ : ∃ sk : Nat, sk = 4 * p % 6 := ⟨_, rfl⟩
      rw [← hsk]
      have hsk4 : sk ≤ 4 := by omega
      have hp2 : p ≤ 2 := by omega
      have hskI : (4 * (p : Int)) % 6 = (sk : Int) := by omega
      have hskT : (4 * (p : Int)).tmod 6 = (sk : Int) := by rw [Int.tmod_eq_emod_of_nonneg (by omega)]; exact hskI
      have kC := complete_any w ht b sk hsk4 hb
      generalize (chunks 6 ((bitsS b.data.toList).drop sk)).map dig = D at kC ⊢
      clear hsk
      go_enter Tryd.func18, Tryd.ntmps18
      go_wp2_with (go_at_call 20; refine kC.mono ?_; rintro e w1 ⟨v, lf, rfl, hown, hbel, -⟩; have hcv := conv_owns (s := ⟨D.toArray⟩) (by rw [strCells_of]; exact hown))
      go_ret
      exact ⟨rfl, hbel⟩

theorem pad_mod (m j : Nat) (hj : j ≤ padN m) : (((m + j : Nat) : Int) % 4 != 0) = decide (j < padN m) := by
  unfold padN at hj ⊢
  by_cases h : j < (4 - m % 4) % 4
  · rw [decide_eq_true h, bne_iff_ne]
    omega
  · rw [decide_eq_false h, bne_eq_false_iff_eq]
    omega
theorem cells_pad (D : List UInt8) (j : Nat) : cellsB (D ++ List.replicate (j + 1) 61) = cellsB (D ++ List.replicate j 61) ++ Lib.strCells ⟨#[61]⟩ := by
  rw [List.replicate_succ', ← List.append_assoc, cellsB_app]
  rfl
theorem row_form {w : World} {B : Nat} {t : TypeId} {sz : Nat} {v : Value} {n : Nat} {xs : List Value} (h : w.ownsRow B t sz v n xs) : ∃ ao cp, v = .slice ao n cp := by
  rcases h.2 with ⟨h, h'⟩ | ⟨g, cap, cur, h, _⟩
  · rw [h']; exact ⟨_, _, h⟩
  · exact ⟨_, _, h⟩
set_option maxRecDepth 100000 in
set_option maxHeartbeats 2000000 in
theorem encode_any (w : World) (ht : Tab w) (b : ByteArray) (hb : b.size ≤ 1000000) :
    Calls Tryd.prog 8 #[.string b] w fun e w' => e = .returned (.string ⟨(encL b.data.toList).toArray⟩) ∧ Below w.heap.size w w' := by
  obtain ⟨i0, hi, hz0, hz1, hz2⟩ := info_parts infoU8
  have kC := complete_any w ht b 0 (by decide) hb
  rw [List.drop_zero, show ((0 : Nat) : Int) = 0 from rfl] at kC
  have hbl : b.data.toList.length = b.size := rfl
  have hTl := bitsS_len b.data.toList
  have hcl := chunks_len (n := 6) (by decide) (bitsS b.data.toList)
  have hkl := restC_len (n := 6) (by decide) (bitsS b.data.toList)
  have hDl := encD_len b.data.toList
  have hpad := encD_pad b.data.toList
  obtain ⟨k, hk⟩ : ∃ k, k = (restC 6 (bitsS b.data.toList)).length := ⟨_, rfl⟩
  have hlf : (if b.size = 0 then -(0 : Int) else ((restC 6 (bitsS b.data.toList)).length : Int)) = (k : Int) := by
    rw [← hk]
    split <;> omega
  rw [hlf] at kC
  have hk6 : k < 6 := by omega
  obtain ⟨E, hE⟩ : ∃ E, E = encL b.data.toList := ⟨_, rfl⟩
  rw [← hE]
  unfold encL at hE
  have hlast : 0 < k → ∃ (l : List UInt8) (hs : b.size - 1 < b.size), b.data.toList = l ++ [b[b.size - 1]] := fun h => by
    have hb0 : 0 < b.size := by omega
    have hs : b.size - 1 < b.size := by omega
    refine ⟨b.data.toList.take (b.size - 1), hs, ?_⟩
    have hx : b.data.toList[b.size - 1]? = some b[b.size - 1] := List.getElem?_eq_getElem (by exact hs)
    have h1 := take_snoc hx
    rw [show b.size - 1 + 1 = b.data.toList.length by omega, List.take_length] at h1
    exact h1
  have hDb : (encD b.data.toList).length ≤ 3000000 := by omega
  have hCb : (chunks 6 (bitsS b.data.toList)).length ≤ 3000000 := by omega
  have Hlast := Lib.hid hlast
  clear hTl hcl hkl hDl
  have HE := Lib.hid hE
  have Hk := Lib.hid hk
  have hev := encD_even b.data.toList
  have Hev := Lib.hid hev
  have hlE := fun (l : List UInt8) (c : UInt8) h (h0 : 0 < k) => encD_last l c k h h0
  have HlE := Lib.hid hlE
  generalize hT : encD b.data.toList = D at *
  have HT := Lib.hid hT
  clear hT hlast hE hk hev hlE hlf
  go_enter Tryd.func8, Tryd.ntmps8
  go_wp2_with fail
  refine kC.mono ?_
  rintro e w1 ⟨v, lf, rfl, hown, hbel, rfl⟩
  have hsz1 := hbel.size
  have hT1 := ht.below hbel
  by_cases h0 : k = 0
  · have hown2 : w1.ownsRow w.heap.size 5 1 v D.length (cellsB D) := by
      have h1 := Hev.out (by rw [← Hk.out]; exact h0)
      rw [h1, List.length_map]
      exact hown
    have Hown := Lib.hid hown2
    clear hown hown2
    obtain ⟨ao, cp, rfl⟩ := row_form Hown.out
    subst h0
    clear hT1
    go_wp2
    go_loopw [3] (fun cv wr => ∃ j, j ≤ padN D.length ∧ Hid (wr.ownsRow w.heap.size 5 1 cv (D.length + j) (cellsB (D ++ List.replicate j 61))) ∧ Below w.heap.size w wr ∧ ∃ ao cp, cv = .slice ao (D.length + j) cp) (fun cv wr => D.length + 2 - (match cv with | .slice _ n _ => n | _ => 0))
    case atStart => exact ⟨0, Nat.zero_le _, by rw [List.replicate_zero, List.append_nil]; exact Hown, hbel, ao, cp, rfl⟩
    case round =>
      obtain ⟨j, hj, HownJ, hbelJ, ao', cp', rfl⟩ := hrel
      have hpm := pad_mod D.length j hj
      have hszJ := hbelJ.size
      by_cases hjp : j < padN D.length
      · rw [decide_eq_true hjp] at hpm
        go_wp2_with (at_builtin; refine Lib.wpList_append_own_string _ rfl (.tmp 30) (.const (.string ⟨#[61]⟩)) 31 9 rfl w.heap.size 5 i0 Tryd.underlying31 Tryd.underlying9 hi hz0 hz1 hz2 _ _ _ rfl HownJ.out ⟨#[61]⟩ rfl (by unfold maxLen; show _ + 1 ≤ _; omega) (by show _ + 1 ≤ _; omega) (by omega) ?_; intro v1 w3 hown1 hgrow1 _)
        have hB3 := hbelJ.grown hgrow1 (by omega) (fun j ej => (HownJ.out.lt j ej).1)
        obtain ⟨ao1, cp1, rfl⟩ := row_form hown1
        rw [← cells_pad] at hown1
        have Hown1 := Lib.hid hown1
        clear hown1 hgrow1
        go_roundw
        case rel => exact ⟨j + 1, by omega, Hown1, hB3, _, _, rfl⟩
        case measure => show D.length + 2 - (D.length + j + 1) < D.length + 2 - (D.length + j); omega
      · rw [decide_eq_false hjp] at hpm
        obtain rfl : j = padN D.length := by omega
        have hcv := conv_owns (s := ⟨E.toArray⟩) (by rw [strCells_of, HE.out]; exact HownJ.out)
        go_wp2
        go_ret
        exact ⟨rfl, hbelJ⟩
  · obtain ⟨l, hs1, hTl2⟩ := Hlast.out (by omega)
    obtain ⟨c, hc⟩ : ∃ c, c = b[b.size - 1] := ⟨_, rfl⟩
    rw [← hc] at hTl2
    obtain ⟨d, hd⟩ : ∃ d, d = c.toNat * 2 ^ (6 - k) % 64 := ⟨_, rfl⟩
    have hd64 : d < 64 := by omega
    have hDk : D = (chunks 6 (bitsS b.data.toList)).map dig ++ [dig d] := by
      rw [← HT.out, hTl2, hd]
      exact HlE.out l c (by rw [← hTl2]; exact Hk.out.symm) (by omega)
    have hcell := hT1 d hd64
    have hcb : b.size ≥ 1 := by omega
    obtain ⟨ao0, cp0, rfl⟩ := row_form hown
    have hge : decide ((k : Int) > 0) = true := decide_eq_true (by omega)
    have hsub : ((b.size : Int) - 1).toNat = b.size - 1 := by omega
    have hc256 : c.toNat < 256 := c.toNat_lt
    have Hown0 := Lib.hid hown
    have HDk := Lib.hid hDk
    have hc' : b[b.size - 1].toNat = c.toNat := by rw [hc]
    have hoff : ((c.toNat : Int) * 2 ^ (6 - k) % 64).toNat = d := by
      rw [hd]
      have : ((c.toNat : Int) * 2 ^ (6 - k) % 64) = ((c.toNat * 2 ^ (6 - k) % 64 : Nat) : Int) := by push_cast; rfl
      rw [this, Int.toNat_natCast]
    have hk0 : 0 < k := by omega
    obtain ⟨C, hC⟩ : ∃ C, C = (chunks 6 (bitsS b.data.toList)).length := ⟨_, rfl⟩
    rw [← hC] at Hown0 hCb ⊢
    have HC := Lib.hid hC
    clear hown hDk hTl2 hc hC hd h0 hge
    go_wp2_with (at_builtin; refine wpList_append_own _ rfl _ _ 31 rfl w.heap.size 5 i0 (.int .u8 0) 1 1 Tryd.underlying31 hi hz0 hz1 hz2 rfl (by decide) _ _ _ rfl (Hown0.out.alloc _) ⟨w1.heap.size, 0, none⟩ 1 1 [.int .u8 ((dig d).toNat : Int)] rfl rfl (cell_one_new _ _ _) (by simp [Value.oneCell']) (by unfold maxLen; omega) (by omega) (by simp; omega) ?_; intro v1 w3 hown1 hgrow1 _)
    have hB2 := (hbel.alloc hsz1 _).grown hgrow1 (by simp; omega) (fun j ej => (Hown0.out.lt j ej).1)
    have hown2 : w3.ownsRow w.heap.size 5 1 v1 D.length (cellsB D) := by
      have e1 : cellsB D = cellsB ((chunks 6 (bitsS b.data.toList)).map dig) ++ [.int .u8 ((dig d).toNat : Int)] := by
        conv => lhs; rw [HDk.out]
        rw [cellsB_app]
        rfl
      have e2 : D.length = C + 1 := by
        have := congrArg List.length HDk.out
        rw [List.length_append, List.length_map, ← HC.out] at this
        exact this
      rw [e1, e2]
      exact hown1
    obtain ⟨ao, cp, rfl⟩ := row_form hown2
    have Hown := Lib.hid hown2
    clear hown1 hown2 hgrow1 hbel
    have hbel := hB2
    clear hB2
    go_loopw [3] (fun cv wr => ∃ j, j ≤ padN D.length ∧ Hid (wr.ownsRow w.heap.size 5 1 cv (D.length + j) (cellsB (D ++ List.replicate j 61))) ∧ Below w.heap.size w wr ∧ ∃ ao cp, cv = .slice ao (D.length + j) cp) (fun cv wr => D.length + 2 - (match cv with | .slice _ n _ => n | _ => 0))
    case atStart => exact ⟨0, Nat.zero_le _, by rw [List.replicate_zero, List.append_nil]; exact Hown, hbel, ao, cp, rfl⟩
    case round =>
      obtain ⟨j, hj, HownJ, hbelJ, ao', cp', rfl⟩ := hrel
      have hpm := pad_mod D.length j hj
      have hszJ := hbelJ.size
      by_cases hjp : j < padN D.length
      · rw [decide_eq_true hjp] at hpm
        go_wp2_with (at_builtin; refine Lib.wpList_append_own_string _ rfl (.tmp 30) (.const (.string ⟨#[61]⟩)) 31 9 rfl w.heap.size 5 i0 Tryd.underlying31 Tryd.underlying9 hi hz0 hz1 hz2 _ _ _ rfl HownJ.out ⟨#[61]⟩ rfl (by unfold maxLen; show _ + 1 ≤ _; omega) (by show _ + 1 ≤ _; omega) (by omega) ?_; intro v1 w3 hown1 hgrow1 _)
        have hB3 := hbelJ.grown hgrow1 (by omega) (fun j ej => (HownJ.out.lt j ej).1)
        obtain ⟨ao1, cp1, rfl⟩ := row_form hown1
        rw [← cells_pad] at hown1
        have Hown1 := Lib.hid hown1
        clear hown1 hgrow1
        go_roundw
        case rel => exact ⟨j + 1, by omega, Hown1, hB3, _, _, rfl⟩
        case measure => show D.length + 2 - (D.length + j + 1) < D.length + 2 - (D.length + j); omega
      · rw [decide_eq_false hjp] at hpm
        obtain rfl : j = padN D.length := by omega
        have hcv := conv_owns (s := ⟨E.toArray⟩) (by rw [strCells_of, HE.out]; exact HownJ.out)
        go_wp2
        go_ret
        exact ⟨rfl, hbelJ⟩
end Go.Proofs.YtmghlbdhkjbejaaDoor
