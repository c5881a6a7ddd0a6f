/-
  The contract of b64.complete.
-/
import Derived.Test.YtmghlbdhkjbejaaDoorBaseOwn
namespace Go.Proofs.YtmghlbdhkjbejaaDoor
set_option linter.unusedVariables false
set_option linter.unusedSimpArgs false
open Go.RowKit

/-- The next six bits. -/
theorem step_digit {B : Nat} {r : List Nat} (hb : IsBits r) (h6 : 6 ≤ r.length) (hB : B % 2 ^ r.length = valB r) : B / 2 ^ (r.length - 6) % 64 = valB (r.take 6) ∧ B % 2 ^ (r.length - 6) = valB (r.drop 6) := by
  have e : 2 ^ r.length = 2 ^ (r.length - 6) * 64 := by rw [show (64 : Nat) = 2 ^ 6 from rfl, ← Nat.pow_add]; congr 1; omega
  constructor
  · rw [valB_take hb 6 h6, ← hB, e, Nat.mod_mul_right_div_self]
  · rw [valB_drop hb 6 h6, ← hB, e, Nat.mod_mul_right_mod]
/-- A byte more. -/
theorem step_byte {B c : Nat} {r : List Nat} (hc : c < 256) (hB : B % 2 ^ r.length = valB r) (hl : r.length ≤ 24) : (B * 256 % 4294967296 + c) % 2 ^ (r ++ bitsW 8 c).length = valB (r ++ bitsW 8 c) := by
  have hlen : (r ++ bitsW 8 c).length = r.length + 8 := by rw [List.length_append, bitsW_len]
  have e : 2 ^ (r.length + 8) = 2 ^ r.length * 256 := by rw [Nat.pow_add]
  have hd : 2 ^ (r.length + 8) ∣ 4294967296 := by
    rw [show (4294967296 : Nat) = 2 ^ 32 from rfl]
    exact Nat.pow_dvd_pow 2 (by omega)
  rw [valB_app, bitsW_len, valB_bitsW, hlen, ← hB, Nat.mod_eq_of_lt (show c < 2 ^ 8 from hc), Nat.add_mod, Nat.mod_mod_of_dvd _ hd, e, Nat.mul_mod_mul_right]
  have h1 : B % 2 ^ r.length < 2 ^ r.length := Nat.mod_lt _ (Nat.two_pow_pos _)
  have h2 : 1 ≤ 2 ^ r.length := Nat.two_pow_pos _
  generalize B % 2 ^ r.length = m at *
  generalize 2 ^ r.length = p at *
  rw [Nat.mod_eq_of_lt (show c < p * 256 by omega), Nat.mod_eq_of_lt (show m * 256 + c < p * 256 by omega)]

/-- The bits of the first i bytes, behind the first skip. -/
def bitsTo (b : ByteArray) (skip i : Nat) : List Nat := (bitsS (b.data.toList.take i)).drop skip
theorem bitsTo_zero (b : ByteArray) (skip : Nat) : bitsTo b skip 0 = [] := by unfold bitsTo; simp [bitsS]
theorem bitsTo_all (b : ByteArray) (skip : Nat) : bitsTo b skip b.size = (bitsS b.data.toList).drop skip := by
  have h : b.data.toList.take b.size = b.data.toList := List.take_of_length_le (Nat.le_refl _)
  unfold bitsTo
  rw [h]
theorem bitsTo_chunks (b : ByteArray) (skip i : Nat) (hb : b.size ≤ 1000000) : (chunks 6 (bitsTo b skip i)).length ≤ 2000000 := by
  rw [chunks_len (by decide)]
  unfold bitsTo
  rw [List.length_drop, bitsS_len, List.length_take]
  have : b.data.toList.length = b.size := rfl
  omega
def midB (b : ByteArray) (skip i c : Nat) : List Nat := if i = 0 then (bitsW 8 c).drop skip else restC 6 (bitsTo b skip i) ++ bitsW 8 c
theorem mid_step (b : ByteArray) (skip i : Nat) (hs : skip ≤ 4) (hi : i < b.size) :
    chunks 6 (bitsTo b skip (i + 1)) = chunks 6 (bitsTo b skip i) ++ chunks 6 (midB b skip i b[i].toNat) ∧ restC 6 (bitsTo b skip (i + 1)) = restC 6 (midB b skip i b[i].toNat) := by
  have hl : b.data.toList.take (i + 1) = b.data.toList.take i ++ [b[i]] := by
    have : b.data.toList[i]? = some b[i] := List.getElem?_eq_getElem (by exact hi)
    exact take_snoc this
  have hX : bitsS (b.data.toList.take (i + 1)) = bitsS (b.data.toList.take i) ++ bitsW 8 b[i].toNat := by
    rw [hl, bitsS_app]
    unfold bitsS
    simp
  unfold midB
  by_cases h0 : i = 0
  · subst h0
    rw [if_pos rfl, bitsTo_zero, chunks_lt (l := []) (by decide)]
    unfold bitsTo
    rw [hX]
    simp [bitsS]
  · rw [if_neg h0]
    have hd : bitsTo b skip (i + 1) = bitsTo b skip i ++ bitsW 8 b[i].toNat := by
      unfold bitsTo
      rw [hX, List.drop_append_of_le_length]
      rw [bitsS_len, List.length_take]
      have : b.data.toList.length = b.size := rfl
      omega
    rw [hd]
    exact ⟨chunks_app (by decide) _ _, restC_app (by decide) _ _⟩
theorem mid_bits (b : ByteArray) (skip i c : Nat) : IsBits (midB b skip i c) := by
  unfold midB
  split
  · exact isBits_drop (bitsW_bits 8 c) _
  · exact isBits_app (fun x hx => isBits_drop (bitsS_bits _) _ x ((restC_suffix (by decide) _).subset hx)) (bitsW_bits 8 c)
/-- How many bits are left behind i bytes. -/
def leftI (b : ByteArray) (skip i : Nat) : Int := if i = 0 then -(skip : Int) else ((restC 6 (bitsTo b skip i)).length : Int)
theorem leftI_bound (b : ByteArray) (skip i : Nat) (hs : skip ≤ 4) : -4 ≤ leftI b skip i ∧ leftI b skip i ≤ 5 := by
  unfold leftI
  split
  · omega
  · rw [restC_len (by decide)]
    omega
theorem mid_len (b : ByteArray) (skip i c : Nat) (hs : skip ≤ 4) : ((midB b skip i c).length : Int) = leftI b skip i + 8 := by
  unfold midB leftI
  split
  · rw [List.length_drop, bitsW_len]; omega
  · rw [List.length_append, bitsW_len]; omega
theorem mid_val (b : ByteArray) (skip i c B : Nat) (hc : c < 256) (hs : skip ≤ 4) (h : i = 0 ∨ B % 2 ^ (restC 6 (bitsTo b skip i)).length = valB (restC 6 (bitsTo b skip i))) : (B * 256 % 4294967296 + c) % 2 ^ (midB b skip i c).length = valB (midB b skip i c) := by
  unfold midB
  by_cases h0 : i = 0
  · rw [if_pos h0, valB_drop (bitsW_bits 8 c) skip (by rw [bitsW_len]; omega), valB_bitsW, List.length_drop, bitsW_len, Nat.mod_eq_of_lt (show c < 2 ^ 8 from hc)]
    have hd : 2 ^ (8 - skip) ∣ 256 := by rw [show (256 : Nat) = 2 ^ 8 from rfl]; exact Nat.pow_dvd_pow 2 (by omega)
    have hd2 : 2 ^ (8 - skip) ∣ 4294967296 := by rw [show (4294967296 : Nat) = 2 ^ 32 from rfl]; exact Nat.pow_dvd_pow 2 (by omega)
    rw [Nat.add_mod, Nat.mod_mod_of_dvd _ hd2, Nat.mul_mod, Nat.mod_eq_zero_of_dvd hd, Nat.mul_zero, Nat.zero_mod, Nat.zero_add, Nat.mod_mod]
  · rw [if_neg h0]
    refine step_byte hc (h.resolve_left h0) ?_
    rw [restC_len (by decide)]
    omega

set_option maxRecDepth 100000 in
set_option maxHeartbeats 2000000 in
theorem complete_any (w : World) (ht : Tab w) (b : ByteArray) (skip : Nat) (hs : skip ≤ 4) (hb : b.size ≤ 1000000) :
    Calls Tryd.prog 20 #[.string b, .int .i64 (skip : Int)] w fun e w' => ∃ (v : Value) (left : Int), e = .returned (.tuple #[v, .int .i64 left]) ∧
      w'.ownsRow w.heap.size 5 1 v (chunks 6 ((bitsS b.data.toList).drop skip)).length (cellsB ((chunks 6 ((bitsS b.data.toList).drop skip)).map dig)) ∧ Below w.heap.size w w' ∧ left = (if b.size = 0 then -(skip : Int) else ((restC 6 ((bitsS b.data.toList).drop skip)).length : Int)) := by
  obtain ⟨Lf, hLf⟩ : ∃ Lf, Lf = (if b.size = 0 then -(skip : Int) else ((restC 6 ((bitsS b.data.toList).drop skip)).length : Int)) := ⟨_, rfl⟩
  rw [← hLf]
  have HLf := Lib.hid hLf
  clear hLf
  obtain ⟨cur, hcur, hmk⟩ := make_bytes w ((b.size : Int) / 3 * 4 + 4) (b.size / 3 * 4 + 4) (by omega) (by omega)
  have hcb : b.size / 3 * 4 + 4 ≤ 10000000 := by omega
  generalize b.size / 3 * 4 + 4 = cp at hcur hmk hcb
  go_enter Tryd.func20, Tryd.ntmps20
  go_wp2
  obtain ⟨i0, hi, hz0, hz1, hz2⟩ := info_parts infoU8
  go_loopw [4, 5, 6, 18] (fun cv lv bv iv wr => ∃ (i B : Nat), i ≤ b.size ∧ iv = .int .i64 (i : Int) ∧ lv = .int .i64 (leftI b skip i) ∧ bv = .int .u32 (B : Int) ∧ B < 4294967296 ∧ Hid (i = 0 ∨ B % 2 ^ (restC 6 (bitsTo b skip i)).length = valB (restC 6 (bitsTo b skip i))) ∧
      Hid (wr.ownsRow w.heap.size 5 1 cv (chunks 6 (bitsTo b skip i)).length (cellsB ((chunks 6 (bitsTo b skip i)).map dig))) ∧ Below w.heap.size w wr) (fun cv lv bv iv wr => b.size - (intOf iv).toNat)
  case atStart =>
    refine ⟨0, 0, Nat.zero_le _, rfl, ?_, rfl, by decide, Lib.hid (.inl rfl), ?_, (Below.refl _ _).alloc (Nat.le_refl _) _⟩
    · rfl
    · rw [bitsTo_zero, chunks_lt (by decide)]
      exact Lib.hid (World.ownsRow_made w cur cp (Nat.le_refl _) (by unfold maxLen; omega) (by omega))
  case round =>
    obtain ⟨i, B, hib, rfl, rfl, rfl, hBlt, HB, Hown, hbel⟩ := hrel
    by_cases hlt : i < b.size
    · obtain ⟨c, hc⟩ : ∃ c, c = b[i].toNat := ⟨_, rfl⟩
      have hc256 : c < 256 := by rw [hc]; exact b[i].toNat_lt
      obtain ⟨hm1, hm2⟩ := mid_step b skip i hs hlt
      rw [← hc] at hm1 hm2
      have hml := mid_len b skip i c hs
      have hmv := mid_val b skip i c B hc256 hs HB.out
      have hmb := mid_bits b skip i c
      obtain ⟨hlb1, hlb2⟩ := leftI_bound b skip i hs
      generalize leftI b skip i = lf at *
      have Hm1 := Lib.hid hm1
      have Hm2 := Lib.hid hm2
      have Hml := Lib.hid hml
      have Hmv := Lib.hid hmv
      have Hmb := Lib.hid hmb
      have hor := or_byte B c hc256
      obtain ⟨B1, hB1⟩ : ∃ B1, B1 = B * 256 % 4294967296 + c := ⟨_, rfl⟩
      have hB1lt : B1 < 4294967296 := by omega
      rw [← hB1] at hor hmv
      have Hmv := Lib.hid hmv
      rw [hc] at hor
      clear hm1 hm2 hml hmv hmb hB1 HB
      go_wp2
      rw [← hc, ← Hml.out]
      clear hc
      have hr013 : (midB b skip i c).length ≤ 13 := by have := Hml.out; omega
      have hcl := bitsTo_chunks b skip i hb
      have hcl0 := chunks_len (n := 6) (by decide) (midB b skip i c)
      clear hor hlb1 hlb2
      generalize midB b skip i c = r0 at *
      go_loopw [4, 5] (fun cv lv wi => ∃ (D r : List Nat), lv = .int .i64 (r.length : Int) ∧ Hid (chunks 6 r0 = D ++ chunks 6 r ∧ restC 6 r0 = restC 6 r) ∧ Hid (IsBits r) ∧ r.length ≤ 13 ∧ Hid (B1 % 2 ^ r.length = valB r) ∧
        Hid (wi.ownsRow w.heap.size 5 1 cv ((chunks 6 (bitsTo b skip i)).length + D.length) (cellsB ((chunks 6 (bitsTo b skip i) ++ D).map dig))) ∧ Below w.heap.size w wi) (fun cv lv wi => (intOf lv).toNat)
      case atStart => exact ⟨[], r0, rfl, Lib.hid ⟨rfl, rfl⟩, Hmb, hr013, Hmv, by rw [List.append_nil]; exact Hown, hbel⟩
      case round =>
        obtain ⟨D, r, rfl, Hch, Hrb, hr13, Hrv, HownI, hbelI⟩ := hrel
        by_cases h6 : 6 ≤ r.length
        · obtain ⟨hd1, hd2⟩ := step_digit Hrb.out h6 Hrv.out
          have hge : decide ((r.length : Int) ≥ 6) = true := decide_eq_true (by omega)
          obtain ⟨q, hq⟩ : ∃ q, q = B1 / 2 ^ (r.length - 6) := ⟨_, rfl⟩
          have hqlt : q < 4294967296 := by rw [hq]; exact Nat.lt_of_le_of_lt (Nat.div_le_self _ _) hB1lt
          rw [← hq] at hd1
          obtain ⟨d, hd⟩ : ∃ d, d = q % 64 := ⟨_, rfl⟩
          have hd64 : d < 64 := by omega
          have hand : bits .and .u32 ((B1 : Int) / 2 ^ (r.length - 6)) 63 = (d : Int) := by
            have h1 := and63 q hqlt
            rw [← hd] at h1
            rw [← h1, hq]
            congr 1
          have hcell := ht.below hbelI d hd64
          have hDl : D.length ≤ 2 := by
            have := congrArg List.length Hch.out.1
            rw [List.length_append, hcl0] at this
            omega
          rw [← hd] at hd1
          have hchn : chunks 6 r0 = (D ++ [d]) ++ chunks 6 (r.drop 6) ∧ restC 6 r0 = restC 6 (r.drop 6) := by
            refine ⟨?_, ?_⟩
            · rw [Hch.out.1, chunks_ge (by decide) h6, ← hd1, List.append_assoc]
              rfl
            · rw [Hch.out.2, restC_ge (by decide) h6]
          have Hchn := Lib.hid hchn
          have Hd2 := Lib.hid hd2
          have Hrb2 := Lib.hid (isBits_drop Hrb.out 6)
          have hszI := hbelI.size
          have hl6 : (r.drop 6).length = r.length - 6 := List.length_drop
          have Hl6 := Lib.hid hl6
          clear hd1 hd2 hchn hq hd hqlt hl6
          go_wp2_with (at_builtin; refine wpList_append_own _ rfl _ _ 31 rfl w.heap.size 5 i0 (.int .u8 0) 1 1 Tryd.underlying31 hi hz0 hz1 hz2 rfl (by decide) _ _ _ rfl (HownI.out.alloc _) ⟨wr.heap.size, 0, none⟩ 1 1 [.int .u8 ((dig d).toNat : Int)] rfl rfl (cell_one_new _ _ _) (by simp [Value.oneCell']) (by unfold maxLen; omega) (by omega) (by simp; omega) ?_; intro v1 w3 hown1 hgrow1 _)
          have hB3 := (hbelI.alloc hszI _).grown hgrow1 (by simp; omega) (fun j ej => (HownI.out.lt j ej).1)
          have Hown1 := Lib.hid hown1
          clear hown1 hgrow1
          go_roundw
          case rel =>
            refine ⟨D ++ [d], r.drop 6, by rw [Hl6.out]; go_num, Hchn, Hrb2, by rw [Hl6.out]; omega, by rw [Hl6.out]; exact Hd2, ?_, hB3⟩
            have h := Hown1.out
            rw [List.length_append, ← List.append_assoc, List.map_append, cellsB_app]
            exact Lib.hid h
          case measure => simp [intOf]; omega
        · have hge : decide ((r.length : Int) ≥ 6) = false := decide_eq_false (by omega)
          have hD : chunks 6 r0 = D := by rw [Hch.out.1, chunks_lt (by omega), List.append_nil]
          have hR : restC 6 r0 = r := by rw [Hch.out.2, restC_lt (by omega)]
          have h1 := Hm1.out
          have h2 := Hm2.out
          rw [hD] at h1
          rw [hR] at h2
          have hli : (r.length : Int) = leftI b skip (i + 1) := by unfold leftI; rw [if_neg (by omega), h2]
          have Hli := Lib.hid hli
          have hown2 := HownI.out
          rw [← List.length_append, ← h1] at hown2
          have Hown2 := Lib.hid hown2
          have hrv2 := Hrv.out
          rw [← h2] at hrv2
          have Hrv2 := Lib.hid hrv2
          clear hD hR h1 h2 hli hown2 hrv2
          go_wp2
          go_roundw
          case rel => exact ⟨i + 1, B1, by omega, by go_num, by rw [Hli.out], rfl, hB1lt, Lib.hid (.inr Hrv2.out), Hown2, hbelI⟩
          case measure => simp [intOf]; omega
    · obtain rfl : i = b.size := by omega
      have hown2 := Hown.out
      rw [bitsTo_all] at hown2
      have hL : leftI b skip b.size = Lf := by rw [HLf.out]; unfold leftI; rw [bitsTo_all]
      rw [hL]
      have Hown2 := Lib.hid hown2
      clear hown2 hL
      go_wp2
      go_ret2
      exact ⟨_, _, rfl, Hown2.out, hbel, rfl⟩
end Go.Proofs.YtmghlbdhkjbejaaDoor
