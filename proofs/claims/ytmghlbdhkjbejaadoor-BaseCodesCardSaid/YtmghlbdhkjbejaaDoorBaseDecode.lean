/-
  The contracts of b64.value and b64.Decode.
-/
import Derived.Test.YtmghlbdhkjbejaaDoorBaseOwn
import Derived.Test.YtmghlbdhkjbejaaDoorShelf
namespace Go.Proofs.YtmghlbdhkjbejaaDoor
set_option linter.unusedVariables false
set_option linter.unusedSimpArgs false
open Go.RowKit

theorem dval_cases' : ∀ n : Fin 256, dval (UInt8.ofNat n.1) = if 65 ≤ n.1 ∧ n.1 ≤ 90 then n.1 - 65 else if 97 ≤ n.1 ∧ n.1 ≤ 122 then n.1 - 71 else if 48 ≤ n.1 ∧ n.1 ≤ 57 then n.1 + 4 else if n.1 = 43 then 62 else if n.1 = 47 then 63 else 64 := by decide +kernel
theorem dval_cases (c : UInt8) : dval c = if 65 ≤ c.toNat ∧ c.toNat ≤ 90 then c.toNat - 65 else if 97 ≤ c.toNat ∧ c.toNat ≤ 122 then c.toNat - 71 else if 48 ≤ c.toNat ∧ c.toNat ≤ 57 then c.toNat + 4 else if c.toNat = 43 then 62 else if c.toNat = 47 then 63 else 64 := by
  have := dval_cases' ⟨c.toNat, c.toNat_lt⟩
  simp only [UInt8.ofNat_toNat] at this
  exact this
theorem trim_suffix (s : List UInt8) : Lib.trimSuffix s [61] = trimP s := by
  unfold Lib.trimSuffix trimP
  rcases List.eq_nil_or_concat s with h | ⟨l, x, h⟩
  · subst h
    rfl
  · rw [List.concat_eq_append] at h
    subst h
    rw [List.getLast?_concat, List.dropLast_concat]
    have hs : Lib.hasSuffix (l ++ [x]) [61] = decide (x = 61) := by
      unfold Lib.hasSuffix
      rw [Bool.eq_iff_iff, List.isSuffixOf_iff_suffix, decide_eq_true_eq]
      constructor
      · rintro ⟨t, ht⟩
        have := congrArg List.getLast? ht
        rw [List.getLast?_concat, List.getLast?_concat] at this
        exact (Option.some.inj this).symm
      · intro e
        rw [e]
        exact ⟨l, rfl⟩
    rw [hs]
    by_cases hx : x = 61
    · subst hx
      rw [if_pos rfl, if_pos (by decide)]
      simp
    · rw [if_neg (fun e : some x = some 61 => hx (Option.some.inj e)), if_neg (by simpa using hx)]

def vA (n : Nat) : Int := if 65 ≤ n ∧ n ≤ 90 then (n : Int) - 65 else if 97 ≤ n ∧ n ≤ 122 then (n : Int) - 71 else if 48 ≤ n ∧ n ≤ 57 then (n : Int) + 4 else if n = 43 then 62 else if n = 47 then 63 else 0
def vB (n : Nat) : Bool := if 65 ≤ n ∧ n ≤ 90 then true else if 97 ≤ n ∧ n ≤ 122 then true else if 48 ≤ n ∧ n ≤ 57 then true else if n = 43 then true else if n = 47 then true else false
theorem vB_iff (c : UInt8) : vB c.toNat = decide (dval c < 64) := by
  rw [dval_cases]
  unfold vB
  (repeat' split) <;> first | (rw [decide_eq_true (by omega)]) | (rw [decide_eq_false (by omega)])
theorem vA_eq (c : UInt8) (h : dval c < 64) : vA c.toNat = (dval c : Int) := by
  rw [dval_cases] at h ⊢
  unfold vA
  split
  · omega
  · split
    · omega
    · split
      · omega
      · split
        · rfl
        · split
          · rfl
          · rename_i h1 h2 h3 h4 h5
            rw [if_neg h1, if_neg h2, if_neg h3, if_neg h4, if_neg h5] at h
            omega
theorem ret_pair {a a' : Int} {b b' : Bool} (h1 : a = a') (h2 : b = b') : Ending.returned (.tuple #[.int .u8 a, .bool b]) = .returned (.tuple #[.int .u8 a', .bool b']) := by rw [h1, h2]
set_option maxRecDepth 100000 in
set_option maxHeartbeats 1000000 in
theorem value_any (n : Nat) (hn : n < 256) (w : World) : Calls Tryd.prog 22 #[.int .u8 (n : Int)] w fun e w' => e = .returned (.tuple #[.int .u8 (vA n), .bool (vB n)]) ∧ w = w' := by
  by_cases h43 : n = 43
  · subst h43
    rw [show vA 43 = 62 from rfl, show vB 43 = true from rfl]
    go_enter Tryd.func22, Tryd.ntmps22
    go_wp2
    go_ret2
    exact ⟨rfl, rfl⟩
  by_cases h47 : n = 47
  · subst h47
    rw [show vA 47 = 63 from rfl, show vB 47 = true from rfl]
    go_enter Tryd.func22, Tryd.ntmps22
    go_wp2
    go_ret2
    exact ⟨rfl, rfl⟩
  have e1 : ((n : Int) == 43) = false := by rw [beq_eq_false_iff_ne]; omega
  have e2 : ((n : Int) == 47) = false := by rw [beq_eq_false_iff_ne]; omega
  obtain ⟨a, ha⟩ : ∃ a, a = vA n := ⟨_, rfl⟩
  obtain ⟨b, hb⟩ : ∃ b, b = vB n := ⟨_, rfl⟩
  rw [← ha, ← hb]
  unfold vA at ha
  unfold vB at hb
  rw [if_neg h43, if_neg h47] at ha hb
  have Ha := Lib.hid ha
  have Hb := Lib.hid hb
  clear ha hb
  go_enter Tryd.func22, Tryd.ntmps22
  go_wp2
  all_goals go_ret2
  all_goals refine ⟨?_, rfl⟩
  all_goals rw [Ha.out, Hb.out]
  all_goals refine ret_pair ?_ ?_
  all_goals (repeat' split)
  all_goals first | rfl | omega

theorem step_six {B v : Nat} {r : List Nat} (hc : v < 64) (hB : B % 2 ^ r.length = valB r) (hl : r.length ≤ 24) : (B * 64 % 4294967296 + v) % 2 ^ (r ++ bitsW 6 v).length = valB (r ++ bitsW 6 v) := by
  have hlen : (r ++ bitsW 6 v).length = r.length + 6 := by rw [List.length_append, bitsW_len]
  have e : 2 ^ (r.length + 6) = 2 ^ r.length * 64 := by rw [Nat.pow_add]
  have hd : 2 ^ (r.length + 6) ∣ 4294967296 := by
    rw [show (4294967296 : Nat) = 2 ^ 32 from rfl]
    exact Nat.pow_dvd_pow 2 (by omega)
  rw [valB_app, bitsW_len, valB_bitsW, hlen, ← hB, Nat.mod_eq_of_lt (show v < 2 ^ 6 from hc), Nat.add_mod, Nat.mod_mod_of_dvd _ hd, e, Nat.mul_mod_mul_right]
  have h1 : B % 2 ^ r.length < 2 ^ r.length := Nat.mod_lt _ (Nat.two_pow_pos _)
  have h2 : 1 ≤ 2 ^ r.length := Nat.two_pow_pos _
  generalize B % 2 ^ r.length = m at *
  generalize 2 ^ r.length = p at *
  rw [Nat.mod_eq_of_lt (show v < p * 64 by omega), Nat.mod_eq_of_lt (show m * 64 + v < p * 64 by omega)]
theorem step_eight {B : Nat} {r : List Nat} (hb : IsBits r) (h6 : 8 ≤ r.length) (hB : B % 2 ^ r.length = valB r) : B / 2 ^ (r.length - 8) % 256 = valB (r.take 8) ∧ B % 2 ^ (r.length - 8) = valB (r.drop 8) := by
  have e : 2 ^ r.length = 2 ^ (r.length - 8) * 256 := by rw [show (256 : Nat) = 2 ^ 8 from rfl, ← Nat.pow_add]; congr 1; omega
  constructor
  · rw [valB_take hb 8 h6, ← hB, e, Nat.mod_mul_right_div_self]
  · rw [valB_drop hb 8 h6, ← hB, e, Nat.mod_mul_right_mod]
theorem trimP_len (s : List UInt8) : (trimP s).length ≤ s.length := by
  unfold trimP
  split
  · rw [List.length_dropLast]; omega
  · exact Nat.le_refl _
theorem digBits_snoc (l : List UInt8) (c : UInt8) : digBits (l ++ [c]) = digBits l ++ bitsW 6 (dval c) := by
  unfold digBits
  rw [List.map_append, List.flatMap_append]
  simp
/-- 'bits & (1<<n - 1)'. -/
theorem and_mask (B n : Nat) (hB : B < 4294967296) (hn : n ≤ 7) : bits .and .u32 (B : Int) (((2 : Int) ^ n - 1) % 4294967296) = ((B % 2 ^ n : Nat) : Int) := by
  have h1 : 1 ≤ 2 ^ n := Nat.two_pow_pos n
  have h2 : 2 ^ n ≤ 2 ^ 7 := Nat.pow_le_pow_right (by decide) hn
  have e : ((2 : Int) ^ n - 1) % 4294967296 = ((2 ^ n - 1 : Nat) : Int) := by
    have h3 : (2 : Int) ^ n = ((2 ^ n : Nat) : Int) := by push_cast; rfl
    rw [h3]
    generalize 2 ^ n = m at h1 h2
    omega
  rw [e, (bits_nat .u32 32 (by decide) wraps_u32 B (2 ^ n - 1) hB (by omega)).1, Nat.and_two_pow_sub_one_eq_mod]
def decT : Option (List UInt8) → Value
  | some x => .tuple #[.string ⟨x.toArray⟩, .int .i64 0]
  | none => .tuple #[.string ByteArray.empty, .int .i64 7]

set_option maxRecDepth 100000 in
set_option maxHeartbeats 2000000 in
theorem decode_any (w : World) (s : ByteArray) (hs : s.size ≤ 1000000) :
    Calls Tryd.prog 9 #[.string s] w fun e w' => e = .returned (decT (decL s.data.toList)) ∧ Below w.heap.size w w' := by
  obtain ⟨i0, hi, hz0, hz1, hz2⟩ := info_parts infoU8
  have hsl : s.data.toList.length = s.size := rfl
  obtain ⟨R, hR⟩ : ∃ R, R = decT (decL s.data.toList) := ⟨_, rfl⟩
  rw [← hR]
  unfold decL at hR
  rw [hsl] at hR
  by_cases h4 : s.size % 4 = 0
  · rw [if_pos h4] at hR
    have h4' : (((s.size : Nat) : Int) % 4 != 0) = false := by rw [bne_eq_false_iff_eq]; omega
    have kT1 := fun W => Tryd.strings_TrimSuffix s ⟨#[61]⟩ W (by omega)
    have e1 : Lib.trimSuffix s.data.toList (⟨#[61]⟩ : ByteArray).data.toList = trimP s.data.toList := trim_suffix _
    rw [e1] at kT1
    obtain ⟨t1, ht1⟩ : ∃ t : ByteArray, t = ⟨(trimP s.data.toList).toArray⟩ := ⟨_, rfl⟩
    have ht1l : t1.data.toList = trimP s.data.toList := by rw [ht1]
    have hts1 : t1.size ≤ s.size := by
      have := trimP_len s.data.toList
      rw [← ht1l] at this
      exact this
    rw [← ht1] at kT1
    have kT2 := fun W => Tryd.strings_TrimSuffix t1 ⟨#[61]⟩ W (by omega)
    have e2 : Lib.trimSuffix t1.data.toList (⟨#[61]⟩ : ByteArray).data.toList = trimP (trimP s.data.toList) := by rw [ht1l]; exact trim_suffix _
    rw [e2] at kT2
    obtain ⟨t, ht⟩ : ∃ t : ByteArray, t = ⟨(trimP (trimP s.data.toList)).toArray⟩ := ⟨_, rfl⟩
    have htl : t.data.toList = trimP (trimP s.data.toList) := by rw [ht]
    have hts : t.size ≤ s.size := by
      have h1 := trimP_len (trimP s.data.toList)
      have h2 := trimP_len s.data.toList
      rw [← htl] at h1
      exact Nat.le_trans h1 h2
    rw [← ht] at kT2
    rw [← htl] at hR
    have HR := Lib.hid hR
    obtain ⟨cur, hcur, hmk⟩ := make_bytes w (t.size : Int) t.size rfl (by omega)
    clear hR e1 e2 ht1 ht1l ht htl hsl h4
    go_enter Tryd.func9, Tryd.ntmps9
    go_wp2_with (first | (go_at_call 21; refine (kT1 _).mono ?_; rintro e w' ⟨rfl, rfl⟩) | (go_at_call 21; refine (kT2 _).mono ?_; rintro e w' ⟨rfl, rfl⟩))
    have hwt : w'.heap.size ≤ w'.heap.size := Nat.le_refl _
    go_loopw [5, 6, 7, 23] (fun cv bv lv iv wr => ∃ (i B : Nat), i ≤ t.size ∧ iv = .int .i64 (i : Int) ∧ lv = .int .i64 ((restC 8 (digBits (t.data.toList.take i))).length : Int) ∧ bv = .int .u32 (B : Int) ∧ B < 4294967296 ∧ Hid (B % 2 ^ (restC 8 (digBits (t.data.toList.take i))).length = valB (restC 8 (digBits (t.data.toList.take i)))) ∧
        Hid (∀ x ∈ t.data.toList.take i, dval x < 64) ∧ Hid (wr.ownsRow w'.heap.size 5 1 cv (chunks 8 (digBits (t.data.toList.take i))).length (cellsB ((chunks 8 (digBits (t.data.toList.take i))).map UInt8.ofNat))) ∧ Below w'.heap.size w' wr) (fun cv bv lv iv wr => t.size - (intOf iv).toNat)
    case atStart =>
      have e : digBits (t.data.toList.take 0) = [] := by rw [List.take_zero]; rfl
      refine ⟨0, 0, Nat.zero_le _, rfl, ?_, rfl, by decide, ?_, Lib.hid (fun x hx => by simp at hx), ?_, (Below.refl _ _).alloc (Nat.le_refl _) _⟩
      · rw [e, restC_lt (by decide)]; rfl
      · rw [e, restC_lt (by decide)]; exact Lib.hid rfl
      · rw [e, chunks_lt (by decide)]
        exact Lib.hid (World.ownsRow_made w' cur t.size (Nat.le_refl _) (by unfold maxLen; omega) (by omega))
    case round =>
      obtain ⟨i, B, hib, rfl, rfl, rfl, hBlt, HB, Hall, Hown, hbel⟩ := hrel
      have hrl := restC_len (n := 8) (by decide) (digBits (t.data.toList.take i))
      have hr8 : (restC 8 (digBits (t.data.toList.take i))).length ≤ 7 := by omega
      have hcl := chunks_len (n := 8) (by decide) (digBits (t.data.toList.take i))
      have hdl : (digBits (t.data.toList.take i)).length ≤ 6000000 := by
        unfold digBits
        rw [flat_len, List.length_map, List.length_take]
        omega
      have hcl2 : (chunks 8 (digBits (t.data.toList.take i))).length ≤ 6000000 := by omega
      clear hrl hcl hdl
      by_cases hlt : i < t.size
      · obtain ⟨c, hc⟩ : ∃ c, c = t[i] := ⟨_, rfl⟩
        have hx : t.data.toList[i]? = some c := by rw [hc]; exact List.getElem?_eq_getElem (by exact hlt)
        have hsn := take_snoc hx
        have kV := fun W => value_any c.toNat c.toNat_lt W
        have hc' : t[i].toNat = c.toNat := by rw [hc]
        have Hx := Lib.hid hx
        have Hsn := Lib.hid hsn
        clear hc hx hsn
        cases hok : vB c.toNat with
        | false =>
          simp only [hok] at kV
          have hRe : R = .tuple #[.string ByteArray.empty, .int .i64 7] := by
            have h := HR.out
            rw [if_neg] at h
            · exact h
            · intro hall
              have := List.all_eq_true.1 hall c (List.mem_of_getElem? Hx.out)
              rw [← vB_iff, hok] at this
              cases this
          have HRe := Lib.hid hRe
          clear hRe
          go_wp2_with (go_at_call 22; refine (kV _).mono ?_; rintro e w9 ⟨rfl, rfl⟩)
          go_ret2
          exact ⟨by rw [HRe.out]; rfl, hbel⟩
        | true =>
          simp only [hok] at kV
          have hd64 : dval c < 64 := by
            have := vB_iff c
            rw [hok] at this
            exact of_decide_eq_true this.symm
          have hva := vA_eq c hd64
          simp only [hva] at kV
          obtain ⟨v, hv⟩ : ∃ v, v = dval c := ⟨_, rfl⟩
          rw [← hv] at hd64
          simp only [← hv] at kV
          have hor := or_digit B v hd64
          obtain ⟨B1, hB1⟩ : ∃ B1, B1 = B * 64 % 4294967296 + v := ⟨_, rfl⟩
          have hB1lt : B1 < 4294967296 := by omega
          have hs6 := step_six hd64 HB.out (by omega)
          rw [← hB1] at hor hs6
          have hsn2 : digBits (t.data.toList.take (i + 1)) = digBits (t.data.toList.take i) ++ bitsW 6 v := by rw [Hsn.out, digBits_snoc, ← hv]
          have hch := chunks_app (n := 8) (by decide) (digBits (t.data.toList.take i)) (bitsW 6 v)
          have hrs := restC_app (n := 8) (by decide) (digBits (t.data.toList.take i)) (bitsW 6 v)
          rw [← hsn2] at hch hrs
          have hall2 : ∀ x ∈ t.data.toList.take (i + 1), dval x < 64 := fun x hx => by
            rw [Hsn.out] at hx
            rcases List.mem_append.1 hx with h | h
            · exact Hall.out x h
            · rw [List.mem_singleton.1 h, ← hv]; exact hd64
          have hrb : IsBits (restC 8 (digBits (t.data.toList.take i)) ++ bitsW 6 v) := isBits_app (fun x hx => isBits_flat 6 _ x ((restC_suffix (by decide) _).subset hx)) (bitsW_bits 6 v)
          have hrl : (restC 8 (digBits (t.data.toList.take i)) ++ bitsW 6 v).length = (restC 8 (digBits (t.data.toList.take i))).length + 6 := by rw [List.length_append, bitsW_len]
          have Hall2 := Lib.hid hall2
          have Hs6 := Lib.hid hs6
          have Hch := Lib.hid hch
          have Hrs := Lib.hid hrs
          have Hrb := Lib.hid hrb
          have Hrl := Lib.hid hrl
          clear hall2 hs6 hch hrs hrb hrl hsn2 hv hva hB1 HB Hall
          generalize restC 8 (digBits (t.data.toList.take i)) = r0 at *
          generalize chunks 8 (digBits (t.data.toList.take i)) = C0 at *
          by_cases h8 : 8 ≤ r0.length + 6
          · have hge : decide ((r0.length : Int) + 6 ≥ 8) = true := decide_eq_true (by omega)
            obtain ⟨hd1, hd2⟩ := step_eight Hrb.out (by rw [Hrl.out]; exact h8) Hs6.out
            have hszI := hbel.size
            have hR1 : restC 8 (digBits (t.data.toList.take (i + 1))) = (r0 ++ bitsW 6 v).drop 8 := by
              rw [Hrs.out, restC_ge (by decide) (by rw [Hrl.out]; exact h8), restC_lt (by rw [List.length_drop, Hrl.out]; omega)]
            obtain ⟨x, hx⟩ : ∃ x, x = valB ((r0 ++ bitsW 6 v).take 8) := ⟨_, rfl⟩
            have hC1 : chunks 8 (digBits (t.data.toList.take (i + 1))) = C0 ++ [x] := by
              rw [Hch.out, chunks_ge (by decide) (by rw [Hrl.out]; exact h8), chunks_lt (by rw [List.length_drop, Hrl.out]; omega), hx]
            have hl8 : ((r0 ++ bitsW 6 v).drop 8).length = r0.length - 2 := by rw [List.length_drop, Hrl.out]; omega
            rw [Hrl.out, show r0.length + 6 - 8 = r0.length - 2 by omega] at hd1 hd2
            rw [← hx] at hd1
            have hx256 : x < 256 := by omega
            have hval : (B1 : Int) / 2 ^ (r0.length - 2) % 256 = (x : Int) := by
              rw [← hd1]
              push_cast
              rfl
            have hxb : byteV (UInt8.ofNat x) = .int .u8 (x : Int) := by
              unfold byteV
              rw [UInt8.toNat_ofNat', Nat.mod_eq_of_lt hx256]
            have HR1 := Lib.hid hR1
            have HC1 := Lib.hid hC1
            have Hl8 := Lib.hid hl8
            have Hd2 := Lib.hid hd2
            have Hxb := Lib.hid hxb
            clear hR1 hC1 hl8 hd1 hd2 hx hxb
            go_wp2_with (first | (go_at_call 22; refine (kV _).mono ?_; rintro e w9 ⟨rfl, rfl⟩) | (at_builtin; refine wpList_append_own _ rfl _ _ 31 rfl w'.heap.size 5 i0 (.int .u8 0) 1 1 Tryd.underlying31 hi hz0 hz1 hz2 rfl (by decide) _ _ _ rfl (Hown.out.alloc _) ⟨_, 0, none⟩ 1 1 [.int .u8 (x : Int)] rfl rfl (cell_one_new _ _ _) (by simp [Value.oneCell']) (by unfold maxLen; omega) (by omega) (by simp; omega) ?_; intro v1 w3 hown1 hgrow1 _))
            have hB3 := (hbel.alloc hszI _).grown hgrow1 (by simp; omega) (fun j ej => (Hown.out.lt j ej).1)
            have Hown1 := Lib.hid hown1
            clear hown1 hgrow1
            go_roundw
            case rel =>
              refine ⟨i + 1, B1, by omega, by go_num, by rw [HR1.out, Hl8.out]; go_num, rfl, hB1lt, by rw [HR1.out, Hl8.out]; exact Hd2, Hall2, ?_, hB3⟩
              rw [HC1.out, List.length_append, List.map_append, cellsB_app]
              have e1 : cellsB ([x].map UInt8.ofNat) = [.int .u8 (x : Int)] := by rw [← Hxb.out]; rfl
              rw [e1]
              exact Hown1
            case measure => simp [intOf]; omega
          · have hge : decide ((r0.length : Int) + 6 ≥ 8) = false := decide_eq_false (by omega)
            have hR1 : restC 8 (digBits (t.data.toList.take (i + 1))) = r0 ++ bitsW 6 v := by rw [Hrs.out, restC_lt (by rw [Hrl.out]; omega)]
            have hC1 : chunks 8 (digBits (t.data.toList.take (i + 1))) = C0 := by rw [Hch.out, chunks_lt (by rw [Hrl.out]; omega), List.append_nil]
            have HR1 := Lib.hid hR1
            have HC1 := Lib.hid hC1
            clear hR1 hC1
            go_wp2_with (go_at_call 22; refine (kV _).mono ?_; rintro e w9 ⟨rfl, rfl⟩)
            go_roundw
            case rel => exact ⟨i + 1, B1, by omega, by go_num, by rw [HR1.out, Hrl.out]; go_num, rfl, hB1lt, by rw [HR1.out]; exact Hs6, Hall2, by rw [HC1.out]; exact Hown, hbel⟩
            case measure => simp [intOf]; omega
      · obtain rfl : i = t.size := by omega
        have htk : t.data.toList.take t.size = t.data.toList := List.take_of_length_le (Nat.le_refl _)
        rw [htk] at HB Hall Hown hr8 hcl2 ⊢
        have hallB : (t.data.toList.all fun c => decide (dval c < 64)) = true := List.all_eq_true.2 fun x hx => decide_eq_true (Hall.out x hx)
        have hRv := HR.out
        rw [if_pos hallB] at hRv
        have HRv := Lib.hid hRv
        clear hRv htk hallB HR
        generalize restC 8 (digBits t.data.toList) = r0 at *
        generalize chunks 8 (digBits t.data.toList) = C0 at *
        have hmask := and_mask B r0.length hBlt hr8
        rw [HB.out] at hmask
        by_cases hz : valB r0 = 0
        · rw [hz] at hmask
          have hRw := HRv.out
          rw [if_pos hz] at hRw
          have HRw := Lib.hid hRw
          have hcv := conv_owns (s := ⟨(C0.map UInt8.ofNat).toArray⟩) (by rw [strCells_of]; exact Hown.out)
          clear hRw hz
          go_wp2
          go_ret2
          exact ⟨by rw [HRw.out]; rfl, hbel⟩
        · have hzI : (((valB r0 : Nat) : Int) != 0) = true := by rw [bne_iff_ne]; omega
          have hRw := HRv.out
          rw [if_neg hz] at hRw
          have HRw := Lib.hid hRw
          clear hRw hz
          go_wp2
          go_ret2
          exact ⟨by rw [HRw.out]; rfl, hbel⟩
  · rw [if_neg h4] at hR
    have h4' : (((s.size : Nat) : Int) % 4 != 0) = true := by rw [bne_iff_ne]; omega
    have hRe : R = .tuple #[.string ByteArray.empty, .int .i64 7] := hR
    subst hRe
    go_enter Tryd.func9, Tryd.ntmps9
    go_wp2
    go_ret2
    exact ⟨rfl, Below.refl _ _⟩
end Go.Proofs.YtmghlbdhkjbejaaDoor
