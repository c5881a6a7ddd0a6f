/-
  nuncio/nuncioref04's Wrap, Unmail and Inner.
-/
import Derived.Test.YtmghlbdhkjbejaaDoorRefDecode
namespace Go.Proofs.YtmghlbdhkjbejaaDoor
set_option linter.unusedVariables false
set_option linter.unusedSimpArgs false
open Go.RowKit

set_option maxRecDepth 100000 in
set_option maxHeartbeats 2000000 in
theorem refWrap_any (w : World) (s : ByteArray) (wd : Int) (hs : s.size ≤ 3000000) (hw : -9223372036854775808 ≤ wd ∧ wd ≤ 9223372036854775807) :
    Calls Tryd.prog 14 #[.string s, .int .i64 wd] w fun e w' => e = .returned (.string ⟨(wrapI s.data.toList wd).toArray⟩) ∧ w = w' := by
  obtain ⟨E, hE⟩ : ∃ E : ByteArray, E = ⟨(wrapI s.data.toList wd).toArray⟩ := ⟨_, rfl⟩
  rw [← hE]
  have hEl : E.data.toList = wrapI s.data.toList wd := by rw [hE]
  unfold wrapI at hEl
  by_cases h1 : wd < 1
  · rw [if_pos h1] at hEl
    have hEs : E = s := bytes_ext hEl
    subst hEs
    clear hE hEl
    go_enter Tryd.func14, Tryd.ntmps14
    go_wp2
    go_ret
    exact ⟨rfl, rfl⟩
  · rw [if_neg h1] at hEl
    obtain ⟨k, hk⟩ : ∃ k : Nat, wd = (k : Int) := ⟨wd.toNat, by omega⟩
    subst hk
    rw [Int.toNat_natCast] at hEl
    have hk0 : 0 < k := by omega
    have HE := Lib.hid hEl
    clear hE hEl
    have h1' : decide ((k : Int) < 1) = false := decide_eq_false h1
    go_enter Tryd.func14, Tryd.ntmps14
    go_wp2
    go_loopw [0, 5] (fun sv ov wr => ∃ (r O : ByteArray), sv = .string r ∧ ov = .string O ∧ O.size + 3 * r.size ≤ 9000000 ∧ Hid (E.data.toList = O.data.toList ++ wrapL k r.data.toList) ∧ wr = w) (fun sv ov wr => match sv with | .string r => r.size | _ => 0)
    case atStart => exact ⟨s, ⟨#[]⟩, rfl, rfl, by show 0 + 3 * s.size ≤ _; omega, HE, rfl⟩
    case round =>
      obtain ⟨r, O, rfl, rfl, hOr, HEr, rfl⟩ := hrel
      have hrl : r.data.toList.length = r.size := rfl
      by_cases hlt : k < r.size
      · have hgt : decide ((r.size : Int) > (k : Int)) = true := decide_eq_true (by omega)
        have hkr : (k : Int) ≤ (r.size : Int) := by omega
        obtain ⟨x, hx⟩ : ∃ x : ByteArray, x = r.extract 0 k := ⟨_, rfl⟩
        obtain ⟨y, hy⟩ : ∃ y : ByteArray, y = r.extract k r.size := ⟨_, rfl⟩
        have hxl : x.data.toList = r.data.toList.take k := by rw [hx, extract_list, List.drop_zero]
        have hyl : y.data.toList = r.data.toList.drop k := by rw [hy, extract_list, ← hrl, List.take_length]
        have hxs : x.size = k := by rw [hx]; simp; omega
        have hys : y.size = r.size - k := by rw [hy]; simp
        have hEn : E.data.toList = (O ++ x ++ ⟨#[13, 10]⟩).data.toList ++ wrapL k y.data.toList := by
          rw [HEr.out, wrapL_long hk0 (by omega), app_list, app_list, hxl, hyl]
          simp only [List.append_assoc]
        have HEn := Lib.hid hEn
        have hx' : r.extract 0 k = x := hx.symm
        have hy' : r.extract k r.size = y := hy.symm
        clear hEn hx hy hxl hyl
        go_wp2
        go_roundw
        case rel =>
          refine ⟨y, O ++ x ++ ⟨#[13, 10]⟩, rfl, rfl, ?_, HEn, trivial⟩
          rw [ByteArray.size_append, ByteArray.size_append, show (⟨#[13, 10]⟩ : ByteArray).size = 2 from rfl]
          omega
        case measure => show y.size < r.size; omega
      · have hgt : decide ((r.size : Int) > (k : Int)) = false := decide_eq_false (by omega)
        have hEe : O ++ r = E := by
          refine bytes_ext ?_
          rw [app_list, HEr.out, wrapL_short (by omega)]
        go_wp2
        go_ret
        exact ⟨by rw [← hEe]; rfl, rfl⟩

set_option maxRecDepth 100000 in
set_option maxHeartbeats 2000000 in
theorem refUnmail_any (w : World) (s : ByteArray) (hs : s.size ≤ 2000) :
    Calls Tryd.prog 17 #[.string s] w fun e w' => e = .returned (decT (decR (bareL s.data.toList))) ∧ Below w.heap.size w w' := by
  obtain ⟨i0, hi, hz0, hz1, hz2⟩ := info_parts infoU8
  have hsl : s.data.toList.length = s.size := rfl
  obtain ⟨x, hx⟩ : ∃ x : ByteArray, x = ⟨(bareL s.data.toList).toArray⟩ := ⟨_, rfl⟩
  have hxl : bareL s.data.toList = x.data.toList := by rw [hx]
  have hxs : x.size ≤ s.size := by
    have := bareL_len s.data.toList
    rw [hxl] at this
    exact this
  have kD := fun W => refDecode_any W x (by omega)
  rw [hxl]
  obtain ⟨q, n, hq⟩ : ∃ (q : ByteArray) (n : Int), decT (decR x.data.toList) = .tuple #[.string q, .int .i64 n] := by
    cases decR x.data.toList with
    | none => exact ⟨_, _, rfl⟩
    | some y => exact ⟨_, _, rfl⟩
  rw [hq]
  simp only [hq] at kD
  clear hq
  have Hxl := Lib.hid hxl
  clear hx hxl
  go_enter Tryd.func17, Tryd.ntmps17
  go_wp2
  go_loopw [4, 5] (fun cv iv wr => ∃ i : Nat, i ≤ s.size ∧ iv = .int .i64 (i : Int) ∧ Hid (wr.ownsRow w.heap.size 5 1 cv (bareL (s.data.toList.take i)).length (cellsB (bareL (s.data.toList.take i)))) ∧ Below w.heap.size w wr) (fun cv iv wr => s.size - (intOf iv).toNat)
  case atStart => exact ⟨0, Nat.zero_le _, rfl, Lib.hid (World.ownsRow_made w #[] 0 (Nat.le_refl _) (by unfold maxLen; omega) rfl), (Below.refl _ _).alloc (Nat.le_refl _) _⟩
  case round =>
    obtain ⟨i, hi', rfl, Hown, hbel⟩ := hrel
    have hszI := hbel.size
    have hcb : (bareL (s.data.toList.take i)).length ≤ 1000000 := by
      have := bareL_len (s.data.toList.take i)
      rw [List.length_take] at this
      omega
    by_cases hlt : i < s.size
    · obtain ⟨c, hc⟩ : ∃ c, c = s[i] := ⟨_, rfl⟩
      have hx : s.data.toList[i]? = some c := by rw [hc]; exact List.getElem?_eq_getElem (by exact hlt)
      have hsn := bareL_snoc (s.data.toList.take i) c
      rw [← take_snoc hx] at hsn
      have hc' : s[i].toNat = c.toNat := by rw [hc]
      have hbk := blank_eq c
      have Hsn := Lib.hid hsn
      clear hc hx hsn
      cases hb : blankB c with
      | true =>
        rw [hb] at hbk
        have hB : bareL (s.data.toList.take (i + 1)) = bareL (s.data.toList.take i) := by rw [Hsn.out, if_pos hb, List.append_nil]
        have HBr := Lib.hid hB
        have hor : c.toNat = 9 ∨ c.toNat = 10 ∨ c.toNat = 13 ∨ c.toNat = 32 := by simpa [or_assoc] using hbk.symm
        clear hB hbk
        rcases hor with h | h | h | h
        all_goals
          rw [h] at hc'
          go_wp2
          go_roundw
          case rel => exact ⟨i + 1, by omega, by go_num, by rw [HBr.out]; exact Hown, hbel⟩
          case measure => simp [intOf]; omega
      | false =>
        rw [hb] at hbk
        have hB : bareL (s.data.toList.take (i + 1)) = bareL (s.data.toList.take i) ++ [c] := by rw [Hsn.out, if_neg (by rw [hb]; decide)]
        have HBr := Lib.hid hB
        have hn : ¬ c.toNat = 9 ∧ ¬ c.toNat = 10 ∧ ¬ c.toNat = 13 ∧ ¬ c.toNat = 32 := by
          have := hbk.symm
          simp at this
          exact ⟨this.1.1.1, this.1.1.2, this.1.2, this.2⟩
        obtain ⟨n9, n10, n13, n32⟩ := hn
        have e9 : ((c.toNat : Int) != 9) = true := by rw [bne_iff_ne]; omega
        have e10 : ((c.toNat : Int) != 10) = true := by rw [bne_iff_ne]; omega
        have e13 : ((c.toNat : Int) != 13) = true := by rw [bne_iff_ne]; omega
        have e32 : ((c.toNat : Int) != 32) = true := by rw [bne_iff_ne]; omega
        clear hB hbk n9 n10 n13 n32
        go_wp2_with (at_builtin; refine wpList_append_own _ rfl _ _ 31 rfl w.heap.size 5 i0 (.int .u8 0) 1 1 Tryd.underlying31 hi hz0 hz1 hz2 rfl (by decide) _ _ _ rfl (Hown.out.alloc _) ⟨wr.heap.size, 0, none⟩ 1 1 [.int .u8 (c.toNat : Int)] rfl rfl (cell_one_new _ _ _) (by simp [Value.oneCell']) (by unfold maxLen; omega) (by omega) (by simp; omega) ?_; intro v1 w3 hown1 hgrow1 _)
        have hB3 := (hbel.alloc hszI _).grown hgrow1 (by simp; omega) (fun j ej => (Hown.out.lt j ej).1)
        have Hown1 := Lib.hid hown1
        clear hown1 hgrow1
        go_roundw
        case rel =>
          refine ⟨i + 1, by omega, by go_num, ?_, hB3⟩
          rw [HBr.out, List.length_append, cellsB_app]
          exact Hown1
        case measure => simp [intOf]; omega
    · obtain rfl : i = s.size := by omega
      have htk : s.data.toList.take s.size = s.data.toList := List.take_of_length_le (Nat.le_refl _)
      rw [htk, Hxl.out] at Hown
      have hcv := conv_owns (s := x) (by exact Hown.out)
      go_wp2_with (go_at_call 10; refine (kD _).mono ?_; rintro e w9 ⟨rfl, hb9⟩)
      go_ret2
      exact ⟨rfl, hbel.trans (hb9.mono hszI)⟩

theorem six_take {l : List Nat} (h : 6 ≤ l.length) : (six l).take 6 = l.take 6 := by unfold six; rw [List.take_append_of_le_length h]
set_option maxRecDepth 100000 in
set_option maxHeartbeats 2000000 in
theorem refInner_any (w : World) (b : ByteArray) (ph : Int) (hb : b.size ≤ 10000) :
    Calls Tryd.prog 19 #[.string b, .int .i64 ph] w fun e w' => e = .returned (.string (if 0 ≤ ph ∧ ph ≤ 2 then ⟨((chunks 6 ((bitsS b.data.toList).drop (4 * ph.toNat % 6))).map dig).toArray⟩ else ByteArray.empty)) ∧ Below w.heap.size w w' := by
  by_cases h0 : ph < 0
  · rw [if_neg (by omega)]
    go_enter Tryd.func19, Tryd.ntmps19
    go_wp2
    go_ret
    exact ⟨rfl, Below.refl _ _⟩
  · by_cases h2 : 2 < ph
    · rw [if_neg (by omega)]
      clear h0
      have h0 : ¬ ph < 0 := by omega
      go_enter Tryd.func19, Tryd.ntmps19
      go_wp2
      go_ret
      exact ⟨rfl, Below.refl _ _⟩
    · rw [if_pos (by omega)]
      obtain ⟨p, hp⟩ : ∃ p : Nat, ph = (p : Int) := ⟨ph.toNat, by omega⟩
      subst hp
      rw [Int.toNat_natCast]
      obtain ⟨sk, hsk⟩ : ∃ sk : Nat, sk = 4 * p % 6 := ⟨_, rfl⟩
      rw [← hsk]
      have hp2 : p ≤ 2 := by omega
      have hskT : (6 - (8 * (p : Int)).tmod 6).tmod 6 = (sk : Int) := by
        rw [Int.tmod_eq_emod_of_nonneg (show (0 : Int) ≤ 8 * (p : Int) by omega), Int.tmod_eq_emod_of_nonneg (by omega)]
        omega
      have hskE : (6 - (8 * (p : Int)) % 6) % 6 = (sk : Int) := by omega
      have kB := refBits_any w b (by omega)
      have hbb := bitsS_bits b.data.toList
      have hbl := bitsS_len b.data.toList
      have hsl : b.data.toList.length = b.size := rfl
      generalize bitsS b.data.toList = L at *
      have hLl : L.length ≤ 80000 := by omega
      obtain ⟨X, hX⟩ : ∃ X : ByteArray, X = ⟨((chunks 6 (L.drop sk)).map dig).toArray⟩ := ⟨_, rfl⟩
      have hXl : X.data.toList = (chunks 6 (L.drop sk)).map dig := by rw [hX]
      rw [← hX]
      have HXl := Lib.hid hXl
      have Hbb := Lib.hid hbb
      clear hX hXl hbb hbl hsk
      go_enter Tryd.func19, Tryd.ntmps19
      go_wp2_with fail
      refine kB.mono ?_
      rintro e w1 ⟨v, rfl, hown, hbel⟩
      have hv := IsInts.of_owns hown rfl
      obtain ⟨ao, cap, rfl⟩ := hv.form
      have Hv := Lib.hid hv
      clear hown hv kB
      by_cases hlen : L.length < sk
      · have hXe : X = ByteArray.empty := by
          refine bytes_ext ?_
          rw [HXl.out, List.drop_of_length_le (by omega), chunks_lt (by decide)]
          rfl
        have hlI : decide ((L.length : Int) < (sk : Int)) = true := decide_eq_true (by omega)
        subst hXe
        go_wp2
        go_ret
        exact ⟨rfl, hbel⟩
      · have hlI : decide ((L.length : Int) < (sk : Int)) = false := decide_eq_false (by omega)
        have hskl : (sk : Int) ≤ (L.length : Int) := by omega
        have hv' := Hv.out.sliced sk (by omega)
        by_cases hcs : cap = sk
        · subst hcs
          rw [if_pos rfl, Nat.sub_self] at hv'
          have Hv' := Lib.hid hv'
          clear hv'
          go_wp2
          go_loopw [5, 7] (fun lv sv wr => ∃ (r : List Nat) (S : ByteArray), Hid (IsInts w1 lv r) ∧ (∃ ao cap, lv = .slice ao r.length cap) ∧ r.length ≤ 80000 ∧ Hid (IsBits r) ∧ sv = .string S ∧ Hid (X.data.toList = S.data.toList ++ (chunks 6 r).map dig) ∧ S.size ≤ 20000 ∧ wr = w1) (fun lv sv wr => match lv with | .slice _ n _ => n | _ => 0)
          case atStart => exact ⟨L.drop cap, ⟨#[]⟩, Hv', Hv'.out.form, by rw [List.length_drop]; omega, Lib.hid (isBits_drop Hbb.out cap), rfl, HXl, by decide, rfl⟩
          case round =>
            obtain ⟨r, S, HvR, ⟨ao', cap', rfl⟩, hrl, HbR, rfl, HDR, hSs, rfl⟩ := hrel
            by_cases h6 : 6 ≤ r.length
            · have hge : decide ((r.length : Int) ≥ 6) = true := decide_eq_true (by omega)
              have kG := refDigit_any wr (.slice ao' r.length cap') r HvR.out HbR.out (by omega)
              rw [six_take h6] at kG
              obtain ⟨d, hd⟩ : ∃ d, d = dig (valB (r.take 6)) := ⟨_, rfl⟩
              rw [← hd] at kG
              have hD2 : X.data.toList = (S ++ ⟨#[d]⟩).data.toList ++ (chunks 6 (r.drop 6)).map dig := by
                rw [HDR.out, chunks_ge (by decide) h6, app_list, hd]
                simp
              have hv6 := HvR.out.sliced 6 h6
              have hSd : S.size + 1 ≤ 20000 := by
                have h1 := congrArg List.length hD2
                have h2 : (S ++ ⟨#[d]⟩ : ByteArray).data.toList.length = S.size + 1 := by
                  show (S ++ ⟨#[d]⟩ : ByteArray).size = _
                  rw [ByteArray.size_append]
                  rfl
                have h3 := congrArg List.length HXl.out
                rw [List.length_map, chunks_len (by decide), List.length_drop] at h3
                rw [List.length_append, List.length_map] at h1
                omega
              have Hv6 := Lib.hid hv6
              have HD2 := Lib.hid hD2
              clear hD2 hv6 hd
              go_wp2_with (go_at_call 25; refine kG.mono ?_; rintro e w9 ⟨rfl, rfl⟩)
              all_goals
                refine ⟨⟨r.drop 6, ?_, by rw [List.length_drop], by rw [List.length_drop]; omega, Lib.hid (isBits_drop HbR.out 6), Lib.hid (by rw [HD2.out, app_list]; simp)⟩, by omega⟩
                first
                  | (have e : cap' = 6 := by assumption
                     subst e
                     exact Lib.hid (by have h := Hv6.out; rw [if_pos rfl] at h; exact h))
                  | (have e : ¬ cap' = 6 := by assumption
                     exact Lib.hid (by have h := Hv6.out; rw [if_neg e] at h; exact h))
            · have hge : decide ((r.length : Int) ≥ 6) = false := decide_eq_false (by omega)
              have hXS : X = S := by
                refine bytes_ext ?_
                rw [HDR.out, chunks_lt (by omega)]
                simp
              have HXS := Lib.hid hXS
              clear hXS
              go_wp2
              go_ret
              exact ⟨by rw [HXS.out]; rfl, hbel⟩
        · rw [if_neg hcs] at hv'
          have Hv' := Lib.hid hv'
          clear hv'
          go_wp2
          go_loopw [5, 7] (fun lv sv wr => ∃ (r : List Nat) (S : ByteArray), Hid (IsInts w1 lv r) ∧ (∃ ao cap, lv = .slice ao r.length cap) ∧ r.length ≤ 80000 ∧ Hid (IsBits r) ∧ sv = .string S ∧ Hid (X.data.toList = S.data.toList ++ (chunks 6 r).map dig) ∧ S.size ≤ 20000 ∧ wr = w1) (fun lv sv wr => match lv with | .slice _ n _ => n | _ => 0)
          case atStart => exact ⟨L.drop sk, ⟨#[]⟩, Hv', Hv'.out.form, by rw [List.length_drop]; omega, Lib.hid (isBits_drop Hbb.out sk), rfl, HXl, by decide, rfl⟩
          case round =>
            obtain ⟨r, S, HvR, ⟨ao', cap', rfl⟩, hrl, HbR, rfl, HDR, hSs, rfl⟩ := hrel
            by_cases h6 : 6 ≤ r.length
            · have hge : decide ((r.length : Int) ≥ 6) = true := decide_eq_true (by omega)
              have kG := refDigit_any wr (.slice ao' r.length cap') r HvR.out HbR.out (by omega)
              rw [six_take h6] at kG
              obtain ⟨d, hd⟩ : ∃ d, d = dig (valB (r.take 6)) := ⟨_, rfl⟩
              rw [← hd] at kG
              have hD2 : X.data.toList = (S ++ ⟨#[d]⟩).data.toList ++ (chunks 6 (r.drop 6)).map dig := by
                rw [HDR.out, chunks_ge (by decide) h6, app_list, hd]
                simp
              have hv6 := HvR.out.sliced 6 h6
              have hSd : S.size + 1 ≤ 20000 := by
                have h1 := congrArg List.length hD2
                have h2 : (S ++ ⟨#[d]⟩ : ByteArray).data.toList.length = S.size + 1 := by
                  show (S ++ ⟨#[d]⟩ : ByteArray).size = _
                  rw [ByteArray.size_append]
                  rfl
                have h3 := congrArg List.length HXl.out
                rw [List.length_map, chunks_len (by decide), List.length_drop] at h3
                rw [List.length_append, List.length_map] at h1
                omega
              have Hv6 := Lib.hid hv6
              have HD2 := Lib.hid hD2
              clear hD2 hv6 hd
              go_wp2_with (go_at_call 25; refine kG.mono ?_; rintro e w9 ⟨rfl, rfl⟩)
              all_goals
                refine ⟨⟨r.drop 6, ?_, by rw [List.length_drop], by rw [List.length_drop]; omega, Lib.hid (isBits_drop HbR.out 6), Lib.hid (by rw [HD2.out, app_list]; simp)⟩, by omega⟩
                first
                  | (have e : cap' = 6 := by assumption
                     subst e
                     exact Lib.hid (by have h := Hv6.out; rw [if_pos rfl] at h; exact h))
                  | (have e : ¬ cap' = 6 := by assumption
                     exact Lib.hid (by have h := Hv6.out; rw [if_neg e] at h; exact h))
            · have hge : decide ((r.length : Int) ≥ 6) = false := decide_eq_false (by omega)
              have hXS : X = S := by
                refine bytes_ext ?_
                rw [HDR.out, chunks_lt (by omega)]
                simp
              have HXS := Lib.hid hXS
              clear hXS
              go_wp2
              go_ret
              exact ⟨by rw [HXS.out]; rfl, hbel⟩
end Go.Proofs.YtmghlbdhkjbejaaDoor
