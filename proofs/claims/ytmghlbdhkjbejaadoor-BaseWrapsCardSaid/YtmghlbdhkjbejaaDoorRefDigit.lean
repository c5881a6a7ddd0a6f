/-
  nuncio/nuncioref04's digit, value and Encode.
-/
import Derived.Test.YtmghlbdhkjbejaaDoorRefBits
import Derived.Test.YtmghlbdhkjbejaaDoorBaseEncode
namespace Go.Proofs.YtmghlbdhkjbejaaDoor
set_option linter.unusedVariables false
set_option linter.unusedSimpArgs false
open Go.RowKit

theorem IsInts.sliced {w : World} {ao : Option Addr} {cap : Nat} {l : List Nat} (h : IsInts w (.slice ao l.length cap) l) (k : Nat) (hk : k ≤ l.length) : IsInts w (.slice (if cap = k then ao else Option.map (fun x => x.add k) ao) (l.length - k) (cap - k)) (l.drop k) := by
  by_cases hkl : k = l.length
  · subst hkl
    exact .inl ⟨_, _, by rw [Nat.sub_self], List.drop_length⟩
  · rcases h with ⟨ao', cap', hv, rfl⟩ | ⟨b, off, cap', hv, hcap, hlt, hc⟩
    · simp at hk
      simp at hkl
      omega
    · cases hv
      rw [if_neg (by omega)]
      refine .inr ⟨b, off + k, cap - k, ?_, by rw [List.length_drop]; omega, hlt, fun j hj => ?_⟩
      · rw [List.length_drop]
        simp [Addr.add]
      · rw [List.length_drop] at hj
        have := hc (k + j) (by omega)
        rw [Nat.add_assoc, this]
        simp
theorem digit_cut' : ∀ n : Fin 64, (⟨digTab.toArray⟩ : ByteArray).extract n.1 (n.1 + 1) = ⟨#[dig n.1]⟩ := by decide +kernel
theorem digit_cut (n : Nat) (h : n < 64) : (⟨digTab.toArray⟩ : ByteArray).extract n (n + 1) = ⟨#[dig n]⟩ := digit_cut' ⟨n, h⟩
theorem digTab_size : (⟨digTab.toArray⟩ : ByteArray).size = 64 := by decide +kernel
def six (l : List Nat) : List Nat := l ++ List.replicate 6 0
theorem six_bits {l : List Nat} (h : IsBits l) : IsBits (six l) := isBits_app h (isBits_zeros 6)
theorem six_at (l : List Nat) (i : Nat) (hi : i < 6) : (six l)[i]? = some (if h : i < l.length then l[i] else 0) := by
  unfold six
  by_cases h : i < l.length
  · rw [dif_pos h, List.getElem?_append_left h, List.getElem?_eq_getElem h]
  · rw [dif_neg h, List.getElem?_append_right (by omega), List.getElem?_replicate, if_pos (by omega)]

theorem idx_first {c : UInt8} {i : Nat} (h : c ∉ digTab.take i) (hx : digTab[i]? = some c) : dval c = i := by
  unfold dval
  have e := List.take_append_drop i digTab
  have hi := (List.getElem?_eq_some_iff.1 hx).1
  have hl : (digTab.take i).length = i := by rw [List.length_take]; omega
  have hd : digTab.drop i = c :: digTab.drop (i + 1) := by
    rw [List.drop_eq_getElem_cons hi]
    congr 1
    exact (List.getElem?_eq_some_iff.1 hx).2
  conv => lhs; rw [← e]
  rw [List.idxOf_append, if_neg h, hd, List.idxOf_cons_self, hl, Nat.zero_add]
set_option maxRecDepth 100000 in
set_option maxHeartbeats 2000000 in
theorem refDigit_any (w : World) (v : Value) (l : List Nat) (hv : IsInts w v l) (hb : IsBits l) (hl : l.length ≤ 10000000) :
    Calls Tryd.prog 25 #[v] w fun e w' => e = .returned (.string ⟨#[dig (valB ((six l).take 6))]⟩) ∧ w = w' := by
  obtain ⟨ao, cap, rfl⟩ := hv.form
  have Hv := Lib.hid hv
  have Hb := Lib.hid hb
  have hlt6 : valB ((six l).take 6) < 64 := by
    have := valB_lt ((six l).take 6) (fun x hx => six_bits hb x (List.mem_of_mem_take hx))
    have hl6 : ((six l).take 6).length = 6 := by rw [List.length_take]; unfold six; rw [List.length_append, List.length_replicate]; omega
    rw [hl6] at this
    exact this
  have hcut := digit_cut _ hlt6
  obtain ⟨V, hV⟩ : ∃ V, V = valB ((six l).take 6) := ⟨_, rfl⟩
  rw [← hV] at hlt6 hcut ⊢
  have HV := Lib.hid hV
  have kD := fun W => refDigits_any W
  obtain ⟨T, hT⟩ : ∃ T : ByteArray, T = ⟨digTab.toArray⟩ := ⟨_, rfl⟩
  have hTs : T.size = 64 := by rw [hT]; exact digTab_size
  rw [← hT] at hcut
  simp only [← hT] at kD
  clear hv hb hV hT
  go_enter Tryd.func25, Tryd.ntmps25
  go_wp2
  go_loopw [3, 4] (fun nv iv wr => ∃ i n : Nat, i ≤ 6 ∧ iv = .int .i64 (i : Int) ∧ nv = .int .i64 (n : Int) ∧ Hid (n = valB ((six l).take i)) ∧ n ≤ 64 ∧ wr = w) (fun nv iv wr => 6 - (intOf iv).toNat)
  case atStart => exact ⟨0, 0, by omega, rfl, rfl, Lib.hid rfl, by omega, rfl⟩
  case round =>
    obtain ⟨i, n, hi6, rfl, rfl, Hn, hn64, rfl⟩ := hrel
    by_cases hlt : i < 6
    · have hat := six_at l i hlt
      have hsn : valB ((six l).take (i + 1)) = 2 * n + (if h : i < l.length then l[i] else 0) := by rw [take_snoc hat, valB_snoc, Hn.out]
      have hlt2 : valB ((six l).take (i + 1)) ≤ 64 := by
        have h1 := valB_lt ((six l).take (i + 1)) (fun x hx => six_bits Hb.out x (List.mem_of_mem_take hx))
        have h2 : ((six l).take (i + 1)).length = i + 1 := by rw [List.length_take]; unfold six; rw [List.length_append, List.length_replicate]; omega
        rw [h2] at h1
        have h3 : 2 ^ (i + 1) ≤ 2 ^ 6 := Nat.pow_le_pow_right (by decide) (by omega)
        have h4 : (2 : Nat) ^ 6 = 64 := by decide
        omega
      by_cases hil : i < l.length
      · rw [dif_pos hil] at hsn
        obtain ⟨x, hx⟩ : ∃ x, x = l[i] := ⟨_, rfl⟩
        rw [← hx] at hsn
        have hx1 : x < 2 := Hb.out x (by rw [hx]; exact List.getElem_mem hil)
        obtain ⟨b, off, rfl, hcell⟩ : ∃ b off, ao = some ⟨b, off, none⟩ ∧ wr.cell? ⟨b, off + i, none⟩ = some (.int .i64 (x : Int)) := by
          rcases Hv.out with ⟨ao', cap', h, h0⟩ | ⟨b, off, cap', h, _, _, hc⟩
          · rw [h0] at hil; simp at hil
          · cases h
            exact ⟨b, off, rfl, by rw [hx]; exact hc i hil⟩
        have Hsn := Lib.hid hsn
        clear hsn hat hx
        go_wp2
        go_roundw
        case rel => exact ⟨i + 1, 2 * n + x, by omega, by go_num, by go_num, Lib.hid Hsn.out.symm, by rw [← Hsn.out]; exact hlt2, trivial⟩
        case measure => simp [intOf]; omega
      · rw [dif_neg hil, Nat.add_zero] at hsn
        have Hsn := Lib.hid hsn
        clear hsn hat
        go_wp2
        go_roundw
        case rel => exact ⟨i + 1, 2 * n, by omega, by go_num, by go_num, Lib.hid Hsn.out.symm, by have := Hsn.out; omega, trivial⟩
        case measure => simp [intOf]; omega
    · obtain rfl : i = 6 := by omega
      obtain rfl : n = V := by rw [Hn.out, HV.out]
      have hT64 : (n : Int) + 1 ≤ (T.size : Int) := by omega
      go_wp2_with (go_at_call 28; refine (kD _).mono ?_; rintro e w' ⟨rfl, rfl⟩)
      go_ret
      exact ⟨by rw [← hcut]; rfl, rfl⟩

set_option maxRecDepth 100000 in
set_option maxHeartbeats 2000000 in
theorem refValue_any (w : World) (c : UInt8) :
    Calls Tryd.prog 23 #[.int .u8 (c.toNat : Int)] w fun e w' => e = .returned (.int .i64 (dval c : Int)) ∧ w = w' := by
  obtain ⟨T, hT⟩ : ∃ T : ByteArray, T = ⟨digTab.toArray⟩ := ⟨_, rfl⟩
  have hTs : T.size = 64 := by rw [hT]; exact digTab_size
  have hTl : T.data.toList = digTab := by rw [hT]
  have kD := fun W => refDigits_any W
  simp only [← hT] at kD
  obtain ⟨R, hR⟩ : ∃ R, R = dval c := ⟨_, rfl⟩
  rw [← hR]
  have HR := Lib.hid hR
  have HTl := Lib.hid hTl
  clear hT hTl hR
  go_enter Tryd.func23, Tryd.ntmps23
  go_wp2_with (go_at_call 28; refine (kD _).mono ?_; rintro e w' ⟨rfl, rfl⟩)
  go_loopw [4] (fun iv wr => ∃ i : Nat, i ≤ 64 ∧ iv = .int .i64 (i : Int) ∧ Hid (c ∉ digTab.take i) ∧ wr = w') (fun iv wr => 64 - (intOf iv).toNat)
  case atStart => exact ⟨0, by omega, rfl, Lib.hid (by simp), rfl⟩
  case round =>
    obtain ⟨i, hi64, rfl, Hno, rfl⟩ := hrel
    by_cases hlt : i < 64
    · have hiT : i < T.size := by omega
      obtain ⟨x, hx⟩ : ∃ x, x = T[i] := ⟨_, rfl⟩
      have hxt : digTab[i]? = some x := by
        rw [← HTl.out, hx]
        exact List.getElem?_eq_getElem (by exact hiT)
      have hx' : T[i].toNat = x.toNat := by rw [hx]
      have hiI : (i : Int) < (T.size : Int) := by omega
      have Hxt := Lib.hid hxt
      clear hx hxt
      by_cases he : x = c
      · have hRi : R = i := by rw [HR.out]; exact idx_first Hno.out (he ▸ Hxt.out)
        have heq : ((x.toNat : Int) == (c.toNat : Int)) = true := by rw [he]; simp
        have HRi := Lib.hid hRi
        clear he hRi
        go_wp2
        go_ret
        exact ⟨by rw [HRi.out]; rfl, rfl⟩
      · have heq : ((x.toNat : Int) == (c.toNat : Int)) = false := by
          rw [beq_eq_false_iff_ne]
          intro h
          exact he (UInt8.toNat_inj.1 (by omega))
        have hno2 : c ∉ digTab.take (i + 1) := by
          rw [take_snoc Hxt.out]
          intro h
          rcases List.mem_append.1 h with h | h
          · exact Hno.out h
          · exact he (List.mem_singleton.1 h).symm
        have Hno2 := Lib.hid hno2
        clear he hno2
        go_wp2
        go_roundw
        case rel => exact ⟨i + 1, by omega, by go_num, Hno2, trivial⟩
        case measure => simp [intOf]; omega
    · obtain rfl : i = 64 := by omega
      have hR64 : R = 64 := by
        rw [HR.out]
        have h := Hno.out
        rw [List.take_of_length_le (by decide)] at h
        exact List.idxOf_eq_length h
      go_wp2
      go_ret
      exact ⟨by rw [hR64]; rfl, rfl⟩

theorem app_list (x y : ByteArray) : (x ++ y).data.toList = x.data.toList ++ y.data.toList := by simp
set_option maxRecDepth 100000 in
set_option maxHeartbeats 2000000 in
theorem refEncode_any (w : World) (b : ByteArray) (hb : b.size ≤ 10000) :
    Calls Tryd.prog 11 #[.string b] w fun e w' => e = .returned (.string ⟨(encL b.data.toList).toArray⟩) ∧ Below w.heap.size w w' := by
  have kB := refBits_any w b (by omega)
  have hbb := bitsS_bits b.data.toList
  have hbl := bitsS_len b.data.toList
  have hsl : b.data.toList.length = b.size := rfl
  obtain ⟨X, hX⟩ : ∃ X : ByteArray, X = ⟨(encL b.data.toList).toArray⟩ := ⟨_, rfl⟩
  rw [← hX]
  have hXl : X.data.toList = encL b.data.toList := by rw [hX]
  unfold encL at hXl
  have hpad := encD_pad b.data.toList
  have hDl := encD_len b.data.toList
  have hDb : (encD b.data.toList).length ≤ 20000 := by omega
  have hD0 : encD b.data.toList = (encV (bitsS b.data.toList)).map dig := rfl
  generalize encD b.data.toList = D at *
  generalize bitsS b.data.toList = L at *
  have hLl : L.length ≤ 80000 := by omega
  have HXl := Lib.hid hXl
  have HD0 := Lib.hid hD0
  have Hbb := Lib.hid hbb
  clear hX hXl hDl hD0 hbb hbl
  go_enter Tryd.func11, Tryd.ntmps11
  go_wp2_with fail
  refine kB.mono ?_
  rintro e w1 ⟨v, rfl, hown, hbel⟩
  have hv := IsInts.of_owns hown rfl
  obtain ⟨ao, cap, rfl⟩ := hv.form
  have Hv := Lib.hid hv
  clear hown hv kB
  go_wp2
  go_loopw [3, 4] (fun lv sv wr => ∃ (r : List Nat) (S : ByteArray), Hid (IsInts wr lv r) ∧ (∃ ao cap, lv = .slice ao r.length cap) ∧ r.length ≤ 80000 ∧ Hid (IsBits r) ∧ sv = .string S ∧ Hid (D = S.data.toList ++ (encV r).map dig) ∧ S.size ≤ 20000 ∧ Below w.heap.size w wr) (fun lv sv wr => match lv with | .slice _ n _ => n | _ => 0)
  case atStart => exact ⟨L, ⟨#[]⟩, Hv, ⟨ao, cap, rfl⟩, hLl, Hbb, rfl, HD0, by decide, hbel⟩
  case round =>
    obtain ⟨r, S, HvR, ⟨ao', cap', rfl⟩, hrl, HbR, rfl, HDR, hSs, hbelR⟩ := hrel
    have hszR := hbelR.size
    by_cases hr : r = []
    · have hr0 : r.length = 0 := by rw [hr]; rfl
      have hDS : D = S.data.toList := by rw [HDR.out, hr, encV_nil]; simp
      have hDs : D.length = S.size := by rw [hDS]; rfl
      have HDS := Lib.hid hDS
      clear hr hDS
      go_wp2
      go_loopw [4] (fun sv wi => ∃ (j : Nat) (Y : ByteArray), j ≤ padN D.length ∧ sv = .string Y ∧ Hid (Y.data.toList = D ++ List.replicate j 61) ∧ Y.size = D.length + j ∧ wi = wr) (fun sv wi => D.length + 2 - (match sv with | .string y => y.size | _ => 0))
      case atStart => exact ⟨0, S, Nat.zero_le _, rfl, Lib.hid (by rw [← HDS.out]; simp), by omega, rfl⟩
      case round =>
        obtain ⟨j, Y, hj, rfl, HY, hYs, rfl⟩ := hrel
        have hpm := pad_mod D.length j hj
        rw [← hYs] at hpm
        by_cases hjp : j < padN D.length
        · rw [decide_eq_true hjp] at hpm
          go_wp2
          go_roundw
          case rel =>
            refine ⟨j + 1, Y ++ ⟨#[61]⟩, by omega, rfl, Lib.hid ?_, ?_, trivial⟩
            · rw [app_list, HY.out, List.replicate_succ', List.append_assoc]
            · rw [ByteArray.size_append, hYs]
              rfl
          case measure =>
            show D.length + 2 - (Y ++ ⟨#[61]⟩).size < D.length + 2 - Y.size
            rw [ByteArray.size_append, show (⟨#[61]⟩ : ByteArray).size = 1 from rfl]
            omega
        · rw [decide_eq_false hjp] at hpm
          have hYX : Y = X := by
            refine bytes_ext ?_
            rw [HY.out, HXl.out, show j = padN D.length by omega]
          have HYX := Lib.hid hYX
          clear hYX
          go_wp2
          go_ret
          exact ⟨by rw [HYX.out]; rfl, hbelR⟩
    · have hr0 : 0 < r.length := List.length_pos_iff.2 hr
      have hcons := encV_cons r hr
      have kG := fun W hW => refDigit_any W (.slice ao' r.length cap') r hW HbR.out (by omega)
      obtain ⟨d, hd⟩ : ∃ d, d = dig (valB ((six r).take 6)) := ⟨_, rfl⟩
      simp only [← hd] at kG
      have hD2 : D = (S ++ ⟨#[d]⟩).data.toList ++ (encV (r.drop 6)).map dig := by
        rw [HDR.out, hcons, app_list, hd]
        simp [six]
      obtain ⟨mn, hmn⟩ : ∃ mn : Nat, mn = min 6 r.length := ⟨_, rfl⟩
      have hmI : (if (r.length : Int) < 6 then (r.length : Int) else 6).toNat = mn := by split <;> omega
      have hv' := HvR.out.sliced mn (by omega)
      have hle6 : mn ≤ r.length := by omega
      have hmp : 0 < mn := by omega
      have hdrop : r.drop mn = r.drop 6 := by
        rcases Nat.lt_or_ge r.length 6 with h | h
        · rw [List.drop_of_length_le (by omega), List.drop_of_length_le (by omega)]
        · rw [show mn = 6 by omega]
      rw [hdrop] at hv'
      have hSd : S.size + 1 ≤ 20000 := by
        have h1 := congrArg List.length hD2
        rw [List.length_append, List.length_map] at h1
        have h2 : (S ++ ⟨#[d]⟩ : ByteArray).data.toList.length = S.size + 1 := by
          show (S ++ ⟨#[d]⟩ : ByteArray).size = _
          rw [ByteArray.size_append]
          rfl
        omega
      have Hv' := Lib.hid hv'
      have HD2 := Lib.hid hD2
      have Hd := Lib.hid hd
      clear hcons hD2 hv' hdrop hd hr hmn
      go_wp2_with (go_at_call 25; refine (kG _ HvR.out).mono ?_; rintro e w9 ⟨rfl, rfl⟩)
      go_roundw
      case rel => exact ⟨r.drop 6, S ++ ⟨#[d]⟩, Hv', Hv'.out.form, by rw [List.length_drop]; omega, Lib.hid (isBits_drop HbR.out 6), rfl, HD2, by rw [ByteArray.size_append]; exact hSd, hbelR⟩
      case measure =>
        show r.length - mn < r.length
        omega
end Go.Proofs.YtmghlbdhkjbejaaDoor
