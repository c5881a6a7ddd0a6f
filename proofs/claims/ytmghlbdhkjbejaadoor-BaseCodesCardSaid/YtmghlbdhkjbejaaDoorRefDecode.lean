/-
  nuncio/nuncioref04's Decode and Unmail.
-/
import Derived.Test.YtmghlbdhkjbejaaDoorRefDigit
import Derived.Test.YtmghlbdhkjbejaaDoorBaseWrap
namespace Go.Proofs.YtmghlbdhkjbejaaDoor
set_option linter.unusedVariables false
set_option linter.unusedSimpArgs false
open Go.RowKit

theorem row_keep {w w' : World} {B : Nat} {t : TypeId} {v : Value} {n : Nat} {xs : List Value} {k : Nat} (h : w.ownsRow B t k v n xs) (hb : Below w.heap.size w w') : w'.ownsRow B t k v n xs := by
  refine ⟨h.1, ?_⟩
  rcases h.2 with hn | ⟨g, cap, cur, h1, h2, h3, h4⟩
  · exact .inl hn
  · exact .inr ⟨g, cap, cur, h1, h2, (hb.block g (Array.getElem?_eq_some_iff.1 h3).1).trans h3, h4⟩
theorem bits6_at (c j : Nat) (hj : j < 6) : (bitsW 6 c)[j]? = some (c / (32 / 2 ^ j) % 2) := by
  have e : bitsW 6 c = [c / 2 / 2 / 2 / 2 / 2 % 2, c / 2 / 2 / 2 / 2 % 2, c / 2 / 2 / 2 % 2, c / 2 / 2 % 2, c / 2 % 2, c % 2] := by
    simp [bitsW]
  rw [e]
  match j, hj with
  | 0, _ | 1, _ | 2, _ | 3, _ | 4, _ | 5, _ => simp [Nat.div_div_eq_div_mul]
theorem half_pow6 (j : Nat) : 32 / 2 ^ j / 2 = 32 / 2 ^ (j + 1) := by rw [Nat.div_div_eq_div_mul, Nat.pow_succ]
theorem bitsR_snoc (l : List UInt8) (c : UInt8) : bitsR (l ++ [c]) = bitsR l ++ (if dval c < 64 then bitsW 6 (dval c) else []) := by
  rw [bitsR_app]
  congr 1
  unfold bitsR
  simp
theorem bitsR_len (l : List UInt8) : (bitsR l).length ≤ 6 * l.length := by
  induction l with
  | nil => simp [bitsR]
  | cons c l ih =>
    have h : bitsR (c :: l) = (if dval c < 64 then bitsW 6 (dval c) else []) ++ bitsR l := by unfold bitsR; rw [List.flatMap_cons]
    rw [h, List.length_append, List.length_cons]
    split
    · rw [bitsW_len]; omega
    · simp; omega
theorem bitsR_bits (l : List UInt8) : IsBits (bitsR l) := fun x hx => by
  obtain ⟨c, _, hc⟩ := List.mem_flatMap.1 hx
  split at hc
  · exact bitsW_bits _ _ x hc
  · cases hc

theorem val_bit6 (n K x : Nat) (hc : n ≤ 64) (hx : x = n / K % 2) : (wrap64 ((n : Int).tdiv (K : Int))).tmod 2 = (x : Int) := by
  have h3 : n / K ≤ 64 := Nat.le_trans (Nat.div_le_self _ _) (by omega)
  rw [Int.tdiv_eq_ediv_of_nonneg (Int.natCast_nonneg n), ← Int.natCast_ediv, hx]
  exact wrap_mod2 (n / K) (by omega)
set_option maxRecDepth 100000 in
set_option maxHeartbeats 4000000 in
theorem refDecode_any (w : World) (s : ByteArray) (hs : s.size ≤ 2000) :
    Calls Tryd.prog 10 #[.string s] w fun e w' => e = .returned (decT (decR s.data.toList)) ∧ Below w.heap.size w w' := by
  obtain ⟨i0, hi, hz0, hz1, hz2⟩ := info_parts infoInt
  obtain ⟨i1, hi1, hy0, hy1, hy2⟩ := info_parts infoU8
  have hsl : s.data.toList.length = s.size := rfl
  obtain ⟨R, hR⟩ : ∃ R, R = decT (decR s.data.toList) := ⟨_, rfl⟩
  rw [← hR]
  have HRd := Lib.hid hR
  clear hR
  go_enter Tryd.func10, Tryd.ntmps10
  go_wp2
  go_loopw [4, 5] (fun cv iv wr => ∃ i : Nat, i ≤ s.size ∧ iv = .int .i64 (i : Int) ∧ Hid (wr.ownsRow w.heap.size 3 1 cv (bitsR (s.data.toList.take i)).length ((bitsR (s.data.toList.take i)).map natV)) ∧ Below w.heap.size w wr) (fun cv iv wr => s.size - (intOf iv).toNat)
  case atStart => exact ⟨0, Nat.zero_le _, rfl, Lib.hid (World.ownsRow_made w #[] 0 (Nat.le_refl _) (by unfold maxLen; omega) rfl), (Below.refl _ _).alloc (Nat.le_refl _) _⟩
  case round =>
    obtain ⟨i, hib, rfl, Hown, hbel⟩ := hrel
    by_cases hlt : i < s.size
    · obtain ⟨c, hc⟩ : ∃ c, c = s[i] := ⟨_, rfl⟩
      have hx : s.data.toList[i]? = some c := by rw [hc]; exact List.getElem?_eq_getElem (by exact hlt)
      have hsn := bitsR_snoc (s.data.toList.take i) c
      rw [← take_snoc hx] at hsn
      have hc' : s[i].toNat = c.toNat := by rw [hc]
      have kV := fun W => refValue_any W c
      have hlen := bitsR_len (s.data.toList.take i)
      rw [List.length_take] at hlen
      have hlen2 : (bitsR (s.data.toList.take i)).length ≤ 12000 := by omega
      obtain ⟨n, hn⟩ : ∃ n, n = dval c := ⟨_, rfl⟩
      have hn64 : n ≤ 64 := by rw [hn]; exact dval_le c
      rw [← hn] at hsn
      simp only [← hn] at kV
      have Hsn := Lib.hid hsn
      clear hx hsn hlen hc hn
      generalize bitsR (s.data.toList.take i) = L0 at *
      by_cases hnl : n < 64
      · have hsn := Hsn.out
        rw [if_pos hnl] at hsn
        have Hsn2 := Lib.hid hsn
        clear hsn
        have hnI : decide ((n : Int) < 64) = true := decide_eq_true (by omega)
        go_wp2_with (go_at_call 23; refine (kV _).mono ?_; rintro e w9 ⟨rfl, rfl⟩)
        go_loopw [4, 7] (fun cv kv wi => ∃ j : Nat, j ≤ 6 ∧ kv = .int .i64 ((32 / 2 ^ j : Nat) : Int) ∧ Hid (wi.ownsRow w.heap.size 3 1 cv (L0.length + j) ((L0 ++ (bitsW 6 n).take j).map natV)) ∧ Below w.heap.size w wi) (fun cv kv wi => (intOf kv).toNat)
        case atStart => exact ⟨0, by omega, rfl, by rw [List.take_zero, List.append_nil]; exact Hown, hbel⟩
        case round =>
          obtain ⟨j, hj, rfl, HownJ, hbelJ⟩ := hrel
          have hszJ := hbelJ.size
          have hhalf := half_pow6 j
          by_cases hj6 : j < 6
          · have hat := bits6_at n j hj6
            obtain ⟨K, hK⟩ : ∃ K, K = 32 / 2 ^ j := ⟨_, rfl⟩
            have hKp : 0 < K := by
              rw [hK]
              have : 2 ^ j ≤ 32 := by
                rw [show (32 : Nat) = 2 ^ 5 from rfl]
                exact Nat.pow_le_pow_right (by decide) (by omega)
              exact Nat.div_pos this (Nat.two_pow_pos _)
            have hK32 : K ≤ 32 := by rw [hK]; exact Nat.div_le_self _ _
            rw [← hK] at hat hhalf ⊢
            obtain ⟨x, hx⟩ : ∃ x, x = n / K % 2 := ⟨_, rfl⟩
            have hval := val_bit6 n K x hn64 hx
            have hval2 : (wrap64 ((n : Int) / (K : Int))).tmod 2 = (x : Int) := by rw [← hval, Int.tdiv_eq_ediv_of_nonneg (Int.natCast_nonneg n)]
            rw [← hx] at hat
            have hsn2 := take_snoc hat
            have Hsn3 := Lib.hid hsn2
            have Hhalf := Lib.hid hhalf
            clear hat hsn2 hhalf hK hx
            go_wp2_with (at_builtin; refine wpList_append_own _ rfl _ _ 40 rfl w.heap.size 3 i0 (.int .i64 0) 1 8 Tryd.underlying40 hi hz0 hz1 hz2 rfl (by decide) _ _ _ rfl (HownJ.out.alloc _) ⟨wr.heap.size, 0, none⟩ 1 1 [.int .i64 (x : Int)] rfl rfl (by first | exact cell_one_new _ _ _ | exact cell_eq hval | exact cell_eq hval2) (by simp [Value.oneCell']) (by unfold maxLen; omega) (by omega) (by simp; omega) ?_; intro v1 w3 hown1 hgrow1 _)
            have hB3 := (hbelJ.alloc hszJ _).grown hgrow1 (by simp; omega) (fun j ej => (HownJ.out.lt j ej).1)
            have Hown1 := Lib.hid hown1
            clear hown1 hgrow1
            go_roundw
            case rel =>
              refine ⟨j + 1, by omega, by rw [← Hhalf.out]; go_num, ?_, hB3⟩
              rw [Hsn3.out, ← List.append_assoc, List.map_append]
              exact Hown1
            case measure => simp [intOf]; omega
          · obtain rfl : j = 6 := by omega
            have h0 : (32 : Nat) / 2 ^ 6 = 0 := by decide
            rw [h0]
            have hown8 := HownJ.out
            rw [List.take_of_length_le (by rw [bitsW_len]; omega), ← Hsn2.out] at hown8
            have e8 : L0.length + 6 = (bitsR (s.data.toList.take (i + 1))).length := by rw [Hsn2.out, List.length_append, bitsW_len]
            rw [e8] at hown8
            have Hown8 := Lib.hid hown8
            clear hown8 e8 h0 hhalf
            go_wp2
            go_roundw
            case rel => exact ⟨i + 1, by omega, by go_num, Hown8, hbelJ⟩
            case measure => simp [intOf]; omega
      · have hsn := Hsn.out
        rw [if_neg hnl, List.append_nil] at hsn
        have Hsn2 := Lib.hid hsn
        clear hsn
        have hnI : decide ((n : Int) < 64) = false := decide_eq_false (by omega)
        go_wp2_with (go_at_call 23; refine (kV _).mono ?_; rintro e w9 ⟨rfl, rfl⟩)
        go_loopw [4, 7] (fun cv kv wi => kv = .int .i64 32 ∧ Hid (wi.ownsRow w.heap.size 3 1 cv L0.length (L0.map natV)) ∧ Below w.heap.size w wi) (fun cv kv wi => (intOf kv).toNat)
        case atStart => exact ⟨rfl, Hown, hbel⟩
        case round =>
          obtain ⟨rfl, HownJ, hbelJ⟩ := hrel
          go_wp2
          go_roundw
          case rel => exact ⟨i + 1, by omega, by go_num, by rw [Hsn2.out]; exact HownJ, hbelJ⟩
          case measure => simp [intOf]; omega
    · obtain rfl : i = s.size := by omega
      have htk : s.data.toList.take s.size = s.data.toList := List.take_of_length_le (Nat.le_refl _)
      rw [htk] at Hown
      obtain ⟨w1, hw1⟩ : ∃ w1, w1 = wr := ⟨_, rfl⟩
      subst hw1
      have hL := bitsR_len s.data.toList
      have hLb := bitsR_bits s.data.toList
      obtain ⟨out, hout⟩ : ∃ out : ByteArray, out = ⟨(outR s.data.toList).toArray⟩ := ⟨_, rfl⟩
      have houtl : out.data.toList = (chunks 8 (bitsR s.data.toList)).map UInt8.ofNat := by rw [hout]; rfl
      have hdec : decT (decR s.data.toList) = if encL out.data.toList = s.data.toList then .tuple #[.string out, .int .i64 0] else .tuple #[.string ByteArray.empty, .int .i64 7] := by
        unfold decR
        have h1 : out.data.toList = outR s.data.toList := by rw [hout]
        rw [h1]
        by_cases h : encL (outR s.data.toList) = s.data.toList
        · rw [if_pos h, if_pos h, hout]; rfl
        · rw [if_neg h, if_neg h]; rfl
      have hv := IsInts.of_owns Hown.out rfl
      have hcl := chunks_len (n := 8) (by decide) (bitsR s.data.toList)
      have hosz : out.size ≤ 1600 := by
        have := congrArg List.length houtl
        rw [List.length_map, hcl] at this
        have h2 : out.data.toList.length = out.size := rfl
        omega
      generalize bitsR s.data.toList = L at *
      obtain ⟨lao, lcap, hlv⟩ := hv.form
      subst hlv
      have Hv := Lib.hid hv
      have HLb := Lib.hid hLb
      have Houtl := Lib.hid houtl
      have Hdec := Lib.hid (HRd.out.trans hdec)
      clear hv hLb houtl hdec hcl htk hout Hown HRd
      have hszW := hbel.size
      go_wp2
      go_loopw [4, 8] (fun lv cv wi => ∃ (r C : List Nat), Hid (IsInts w1 lv r) ∧ (∃ ao cap, lv = .slice ao r.length cap) ∧ r.length ≤ 12000 ∧ Hid (IsBits r) ∧ Hid (chunks 8 L = C ++ chunks 8 r) ∧ C.length ≤ 1600 ∧ Hid (wi.ownsRow w1.heap.size 5 1 cv C.length (cellsB (C.map UInt8.ofNat))) ∧ Below w1.heap.size w1 wi) (fun lv cv wi => match lv with | .slice _ n _ => n | _ => 0)
      case atStart => exact ⟨L, [], Hv, ⟨lao, lcap, rfl⟩, by omega, HLb, Lib.hid rfl, by simp, Lib.hid (World.ownsRow_made w1 #[] 0 (Nat.le_refl _) (by unfold maxLen; omega) rfl), (Below.refl _ _).alloc (Nat.le_refl _) _⟩
      case round =>
        obtain ⟨r, C, HvR, ⟨ao', cap', rfl⟩, hrl, HbR, HC, hCl, HownC, hbelC⟩ := hrel
        have hszC := hbelC.size
        by_cases h8 : 8 ≤ r.length
        · have hge : decide ((r.length : Int) ≥ 8) = true := decide_eq_true (by omega)
          have h8v := valB_lt (r.take 8) (fun x hx => HbR.out x (List.mem_of_mem_take hx))
          have hl8 : (r.take 8).length = 8 := by rw [List.length_take]; omega
          rw [hl8] at h8v
          have hcg := chunks_ge (n := 8) (by decide) h8
          obtain ⟨x, hx⟩ : ∃ x, x = valB (r.take 8) := ⟨_, rfl⟩
          rw [← hx] at hcg h8v
          have hC2 : chunks 8 L = (C ++ [x]) ++ chunks 8 (r.drop 8) := by rw [HC.out, hcg, List.append_assoc]; rfl
          have HC2 := Lib.hid hC2
          have Hx := Lib.hid hx
          have hCl2 : C.length + 1 ≤ 1600 := by
            have := congrArg List.length hC2
            rw [chunks_len (by decide), List.length_append, List.length_append] at this
            simp at this
            omega
          have hxlt : x < 256 := h8v
          have hvw := HvR.out.below hbelC
          have Hvw := Lib.hid hvw
          have hsl8 := HvR.out.sliced 8 h8
          have Hsl8 := Lib.hid hsl8
          clear hcg hC2 hx h8v hl8 hvw hsl8
          go_wp2
          obtain ⟨w2, hw2⟩ : ∃ w2, w2 = wr := ⟨_, rfl⟩
          subst hw2
          go_loopw [9, 10] (fun nv iv wi => ∃ i n : Nat, i ≤ 8 ∧ iv = .int .i64 (i : Int) ∧ nv = .int .i64 (n : Int) ∧ Hid (n = valB (r.take i)) ∧ n ≤ 256 ∧ wi = w2) (fun nv iv wi => 8 - (intOf iv).toNat)
          case atStart => exact ⟨0, 0, by omega, rfl, rfl, Lib.hid rfl, by omega, rfl⟩
          case round =>
            obtain ⟨i, n, hi8, rfl, rfl, Hn, hn, rfl⟩ := hrel
            by_cases hlt : i < 8
            · obtain ⟨y, hy⟩ : ∃ y, y = r[i]'(by omega) := ⟨_, rfl⟩
              have hat : r[i]? = some y := by rw [hy]; exact List.getElem?_eq_getElem (by omega)
              have hsn : valB (r.take (i + 1)) = 2 * n + y := by rw [take_snoc hat, valB_snoc, Hn.out]
              have hlt2 : valB (r.take (i + 1)) ≤ 256 := by
                have h1 := valB_lt (r.take (i + 1)) (fun x hx => HbR.out x (List.mem_of_mem_take hx))
                have h2 : (r.take (i + 1)).length = i + 1 := by rw [List.length_take]; omega
                rw [h2] at h1
                have h3 : 2 ^ (i + 1) ≤ 2 ^ 8 := Nat.pow_le_pow_right (by decide) (by omega)
                have h4 : (2 : Nat) ^ 8 = 256 := by decide
                omega
              have hy2 : y < 2 := HbR.out y (by rw [hy]; exact List.getElem_mem _)
              have hil : i < r.length := by omega
              obtain ⟨b, off, rfl, hcell⟩ : ∃ b off, ao' = some ⟨b, off, none⟩ ∧ wr.cell? ⟨b, off + i, none⟩ = some (.int .i64 (y : Int)) := by
                rcases Hvw.out with ⟨ao2, cap2, h, h0⟩ | ⟨b, off, cap2, h, _, _, hc⟩
                · rw [h0] at hil; simp at hil
                · cases h
                  exact ⟨b, off, rfl, by rw [hy]; exact hc i hil⟩
              have Hsn := Lib.hid hsn
              clear hsn hat hy
              go_wp2
              go_roundw
              case rel => exact ⟨i + 1, 2 * n + y, by omega, by go_num, by go_num, Lib.hid Hsn.out.symm, by rw [← Hsn.out]; exact hlt2, trivial⟩
              case measure => simp [intOf]; omega
            · obtain rfl : i = 8 := by omega
              obtain rfl : n = x := by rw [Hn.out, Hx.out]
              have hxb : byteV (UInt8.ofNat n) = .int .u8 (n : Int) := by
                unfold byteV
                rw [UInt8.toNat_ofNat', Nat.mod_eq_of_lt hxlt]
              have Hxb := Lib.hid hxb
              have hmod : (n : Int) % 256 = (n : Int) := by omega
              clear hxb
              go_wp2_with (at_builtin; refine wpList_append_own _ rfl _ _ 31 rfl w1.heap.size 5 i1 (.int .u8 0) 1 1 Tryd.underlying31 hi1 hy0 hy1 hy2 rfl (by decide) _ _ _ rfl (HownC.out.alloc _) ⟨wr.heap.size, 0, none⟩ 1 1 [.int .u8 (n : Int)] rfl rfl (cell_one_new _ _ _) (by simp [Value.oneCell']) (by unfold maxLen; omega) (by omega) (by simp; omega) ?_; intro v1 w3 hown1 hgrow1 _)
              have hB3 := (hbelC.alloc hszC _).grown hgrow1 (by simp; omega) (fun j ej => (HownC.out.lt j ej).1)
              have Hown1 := Lib.hid hown1
              clear hown1 hgrow1
              go_roundw
              case rel =>
                refine ⟨r.drop 8, C ++ [n], Hsl8, Hsl8.out.form, by rw [List.length_drop]; omega, Lib.hid (isBits_drop HbR.out 8), HC2, by rw [List.length_append]; exact hCl2, ?_, hB3⟩
                rw [List.length_append, List.map_append, cellsB_app]
                have e1 : cellsB ([n].map UInt8.ofNat) = [.int .u8 (n : Int)] := by rw [← Hxb.out]; rfl
                rw [e1]
                exact Hown1
              case measure => show r.length - 8 < r.length; omega
        · have hge : decide ((r.length : Int) ≥ 8) = false := decide_eq_false (by omega)
          have hCe : chunks 8 L = C := by rw [HC.out, chunks_lt (by omega), List.append_nil]
          have hcells : cellsB (C.map UInt8.ofNat) = Lib.strCells out := by rw [← hCe, ← Houtl.out]; rfl
          have hownO := HownC.out
          rw [hcells] at hownO
          have hcv := conv_owns (s := out) hownO
          have hcv9 := fun w9 (hb9 : Below wr.heap.size wr w9) => conv_owns (s := out) (row_keep hownO hb9)
          have kE := refEncode_any wr out (by omega)
          have hbelW := hbel.trans (hbelC.mono hszW)
          obtain ⟨X, hX⟩ : ∃ X : ByteArray, X = ⟨(encL out.data.toList).toArray⟩ := ⟨_, rfl⟩
          rw [← hX] at kE
          have hXl : X.data.toList = encL out.data.toList := by rw [hX]
          have hRv := Hdec.out
          rw [← hXl] at hRv
          have hszE := hbelW.size
          clear hCe hcells hownO hX hXl HC
          by_cases hXs : X = s
          · have hb := bytes_beq_same hXs
            rw [if_pos (by rw [hXs])] at hRv
            have HRv := Lib.hid hRv
            clear hRv hXs
            have kE' : Calls Tryd.prog 11 #[.string out] wr fun e w' => e = .returned (.string X) ∧ Below wr.heap.size wr w' := kE
            go_wp2_with (go_at_call 11; refine kE'.mono ?_; rintro e w9 ⟨rfl, hb9⟩; have hcv2 := hcv9 _ hb9)
            go_ret2
            exact ⟨by rw [HRv.out]; rfl, hbelW.trans (hb9.mono hszE)⟩
          · have hb := bytes_beq_other hXs
            rw [if_neg (fun h => hXs (bytes_ext h))] at hRv
            have HRv := Lib.hid hRv
            clear hRv hXs
            go_wp2_with (go_at_call 11; refine kE.mono ?_; rintro e w9 ⟨rfl, hb9⟩)
            go_ret2
            exact ⟨by rw [HRv.out]; rfl, hbelW.trans (hb9.mono hszE)⟩
end Go.Proofs.YtmghlbdhkjbejaaDoor
