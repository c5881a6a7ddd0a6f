/-
  The contracts of b64.Wrap, Mail and Unmail.
-/
import Derived.Test.YtmghlbdhkjbejaaDoorBaseEncode
import Derived.Test.YtmghlbdhkjbejaaDoorBaseDecode
import Derived.Test.YtmghlbdhkjbejaaDoorPlainWrap
namespace Go.Proofs.YtmghlbdhkjbejaaDoor
set_option linter.unusedVariables false
set_option linter.unusedSimpArgs false
open Go.RowKit

theorem extract_list (s : ByteArray) (a b : Nat) : (s.extract a b).data.toList = (s.data.toList.take b).drop a := by
  rw [ByteArray.data_extract, Array.toList_extract, List.extract_eq_take_drop]
  rw [List.drop_take]
theorem clone_any (s : ByteArray) (w : World) (hs : s.size ≤ 100000000) : Calls Tryd.prog 26 #[.string s] w fun e w' => e = .returned (.string s) ∧ Below w.heap.size w w' := by
  have kC := Tryd.stringslite_Clone s w (by omega)
  go_enter Tryd.func26, Tryd.ntmps26
  go_wp2_with (go_at_call 29; refine kC.mono ?_; rintro e w1 ⟨rfl, hb1⟩)
  go_ret
  exact ⟨rfl, hb1⟩
set_option maxRecDepth 100000 in
set_option maxHeartbeats 2000000 in
theorem wrap_any (w : World) (s : ByteArray) (wd : Int) (hs : s.size ≤ 3000000) (hw : -9223372036854775808 ≤ wd ∧ wd ≤ 9223372036854775807) :
    Calls Tryd.prog 13 #[.string s, .int .i64 wd] w fun e w' => e = .returned (.string ⟨(wrapI s.data.toList wd).toArray⟩) ∧ Below w.heap.size w w' := by
  obtain ⟨i0, hi, hz0, hz1, hz2⟩ := info_parts infoU8
  obtain ⟨E, hE⟩ : ∃ E, E = wrapI s.data.toList wd := ⟨_, rfl⟩
  rw [← hE]
  unfold wrapI at hE
  have hsl : s.data.toList.length = s.size := rfl
  by_cases h1 : wd < 1
  · rw [if_pos h1] at hE
    have hEs : (⟨E.toArray⟩ : ByteArray) = s := by rw [hE]
    rw [hEs]
    clear hE hEs
    go_enter Tryd.func13, Tryd.ntmps13
    go_wp2_with (go_at_call 26; refine (clone_any s _ (by omega)).mono ?_; rintro e w1 ⟨rfl, hb1⟩)
    go_ret
    exact ⟨rfl, hb1⟩
  · rw [if_neg h1] at hE
    obtain ⟨k, hk⟩ : ∃ k : Nat, wd = (k : Int) := ⟨wd.toNat, by omega⟩
    subst hk
    rw [Int.toNat_natCast] at hE
    have hk0 : 0 < k := by omega
    have HE := Lib.hid hE
    clear hE
    have h1' : decide ((k : Int) < 1) = false := decide_eq_false h1
    go_enter Tryd.func13, Tryd.ntmps13
    go_wp2
    go_loopw [0, 5] (fun sv cv wr => ∃ (r : ByteArray) (L : List UInt8), sv = .string r ∧ Hid (wr.ownsRow w.heap.size 5 1 cv L.length (cellsB L)) ∧ L.length + 3 * r.size ≤ 9000000 ∧ Hid (E = L ++ wrapL k r.data.toList) ∧ Below w.heap.size w wr) (fun sv cv wr => match sv with | .string r => r.size | _ => 0)
    case atStart => exact ⟨s, [], rfl, Lib.hid (World.ownsRow_nil _ _ _ _), by simp; omega, HE, Below.refl _ _⟩
    case round =>
      obtain ⟨r, L, rfl, Hown, hLr, HEr, hbel⟩ := hrel
      have hszI := hbel.size
      have hrl : r.data.toList.length = r.size := rfl
      by_cases hlt : k < r.size
      · have hgt : decide ((r.size : Int) > (k : Int)) = true := decide_eq_true (by omega)
        have hkr : (k : Int) ≤ (r.size : Int) := by omega
        obtain ⟨x, hx⟩ : ∃ x : ByteArray, x = r.extract 0 k := ⟨_, rfl⟩
        obtain ⟨y, hy⟩ : ∃ y : ByteArray, y = r.extract k r.size := ⟨_, rfl⟩
        have hxl : x.data.toList = r.data.toList.take k := by rw [hx, extract_list, List.drop_zero]
        have hyl : y.data.toList = r.data.toList.drop k := by rw [hy, extract_list, ← hrl, List.take_length]
        have hxs : x.size = k := by rw [hx]; simp; omega
        have hys : y.size = r.size - k := by rw [hy]; simp
        have hEn : E = (L ++ (x.data.toList ++ [13, 10])) ++ wrapL k y.data.toList := by rw [HEr.out, wrapL_long hk0 (by omega), hxl, hyl]; simp only [List.append_assoc]
        have HEn := Lib.hid hEn
        have Hx := Lib.hid hx
        have Hy := Lib.hid hy
        clear hEn hx hy hxl hyl
        obtain ⟨ao, cp, hform⟩ := row_form Hown.out
        subst hform
        have hx' : r.extract 0 k = x := Hx.out.symm
        have hy' : r.extract k r.size = y := Hy.out.symm
        go_wp2_with (first | (at_builtin; refine Lib.wpList_append_own_string _ rfl (.tmp 14) (.tmp 17) 31 9 rfl w.heap.size 5 i0 Tryd.underlying31 Tryd.underlying9 hi hz0 hz1 hz2 _ _ _ rfl Hown.out x rfl (by unfold maxLen; omega) (by omega) (by omega) ?_; intro v1 w3 hown1 hgrow1 _; have hsz3 := hgrow1.size; have hB3 := hbel.grown hgrow1 (by omega) (fun j ej => (Hown.out.lt j ej).1)) | (at_builtin; refine Lib.wpList_append_own_string _ rfl (.tmp 19) (.const (.string ⟨#[13, 10]⟩)) 31 9 rfl w.heap.size 5 i0 Tryd.underlying31 Tryd.underlying9 hi hz0 hz1 hz2 _ _ _ rfl hown1 ⟨#[13, 10]⟩ rfl (by unfold maxLen; show _ + 2 ≤ _; omega) (by show _ + 2 ≤ _; omega) (by omega) ?_; intro v2 w4 hown2 hgrow2 _))
        have hB4 := hB3.grown hgrow2 (by omega) (fun j ej => (hown1.lt j ej).1)
        have hown3 : w4.ownsRow w.heap.size 5 1 v2 (L ++ (x.data.toList ++ [13, 10])).length (cellsB (L ++ (x.data.toList ++ [13, 10]))) := by
          have e1 : (L ++ (x.data.toList ++ [13, 10])).length = L.length + x.size + (⟨#[13, 10]⟩ : ByteArray).size := by
            rw [List.length_append, List.length_append]
            show L.length + (x.size + 2) = L.length + x.size + 2
            omega
          rw [e1, cellsB_app, cellsB_app, ← List.append_assoc]
          exact hown2
        have Hown3 := Lib.hid hown3
        clear hown1 hown2 hown3 hgrow1 hgrow2 hB3
        go_roundw
        case rel =>
          refine ⟨y, L ++ (x.data.toList ++ [13, 10]), rfl, Hown3, ?_, HEn, hB4⟩
          rw [List.length_append, List.length_append]
          have : x.data.toList.length = x.size := rfl
          have h2 : ([13, 10] : List UInt8).length = 2 := rfl
          omega
        case measure => show y.size < r.size; omega
      · have hgt : decide ((r.size : Int) > (k : Int)) = false := decide_eq_false (by omega)
        have hEe : E = L ++ r.data.toList := by rw [HEr.out, wrapL_short (by omega)]
        have HEe := Lib.hid hEe
        clear hEe
        obtain ⟨ao, cp, hform⟩ := row_form Hown.out
        subst hform
        go_wp2_with (at_builtin; refine Lib.wpList_append_own_string _ rfl (.tmp 24) (.tmp 25) 31 9 rfl w.heap.size 5 i0 Tryd.underlying31 Tryd.underlying9 hi hz0 hz1 hz2 _ _ _ rfl Hown.out r rfl (by unfold maxLen; omega) (by omega) (by omega) ?_; intro v1 w3 hown1 hgrow1 _; have hB3 := hbel.grown hgrow1 (by omega) (fun j ej => (Hown.out.lt j ej).1); have hcv := conv_owns (s := ⟨E.toArray⟩) (by { rw [strCells_of, HEe.out, cellsB_app]; exact hown1 }))
        go_ret
        exact ⟨rfl, hB3⟩

theorem encL_size (b : ByteArray) (hb : b.size ≤ 1000000) : (⟨(encL b.data.toList).toArray⟩ : ByteArray).size ≤ 2000004 := by
  have h := encL_len b.data.toList
  have h2 : b.data.toList.length = b.size := rfl
  show (encL b.data.toList).toArray.size ≤ _
  rw [List.size_toArray]
  omega
set_option maxRecDepth 100000 in
set_option maxHeartbeats 2000000 in
theorem mail_any (w : World) (ht : Tab w) (b : ByteArray) (hb : b.size ≤ 1000000) :
    Calls Tryd.prog 15 #[.string b] w fun e w' => e = .returned (.string ⟨(wrapL 76 (encL b.data.toList)).toArray⟩) ∧ Below w.heap.size w w' := by
  have kE := encode_any w ht b hb
  have hsz := encL_size b hb
  obtain ⟨x, hx⟩ : ∃ x : ByteArray, x = ⟨(encL b.data.toList).toArray⟩ := ⟨_, rfl⟩
  have hxl : encL b.data.toList = x.data.toList := by rw [hx]
  rw [← hx] at kE hsz
  rw [hxl]
  have kW := fun W => wrap_any W x 76 (by omega) (by decide)
  have e : wrapI x.data.toList 76 = wrapL 76 x.data.toList := rfl
  rw [e] at kW
  clear hx hxl e
  go_enter Tryd.func15, Tryd.ntmps15
  go_wp2_with fail
  refine kE.mono ?_
  rintro e w1 ⟨rfl, hb1⟩
  go_wp2_with fail
  refine (kW _).mono ?_
  rintro e w2 ⟨rfl, hb2⟩
  go_wp2
  go_ret
  exact ⟨rfl, hb1.trans (hb2.mono hb1.size)⟩
theorem bareL_snoc (l : List UInt8) (c : UInt8) : bareL (l ++ [c]) = bareL l ++ (if blankB c then [] else [c]) := by
  unfold bareL
  rw [List.filter_append]
  congr 1
  cases h : blankB c <;> simp [h]
theorem bareL_len (l : List UInt8) : (bareL l).length ≤ l.length := List.length_filter_le _ _
theorem blank_eq (c : UInt8) : blankB c = (decide (c.toNat = 9) || decide (c.toNat = 10) || decide (c.toNat = 13) || decide (c.toNat = 32)) := by
  have : ∀ n : Fin 256, blankB (UInt8.ofNat n.1) = (decide (n.1 = 9) || decide (n.1 = 10) || decide (n.1 = 13) || decide (n.1 = 32)) := by decide +kernel
  have h := this ⟨c.toNat, c.toNat_lt⟩
  simp only [UInt8.ofNat_toNat] at h
  exact h
set_option maxRecDepth 100000 in
set_option maxHeartbeats 2000000 in
theorem unmail_any (w : World) (s : ByteArray) (hs : s.size ≤ 1000000) :
    Calls Tryd.prog 16 #[.string s] w fun e w' => e = .returned (decT (decL (bareL s.data.toList))) ∧ Below w.heap.size w w' := by
  obtain ⟨i0, hi, hz0, hz1, hz2⟩ := info_parts infoU8
  have hsl : s.data.toList.length = s.size := rfl
  obtain ⟨x, hx⟩ : ∃ x : ByteArray, x = ⟨(bareL s.data.toList).toArray⟩ := ⟨_, rfl⟩
  have hxl : bareL s.data.toList = x.data.toList := by rw [hx]
  have hxs : x.size ≤ s.size := by
    have := bareL_len s.data.toList
    rw [hxl] at this
    exact this
  have kD := fun W => decode_any W x (by omega)
  rw [hxl]
  obtain ⟨q, n, hq⟩ : ∃ (q : ByteArray) (n : Int), decT (decL x.data.toList) = .tuple #[.string q, .int .i64 n] := by
    cases decL x.data.toList with
    | none => exact ⟨_, _, rfl⟩
    | some y => exact ⟨_, _, rfl⟩
  rw [hq]
  simp only [hq] at kD
  clear hq
  have Hxl := Lib.hid hxl
  have Hx := Lib.hid hx
  clear hx hxl
  obtain ⟨cur, hcur, hmk⟩ := make_bytes w (s.size : Int) s.size rfl (by omega)
  go_enter Tryd.func16, Tryd.ntmps16
  go_wp2
  go_loopw [4, 11] (fun cv iv wr => ∃ i : Nat, i ≤ s.size ∧ iv = .int .i64 (i : Int) ∧ Hid (wr.ownsRow w.heap.size 5 1 cv (bareL (s.data.toList.take i)).length (cellsB (bareL (s.data.toList.take i)))) ∧ Below w.heap.size w wr) (fun cv iv wr => s.size - (intOf iv).toNat)
  case atStart => exact ⟨0, Nat.zero_le _, rfl, Lib.hid (World.ownsRow_made w cur s.size (Nat.le_refl _) (by unfold maxLen; omega) (by omega)), (Below.refl _ _).alloc (Nat.le_refl _) _⟩
  case round =>
    obtain ⟨i, hi', rfl, Hown, hbel⟩ := hrel
    have hszI := hbel.size
    have hcb : (bareL (s.data.toList.take i)).length ≤ 1000000 := by
      have := bareL_len (s.data.toList.take i)
      rw [List.length_take] at this
      omega
    by_cases hlt : i < s.size
    · obtain ⟨c, hc⟩ : ∃ c, c = s[i] := ⟨_, rfl⟩
      have hx : s.data.toList[i]? = some c := by rw [hc]; exact List.getElem?_eq_getElem (by exact hlt)
      have hsn := bareL_snoc (s.data.toList.take i) c
      rw [← take_snoc hx] at hsn
      have hc' : s[i].toNat = c.toNat := by rw [hc]
      have hbk := blank_eq c
      have Hsn := Lib.hid hsn
      clear hc hx hsn
      cases hb : blankB c with
      | true =>
        rw [hb] at hbk
        have hB : bareL (s.data.toList.take (i + 1)) = bareL (s.data.toList.take i) := by rw [Hsn.out, if_pos hb, List.append_nil]
        have HBr := Lib.hid hB
        have hor : c.toNat = 9 ∨ c.toNat = 10 ∨ c.toNat = 13 ∨ c.toNat = 32 := by simpa [or_assoc] using hbk.symm
        clear hB hbk
        rcases hor with h | h | h | h
        all_goals
          rw [h] at hc'
          go_wp2
          go_roundw
          case rel => exact ⟨i + 1, by omega, by go_num, by rw [HBr.out]; exact Hown, hbel⟩
          case measure => simp [intOf]; omega
      | false =>
        rw [hb] at hbk
        have hB : bareL (s.data.toList.take (i + 1)) = bareL (s.data.toList.take i) ++ [c] := by rw [Hsn.out, if_neg (by rw [hb]; decide)]
        have HBr := Lib.hid hB
        have hn : ¬ c.toNat = 9 ∧ ¬ c.toNat = 10 ∧ ¬ c.toNat = 13 ∧ ¬ c.toNat = 32 := by
          have := hbk.symm
          simp at this
          exact ⟨this.1.1.1, this.1.1.2, this.1.2, this.2⟩
        obtain ⟨n9, n10, n13, n32⟩ := hn
        have e9 : ((c.toNat : Int) == 9) = false := by rw [beq_eq_false_iff_ne]; omega
        have e10 : ((c.toNat : Int) == 10) = false := by rw [beq_eq_false_iff_ne]; omega
        have e13 : ((c.toNat : Int) == 13) = false := by rw [beq_eq_false_iff_ne]; omega
        have e32 : ((c.toNat : Int) == 32) = false := by rw [beq_eq_false_iff_ne]; omega
        clear hB hbk n9 n10 n13 n32
        go_wp2_with (at_builtin; refine wpList_append_own _ rfl _ _ 31 rfl w.heap.size 5 i0 (.int .u8 0) 1 1 Tryd.underlying31 hi hz0 hz1 hz2 rfl (by decide) _ _ _ rfl (Hown.out.alloc _) ⟨wr.heap.size, 0, none⟩ 1 1 [.int .u8 (c.toNat : Int)] rfl rfl (cell_one_new _ _ _) (by simp [Value.oneCell']) (by unfold maxLen; omega) (by omega) (by simp; omega) ?_; intro v1 w3 hown1 hgrow1 _)
        have hB3 := (hbel.alloc hszI _).grown hgrow1 (by simp; omega) (fun j ej => (Hown.out.lt j ej).1)
        have Hown1 := Lib.hid hown1
        clear hown1 hgrow1
        go_roundw
        case rel =>
          refine ⟨i + 1, by omega, by go_num, ?_, hB3⟩
          rw [HBr.out, List.length_append, cellsB_app]
          exact Hown1
        case measure => simp [intOf]; omega
    · obtain rfl : i = s.size := by omega
      have htk : s.data.toList.take s.size = s.data.toList := List.take_of_length_le (Nat.le_refl _)
      rw [htk, Hxl.out] at Hown
      have hcv := conv_owns (s := x) (by exact Hown.out)
      go_wp2_with (go_at_call 9; refine (kD _).mono ?_; rintro e w9 ⟨rfl, hb9⟩)
      go_ret2
      exact ⟨rfl, hbel.trans (hb9.mono hszI)⟩
end Go.Proofs.YtmghlbdhkjbejaaDoor
