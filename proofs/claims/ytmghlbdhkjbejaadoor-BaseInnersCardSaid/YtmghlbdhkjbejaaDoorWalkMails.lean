/-
  The walks of nunciolaw04.BaseMails and BaseInners.
-/
import Derived.Test.YtmghlbdhkjbejaaDoorWalkBase
namespace Go.Proofs.YtmghlbdhkjbejaaDoor
set_option linter.unusedVariables false
set_option linter.unusedSimpArgs false
open Go.RowKit

set_option maxRecDepth 100000 in
set_option maxHeartbeats 4000000 in
theorem baseMails_walk (b0 s0 : ByteArray) (w0 : b0.size ≤ maxLen) (w1 : s0.size ≤ maxLen) (w : World) (ht : Tab w) :
    Calls Tryd.prog 5 #[.string b0, .string s0] w fun e w' => e = .returned (.bool true) ∧ Below w.heap.size w w' := by
  have kB := fun W => few_any b0 W w0
  have hbb := few_size b0
  generalize b0.extract 0 (min b0.size 200) = b at kB hbb
  have kS := fun W => few_any s0 W w1
  have hss := few_size s0
  generalize s0.extract 0 (min s0.size 200) = s at kS hss
  have hb3 : b.data.toList.length = b.size := rfl
  have kM := fun (W : World) (hW : Tab W) => mail_any W hW b (by omega)
  have kR := fun (W : World) => refEncode_any W b (by omega)
  have hcl2 := encL_len b.data.toList
  obtain ⟨c, hc⟩ : ∃ c : ByteArray, c = ⟨(encL b.data.toList).toArray⟩ := ⟨_, rfl⟩
  have hcl : c.data.toList = encL b.data.toList := by rw [hc]
  have hcs : c.size ≤ 500 := by
    have h1 : c.data.toList.length = c.size := rfl
    rw [hcl] at h1
    omega
  simp only [← hc] at kR
  obtain ⟨m, hm⟩ : ∃ m : ByteArray, m = ⟨(wrapL 76 (encL b.data.toList)).toArray⟩ := ⟨_, rfl⟩
  have hml : m.data.toList = wrapL 76 (encL b.data.toList) := by rw [hm]
  have hms : m.size ≤ 2000 := by
    have h1 : m.data.toList.length = m.size := rfl
    have h2 := wrapL_len 76 (by decide) (encL b.data.toList)
    rw [hml] at h1
    omega
  simp only [← hm] at kM
  have kW : ∀ W, Calls Tryd.prog 14 #[.string c, .int .i64 76] W fun e w' => e = .returned (.string m) ∧ W = w' := fun W => by
    have h := refWrap_any W c 76 (by omega) (by decide)
    rw [show wrapI c.data.toList 76 = wrapL 76 c.data.toList from rfl, hcl, ← hm] at h
    exact h
  have kD : ∀ (W : World), Calls Tryd.prog 16 #[.string m] W fun e w' => e = .returned (.tuple #[.string b, .int .i64 0]) ∧ Below W.heap.size W w' := fun W => by
    have h := unmail_any W m (by omega)
    rw [hml, unmail_mail, dec_enc] at h
    exact h
  have kX := fun (W : World) => unmail_any W s (by omega)
  have kY := fun (W : World) => refUnmail_any W s (by omega)
  simp only [dec_eq] at kX
  obtain ⟨q, n, hq⟩ : ∃ (q : ByteArray) (n : Int), decT (decR (bareL s.data.toList)) = .tuple #[.string q, .int .i64 n] := by
    cases decR (bareL s.data.toList) with
    | none => exact ⟨_, _, rfl⟩
    | some y => exact ⟨_, _, rfl⟩
  simp only [hq] at kX kY
  have hcc := bytes_beq_same (x := m) rfl
  have hbq := bytes_beq_same (x := b) rfl
  have hqq := bytes_beq_same (x := q) rfl
  have hline : lineR 0 m.data.toList = true := by rw [hml]; exact lineR_wrap _ (fun x hx => (encL_mem b.data.toList x hx).2.1)
  have Hline := Lib.hid hline
  clear w0 w1 hc hcl hm hml hq hline hcl2 hb3
  go_enter Tryd.func5, Tryd.ntmps5
  go_wp2_with fail
  refine (kB _).mono ?_
  rintro e w' ⟨rfl, rfl⟩
  go_wp2_with fail
  refine (kS _).mono ?_
  rintro e w' ⟨rfl, rfl⟩
  go_wp2_with fail
  refine (kM _ ht).mono ?_
  rintro e w1 ⟨rfl, hb1⟩
  have ht1 := ht.below hb1
  go_wp2_with fail
  refine (kD _).mono ?_
  rintro e w2 ⟨rfl, hb2⟩
  have ht2 := ht1.below hb2
  have hB2 := hb1.trans (hb2.mono hb1.size)
  clear ht1 hb1 hb2
  go_wp2_with fail
  refine (kX _).mono ?_
  rintro e w3 ⟨rfl, hb3⟩
  have ht3 := ht2.below hb3
  have hB3 := hB2.trans (hb3.mono hB2.size)
  clear ht2 hB2 hb3
  go_wp2_with fail
  refine (kY _).mono ?_
  rintro e w4 ⟨rfl, hb4⟩
  have ht4 := ht3.below hb4
  have hB4 := hB3.trans (hb4.mono hB3.size)
  clear ht3 hB3 hb4 kB kS kM kD kX kY
  go_wp2_with fail
  go_loopw [12, 13] (fun lv iv wr => ∃ i ln : Nat, i ≤ m.size ∧ iv = .int .i64 (i : Int) ∧ lv = .int .i64 (ln : Int) ∧ ln ≤ i ∧ Hid (lineR ln (m.data.toList.drop i) = true) ∧ wr = w4) (fun lv iv wr => m.size - (intOf iv).toNat)
  case atStart => exact ⟨0, 0, Nat.zero_le _, rfl, rfl, Nat.le_refl _, Hline, rfl⟩
  case round =>
    obtain ⟨i, ln, him, rfl, rfl, hln, HL, rfl⟩ := hrel
    by_cases hlt : i < m.size
    · obtain ⟨d, hd⟩ : ∃ d, d = m[i] := ⟨_, rfl⟩
      have hdr : m.data.toList.drop i = d :: m.data.toList.drop (i + 1) := by
        rw [List.drop_eq_getElem_cons (by exact hlt), hd]
        rfl
      have hL := HL.out
      rw [hdr, lineR, Bool.and_eq_true] at hL
      obtain ⟨hL1, hL2⟩ := hL
      have HL2 := Lib.hid hL2
      have hd' : m[i].toNat = d.toNat := by rw [hd]
      clear hd hdr hL2
      by_cases h10 : d.toNat = 10
      · have hd10 : d = 10 := UInt8.toNat_inj.1 h10
        have hla : lineAt ln d = 0 := by unfold lineAt; rw [if_pos hd10]
        have e10 : ((d.toNat : Int) == 10) = true := by rw [beq_iff_eq]; omega
        have HLa := Lib.hid hla
        rw [h10] at hd'
        clear hd10 hla hL1 h10
        go_wp2
        go_roundw
        case rel => exact ⟨i + 1, 0, by omega, by go_num, rfl, by omega, by have h := HL2.out; rw [HLa.out] at h; exact Lib.hid h, trivial⟩
        case measure => simp [intOf]; omega
      · have hla : lineAt ln d = ln + 1 := by unfold lineAt; rw [if_neg (fun e => h10 (by rw [e]; rfl))]
        have e10 : ((d.toNat : Int) == 10) = false := by rw [beq_eq_false_iff_ne]; omega
        rw [hla] at hL1
        have HLa := Lib.hid hla
        by_cases h76 : 76 < ln + 1
        · have hd13 : d = 13 := by
            rw [decide_eq_true h76] at hL1
            simpa using hL1
          have h13 : d.toNat = 13 := by rw [hd13]; rfl
          rw [h13] at hd'
          clear hL1 hla hd13 h10 e10
          go_wp2
          go_roundw
          case rel => exact ⟨i + 1, ln + 1, by omega, by go_num, by go_num, by omega, by have h := HL2.out; rw [HLa.out] at h; exact Lib.hid h, trivial⟩
          case measure => simp [intOf]; omega
        · have h76' : decide ((ln : Int) + 1 > 76) = false := decide_eq_false (by omega)
          clear hL1 hla h10
          go_wp2
          go_roundw
          case rel => exact ⟨i + 1, ln + 1, by omega, by go_num, by go_num, by omega, by have h := HL2.out; rw [HLa.out] at h; exact Lib.hid h, trivial⟩
          case measure => simp [intOf]; omega
    · obtain rfl : i = m.size := by omega
      go_wp2_with (go_at_call 11; refine (kR _).mono ?_; rintro e w5 ⟨rfl, hb5⟩)
      have ht5 := ht4.below hb5
      have hB5 := hB4.trans (hb5.mono hB4.size)
      refine (kW _).mono ?_
      rintro e w6 ⟨rfl, rfl⟩
      go_wp2_with fail
      refine (awake_any _ ht5).mono ?_
      rintro e w7 ⟨rfl, hb7⟩
      go_wp2_with fail
      go_ret
      exact ⟨rfl, hB5.trans (hb7.mono hB5.size)⟩

set_option maxRecDepth 100000 in
set_option maxHeartbeats 4000000 in
theorem baseInners_walk (a0 b0 c0 : ByteArray) (ph : Int) (w0 : a0.size ≤ maxLen) (w1 : b0.size ≤ maxLen) (w2 : c0.size ≤ maxLen) (w3 : (Lit.int .i64 ph).wf = true) (w : World) (ht : Tab w) :
    Calls Tryd.prog 6 #[.string a0, .string b0, .string c0, .int .i64 ph] w fun e w' => e = .returned (.bool true) ∧ Below w.heap.size w w' := by
  have kA := fun W => few_any a0 W w0
  have haa := few_size a0
  generalize a0.extract 0 (min a0.size 200) = a at kA haa
  have kB := fun W => few_any b0 W w1
  have hbb := few_size b0
  generalize b0.extract 0 (min b0.size 200) = b at kB hbb
  have kC := fun W => few_any c0 W w2
  have hcc := few_size c0
  generalize c0.extract 0 (min c0.size 200) = c at kC hcc
  obtain ⟨p, hp⟩ : ∃ p : Nat, p = a.size % 3 := ⟨_, rfl⟩
  have hpI : ((a.size : Nat) : Int) % 3 = (p : Int) := by omega
  have hpT : ((a.size : Nat) : Int).tmod 3 = (p : Int) := by rw [Int.tmod_eq_emod_of_nonneg (by omega)]; exact hpI
  have kI := fun (W : World) (hW : Tab W) => inner_any W hW b (p : Int) (by omega)
  have kJ := fun (W : World) => refInner_any W b (p : Int) (by omega)
  have kK := fun (W : World) (hW : Tab W) => inner_any W hW b ph (by omega)
  have kL := fun (W : World) => refInner_any W b ph (by omega)
  generalize (if 0 ≤ ph ∧ ph ≤ 2 then (⟨((chunks 6 ((bitsS b.data.toList).drop (4 * ph.toNat % 6))).map dig).toArray⟩ : ByteArray) else ByteArray.empty) = y at kK kL
  have hp3 : (0 : Int) ≤ (p : Int) ∧ (p : Int) ≤ 2 := by omega
  simp only [if_pos hp3, Int.toNat_natCast] at kI kJ
  obtain ⟨x, hx⟩ : ∃ x : ByteArray, x = ⟨((chunks 6 ((bitsS b.data.toList).drop (4 * p % 6))).map dig).toArray⟩ := ⟨_, rfl⟩
  simp only [← hx] at kI kJ
  have hxl : x.data.toList = (chunks 6 ((bitsS b.data.toList).drop (4 * p % 6))).map dig := by rw [hx]
  obtain ⟨t, hT⟩ : ∃ t : ByteArray, t = a ++ b ++ c := ⟨_, rfl⟩
  have htl : t.data.toList = a.data.toList ++ b.data.toList ++ c.data.toList := by rw [hT, app_list, app_list]
  have hts : t.size ≤ 600 := by rw [hT, ByteArray.size_append, ByteArray.size_append]; omega
  have kE := fun (W : World) (hW : Tab W) => encode_any W hW t (by omega)
  obtain ⟨E, hE⟩ : ∃ E : ByteArray, E = ⟨(encL t.data.toList).toArray⟩ := ⟨_, rfl⟩
  have hEl : E.data.toList = encL t.data.toList := by rw [hE]
  simp only [← hE] at kE
  have hal : a.data.toList.length = a.size := rfl
  obtain ⟨hin1, hin2⟩ := inner_sub a.data.toList b.data.toList c.data.toList
  rw [hal, ← hp, ← htl, ← hEl] at hin1 hin2
  have hxs : x.size = (chunks 6 ((bitsS b.data.toList).drop (4 * p % 6))).length := by
    have h1 : x.data.toList.length = x.size := rfl
    rw [hxl, List.length_map] at h1
    exact h1.symm
  rw [← hxs, ← hxl] at hin1
  rw [← hxs] at hin2
  obtain ⟨k, hk⟩ : ∃ k, k = (4 * a.size + 2) / 3 := ⟨_, rfl⟩
  rw [← hk] at hin1 hin2
  have hkI : (4 * ((a.size : Nat) : Int) + 2) / 3 = (k : Int) := by omega
  have hkT : (4 * ((a.size : Nat) : Int) + 2).tdiv 3 = (k : Int) := by rw [Int.tdiv_eq_ediv_of_nonneg (by omega)]; exact hkI
  have hElen : E.data.toList.length = E.size := rfl
  rw [hElen] at hin2
  have hEs : E.size ≤ 2000 := by
    have h1 := encL_len t.data.toList
    have h2 : t.data.toList.length = t.size := rfl
    rw [← hEl, hElen] at h1
    omega
  have hcut : 0 < x.size → E.extract k (k + x.size) = x := fun h0 => by
    refine bytes_ext ?_
    rw [extract_list, ← hin1, List.drop_take]
    congr 1
    omega
  have hxx := bytes_beq_same (x := x) rfl
  have hyy := bytes_beq_same (x := y) rfl
  have Hcut := Lib.hid hcut
  have Hin2 := Lib.hid hin2
  have hab : a ++ b ++ c = t := hT.symm
  clear w0 w1 w2 w3 hp hx hxl htl hE hEl hin1 hin2 hxs hk hcut hal hElen hT
  go_enter Tryd.func6, Tryd.ntmps6
  go_wp2_with fail
  refine (kA _).mono ?_
  rintro e w' ⟨rfl, rfl⟩
  go_wp2_with fail
  refine (kB _).mono ?_
  rintro e w' ⟨rfl, rfl⟩
  go_wp2_with fail
  refine (kC _).mono ?_
  rintro e w' ⟨rfl, rfl⟩
  go_wp2_with fail
  refine (kI _ ht).mono ?_
  rintro e w1 ⟨rfl, hb1⟩
  have ht1 := ht.below hb1
  go_wp2_with fail
  refine (kE _ ht1).mono ?_
  rintro e w2 ⟨rfl, hb2⟩
  have ht2 := ht1.below hb2
  have hB2 := hb1.trans (hb2.mono hb1.size)
  clear ht1 hb1 hb2 kA kB kC kE kI
  go_wp2_with fail
  refine (kJ _).mono ?_
  rintro e w3 ⟨rfl, hb3⟩
  have ht3 := ht2.below hb3
  have hB3 := hB2.trans (hb3.mono hB2.size)
  clear ht2 hB2 hb3 kJ
  go_wp2_with fail
  refine (kK _ ht3).mono ?_
  rintro e w4 ⟨rfl, hb4⟩
  have ht4 := ht3.below hb4
  have hB4 := hB3.trans (hb4.mono hB3.size)
  clear ht3 hB3 hb4 kK
  go_wp2_with fail
  refine (kL _).mono ?_
  rintro e w5 ⟨rfl, hb5⟩
  have ht5 := ht4.below hb5
  have hB5 := hB4.trans (hb5.mono hB4.size)
  clear ht4 hB4 hb5 kL
  by_cases h0 : x.size = 0
  · have h0' : ((x.size : Int) == 0) = true := by rw [h0]; rfl
    go_wp2_with (go_at_call 12; refine (awake_any _ ht5).mono ?_; rintro e w6 ⟨rfl, hb6⟩)
    go_ret
    exact ⟨rfl, hB5.trans (hb6.mono hB5.size)⟩
  · have h0' : ((x.size : Int) == 0) = false := by rw [beq_eq_false_iff_ne]; omega
    have hle := Hin2.out (by omega)
    have hex := Hcut.out (by omega)
    have hle' : decide ((k : Int) ≤ (E.size : Int) - (x.size : Int)) = true := decide_eq_true (by omega)
    go_wp2_with (go_at_call 12; refine (awake_any _ ht5).mono ?_; rintro e w6 ⟨rfl, hb6⟩)
    go_ret
    exact ⟨rfl, hB5.trans (hb6.mono hB5.size)⟩
end Go.Proofs.YtmghlbdhkjbejaaDoor
