/-
  nunciolaw07: few, awake, and the walks of its four laws. (write_any, one_any, read_any, oneJP: the contracts of the program's own functions come from the text QuotedProg.)
-/
import Derived.Test.YtahkfoaogcbecaaQuotedProg
import Derived.OpenShut
namespace Go.Proofs.Ytahkfoaogcbecaa
set_option linter.unusedVariables false
set_option linter.unusedSimpArgs false
open Go.RowKit

theorem few_any (s : ByteArray) (w : World) (hs : s.size ≤ maxLen) : Calls Try.prog 7 #[.string s] w fun e w' => e = .returned (.string (s.extract 0 (min s.size 300))) ∧ w = w' := by
  unfold maxLen at hs
  obtain ⟨t, ht⟩ : ∃ t, t = s.extract 0 (min s.size 300) := ⟨_, rfl⟩
  rw [← ht]
  have Ht := Lib.hid ht
  clear ht
  go_enter Try.func7, Try.ntmps7
  go_wp2
  all_goals go_ret
  all_goals refine ⟨?_, rfl⟩
  · rw [Ht.out, show min s.size 300 = 300 from by omega]
    rfl
  · rw [Ht.out, show min s.size 300 = s.size from by omega, show s.extract 0 s.size = s from bytes_ext (by rw [ByteArray.data_extract, Array.toList_extract]; simp; exact List.take_of_length_le (Nat.le_refl _))]
    rfl
theorem few_size (s : ByteArray) : (s.extract 0 (min s.size 300)).size ≤ 300 := by simp; omega
theorem awake_a : writeJ [97, 34, 98, 10] = [97, 92, 34, 98, 92, 110] := by decide +kernel
theorem awake_b : writeJ [60] = [92, 117, 48, 48, 51, 67] := by decide +kernel
theorem awake_c : decJ [92, 117, 68, 56, 51, 68, 92, 117, 68, 68, 49, 52] = some [240, 159, 148, 148] := by
  rw [decJ_one (show oneJ [92, 117, 68, 56, 51, 68, 92, 117, 68, 68, 49, 52] = some (128276, 12) from by decide +kernel), show List.drop 12 [92, 117, 68, 56, 51, 68, 92, 117, 68, 68, 49, 52] = ([] : List UInt8) from rfl, decJ_nil]
  decide +kernel
theorem awake_d : decJ [92, 117, 68, 56, 51, 68] = none := decJ_bad (by decide +kernel)

set_option maxRecDepth 100000 in
set_option maxHeartbeats 2000000 in
theorem awake_any (w : World) : Calls Try.prog 13 #[] w fun e w' => e = .returned (.bool true) ∧ Below w.heap.size w w' := by
  have kA := fun (W : World) => read_any W ⟨#[92, 117, 68, 56, 51, 68, 92, 117, 68, 68, 49, 52]⟩ (by decide)
  simp only [show decJ (⟨#[92, 117, 68, 56, 51, 68, 92, 117, 68, 68, 49, 52]⟩ : ByteArray).data.toList = some [240, 159, 148, 148] from awake_c, show resJ (some [240, 159, 148, 148]) = .tuple #[.string ⟨#[240, 159, 148, 148]⟩, .int .i64 0] from rfl] at kA
  have kB := fun (W : World) => read_any W ⟨#[92, 117, 68, 56, 51, 68]⟩ (by decide)
  simp only [show decJ (⟨#[92, 117, 68, 56, 51, 68]⟩ : ByteArray).data.toList = none from awake_d, show resJ none = .tuple #[.string ⟨#[]⟩, .int .i64 7] from rfl] at kB
  have kC := fun (W : World) => write_any W ⟨#[97, 34, 98, 10]⟩ (by decide)
  simp only [show writeJ (⟨#[97, 34, 98, 10]⟩ : ByteArray).data.toList = [97, 92, 34, 98, 92, 110] from awake_a] at kC
  have kD := fun (W : World) => write_any W ⟨#[60]⟩ (by decide)
  simp only [show writeJ (⟨#[60]⟩ : ByteArray).data.toList = [92, 117, 48, 48, 51, 67] from awake_b] at kD
  have q1 := bytes_beq_same (x := ⟨#[240, 159, 148, 148]⟩) rfl
  have q2 := bytes_beq_same (x := ⟨#[97, 92, 34, 98, 92, 110]⟩) rfl
  have q3 := bytes_beq_same (x := ⟨#[92, 117, 48, 48, 51, 67]⟩) rfl
  go_enter Try.func13, Try.ntmps13
  go_wp2_with fail
  refine (kA _).mono ?_
  rintro e w1 ⟨rfl, hb1⟩
  have hB1 := hb1
  clear hb1
  go_wp2_with fail
  refine (kB _).mono ?_
  rintro e w2 ⟨rfl, hb2⟩
  have hB2 := hB1.trans (hb2.mono hB1.size)
  clear hB1
  clear hb2
  go_wp2_with fail
  refine (kC _).mono ?_
  rintro e w3 ⟨rfl, hb3⟩
  have hB3 := hB2.trans (hb3.mono hB2.size)
  clear hB2
  clear hb3
  go_wp2_with fail
  refine (kD _).mono ?_
  rintro e w4 ⟨rfl, hb4⟩
  have hB4 := hB3.trans (hb4.mono hB3.size)
  clear hB3
  clear hb4
  go_wp2_with fail
  go_ret
  exact ⟨rfl, hB4⟩

set_option maxRecDepth 100000 in
set_option maxHeartbeats 4000000 in
theorem quotedWrites_walk (s0 : ByteArray) (w0 : s0.size ≤ maxLen) (w : World) :
    Calls Try.prog 3 #[.string s0] w fun e w' => e = .returned (.bool true) ∧ Below w.heap.size w w' := by
  have kF := fun W => few_any s0 W w0
  have hss := few_size s0
  generalize s0.extract 0 (min s0.size 300) = s at kF hss
  have kT := fun (W : World) => write_any W s (by omega)
  have kR := fun (W : World) => refWriteJ_any W s (by omega)
  have kH := fun (W : World) => refWholeJ_any W s (by omega)
  have kI := fun (W : World) => refIs_any s W (by omega)
  obtain ⟨x, hx⟩ : ∃ q : ByteArray, q = ⟨(writeJ s.data.toList).toArray⟩ := ⟨_, rfl⟩
  have hxl : x.data.toList = writeJ s.data.toList := by rw [hx]
  have hxs : x.size ≤ 1800 := by
    have h1 : x.data.toList.length = x.size := rfl
    have h2 := writeJ_len s.data.toList
    have h3 : s.data.toList.length = s.size := rfl
    rw [hxl] at h1
    omega
  obtain ⟨y, hy⟩ : ∃ q : ByteArray, q = ⟨(wholeJ s.data.toList).toArray⟩ := ⟨_, rfl⟩
  rw [← hx] at kT kR
  rw [← hy] at kH
  have kD : ∀ W : World, Calls Try.prog 9 #[.string x] W fun e w' => e = .returned (.tuple #[.string y, .int .i64 0]) ∧ Below W.heap.size W w' := fun W => by
    have h := read_any W x (by omega)
    rw [hxl, dec_writeJ] at h
    rw [hy]
    exact h
  have q1 := bytes_beq_same (x := x) rfl
  have q2 := bytes_beq_same (x := y) rfl
  have hsame : okL s.data.toList = true → y = s := fun h => bytes_ext (by rw [hy]; exact whole_same h)
  clear w0 hx hy hxl
  cases hok : okL s.data.toList with
  | true =>
    rw [hok] at kI
    obtain rfl := hsame hok
    clear hsame hok
    go_enter Try.func3, Try.ntmps3
    go_wp2_with fail
    refine (kF _).mono ?_
    rintro e w' ⟨rfl, rfl⟩
    go_wp2_with fail
    refine (kT _).mono ?_
    rintro e w1 ⟨rfl, hb1⟩
    have hB1 := hb1
    clear hb1
    go_wp2_with fail
    refine (kD _).mono ?_
    rintro e w2 ⟨rfl, hb2⟩
    have hB2 := hB1.trans (hb2.mono hB1.size)
    clear hB1
    clear hb2
    go_wp2_with fail
    refine (kR _).mono ?_
    rintro e w3 ⟨rfl, hb3⟩
    have hB3 := hB2.trans (hb3.mono hB2.size)
    clear hB2
    clear hb3
    go_wp2_with fail
    refine (kH _).mono ?_
    rintro e w4 ⟨rfl, hb4⟩
    have hB4 := hB3.trans (hb4.mono hB3.size)
    clear hB3
    clear hb4
    go_wp2_with fail
    refine (kI _).mono ?_
    rintro e w5 ⟨rfl, hb5⟩
    have hB5 := hB4.trans (hb5.mono hB4.size)
    clear hB4
    clear hb5
    go_wp2_with fail
    refine (awake_any _).mono ?_
    rintro e w6 ⟨rfl, hb6⟩
    have hB6 := hB5.trans (hb6.mono hB5.size)
    clear hB5
    clear hb6
    go_wp2_with fail
    go_ret
    exact ⟨rfl, hB6⟩
  | false =>
    rw [hok] at kI
    clear hsame hok
    go_enter Try.func3, Try.ntmps3
    go_wp2_with fail
    refine (kF _).mono ?_
    rintro e w' ⟨rfl, rfl⟩
    go_wp2_with fail
    refine (kT _).mono ?_
    rintro e w1 ⟨rfl, hb1⟩
    have hB1 := hb1
    clear hb1
    go_wp2_with fail
    refine (kD _).mono ?_
    rintro e w2 ⟨rfl, hb2⟩
    have hB2 := hB1.trans (hb2.mono hB1.size)
    clear hB1
    clear hb2
    go_wp2_with fail
    refine (kR _).mono ?_
    rintro e w3 ⟨rfl, hb3⟩
    have hB3 := hB2.trans (hb3.mono hB2.size)
    clear hB2
    clear hb3
    go_wp2_with fail
    refine (kH _).mono ?_
    rintro e w4 ⟨rfl, hb4⟩
    have hB4 := hB3.trans (hb4.mono hB3.size)
    clear hB3
    clear hb4
    go_wp2_with fail
    refine (kI _).mono ?_
    rintro e w5 ⟨rfl, hb5⟩
    have hB5 := hB4.trans (hb5.mono hB4.size)
    clear hB4
    clear hb5
    go_wp2_with fail
    refine (awake_any _).mono ?_
    rintro e w6 ⟨rfl, hb6⟩
    have hB6 := hB5.trans (hb6.mono hB5.size)
    clear hB5
    clear hb6
    go_wp2_with fail
    go_ret
    exact ⟨rfl, hB6⟩

theorem oneJ_is (s : ByteArray) (a : Int) : ∃ (b n : Nat) (t : Bool), b ≤ 1114111 ∧ oneJP (oneJAt s a) = .tuple #[.int .i32 (b : Int), .int .i64 (n : Int), .bool t] ∧ oneJV (oneJAt s a) = .tuple #[.int .i64 (b : Int), .int .i64 (n : Int), .bool t] := by
  cases h : oneJAt s a with
  | none => exact ⟨0, 0, _, by omega, rfl, rfl⟩
  | some p =>
    refine ⟨p.1, p.2, true, ?_, rfl, rfl⟩
    unfold oneJAt at h
    split at h
    · have := (oneJ_size h).2.2.2
      unfold isRune at this
      omega
    · cases h

set_option maxRecDepth 100000 in
set_option maxHeartbeats 4000000 in
theorem quotedOne_walk (s0 : ByteArray) (a : Int) (w0 : s0.size ≤ maxLen) (w1 : (Lit.int .i64 a).wf = true) (w : World) :
    Calls Try.prog 4 #[.string s0, .int .i64 a] w fun e w' => e = .returned (.bool true) ∧ Below w.heap.size w w' := by
  have hc := bounds_i64 w1
  have kF := fun W => few_any s0 W w0
  have hss := few_size s0
  generalize s0.extract 0 (min s0.size 300) = s at kF hss
  have kO := fun (W : World) => one_any W s a (by omega) hc.1 (by omega)
  have kQ := fun (W : World) => refOneJ_any W s a (by omega)
  obtain ⟨b, n, t, hb2, hb, hv⟩ := oneJ_is s a
  rw [hb] at kO
  rw [hv] at kQ
  have q2 : (t == t) = true := beq_self_eq_true t
  clear w0 hb hc hv
  go_enter Try.func4, Try.ntmps4
  go_wp2_with fail
  refine (kF _).mono ?_
  rintro e w' ⟨rfl, rfl⟩
  go_wp2_with fail
  refine (kO _).mono ?_
  rintro e w1 ⟨rfl, hb1⟩
  have hB1 := hb1
  clear hb1
  go_wp2_with fail
  refine (kQ _).mono ?_
  rintro e w2 ⟨rfl, hb2⟩
  have hB2 := hB1.trans (hb2.mono hB1.size)
  clear hB1
  clear hb2
  go_wp2_with fail
  refine (awake_any _).mono ?_
  rintro e w3 ⟨rfl, hb3⟩
  have hB3 := hB2.trans (hb3.mono hB2.size)
  clear hB2
  clear hb3
  go_wp2_with fail
  go_ret
  exact ⟨rfl, hB3⟩

set_option maxRecDepth 100000 in
set_option maxHeartbeats 4000000 in
theorem quotedReads_walk (s0 : ByteArray) (w0 : s0.size ≤ maxLen) (w : World) :
    Calls Try.prog 5 #[.string s0] w fun e w' => e = .returned (.bool true) ∧ Below w.heap.size w w' := by
  have kF := fun W => few_any s0 W w0
  have hss := few_size s0
  generalize s0.extract 0 (min s0.size 300) = s at kF hss
  have kD := fun (W : World) => read_any W s (by omega)
  have kR := fun (W : World) => refReadJ_any W s (by omega)
  obtain ⟨x, m, hx⟩ : ∃ (b : ByteArray) (n : Int), resJ (decJ s.data.toList) = .tuple #[.string b, .int .i64 n] := by
    cases decJ s.data.toList with
    | none => exact ⟨_, _, rfl⟩
    | some y => exact ⟨_, _, rfl⟩
  rw [hx] at kD kR
  have q1 := bytes_beq_same (x := x) rfl
  clear w0 hx
  go_enter Try.func5, Try.ntmps5
  go_wp2_with fail
  refine (kF _).mono ?_
  rintro e w' ⟨rfl, rfl⟩
  go_wp2_with fail
  refine (kD _).mono ?_
  rintro e w1 ⟨rfl, hb1⟩
  have hB1 := hb1
  clear hb1
  go_wp2_with fail
  refine (kR _).mono ?_
  rintro e w2 ⟨rfl, hb2⟩
  have hB2 := hB1.trans (hb2.mono hB1.size)
  clear hB1
  clear hb2
  go_wp2_with fail
  refine (awake_any _).mono ?_
  rintro e w3 ⟨rfl, hb3⟩
  have hB3 := hB2.trans (hb3.mono hB2.size)
  clear hB2
  clear hb3
  go_wp2_with fail
  go_ret
  exact ⟨rfl, hB3⟩

theorem drop_ne {q : ByteArray} {i : Nat} (h : i < q.size) : ∃ c r, q.data.toList.drop i = c :: r := ⟨_, _, List.drop_eq_getElem_cons (by exact h)⟩
set_option maxRecDepth 100000 in
set_option maxHeartbeats 4000000 in
theorem quotedSafe_walk (s0 : ByteArray) (w0 : s0.size ≤ maxLen) (w : World) :
    Calls Try.prog 6 #[.string s0] w fun e w' => e = .returned (.bool true) ∧ Below w.heap.size w w' := by
  have kF := fun W => few_any s0 W w0
  have hss := few_size s0
  generalize s0.extract 0 (min s0.size 300) = s at kF hss
  have kT := fun (W : World) => write_any W s (by omega)
  obtain ⟨q, hq⟩ : ∃ q : ByteArray, q = ⟨(writeJ s.data.toList).toArray⟩ := ⟨_, rfl⟩
  have hql : q.data.toList = writeJ s.data.toList := by rw [hq]
  have hqs : q.size ≤ 1800 := by
    have h1 : q.data.toList.length = q.size := rfl
    have h2 := writeJ_len s.data.toList
    have h3 : s.data.toList.length = s.size := rfl
    rw [hql] at h1
    omega
  rw [← hq] at kT
  have kI := fun (W : World) => refIs_any q W (by omega)
  rw [hql, writeJ_okL] at kI
  have hbytes : ∀ b ∈ q.data.toList, okJ b = true := by rw [hql]; exact writeJ_okJ _
  have hrunes : ∃ rs : List Nat, (∀ r ∈ rs, isRune r) ∧ q.data.toList.drop 0 = writeR rs := ⟨_, runesJ_ok s.data.toList, by rw [List.drop_zero, hql]; rfl⟩
  have Hbytes := Lib.hid hbytes
  have Hrunes := Lib.hid hrunes
  clear w0 hq hql hbytes hrunes
  go_enter Try.func6, Try.ntmps6
  go_wp2_with fail
  refine (kF _).mono ?_
  rintro e w' ⟨rfl, rfl⟩
  go_wp2_with fail
  refine (kT _).mono ?_
  rintro e w1 ⟨rfl, hb1⟩
  go_wp2_with fail
  go_loopw [4] (fun iv wr => ∃ i : Nat, iv = .int .i64 (i : Int) ∧ i ≤ q.size ∧ wr = w1) (fun iv wr => q.size - (intOf iv).toNat)
  case atStart => exact ⟨0, rfl, Nat.zero_le _, rfl⟩
  case round =>
    obtain ⟨i, rfl, hi, hwr⟩ := hrel
    subst hwr
    by_cases hlt : i < q.size
    · obtain ⟨c, hc⟩ : ∃ c, c = q[i] := ⟨_, rfl⟩
      have hc' : q[i].toNat = c.toNat := by rw [hc]
      have ho : okJ c = true := Hbytes.out c (by rw [hc]; exact List.getElem_mem (by exact hlt))
      unfold okJ at ho
      simp only [Bool.and_eq_true, Bool.not_eq_true', decide_eq_false_iff_not, decide_eq_true_eq] at ho
      obtain ⟨⟨⟨⟨h32, h38⟩, h60⟩, h62⟩, h127⟩ := ho
      have d32 : decide ((c.toNat : Int) < 32) = false := decide_eq_false (by omega)
      have e38 : ((c.toNat : Int) == 38) = false := by rw [beq_eq_false_iff_ne]; omega
      have e60 : ((c.toNat : Int) == 60) = false := by rw [beq_eq_false_iff_ne]; omega
      have e62 : ((c.toNat : Int) == 62) = false := by rw [beq_eq_false_iff_ne]; omega
      have e127 : ((c.toNat : Int) == 127) = false := by rw [beq_eq_false_iff_ne]; omega
      clear hc h32 h38 h60 h62 h127
      go_wp2_with fail
      go_roundw
      case rel => exact ⟨i + 1, by go_num, by omega, trivial⟩
      case measure => simp [intOf]; omega
    · obtain rfl : i = q.size := by omega
      clear hlt hi
      go_wp2_with fail
      go_loopw [6] (fun iv wx => ∃ i : Nat, iv = .int .i64 (i : Int) ∧ i ≤ q.size ∧ Hid (∃ rs : List Nat, (∀ r ∈ rs, isRune r) ∧ q.data.toList.drop i = writeR rs) ∧ Below w.heap.size w wx) (fun iv wx => q.size - (intOf iv).toNat)
      case atStart => exact ⟨0, rfl, Nat.zero_le _, Hrunes, hb1⟩
      case round =>
        obtain ⟨i, rfl, hi, Hrs, hbel⟩ := hrel
        by_cases hlt : i < q.size
        · obtain ⟨rs, hrs, hd⟩ := Hrs.out
          cases rs with
          | nil =>
            obtain ⟨c, r, hcr⟩ := drop_ne hlt
            rw [hcr] at hd
            cases hd
          | cons r rs =>
            have h1 := one_escJ r (writeR rs) (hrs r (by simp))
            have hwr : writeR (r :: rs) = escJ r ++ writeR rs := by unfold writeR; rw [List.flatMap_cons]
            have hl := escJ_len r
            rw [hwr] at hd
            have hat : oneJAt q (i : Int) = some (r, (escJ r).length) := by
              unfold oneJAt
              rw [if_pos (by omega), Int.toNat_natCast, hd]
              exact h1
            have hd2 : q.data.toList.drop (i + (escJ r).length) = writeR rs := by rw [← List.drop_drop, hd, List.drop_left]
            have hin : i + (escJ r).length ≤ q.size := by
              have h4 : (q.data.toList.drop i).length = q.size - i := by rw [List.length_drop]; rfl
              rw [hd, List.length_append] at h4
              omega
            have kO := fun (W : World) => one_any W q (i : Int) (by omega) (by omega) (by omega)
            rw [hat] at kO
            simp only [oneJP] at kO
            have HD := Lib.hid (show ∃ rs : List Nat, (∀ r ∈ rs, isRune r) ∧ q.data.toList.drop (i + (escJ r).length) = writeR rs from ⟨rs, fun r' h' => hrs r' (by simp [h']), hd2⟩)
            generalize (escJ r).length = n at hl hin kO HD
            have dn : decide ((n : Int) < 1) = false := decide_eq_false (by omega)
            have hn1 := hl.1
            clear hd hd2 hat hwr h1 hl Hrs hrs
            go_wp2_with fail
            refine (kO _).mono ?_
            rintro e w5 ⟨rfl, hb5⟩
            go_wp2_with fail
            go_roundw
            case rel => exact ⟨i + n, by go_num, by omega, HD, hbel.trans (hb5.mono hbel.size)⟩
            case measure => simp [intOf]; omega
        · obtain rfl : i = q.size := by omega
          go_wp2_with fail
          refine (kI _).mono ?_
          rintro e w4 ⟨rfl, hb4⟩
          have hB4 := hbel.trans (hb4.mono hbel.size)
          go_wp2_with fail
          refine (awake_any _).mono ?_
          rintro e w5 ⟨rfl, hb5⟩
          go_wp2_with fail
          go_ret
          exact ⟨rfl, hB4.trans (hb5.mono hB4.size)⟩
end Go.Proofs.Ytahkfoaogcbecaa
