/-
  nunciolaw05: few, awake, and the walks of its three laws. (encode_any and decode_any, the contracts of the program's own Encode and Decode, come from the text QpRead.)
-/
import Derived.Test.YtoplcmckglglcaaQpRead
namespace Go.Proofs.Ytoplcmckglglcaa
set_option linter.unusedVariables false
set_option linter.unusedSimpArgs false
open Go.RowKit

theorem few_any (s : ByteArray) (w : World) (hs : s.size ≤ maxLen) : Calls Try.prog 6 #[.string s] w fun e w' => e = .returned (.string (s.extract 0 (min s.size 400))) ∧ w = w' := by
  unfold maxLen at hs
  obtain ⟨t, ht⟩ : ∃ t, t = s.extract 0 (min s.size 400) := ⟨_, rfl⟩
  rw [← ht]
  have Ht := Lib.hid ht
  clear ht
  go_enter Try.func6, Try.ntmps6
  go_wp2
  all_goals go_ret
  all_goals refine ⟨?_, rfl⟩
  · rw [Ht.out, show min s.size 400 = 400 from by omega]
    rfl
  · rw [Ht.out, show min s.size 400 = s.size from by omega, show s.extract 0 s.size = s from bytes_ext (by rw [ByteArray.data_extract, Array.toList_extract]; simp; exact List.take_of_length_le (Nat.le_refl _))]
    rfl
theorem few_size (s : ByteArray) : (s.extract 0 (min s.size 400)).size ≤ 400 := by simp; omega
theorem awake_a : encQ 0 [97, 61, 98] = [97, 61, 51, 68, 98] := by decide +kernel
theorem awake_b : encQ 0 [97, 32, 10] = [97, 61, 50, 48, 13, 10] := by decide +kernel
theorem awake_c : encQ 0 [195, 169] = [61, 67, 51, 61, 65, 57] := by decide +kernel
theorem awake_d : decQ [97, 61, 51, 68, 98] = some [97, 61, 98] := by rw [← awake_a, dec_encQ]

set_option maxRecDepth 100000 in
set_option maxHeartbeats 2000000 in
theorem awake_any (w : World) : Calls Try.prog 10 #[] w fun e w' => e = .returned (.bool true) ∧ Below w.heap.size w w' := by
  have kD := fun (W : World) => decode_any W ⟨#[97, 61, 51, 68, 98]⟩ (by decide)
  simp only [show decQ (⟨#[97, 61, 51, 68, 98]⟩ : ByteArray).data.toList = some [97, 61, 98] from awake_d, show resQ (some [97, 61, 98]) = .tuple #[.string ⟨#[97, 61, 98]⟩, .int .i64 0] from rfl] at kD
  have kA := fun (W : World) => encode_any W ⟨#[97, 61, 98]⟩ (by decide)
  simp only [show encQ 0 (⟨#[97, 61, 98]⟩ : ByteArray).data.toList = [97, 61, 51, 68, 98] from awake_a] at kA
  have kB := fun (W : World) => encode_any W ⟨#[97, 32, 10]⟩ (by decide)
  simp only [show encQ 0 (⟨#[97, 32, 10]⟩ : ByteArray).data.toList = [97, 61, 50, 48, 13, 10] from awake_b] at kB
  have kC := fun (W : World) => encode_any W ⟨#[195, 169]⟩ (by decide)
  simp only [show encQ 0 (⟨#[195, 169]⟩ : ByteArray).data.toList = [61, 67, 51, 61, 65, 57] from awake_c] at kC
  have q1 := bytes_beq_same (x := ⟨#[97, 61, 51, 68, 98]⟩) rfl
  have q2 := bytes_beq_same (x := ⟨#[97, 61, 50, 48, 13, 10]⟩) rfl
  have q3 := bytes_beq_same (x := ⟨#[61, 67, 51, 61, 65, 57]⟩) rfl
  have q4 := bytes_beq_same (x := ⟨#[97, 61, 98]⟩) rfl
  go_enter Try.func10, Try.ntmps10
  go_wp2_with fail
  refine (kD _).mono ?_
  rintro e w1 ⟨rfl, hb1⟩
  clear kD
  go_wp2_with fail
  refine (kA _).mono ?_
  rintro e w2 ⟨rfl, hb2⟩
  have hB2 := hb1.trans (hb2.mono hb1.size)
  clear hb1 hb2 kA
  go_wp2_with fail
  refine (kB _).mono ?_
  rintro e w3 ⟨rfl, hb3⟩
  have hB3 := hB2.trans (hb3.mono hB2.size)
  clear hB2 hb3 kB
  go_wp2_with fail
  refine (kC _).mono ?_
  rintro e w4 ⟨rfl, hb4⟩
  have hB4 := hB3.trans (hb4.mono hB3.size)
  clear hB3 hb4 kC
  go_wp2_with fail
  go_ret
  exact ⟨rfl, hB4⟩

set_option maxRecDepth 100000 in
set_option maxHeartbeats 4000000 in
theorem printableEncodes_walk (s0 : ByteArray) (w0 : s0.size ≤ maxLen) (w : World) :
    Calls Try.prog 3 #[.string s0] w fun e w' => e = .returned (.bool true) ∧ Below w.heap.size w w' := by
  have kF := fun W => few_any s0 W w0
  have hss := few_size s0
  generalize s0.extract 0 (min s0.size 400) = s at kF hss
  have kE := fun (W : World) => encode_any W s (by omega)
  have kR := fun (W : World) => refEncode_any W s (by omega)
  obtain ⟨q, hq⟩ : ∃ q : ByteArray, q = ⟨(encQ 0 s.data.toList).toArray⟩ := ⟨_, rfl⟩
  have hql : q.data.toList = encQ 0 s.data.toList := by rw [hq]
  have hqs : q.size ≤ 2400 := by
    have h1 : q.data.toList.length = q.size := rfl
    have h2 := encQ_len s.data.toList 0
    have h3 : s.data.toList.length = s.size := rfl
    rw [hql] at h1
    omega
  rw [← hq] at kE kR
  have kD : ∀ W : World, Calls Try.prog 8 #[.string q] W fun e w' => e = .returned (.tuple #[.string s, .int .i64 0]) ∧ Below W.heap.size W w' := fun W => by
    have h := decode_any W q (by omega)
    rw [hql, dec_encQ] at h
    exact h
  have q1 := bytes_beq_same (x := q) rfl
  have q2 := bytes_beq_same (x := s) rfl
  clear w0 hq hql
  go_enter Try.func3, Try.ntmps3
  go_wp2_with fail
  refine (kF _).mono ?_
  rintro e w' ⟨rfl, rfl⟩
  go_wp2_with fail
  refine (kE _).mono ?_
  rintro e w1 ⟨rfl, hb1⟩
  clear kF kE
  go_wp2_with fail
  refine (kD _).mono ?_
  rintro e w2 ⟨rfl, hb2⟩
  have hB2 := hb1.trans (hb2.mono hb1.size)
  clear hb1 hb2 kD
  go_wp2_with fail
  refine (kR _).mono ?_
  rintro e w3 ⟨rfl, hb3⟩
  have hB3 := hB2.trans (hb3.mono hB2.size)
  clear hB2 hb3 kR
  go_wp2_with fail
  refine (awake_any _).mono ?_
  rintro e w4 ⟨rfl, hb4⟩
  go_wp2_with fail
  go_ret
  exact ⟨rfl, hB3.trans (hb4.mono hB3.size)⟩

set_option maxRecDepth 100000 in
set_option maxHeartbeats 4000000 in
theorem printableDecodes_walk (s0 : ByteArray) (w0 : s0.size ≤ maxLen) (w : World) :
    Calls Try.prog 4 #[.string s0] w fun e w' => e = .returned (.bool true) ∧ Below w.heap.size w w' := by
  have kF := fun W => few_any s0 W w0
  have hss := few_size s0
  generalize s0.extract 0 (min s0.size 400) = s at kF hss
  have kD := fun (W : World) => decode_any W s (by omega)
  have kR := fun (W : World) => refDecode_any W s (by omega)
  obtain ⟨b, n, hb⟩ : ∃ (b : ByteArray) (n : Int), resQ (decQ s.data.toList) = .tuple #[.string b, .int .i64 n] := by
    cases decQ s.data.toList with
    | none => exact ⟨_, _, rfl⟩
    | some y => exact ⟨_, _, rfl⟩
  rw [hb] at kD kR
  have q1 := bytes_beq_same (x := b) rfl
  clear w0 hb
  go_enter Try.func4, Try.ntmps4
  go_wp2_with fail
  refine (kF _).mono ?_
  rintro e w' ⟨rfl, rfl⟩
  go_wp2_with fail
  refine (kD _).mono ?_
  rintro e w1 ⟨rfl, hb1⟩
  clear kF kD
  go_wp2_with fail
  refine (kR _).mono ?_
  rintro e w2 ⟨rfl, hb2⟩
  have hB2 := hb1.trans (hb2.mono hb1.size)
  clear hb1 hb2 kR
  go_wp2_with fail
  refine (awake_any _).mono ?_
  rintro e w3 ⟨rfl, hb3⟩
  go_wp2_with fail
  go_ret
  exact ⟨rfl, hB2.trans (hb3.mono hB2.size)⟩

set_option maxRecDepth 100000 in
set_option maxHeartbeats 4000000 in
theorem printableLines_walk (s0 : ByteArray) (w0 : s0.size ≤ maxLen) (w : World) :
    Calls Try.prog 5 #[.string s0] w fun e w' => e = .returned (.bool true) ∧ Below w.heap.size w w' := by
  have kF := fun W => few_any s0 W w0
  have hss := few_size s0
  generalize s0.extract 0 (min s0.size 400) = s at kF hss
  have kE := fun (W : World) => encode_any W s (by omega)
  obtain ⟨q, hq⟩ : ∃ q : ByteArray, q = ⟨(encQ 0 s.data.toList).toArray⟩ := ⟨_, rfl⟩
  have hql : q.data.toList = encQ 0 s.data.toList := by rw [hq]
  have hqs : q.size ≤ 2400 := by
    have h1 : q.data.toList.length = q.size := rfl
    have h2 := encQ_len s.data.toList 0
    have h3 : s.data.toList.length = s.size := rfl
    rw [hql] at h1
    omega
  rw [← hq] at kE
  have hline : lineQ 0 0 q.data.toList = true := by rw [hql]; exact lineQ_enc _ 0 0 (by omega) (by omega)
  have Hline := Lib.hid hline
  clear w0 hq hql hline
  go_enter Try.func5, Try.ntmps5
  go_wp2_with fail
  refine (kF _).mono ?_
  rintro e w' ⟨rfl, rfl⟩
  go_wp2_with fail
  refine (kE _).mono ?_
  rintro e w1 ⟨rfl, hb1⟩
  go_wp2_with fail
  go_loopw [4, 5] (fun lv iv wr => ∃ n i p : Nat, lv = .int .i64 (n : Int) ∧ iv = .int .i64 (i : Int) ∧ i ≤ q.size ∧ n ≤ i ∧ ((i = 0 ∧ p = 0) ∨ (0 < i ∧ ∃ h : i - 1 < q.size, q[i - 1].toNat = p)) ∧ Hid (lineQ n p (q.data.toList.drop i) = true) ∧ wr = w1) (fun lv iv wr => q.size - (intOf iv).toNat)
  case atStart => exact ⟨0, 0, 0, rfl, rfl, Nat.zero_le _, Nat.le_refl _, .inl ⟨rfl, rfl⟩, Hline, rfl⟩
  case round =>
    obtain ⟨n, i, p, rfl, rfl, hi, hn, hp, HL, rfl⟩ := hrel
    by_cases hlt : i < q.size
    · obtain ⟨c, hc⟩ : ∃ c, c = q[i] := ⟨_, rfl⟩
      have hc' : q[i].toNat = c.toNat := by rw [hc]
      have hdr : q.data.toList.drop i = c :: q.data.toList.drop (i + 1) := by
        rw [List.drop_eq_getElem_cons (by exact hlt), hc]
        rfl
      have hL := HL.out
      rw [hdr, lineQ] at hL
      by_cases h13 : c.toNat = 13
      · rw [if_pos h13, Bool.and_eq_true, Bool.and_eq_true, Bool.and_eq_true] at hL
        obtain ⟨⟨hL1, hL2, hL3⟩, hL4⟩ := hL
        have h32 : p ≠ 32 := by simpa using hL2
        have h9 : p ≠ 9 := by simpa using hL3
        have hlt2 : i + 1 < q.size := by
          by_cases h : i + 1 < q.size
          · exact h
          · rw [List.drop_eq_nil_of_le (by show q.size ≤ _; omega)] at hL1
            cases hL1
        have hd' : q[i + 1].toNat = 10 := by
          rw [List.drop_eq_getElem_cons (by exact hlt2)] at hL1
          have h : q.data.toList[i + 1].toNat = 10 := of_decide_eq_true hL1
          exact h
        have HL4 := Lib.hid hL4
        have hpn : i + 1 - 1 < q.size := by omega
        have hpn2 : q[i + 1 - 1].toNat = 13 := by rw [← h13, ← hc']; rfl
        have hpre : (0 < i + 1 ∧ ∃ h : i + 1 - 1 < q.size, q[i + 1 - 1].toNat = 13) := ⟨by omega, hpn, hpn2⟩
        have Hpre := Lib.hid hpre
        have hi1 : ((i : Int) + 1).toNat = i + 1 := by omega
        have elast : ((i : Int) == (q.size : Int) - 1) = false := by rw [beq_eq_false_iff_ne]; omega
        rw [h13] at hc'
        clear hL1 hL2 hL3 hL4 hdr hc hpn hpn2 hpre HL
        rcases hp with ⟨rfl, rfl⟩ | ⟨h0, hq0, hq1⟩
        · clear h32 h9
          go_wp2
          go_roundw
          case rel => exact ⟨n, 1, 13, rfl, by go_num, by omega, by omega, .inr Hpre.out, HL4, trivial⟩
          case measure => simp [intOf]; omega
        · have h0I : decide ((i : Int) > 0) = true := decide_eq_true (by omega)
          have hm1 : ((i : Int) - 1).toNat = i - 1 := by omega
          have e32 : ((p : Int) == 32) = false := by rw [beq_eq_false_iff_ne]; omega
          have e9 : ((p : Int) == 9) = false := by rw [beq_eq_false_iff_ne]; omega
          have hm0 : (0 : Int) ≤ (i : Int) - 1 := by omega
          have hm2 : (i : Int) - 1 < (q.size : Int) := by omega
          go_wp2
          go_roundw
          case rel => exact ⟨n, i + 1, 13, rfl, by go_num, by omega, by omega, .inr Hpre.out, HL4, trivial⟩
          case measure => simp [intOf]; omega
      · rw [if_neg h13] at hL
        by_cases h10 : c.toNat = 10
        · rw [if_pos h10, Bool.and_eq_true] at hL
          obtain ⟨hL1, hL4⟩ := hL
          have h13p : p = 13 := of_decide_eq_true hL1
          subst h13p
          obtain ⟨h0, hq0, hq1⟩ : 0 < i ∧ ∃ h : i - 1 < q.size, q[i - 1].toNat = 13 := by
            rcases hp with ⟨_, h⟩ | h
            · cases h
            · exact h
          have HL4 := Lib.hid hL4
          have hpre : (0 < i + 1 ∧ ∃ h : i + 1 - 1 < q.size, q[i + 1 - 1].toNat = 10) := ⟨by omega, by omega, by rw [← h10, ← hc']; rfl⟩
          have Hpre := Lib.hid hpre
          have hm1 : ((i : Int) - 1).toNat = i - 1 := by omega
          have e0 : ((i : Int) == 0) = false := by rw [beq_eq_false_iff_ne]; omega
          have hm0 : (0 : Int) ≤ (i : Int) - 1 := by omega
          have hm2 : (i : Int) - 1 < (q.size : Int) := by omega
          rw [h10] at hc'
          clear hL1 hL4 hdr hc hpre HL hp
          go_wp2
          go_roundw
          case rel => exact ⟨0, i + 1, 10, rfl, by go_num, by omega, by omega, .inr Hpre.out, HL4, trivial⟩
          case measure => simp [intOf]; omega
        · rw [if_neg h10, Bool.and_eq_true, Bool.and_eq_true, Bool.and_eq_true, Bool.or_eq_true, decide_eq_true_iff, decide_eq_true_iff, decide_eq_true_iff, decide_eq_true_iff] at hL
          obtain ⟨⟨h76, h126, h32⟩, hL4⟩ := hL
          have HL4 := Lib.hid hL4
          have hpre : (0 < i + 1 ∧ ∃ h : i + 1 - 1 < q.size, q[i + 1 - 1].toNat = c.toNat) := ⟨by omega, by omega, by rw [← hc']; rfl⟩
          have Hpre := Lib.hid hpre
          have e13 : ((c.toNat : Int) == 13) = false := by rw [beq_eq_false_iff_ne]; omega
          have e10 : ((c.toNat : Int) == 10) = false := by rw [beq_eq_false_iff_ne]; omega
          have g76 : decide ((n : Int) + 1 > 76) = false := decide_eq_false (by omega)
          have g126 : decide ((c.toNat : Int) > 126) = false := decide_eq_false (by omega)
          clear hL4 hdr hc hpre HL hp h13 h10
          rcases h32 with h32 | h32
          · have g32 : decide ((c.toNat : Int) < 32) = false := decide_eq_false (by omega)
            go_wp2
            go_roundw
            case rel => exact ⟨n + 1, i + 1, c.toNat, by go_num, by go_num, by omega, by omega, .inr Hpre.out, HL4, trivial⟩
            case measure => simp [intOf]; omega
          · rw [h32] at hc' HL4 Hpre
            clear e13 e10 g126
            go_wp2
            go_roundw
            case rel => exact ⟨n + 1, i + 1, 9, by go_num, by go_num, by omega, by omega, .inr Hpre.out, HL4, trivial⟩
            case measure => simp [intOf]; omega
    · obtain rfl : i = q.size := by omega
      have hL := HL.out
      rw [List.drop_eq_nil_of_le (by show q.size ≤ _; omega), lineQ, Bool.and_eq_true] at hL
      have h32 : p ≠ 32 := by simpa using hL.1
      have h9 : p ≠ 9 := by simpa using hL.2
      clear hL HL
      rcases hp with ⟨hz, rfl⟩ | ⟨h0, hq0, hq1⟩
      · have e0 : ((q.size : Int) == 0) = true := by rw [beq_iff_eq]; omega
        go_wp2_with fail
        refine (awake_any _).mono ?_
        rintro e w4 ⟨rfl, hb4⟩
        go_wp2_with fail
        go_ret
        exact ⟨rfl, hb1.trans (hb4.mono hb1.size)⟩
      · have e0 : ((q.size : Int) == 0) = false := by rw [beq_eq_false_iff_ne]; omega
        have hm1 : ((q.size : Int) - 1).toNat = q.size - 1 := by omega
        have hm0 : (0 : Int) ≤ (q.size : Int) - 1 := by omega
        have f32 : ((p : Int) == 32) = false := by rw [beq_eq_false_iff_ne]; omega
        have f9 : ((p : Int) == 9) = false := by rw [beq_eq_false_iff_ne]; omega
        have e32 : ((p : Int) != 32) = true := by rw [bne, f32]; rfl
        have e9 : ((p : Int) != 9) = true := by rw [bne, f9]; rfl
        go_wp2_with fail
        refine (awake_any _).mono ?_
        rintro e w4 ⟨rfl, hb4⟩
        go_wp2_with fail
        go_ret
        exact ⟨rfl, hb1.trans (hb4.mono hb1.size)⟩
end Go.Proofs.Ytoplcmckglglcaa
