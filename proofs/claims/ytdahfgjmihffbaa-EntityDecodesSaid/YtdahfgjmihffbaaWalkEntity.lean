/-
  nunciolaw06: few, awake, and the walks of EntityWrites and EntityDecodes. (text_any, attr_any, decode_any, the contracts of the program's own functions, come from the text EntProg.)
-/
import Derived.Test.YtdahfgjmihffbaaEntProg
namespace Go.Proofs.Ytdahfgjmihffbaa
set_option linter.unusedVariables false
set_option linter.unusedSimpArgs false
open Go.RowKit

theorem few_any (s : ByteArray) (w : World) (hs : s.size ≤ maxLen) : Calls Try.prog 7 #[.string s] w fun e w' => e = .returned (.string (s.extract 0 (min s.size 300))) ∧ w = w' := by
  unfold maxLen at hs
  obtain ⟨t, ht⟩ : ∃ t, t = s.extract 0 (min s.size 300) := ⟨_, rfl⟩
  rw [← ht]
  have Ht := Lib.hid ht
  clear ht
  go_enter Try.func7, Try.ntmps7
  go_wp2
  all_goals go_ret
  all_goals refine ⟨?_, rfl⟩
  · rw [Ht.out, show min s.size 300 = 300 from by omega]
    rfl
  · rw [Ht.out, show min s.size 300 = s.size from by omega, show s.extract 0 s.size = s from bytes_ext (by rw [ByteArray.data_extract, Array.toList_extract]; simp; exact List.take_of_length_le (Nat.le_refl _))]
    rfl
theorem few_size (s : ByteArray) : (s.extract 0 (min s.size 300)).size ≤ 300 := by simp; omega
theorem awake_a : decE [38, 35, 120, 101, 57, 59] = some [195, 169] := by
  rw [decE_one (show oneL [38, 35, 120, 101, 57, 59] = some ([195, 169], 6) from by simp [oneL, List.isPrefixOf, numE, digE, refE, isRune, encL])]
  rw [show List.drop 6 [38, 35, 120, 101, 57, 59] = ([] : List UInt8) from rfl, decE_nil]
  rfl
theorem awake_b : decE [97, 38, 98] = none := by
  rw [decE_own (oneL_other _ (by decide)) (by decide), decE_bad (by simp [oneL, List.isPrefixOf]) (by decide)]
  rfl
theorem awake_c : escL false [97, 60, 98] = [97, 38, 108, 116, 59, 98] := by decide +kernel
theorem awake_d : escL true [105, 116, 39, 115, 10] = [105, 116, 38, 35, 51, 57, 59, 115, 38, 35, 49, 48, 59] := by decide +kernel

set_option maxRecDepth 100000 in
set_option maxHeartbeats 2000000 in
theorem awake_any (w : World) : Calls Try.prog 12 #[] w fun e w' => e = .returned (.bool true) ∧ Below w.heap.size w w' := by
  have kA := fun (W : World) => decode_any W ⟨#[38, 35, 120, 101, 57, 59]⟩ (by decide)
  simp only [show decE (⟨#[38, 35, 120, 101, 57, 59]⟩ : ByteArray).data.toList = some [195, 169] from awake_a, show resE (some [195, 169]) = .tuple #[.string ⟨#[195, 169]⟩, .int .i64 0] from rfl] at kA
  have kB := fun (W : World) => decode_any W ⟨#[97, 38, 98]⟩ (by decide)
  simp only [show decE (⟨#[97, 38, 98]⟩ : ByteArray).data.toList = none from awake_b, show resE none = .tuple #[.string ⟨#[]⟩, .int .i64 7] from rfl] at kB
  have kC := fun (W : World) => text_any W ⟨#[97, 60, 98]⟩ (by decide)
  simp only [show escL false (⟨#[97, 60, 98]⟩ : ByteArray).data.toList = [97, 38, 108, 116, 59, 98] from awake_c] at kC
  have kD := fun (W : World) => attr_any W ⟨#[105, 116, 39, 115, 10]⟩ (by decide)
  simp only [show escL true (⟨#[105, 116, 39, 115, 10]⟩ : ByteArray).data.toList = [105, 116, 38, 35, 51, 57, 59, 115, 38, 35, 49, 48, 59] from awake_d] at kD
  have q1 := bytes_beq_same (x := ⟨#[195, 169]⟩) rfl
  have q2 := bytes_beq_same (x := ⟨#[97, 38, 108, 116, 59, 98]⟩) rfl
  have q3 := bytes_beq_same (x := ⟨#[105, 116, 38, 35, 51, 57, 59, 115, 38, 35, 49, 48, 59]⟩) rfl
  go_enter Try.func12, Try.ntmps12
  go_wp2_with fail
  refine (kA _).mono ?_
  rintro e w1 ⟨rfl, hb1⟩
  clear kA
  go_wp2_with fail
  refine (kB _).mono ?_
  rintro e w2 ⟨rfl, hb2⟩
  have hB2 := hb1.trans (hb2.mono hb1.size)
  clear hb1 hb2 kB
  go_wp2_with fail
  refine (kC _).mono ?_
  rintro e w3 ⟨rfl, hb3⟩
  have hB3 := hB2.trans (hb3.mono hB2.size)
  clear hB2 hb3 kC
  go_wp2_with fail
  refine (kD _).mono ?_
  rintro e w4 ⟨rfl, hb4⟩
  have hB4 := hB3.trans (hb4.mono hB3.size)
  clear hB3 hb4 kD
  go_wp2_with fail
  go_ret
  exact ⟨rfl, hB4⟩

set_option maxRecDepth 100000 in
set_option maxHeartbeats 4000000 in
theorem entityDecodes_walk (s0 : ByteArray) (w0 : s0.size ≤ maxLen) (w : World) :
    Calls Try.prog 5 #[.string s0] w fun e w' => e = .returned (.bool true) ∧ Below w.heap.size w w' := by
  have kF := fun W => few_any s0 W w0
  have hss := few_size s0
  generalize s0.extract 0 (min s0.size 300) = s at kF hss
  have kD := fun (W : World) => decode_any W s (by omega)
  have kR := fun (W : World) => refDecode_any W s (by omega)
  obtain ⟨b, n, hb⟩ : ∃ (b : ByteArray) (n : Int), resE (decE s.data.toList) = .tuple #[.string b, .int .i64 n] := by
    cases decE s.data.toList with
    | none => exact ⟨_, _, rfl⟩
    | some y => exact ⟨_, _, rfl⟩
  rw [hb] at kD kR
  have q1 := bytes_beq_same (x := b) rfl
  clear w0 hb
  go_enter Try.func5, Try.ntmps5
  go_wp2_with fail
  refine (kF _).mono ?_
  rintro e w' ⟨rfl, rfl⟩
  go_wp2_with fail
  refine (kD _).mono ?_
  rintro e w1 ⟨rfl, hb1⟩
  clear kF kD
  go_wp2_with fail
  refine (kR _).mono ?_
  rintro e w2 ⟨rfl, hb2⟩
  have hB2 := hb1.trans (hb2.mono hb1.size)
  clear hb1 hb2 kR
  go_wp2_with fail
  refine (awake_any _).mono ?_
  rintro e w3 ⟨rfl, hb3⟩
  go_wp2_with fail
  go_ret
  exact ⟨rfl, hB2.trans (hb3.mono hB2.size)⟩

set_option maxRecDepth 100000 in
set_option maxHeartbeats 4000000 in
theorem entityWrites_walk (s0 : ByteArray) (w0 : s0.size ≤ maxLen) (w : World) :
    Calls Try.prog 3 #[.string s0] w fun e w' => e = .returned (.bool true) ∧ Below w.heap.size w w' := by
  have kF := fun W => few_any s0 W w0
  have hss := few_size s0
  generalize s0.extract 0 (min s0.size 300) = s at kF hss
  have kT := fun (W : World) => text_any W s (by omega)
  have kA := fun (W : World) => attr_any W s (by omega)
  have kR := fun (W : World) => refWritten_any W s false (by omega)
  have kS := fun (W : World) => refWritten_any W s true (by omega)
  have hlen : ∀ (t : Bool) (q : ByteArray), q = ⟨(escL t s.data.toList).toArray⟩ → q.data.toList = escL t s.data.toList ∧ q.size ≤ 1800 := fun t q hq => by
    have hql : q.data.toList = escL t s.data.toList := by rw [hq]
    have h1 : q.data.toList.length = q.size := rfl
    have h2 := escL_len t s.data.toList
    have h3 : s.data.toList.length = s.size := rfl
    rw [hql] at h1
    exact ⟨hql, by omega⟩
  obtain ⟨x, hx⟩ : ∃ q : ByteArray, q = ⟨(escL false s.data.toList).toArray⟩ := ⟨_, rfl⟩
  obtain ⟨y, hy⟩ : ∃ q : ByteArray, q = ⟨(escL true s.data.toList).toArray⟩ := ⟨_, rfl⟩
  obtain ⟨hxl, hxs⟩ := hlen false x hx
  obtain ⟨hyl, hys⟩ := hlen true y hy
  rw [← hx] at kT kR
  rw [← hy] at kA kS
  have kD : ∀ W : World, Calls Try.prog 10 #[.string x] W fun e w' => e = .returned (.tuple #[.string s, .int .i64 0]) ∧ Below W.heap.size W w' := fun W => by
    have h := decode_any W x (by omega)
    rw [hxl, dec_escL] at h
    exact h
  have kE : ∀ W : World, Calls Try.prog 10 #[.string y] W fun e w' => e = .returned (.tuple #[.string s, .int .i64 0]) ∧ Below W.heap.size W w' := fun W => by
    have h := decode_any W y (by omega)
    rw [hyl, dec_escL] at h
    exact h
  have q1 := bytes_beq_same (x := x) rfl
  have q2 := bytes_beq_same (x := y) rfl
  have q3 := bytes_beq_same (x := s) rfl
  clear w0 hx hy hxl hyl hlen
  go_enter Try.func3, Try.ntmps3
  go_wp2_with fail
  refine (kF _).mono ?_
  rintro e w' ⟨rfl, rfl⟩
  go_wp2_with fail
  refine (kT _).mono ?_
  rintro e w1 ⟨rfl, hb1⟩
  clear kF kT
  go_wp2_with fail
  refine (kA _).mono ?_
  rintro e w2 ⟨rfl, hb2⟩
  have hB2 := hb1.trans (hb2.mono hb1.size)
  clear hb1 hb2 kA
  go_wp2_with fail
  refine (kD _).mono ?_
  rintro e w3 ⟨rfl, hb3⟩
  have hB3 := hB2.trans (hb3.mono hB2.size)
  clear hB2 hb3 kD
  go_wp2_with fail
  refine (kE _).mono ?_
  rintro e w4 ⟨rfl, hb4⟩
  have hB4 := hB3.trans (hb4.mono hB3.size)
  clear hB3 hb4 kE
  go_wp2_with fail
  refine (kR _).mono ?_
  rintro e w5 ⟨rfl, rfl⟩
  go_wp2_with fail
  refine (kS _).mono ?_
  rintro e w6 ⟨rfl, rfl⟩
  go_wp2_with fail
  refine (awake_any _).mono ?_
  rintro e w7 ⟨rfl, hb7⟩
  go_wp2_with fail
  go_ret
  exact ⟨rfl, hB4.trans (hb7.mono hB4.size)⟩
end Go.Proofs.Ytdahfgjmihffbaa
