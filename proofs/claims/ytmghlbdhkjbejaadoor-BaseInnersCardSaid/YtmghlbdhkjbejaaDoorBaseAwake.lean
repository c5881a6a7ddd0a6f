/-
  nuncio/nunciolaw04's awake and few.
-/
import Derived.Test.YtmghlbdhkjbejaaDoorRefInner
import Derived.Lib.QuietBelow
namespace Go.Proofs.YtmghlbdhkjbejaaDoor
set_option linter.unusedVariables false
set_option linter.unusedSimpArgs false
open Go.RowKit

theorem few_any (s : ByteArray) (w : World) (hs : s.size ≤ maxLen) : Calls Tryd.prog 7 #[.string s] w fun e w' => e = .returned (.string (s.extract 0 (min s.size 200))) ∧ w = w' := by
  unfold maxLen at hs
  obtain ⟨t, ht⟩ : ∃ t, t = s.extract 0 (min s.size 200) := ⟨_, rfl⟩
  rw [← ht]
  have Ht := Lib.hid ht
  clear ht
  go_enter Tryd.func7, Tryd.ntmps7
  go_wp2
  go_ret
  refine ⟨?_, rfl⟩
  rw [Ht.out, ← show (min (s.size : Int) 200).toNat = min s.size 200 from by omega]
  rfl
theorem awake_man : encL [77, 97, 110] = [84, 87, 70, 117] := by decide +kernel
theorem awake_m : encL [77] = [84, 81, 61, 61] := by decide +kernel
theorem awake_ma : decL [84, 87, 69, 61] = some [77, 97] := by decide +kernel
theorem awake_an : (chunks 6 ((bitsS [97, 110]).drop 4)).map dig = [70, 117] := by decide +kernel
theorem awake_abc : wrapL 2 [97, 98, 99] = [97, 98, 13, 10, 99] := by decide +kernel

set_option maxRecDepth 100000 in
set_option maxHeartbeats 2000000 in
theorem awake_any (w : World) (ht : Tab w) : Calls Tryd.prog 12 #[] w fun e w' => e = .returned (.bool true) ∧ Below w.heap.size w w' := by
  have kD := decode_any w ⟨#[84, 87, 69, 61]⟩ (by decide)
  rw [show decT (decL (⟨#[84, 87, 69, 61]⟩ : ByteArray).data.toList) = .tuple #[.string ⟨#[77, 97]⟩, .int .i64 0] from by rw [show (⟨#[84, 87, 69, 61]⟩ : ByteArray).data.toList = [84, 87, 69, 61] from rfl, awake_ma]; rfl] at kD
  go_enter Tryd.func12, Tryd.ntmps12
  go_wp2_with fail
  refine kD.mono ?_
  rintro e w1 ⟨rfl, hb1⟩
  have ht1 := ht.below hb1
  have kE := fun (W : World) (hW : Tab W) => encode_any W hW ⟨#[77, 97, 110]⟩ (by decide)
  have kM := fun (W : World) (hW : Tab W) => encode_any W hW ⟨#[77]⟩ (by decide)
  have q1 := bytes_beq_same (x := ⟨#[84, 87, 70, 117]⟩) rfl
  have q2 := bytes_beq_same (x := ⟨#[84, 81, 61, 61]⟩) rfl
  have q3 := bytes_beq_same (x := ⟨#[77, 97]⟩) rfl
  have q4 := bytes_beq_same (x := ⟨#[70, 117]⟩) rfl
  have q5 := bytes_beq_same (x := ⟨#[97, 98, 13, 10, 99]⟩) rfl
  simp only [show encL (⟨#[77, 97, 110]⟩ : ByteArray).data.toList = [84, 87, 70, 117] from awake_man] at kE
  simp only [show encL (⟨#[77]⟩ : ByteArray).data.toList = [84, 81, 61, 61] from awake_m] at kM
  have kI : ∀ (W : World), Tab W → Calls Tryd.prog 18 #[.string ⟨#[97, 110]⟩, .int .i64 1] W fun e w' => e = .returned (.string ⟨#[70, 117]⟩) ∧ Below W.heap.size W w' := fun W hW => by
    have h := inner_any W hW ⟨#[97, 110]⟩ 1 (by decide)
    rw [if_pos (by decide), show (chunks 6 ((bitsS (⟨#[97, 110]⟩ : ByteArray).data.toList).drop (4 * (1 : Int).toNat % 6))).map dig = [70, 117] from awake_an] at h
    exact h
  have kW : ∀ (W : World), Calls Tryd.prog 13 #[.string ⟨#[97, 98, 99]⟩, .int .i64 2] W fun e w' => e = .returned (.string ⟨#[97, 98, 13, 10, 99]⟩) ∧ Below W.heap.size W w' := fun W => by
    have h := wrap_any W ⟨#[97, 98, 99]⟩ 2 (by decide) (by decide)
    rw [show wrapI (⟨#[97, 98, 99]⟩ : ByteArray).data.toList 2 = [97, 98, 13, 10, 99] from awake_abc] at h
    exact h
  clear ht kD
  go_wp2_with fail
  refine (kE _ ht1).mono ?_
  rintro e w2 ⟨rfl, hb2⟩
  have ht2 := ht1.below hb2
  have hB2 := hb1.trans (hb2.mono hb1.size)
  clear ht1 hb1 hb2 kE
  go_wp2_with fail
  refine (kM _ ht2).mono ?_
  rintro e w3 ⟨rfl, hb3⟩
  have ht3 := ht2.below hb3
  have hB3 := hB2.trans (hb3.mono hB2.size)
  clear ht2 hB2 hb3 kM
  go_wp2_with fail
  refine (kI _ ht3).mono ?_
  rintro e w4 ⟨rfl, hb4⟩
  have hB4 := hB3.trans (hb4.mono hB3.size)
  clear ht3 hB3 hb4 kI
  go_wp2_with fail
  refine (kW _).mono ?_
  rintro e w5 ⟨rfl, hb5⟩
  have hB5 := hB4.trans (hb5.mono hB4.size)
  clear hB4 hb5 kW
  go_wp2_with fail
  go_ret
  exact ⟨rfl, hB5⟩
end Go.Proofs.YtmghlbdhkjbejaaDoor
