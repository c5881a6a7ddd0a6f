/-
  The walks of nunciolaw04's four laws.
-/
import Derived.Test.YtmghlbdhkjbejaaDoorBaseAwake
import Derived.OpenShut
namespace Go.Proofs.YtmghlbdhkjbejaaDoor
set_option linter.unusedVariables false
set_option linter.unusedSimpArgs false
open Go.RowKit

theorem few_size (s : ByteArray) : (s.extract 0 (min s.size 200)).size ≤ 200 := by simp; omega
set_option maxRecDepth 100000 in
set_option maxHeartbeats 2000000 in
theorem baseWraps_walk (s0 : ByteArray) (wd : Int) (w0 : s0.size ≤ maxLen) (w1 : (Lit.int .i64 wd).wf = true) (w : World) (ht : Tab w) :
    Calls Tryd.prog 4 #[.string s0, .int .i64 wd] w fun e w' => e = .returned (.bool true) ∧ Below w.heap.size w w' := by
  have hwb := bounds_i64 w1
  have kS := fun W => few_any s0 W w0
  have hss := few_size s0
  generalize s0.extract 0 (min s0.size 200) = s at kS hss
  have kW := fun (W : World) => wrap_any W s wd (by omega) hwb
  have kR := fun (W : World) => refWrap_any W s wd (by omega) hwb
  generalize (⟨(wrapI s.data.toList wd).toArray⟩ : ByteArray) = x at kW kR
  have hxx := bytes_beq_same (x := x) rfl
  clear w0 w1 hwb
  go_enter Tryd.func4, Tryd.ntmps4
  go_wp2_with fail
  refine (kS _).mono ?_
  rintro e w' ⟨rfl, rfl⟩
  go_wp2_with fail
  refine (kW _).mono ?_
  rintro e w1 ⟨rfl, hb1⟩
  have ht1 := ht.below hb1
  go_wp2_with fail
  refine (kR _).mono ?_
  rintro e w2 ⟨rfl, rfl⟩
  go_wp2_with fail
  refine (awake_any _ ht1).mono ?_
  rintro e w3 ⟨rfl, hb3⟩
  go_wp2_with fail
  go_ret
  exact ⟨rfl, hb1.trans (hb3.mono hb1.size)⟩

set_option maxRecDepth 100000 in
set_option maxHeartbeats 2000000 in
theorem baseCodes_walk (b0 s0 : ByteArray) (w0 : b0.size ≤ maxLen) (w1 : s0.size ≤ maxLen) (w : World) (ht : Tab w) :
    Calls Tryd.prog 3 #[.string b0, .string s0] w fun e w' => e = .returned (.bool true) ∧ Below w.heap.size w w' := by
  have kB := fun W => few_any b0 W w0
  have hbb := few_size b0
  generalize b0.extract 0 (min b0.size 200) = b at kB hbb
  have kS := fun W => few_any s0 W w1
  have hss := few_size s0
  generalize s0.extract 0 (min s0.size 200) = s at kS hss
  have kE := fun (W : World) (hW : Tab W) => encode_any W hW b (by omega)
  have kR := fun (W : World) => refEncode_any W b (by omega)
  have hcs := encL_size b (by omega)
  obtain ⟨c, hc⟩ : ∃ c : ByteArray, c = ⟨(encL b.data.toList).toArray⟩ := ⟨_, rfl⟩
  have hcl : c.data.toList = encL b.data.toList := by rw [hc]
  simp only [← hc] at kE kR
  have kD : ∀ (W : World), Calls Tryd.prog 9 #[.string c] W fun e w' => e = .returned (.tuple #[.string b, .int .i64 0]) ∧ Below W.heap.size W w' := fun W => by
    have h := decode_any W c (by
      have h1 : c.data.toList.length = c.size := rfl
      have h2 := encL_len b.data.toList
      have h3 : b.data.toList.length = b.size := rfl
      rw [hcl] at h1
      omega)
    rw [hcl, dec_enc] at h
    exact h
  have kX := fun (W : World) => decode_any W s (by omega)
  have kY := fun (W : World) => refDecode_any W s (by omega)
  simp only [dec_eq] at kX
  obtain ⟨q, n, hq⟩ : ∃ (q : ByteArray) (n : Int), decT (decR s.data.toList) = .tuple #[.string q, .int .i64 n] := by
    cases decR s.data.toList with
    | none => exact ⟨_, _, rfl⟩
    | some y => exact ⟨_, _, rfl⟩
  simp only [hq] at kX kY
  have hcc := bytes_beq_same (x := c) rfl
  have hbq := bytes_beq_same (x := b) rfl
  have hqq := bytes_beq_same (x := q) rfl
  clear w0 w1 hc hcl hq hcs
  go_enter Tryd.func3, Tryd.ntmps3
  go_wp2_with fail
  refine (kB _).mono ?_
  rintro e w' ⟨rfl, rfl⟩
  go_wp2_with fail
  refine (kS _).mono ?_
  rintro e w' ⟨rfl, rfl⟩
  go_wp2_with fail
  refine (kE _ ht).mono ?_
  rintro e w1 ⟨rfl, hb1⟩
  have ht1 := ht.below hb1
  go_wp2_with fail
  refine (kD _).mono ?_
  rintro e w2 ⟨rfl, hb2⟩
  have ht2 := ht1.below hb2
  have hB2 := hb1.trans (hb2.mono hb1.size)
  clear ht1 hb1 hb2
  go_wp2_with fail
  refine (kX _).mono ?_
  rintro e w3 ⟨rfl, hb3⟩
  have ht3 := ht2.below hb3
  have hB3 := hB2.trans (hb3.mono hB2.size)
  clear ht2 hB2 hb3
  go_wp2_with fail
  refine (kY _).mono ?_
  rintro e w4 ⟨rfl, hb4⟩
  have ht4 := ht3.below hb4
  have hB4 := hB3.trans (hb4.mono hB3.size)
  clear ht3 hB3 hb4
  go_wp2_with fail
  refine (kR _).mono ?_
  rintro e w5 ⟨rfl, hb5⟩
  have ht5 := ht4.below hb5
  have hB5 := hB4.trans (hb5.mono hB4.size)
  clear ht4 hB4 hb5
  go_wp2_with fail
  refine (awake_any _ ht5).mono ?_
  rintro e w6 ⟨rfl, hb6⟩
  go_wp2_with fail
  go_ret
  exact ⟨rfl, hB5.trans (hb6.mono hB5.size)⟩
end Go.Proofs.YtmghlbdhkjbejaaDoor
