/-
  The contract of nuncio/nuncioref01.Number.
-/
import Derived.Test.YtjghnabepojddaaOctNumber
namespace Go.Proofs.Ytjghnabepojddaa
open Go.RowKit

theorem valD_nil : valD [] = 0 := rfl
theorem wrap64_bd (x : Int) : -9223372036854775808 ≤ wrap64 x ∧ wrap64 x ≤ 9223372036854775807 := by unfold wrap64; omega
theorem wrapPlus (x v d : Int) (h : x = wrap64 v) : wrap64 (wrap64 (10 * x) + d) = wrap64 (10 * v + d) := by subst h; unfold wrap64; omega
theorem wrapMinus (x v d : Int) (h : x = wrap64 (-v)) : wrap64 (wrap64 (10 * x) - d) = wrap64 (-(10 * v + d)) := by subst h; unfold wrap64; omega

set_option maxRecDepth 100000 in
set_option maxHeartbeats 2000000 in
theorem refNumber_pos (s : ByteArray) (w : World) (hs : s.size ≤ 20) (hpos : 0 < s.size) (c45 : (s[0].toNat : Int) ≠ 45) :
    Calls Try.prog 11 #[.string s] w fun e w' => e = .returned (numRes s) ∧ Below w.heap.size w w' := by
  obtain ⟨R, hR⟩ : ∃ R, R = numRes s := ⟨_, rfl⟩
  rw [← hR]
  have HR := Lib.hid hR
  have u0 : s[0].toNat ≤ 255 := by have := s[0].toNat_lt; omega
  have b1 : ((s[0].toNat : Int) == 45) = false := by simp [c45]
  have hsi : (1 : Int) ≤ (s.size : Int) := by omega
  have hsj : (s.size : Int) ≤ 20 := by omega
  have hcons := list_cons_at s hpos
  have h45 : ∀ r, s.data.toList ≠ 45 :: r := fun r e => by
    rw [e] at hcons
    have e1 : s[0] = 45 := by injection hcons with a b; exact a.symm
    rw [e1] at c45
    exact c45 rfl
  have H45 := Lib.hid h45
  clear hR c45 hcons h45
  go_enter Try.func11, Try.ntmps11
  go_wp2
  go_loop [5, 6] (fun acc i => ∃ (k : Nat) (x : Int), 0 ≤ k ∧ k ≤ s.size ∧ i = .int .i64 (k : Int) ∧ acc = .int .i64 x ∧ -9223372036854775808 ≤ x ∧ x ≤ 9223372036854775807 ∧ x = wrap64 ((valD (cutL s 0 k) : Int)) ∧ allDig (cutL s 0 k)) (fun acc i => s.size - (intOf i).toNat)
  case atStart => exact ⟨0, 0, by omega, by omega, rfl, rfl, by omega, by omega, by rw [cutL_none, valD_nil]; unfold wrap64; omega, by rw [cutL_none]; exact allDig_nil⟩
  case round =>
    obtain ⟨k, x, hk1, hk, rfl, rfl, hx0, hx1, hx, hd⟩ := hrel
    have Hx := Lib.hid hx
    have Hd := Lib.hid hd
    clear hd hx
    by_cases hlt : k < s.size
    · have u1 : s[k].toNat ≤ 255 := by have := s[k].toNat_lt; omega
      by_cases d1 : (s[k].toNat : Int) < 48
      · have hr : R = .tuple #[.int .i64 0, .bool false] := by rw [HR.out]; exact num_pos_no H45.out (fun h => by have := h.1.2.2.2 s[k] (by rw [← cutL_all]; exact cutL_mem s 0 k (Nat.zero_le _) hlt); omega)
        subst hr
        go_wp2
        go_ret2
        exact ⟨rfl, Below.refl _ _⟩
      · by_cases d2 : 57 < (s[k].toNat : Int)
        · have hr : R = .tuple #[.int .i64 0, .bool false] := by rw [HR.out]; exact num_pos_no H45.out (fun h => by have := h.1.2.2.2 s[k] (by rw [← cutL_all]; exact cutL_mem s 0 k (Nat.zero_le _) hlt); omega)
          subst hr
          have d1' : 48 ≤ (s[k].toNat : Int) := by omega
          clear d1
          go_wp2
          go_ret2
          exact ⟨rfl, Below.refl _ _⟩
        · have d1' : 48 ≤ (s[k].toNat : Int) := by omega
          have d2' : (s[k].toNat : Int) ≤ 57 := by omega
          have hstep := cutL_step s 0 k hk1 hlt
          have hval : wrap64 (wrap64 (10 * x) + ((s[k].toNat : Int) - 48)) = wrap64 (valD (cutL s 0 (k + 1)) : Int) := by
            rw [hstep, valD_snoc, wrapPlus x _ _ Hx.out]
            congr 1
            omega
          have Hstep := Lib.hid hstep
          have Hval := Lib.hid hval
          clear d1 d2 hstep hval
          go_wp2
          go_round
          case rel => exact ⟨k + 1, _, by omega, by omega, by go_num, rfl, (wrap64_bd _).1, (wrap64_bd _).2, Hval.out, by rw [Hstep.out]; exact allDig_snoc Hd.out (by omega)⟩
          case measure => simp [intOf]; omega
    · obtain rfl : k = s.size := by omega
      go_wp2_with fail
      refine (refText_any _ _ hx0 hx1).mono ?_
      rintro e w1 ⟨rfl, hb1⟩
      by_cases ht : textOf x = s
      · have hr : R = .tuple #[.int .i64 x, .bool true] := by rw [HR.out]; exact numRes_some ⟨hx0, hx1⟩ ht
        subst hr
        have hq := bytes_beq_same ht
        have Ht := Lib.hid ht
        clear ht
        go_wp2_with fail
        go_ret2
        exact ⟨rfl, hb1⟩
      · have hq := bytes_beq_other ht
        have hr : R = .tuple #[.int .i64 0, .bool false] := by
          rw [HR.out]
          refine numRes_none fun n hn e => ht ?_
          have el := congrArg (fun x : ByteArray => x.data.toList) e
          simp only [textOf_list] at el
          by_cases hneg : n < 0
          · rw [if_pos hneg] at el
            exact absurd el.symm (H45.out _)
          · rw [if_neg hneg] at el
            have hx' := Hx.out
            rw [cutL_all, ← el, valD_digs] at hx'
            have : x = n := by rw [hx', show ((n.natAbs : Nat) : Int) = n from by omega]; exact IntWalk.wrap64_in n hn
            rw [this]; exact e
        subst hr
        clear ht
        go_wp2_with fail
        go_ret2
        exact ⟨rfl, hb1⟩

set_option maxRecDepth 100000 in
set_option maxHeartbeats 2000000 in
theorem refNumber_neg (s : ByteArray) (w : World) (hs : s.size ≤ 20) (hpos : 0 < s.size) (c45 : (s[0].toNat : Int) = 45) :
    Calls Try.prog 11 #[.string s] w fun e w' => e = .returned (numRes s) ∧ Below w.heap.size w w' := by
  obtain ⟨R, hR⟩ : ∃ R, R = numRes s := ⟨_, rfl⟩
  rw [← hR]
  have HR := Lib.hid hR
  have u0 : s[0].toNat ≤ 255 := by have := s[0].toNat_lt; omega
  have b1 : ((s[0].toNat : Int) == 45) = true := by simp [c45]
  have hsi : (1 : Int) ≤ (s.size : Int) := by omega
  have hsj : (s.size : Int) ≤ 20 := by omega
  have hcons := list_cons_at s hpos
  rw [show s[0] = 45 from UInt8.toNat_inj.1 (by simp; omega)] at hcons
  have Hcons : Hid (s.data.toList = 45 :: cutL s 1 s.size) := Lib.hid hcons
  clear hR c45 hcons
  go_enter Try.func11, Try.ntmps11
  go_wp2
  go_loop [5, 6] (fun acc i => ∃ (k : Nat) (x : Int), 1 ≤ k ∧ k ≤ s.size ∧ i = .int .i64 (k : Int) ∧ acc = .int .i64 x ∧ -9223372036854775808 ≤ x ∧ x ≤ 9223372036854775807 ∧ x = wrap64 (-(valD (cutL s 1 k) : Int)) ∧ allDig (cutL s 1 k)) (fun acc i => s.size - (intOf i).toNat)
  case atStart => exact ⟨1, 0, by omega, by omega, rfl, rfl, by omega, by omega, by rw [cutL_none, valD_nil]; unfold wrap64; omega, by rw [cutL_none]; exact allDig_nil⟩
  case round =>
    obtain ⟨k, x, hk1, hk, rfl, rfl, hx0, hx1, hx, hd⟩ := hrel
    have Hx := Lib.hid hx
    have Hd := Lib.hid hd
    clear hd hx
    by_cases hlt : k < s.size
    · have u1 : s[k].toNat ≤ 255 := by have := s[k].toNat_lt; omega
      by_cases d1 : (s[k].toNat : Int) < 48
      · have hr : R = .tuple #[.int .i64 0, .bool false] := by rw [HR.out]; exact num_neg_no Hcons.out (fun h => by have := h.1.2.2.2 s[k] (cutL_mem s 1 k hk1 hlt); omega)
        subst hr
        go_wp2
        go_ret2
        exact ⟨rfl, Below.refl _ _⟩
      · by_cases d2 : 57 < (s[k].toNat : Int)
        · have hr : R = .tuple #[.int .i64 0, .bool false] := by rw [HR.out]; exact num_neg_no Hcons.out (fun h => by have := h.1.2.2.2 s[k] (cutL_mem s 1 k hk1 hlt); omega)
          subst hr
          have d1' : 48 ≤ (s[k].toNat : Int) := by omega
          clear d1
          go_wp2
          go_ret2
          exact ⟨rfl, Below.refl _ _⟩
        · have d1' : 48 ≤ (s[k].toNat : Int) := by omega
          have d2' : (s[k].toNat : Int) ≤ 57 := by omega
          have hstep := cutL_step s 1 k hk1 hlt
          have hval : wrap64 (wrap64 (10 * x) - ((s[k].toNat : Int) - 48)) = wrap64 (-(valD (cutL s 1 (k + 1)) : Int)) := by
            rw [hstep, valD_snoc, wrapMinus x _ _ Hx.out]
            congr 1
            omega
          have Hstep := Lib.hid hstep
          have Hval := Lib.hid hval
          clear d1 d2 hstep hval
          go_wp2
          go_round
          case rel => exact ⟨k + 1, _, by omega, by omega, by go_num, rfl, (wrap64_bd _).1, (wrap64_bd _).2, Hval.out, by rw [Hstep.out]; exact allDig_snoc Hd.out (by omega)⟩
          case measure => simp [intOf]; omega
    · obtain rfl : k = s.size := by omega
      go_wp2_with fail
      refine (refText_any _ _ hx0 hx1).mono ?_
      rintro e w1 ⟨rfl, hb1⟩
      by_cases ht : textOf x = s
      · have hr : R = .tuple #[.int .i64 x, .bool true] := by rw [HR.out]; exact numRes_some ⟨hx0, hx1⟩ ht
        subst hr
        have hq := bytes_beq_same ht
        have Ht := Lib.hid ht
        clear ht
        go_wp2_with fail
        go_ret2
        exact ⟨rfl, hb1⟩
      · have hq := bytes_beq_other ht
        have hr : R = .tuple #[.int .i64 0, .bool false] := by
          rw [HR.out]
          refine numRes_none fun n hn e => ht ?_
          have el := congrArg (fun x : ByteArray => x.data.toList) e
          simp only [textOf_list] at el
          rw [Hcons.out] at el
          by_cases hneg : n < 0
          · rw [if_pos hneg] at el
            have er := (List.cons.inj el).2
            have hx' := Hx.out
            rw [← er, valD_digs] at hx'
            have : x = n := by rw [hx', show -((n.natAbs : Nat) : Int) = n from by omega]; exact IntWalk.wrap64_in n hn
            rw [this]; exact e
          · rw [if_neg hneg] at el
            exact absurd el (digs_not45 _ _)
        subst hr
        clear ht
        go_wp2_with fail
        go_ret2
        exact ⟨rfl, hb1⟩

set_option maxHeartbeats 1000000 in
theorem refNumber_any (s : ByteArray) (w : World) (hs : s.size ≤ 100000000000000) :
    Calls Try.prog 11 #[.string s] w fun e w' => e = .returned (numRes s) ∧ Below w.heap.size w w' := by
  by_cases h0 : s.size = 0
  · have hse := byte_zero s h0
    subst hse
    rw [num_pos_no (s := ⟨#[]⟩) (fun r e => by cases e) (fun h => h.1.1 rfl)]
    go_enter Try.func11, Try.ntmps11
    go_wp2
    go_ret2
    exact ⟨rfl, Below.refl _ _⟩
  · by_cases h20 : s.size ≤ 20
    · by_cases c45 : (s[0].toNat : Int) = 45
      · exact refNumber_neg s w h20 (by omega) c45
      · exact refNumber_pos s w h20 (by omega) c45
    · have hn : numRes s = .tuple #[.int .i64 0, .bool false] := by
        refine numRes_none fun n hn e => ?_
        obtain ⟨n1, n2⟩ := hn
        have hl := congrArg (fun x : ByteArray => x.data.toList.length) e
        simp only [textOf_list] at hl
        rw [← Lib.size_eq] at hl
        have h19 := digs_len19 n.natAbs (by omega)
        split at hl
        · rw [List.length_cons] at hl; omega
        · omega
      rw [hn]
      have hs1 : (20 : Int) < (s.size : Int) := by omega
      clear hn
      go_enter Try.func11, Try.ntmps11
      go_wp2
      go_ret2
      exact ⟨rfl, Below.refl _ _⟩
end Go.Proofs.Ytjghnabepojddaa
