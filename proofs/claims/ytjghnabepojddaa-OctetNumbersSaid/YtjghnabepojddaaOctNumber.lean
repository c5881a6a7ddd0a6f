/-
  Contracts of nuncio/octet.Number and of its reference.
-/
import Derived.Test.YtjghnabepojddaaPlainNum2
import Derived.Test.YtjghnabepojddaaRefText
import Derived.Handy
import Derived.WalkLawsBesides
namespace Go.Proofs.Ytjghnabepojddaa
open Go.RowKit

set_option maxHeartbeats 1000000 in
theorem magnitude_empty (w : World) :
    Calls Try.prog 30 #[.string ⟨#[]⟩] w fun e w' => e = .returned (.tuple #[.int .u64 0, .bool false]) ∧ w = w' := by
  go_enter Try.func30, Try.ntmps30
  go_wp2
  go_ret2
  exact ⟨rfl, rfl⟩

set_option maxHeartbeats 1000000 in
theorem magnitude_any (s : ByteArray) (w : World) (hs : s.size ≤ 100000000000000) (hpos : 0 < s.size) :
    Calls Try.prog 30 #[.string s] w fun e w' => ((magOk s.data.toList ∧ e = .returned (.tuple #[.int .u64 (valD s.data.toList : Int), .bool true])) ∨ (¬ magOk s.data.toList ∧ e = .returned (.tuple #[.int .u64 0, .bool false]))) ∧ w = w' := by
  have he := isEmpty_false s hpos
  have u0 : s[0].toNat ≤ 255 := by have := s[0].toNat_lt; omega
  have hll : s.data.toList.length = s.size := (Lib.size_eq s).symm
  by_cases h19 : 19 < s.size
  · refine Calls.mono (R := fun e w' => e = .returned (.tuple #[.int .u64 0, .bool false]) ∧ w = w') ?_ (fun e w' ⟨h1, h2⟩ => ⟨.inr ⟨fun h => by have := h.2.1; omega, h1⟩, h2⟩)
    have h19' : (19 : Int) < (s.size : Int) := by omega
    clear hll
    go_enter Try.func30, Try.ntmps30
    go_wp2
    go_ret2
    exact ⟨rfl, rfl⟩
  · have h19' : (s.size : Int) ≤ 19 := by omega
    by_cases hz : s[0].toNat = 48 ∧ 1 < s.size
    · have hz1 : ((s[0].toNat : Int) == 48) = true := by simp [hz.1]
      have hz2 : (1 : Int) < (s.size : Int) := by omega
      refine Calls.mono (R := fun e w' => e = .returned (.tuple #[.int .u64 0, .bool false]) ∧ w = w') ?_ (fun e w' ⟨h1, h2⟩ => ⟨.inr ⟨fun h => ?_, h1⟩, h2⟩)
      · clear hll hz
        go_enter Try.func30, Try.ntmps30
        go_wp2
        go_ret2
        exact ⟨rfl, rfl⟩
      · rcases h.2.2.1 with h | h
        · omega
        · have hc := list_cons_at s hpos
          exact h _ (by rw [hc, show s[0] = 48 from UInt8.toNat_inj.1 hz.1])
    · have hz1 : s.data.toList.length = 1 ∨ ∀ r, s.data.toList ≠ 48 :: r := by
        by_cases h1 : s.size = 1
        · exact .inl (by omega)
        · refine .inr fun r e => hz ⟨?_, by omega⟩
          have hc := list_cons_at s hpos
          rw [e] at hc
          have e1 : s[0] = 48 := by injection hc with a b; exact a.symm
          rw [e1]; rfl
      have Hz1 := Lib.hid hz1
      have Hll := Lib.hid hll
      clear hll hz1
      obtain ⟨P, hP⟩ : ∃ P : Ending → World → Prop, P = fun e w' => ((magOk s.data.toList ∧ e = .returned (.tuple #[.int .u64 (valD s.data.toList : Int), .bool true])) ∨ (¬ magOk s.data.toList ∧ e = .returned (.tuple #[.int .u64 0, .bool false]))) ∧ w = w' := ⟨_, rfl⟩
      rw [← hP]
      have HP := Lib.hid hP
      clear hP
      by_cases c48 : (s[0].toNat : Int) = 48
      · have b1 : ((s[0].toNat : Int) == 48) = true := by simp [c48]
        have hsz1 : (s.size : Int) ≤ 1 := by omega
        clear c48 hz
        go_enter Try.func30, Try.ntmps30
        go_wp2
        go_loop [4, 25] (fun acc i => ∃ (k m : Nat), k ≤ s.size ∧ i = .int .i64 (k : Int) ∧ acc = .int .u64 (m : Int) ∧ m = valD (cutL s 0 k) ∧ allDig (cutL s 0 k)) (fun acc i => s.size - (intOf i).toNat)
        case atStart => exact ⟨0, 0, Nat.zero_le _, rfl, rfl, by rw [cutL_none]; rfl, by rw [cutL_none]; exact allDig_nil⟩
        case round =>
          obtain ⟨k, m, hk, rfl, rfl, hm, hd⟩ := hrel
          have Hd := Lib.hid hd
          have Hm := Lib.hid hm
          clear hd hm
          by_cases hlt : k < s.size
          · have u1 : s[k].toNat ≤ 255 := by have := s[k].toNat_lt; omega
            have hmb : m ≤ 999999999999999999 := by rw [Hm.out]; exact valD_step_19 Hd.out (by rw [cutL_len s 0 k hk]; omega)
            by_cases d1 : (s[k].toNat : Int) < 48
            · go_wp2
              rw [HP.out]
              exact ⟨.inr ⟨fun h => by have := h.2.2.2 s[k] (by rw [← cutL_all]; exact cutL_mem s 0 k (Nat.zero_le _) hlt); omega, rfl⟩, rfl⟩
            · by_cases d2 : 57 < (s[k].toNat : Int)
              · have d1' : 48 ≤ (s[k].toNat : Int) := by omega
                clear d1
                go_wp2
                rw [HP.out]
                exact ⟨.inr ⟨fun h => by have := h.2.2.2 s[k] (by rw [← cutL_all]; exact cutL_mem s 0 k (Nat.zero_le _) hlt); omega, rfl⟩, rfl⟩
              · have d1' : 48 ≤ (s[k].toNat : Int) := by omega
                have d2' : (s[k].toNat : Int) ≤ 57 := by omega
                have hstep := cutL_step s 0 k (Nat.zero_le _) hlt
                have Hstep := Lib.hid hstep
                clear d1 d2 hstep
                go_wp2
                go_round
                case rel => exact ⟨k + 1, 10 * m + (s[k].toNat - 48), by omega, by go_num, by go_num, by rw [Hstep.out, valD_snoc, Hm.out], by rw [Hstep.out]; exact allDig_snoc Hd.out (by omega)⟩
                case measure => simp [intOf]; omega
          · obtain rfl : k = s.size := by omega
            go_wp2
            rw [HP.out]
            have hA := Hm.out
            have hD := Hd.out
            rw [cutL_all] at hA hD
            exact ⟨.inl ⟨⟨fun e => by have h1 := Hll.out; rw [e, List.length_nil] at h1; omega, by have := Hll.out; omega, Hz1.out, hD⟩, by rw [← hA]⟩, rfl⟩
      · have b1 : ((s[0].toNat : Int) == 48) = false := by simp [c48]
        clear c48 hz
        go_enter Try.func30, Try.ntmps30
        go_wp2
        go_loop [4, 25] (fun acc i => ∃ (k m : Nat), k ≤ s.size ∧ i = .int .i64 (k : Int) ∧ acc = .int .u64 (m : Int) ∧ m = valD (cutL s 0 k) ∧ allDig (cutL s 0 k)) (fun acc i => s.size - (intOf i).toNat)
        case atStart => exact ⟨0, 0, Nat.zero_le _, rfl, rfl, by rw [cutL_none]; rfl, by rw [cutL_none]; exact allDig_nil⟩
        case round =>
          obtain ⟨k, m, hk, rfl, rfl, hm, hd⟩ := hrel
          have Hd := Lib.hid hd
          have Hm := Lib.hid hm
          clear hd hm
          by_cases hlt : k < s.size
          · have u1 : s[k].toNat ≤ 255 := by have := s[k].toNat_lt; omega
            have hmb : m ≤ 999999999999999999 := by rw [Hm.out]; exact valD_step_19 Hd.out (by rw [cutL_len s 0 k hk]; omega)
            by_cases d1 : (s[k].toNat : Int) < 48
            · go_wp2
              rw [HP.out]
              exact ⟨.inr ⟨fun h => by have := h.2.2.2 s[k] (by rw [← cutL_all]; exact cutL_mem s 0 k (Nat.zero_le _) hlt); omega, rfl⟩, rfl⟩
            · by_cases d2 : 57 < (s[k].toNat : Int)
              · have d1' : 48 ≤ (s[k].toNat : Int) := by omega
                clear d1
                go_wp2
                rw [HP.out]
                exact ⟨.inr ⟨fun h => by have := h.2.2.2 s[k] (by rw [← cutL_all]; exact cutL_mem s 0 k (Nat.zero_le _) hlt); omega, rfl⟩, rfl⟩
              · have d1' : 48 ≤ (s[k].toNat : Int) := by omega
                have d2' : (s[k].toNat : Int) ≤ 57 := by omega
                have hstep := cutL_step s 0 k (Nat.zero_le _) hlt
                have Hstep := Lib.hid hstep
                clear d1 d2 hstep
                go_wp2
                go_round
                case rel => exact ⟨k + 1, 10 * m + (s[k].toNat - 48), by omega, by go_num, by go_num, by rw [Hstep.out, valD_snoc, Hm.out], by rw [Hstep.out]; exact allDig_snoc Hd.out (by omega)⟩
                case measure => simp [intOf]; omega
          · obtain rfl : k = s.size := by omega
            go_wp2
            rw [HP.out]
            have hA := Hm.out
            have hD := Hd.out
            rw [cutL_all] at hA hD
            exact ⟨.inl ⟨⟨fun e => by have h1 := Hll.out; rw [e, List.length_nil] at h1; omega, by have := Hll.out; omega, Hz1.out, hD⟩, by rw [← hA]⟩, rfl⟩

/-- What the digits of a text without a sign say of its number. -/
theorem num_pos_yes {s : ByteArray} (h : magOk s.data.toList) (hv : valD s.data.toList ≤ 9223372036854775807) : numRes s = .tuple #[.int .i64 (valD s.data.toList : Int), .bool true] := by
  refine numRes_some (n := (valD s.data.toList : Int)) ⟨by omega, by omega⟩ ?_
  apply bytes_ext
  rw [textOf_list, if_neg (by omega), show ((valD s.data.toList : Int)).natAbs = valD s.data.toList from by omega]
  exact digs_valD _ h.1 h.2.2.2 h.2.2.1
theorem magOk_digs (n : Nat) (h : n ≤ 9223372036854775808) : magOk (digs n) := by
  refine ⟨digs_ne n, digs_len19 n h, ?_, digs_all n⟩
  rcases Nat.eq_zero_or_pos n with rfl | h0
  · left; rw [digs_lt 0 (by omega)]; rfl
  · right; exact digs_head n h0
theorem num_pos_no {s : ByteArray} (h45 : ∀ r, s.data.toList ≠ 45 :: r) (h : ¬ (magOk s.data.toList ∧ valD s.data.toList ≤ 9223372036854775807)) : numRes s = .tuple #[.int .i64 0, .bool false] := by
  refine numRes_none fun n hn e => ?_
  have el := congrArg (fun x : ByteArray => x.data.toList) e
  simp only [textOf_list] at el
  by_cases hneg : n < 0
  · rw [if_pos hneg] at el
    exact h45 _ el.symm
  · rw [if_neg hneg] at el
    obtain ⟨h1, h2⟩ := hn
    exact h (by rw [← el, valD_digs]; exact ⟨magOk_digs _ (by omega), by omega⟩)
theorem num_neg_yes {s : ByteArray} {r : List UInt8} (h45 : s.data.toList = 45 :: r) (h : magOk r) (h0 : 0 < valD r) (hv : valD r ≤ 9223372036854775808) : numRes s = .tuple #[.int .i64 (-(valD r : Int)), .bool true] := by
  refine numRes_some (n := -(valD r : Int)) ⟨by omega, by omega⟩ ?_
  apply bytes_ext
  rw [textOf_list, if_pos (by omega), h45, show (-(valD r : Int)).natAbs = valD r from by omega, digs_valD _ h.1 h.2.2.2 h.2.2.1]
theorem num_neg_no {s : ByteArray} {r : List UInt8} (h45 : s.data.toList = 45 :: r) (h : ¬ (magOk r ∧ 0 < valD r ∧ valD r ≤ 9223372036854775808)) : numRes s = .tuple #[.int .i64 0, .bool false] := by
  refine numRes_none fun n hn e => ?_
  have el := congrArg (fun x : ByteArray => x.data.toList) e
  simp only [textOf_list] at el
  rw [h45] at el
  by_cases hneg : n < 0
  · rw [if_pos hneg] at el
    have er := (List.cons.inj el).2
    obtain ⟨h1, h2⟩ := hn
    exact h (by rw [← er, valD_digs]; exact ⟨magOk_digs _ (by omega), by omega, by omega⟩)
  · rw [if_neg hneg] at el
    exact digs_not45 _ _ el

theorem negWrap2 (m : Nat) (h : m ≤ 9223372036854775808) (h0 : 0 < m) : wrap64 (IntKind.u64.wrap (-(m : Int))) = -(m : Int) := by
  unfold wrap64
  simp only [IntKind.wrap_u64]
  omega

set_option maxRecDepth 100000 in
set_option maxHeartbeats 1000000 in
theorem octNumber_any (s : ByteArray) (w : World) (hs : s.size ≤ 100000000000000) :
    Calls Try.prog 9 #[.string s] w fun e w' => e = .returned (numRes s) ∧ w = w' := by
  obtain ⟨R, hR⟩ : ∃ R, R = numRes s := ⟨_, rfl⟩
  rw [← hR]
  have HR := Lib.hid hR
  clear hR
  by_cases h0 : s.size = 0
  · have hse := byte_zero s h0
    have hr : R = .tuple #[.int .i64 0, .bool false] := by rw [HR.out, hse]; exact num_pos_no (fun r e => by cases e) (fun h => h.1.1 rfl)
    subst hr
    subst hse
    go_enter Try.func9, Try.ntmps9
    go_wp2_with (go_at_call 30; refine (magnitude_empty _).mono ?_; rintro e w' ⟨rfl, rfl⟩)
    go_ret2
    exact ⟨rfl, rfl⟩
  · have hpos : 0 < s.size := by omega
    have he := isEmpty_false s hpos
    have u0 : s[0].toNat ≤ 255 := by have := s[0].toNat_lt; omega
    have hcons := list_cons_at s hpos
    by_cases c45 : (s[0].toNat : Int) = 45
    · have b1 : ((s[0].toNat : Int) == 45) = true := by simp [c45]
      have b2 : ((s[0].toNat : Int) != 45) = false := by simp [c45]
      rw [show s[0] = 45 from UInt8.toNat_inj.1 (by simp; omega)] at hcons
      have Hcons := Lib.hid hcons
      clear hcons c45
      have hex := size_ex_le s 1 s.size
      by_cases h1 : (s.extract 1 s.size).size = 0
      · have hxe := byte_zero _ h1
        have hr : R = .tuple #[.int .i64 0, .bool false] := by rw [HR.out]; exact num_neg_no Hcons.out (fun h => h.1.1 (by rw [hxe]))
        subst hr
        clear h0 h1
        go_enter Try.func9, Try.ntmps9
        go_wp2_with (go_at_call 30; refine (magnitude_empty _).mono ?_; rintro e w' ⟨rfl, rfl⟩)
        go_ret2
        exact ⟨rfl, rfl⟩
      · clear h0
        go_enter Try.func9, Try.ntmps9
        go_wp2_with fail
        refine (magnitude_any _ _ (by omega) (by omega)).mono ?_
        rintro e w' ⟨⟨hok, rfl⟩ | ⟨hno, rfl⟩, rfl⟩
        · obtain ⟨m, hm⟩ : ∃ m, m = valD (s.extract 1 s.size).data.toList := ⟨_, rfl⟩
          have hmb := valD_19 hok
          rw [← hm] at hmb ⊢
          have Hm := Lib.hid hm
          have Hok := Lib.hid hok
          clear hm hok
          by_cases m0 : m = 0
          · subst m0
            have hr : R = .tuple #[.int .i64 0, .bool false] := by rw [HR.out]; exact num_neg_no Hcons.out (fun h => by have := h.2.1; rw [← Hm.out] at this; omega)
            subst hr
            go_wp2_with fail
            go_ret2
            exact ⟨rfl, rfl⟩
          · by_cases mb : m ≤ 9223372036854775808
            · have hr : R = .tuple #[.int .i64 (-(m : Int)), .bool true] := by rw [HR.out, Hm.out]; exact num_neg_yes Hcons.out Hok.out (by rw [← Hm.out]; omega) (by rw [← Hm.out]; exact mb)
              subst hr
              have m1 : ((m : Int) == 0) = false := by simp [m0]
              have hw := negWrap2 m mb (by omega)
              have Hw := Lib.hid hw
              have mb' : (m : Int) ≤ 9223372036854775808 := by omega
              clear hw m0
              go_wp2_with fail
              go_ret2
              refine ⟨?_, rfl⟩
              show Ending.returned (.tuple #[.int .i64 (wrap64 (IntKind.u64.wrap (-(m : Int)))), .bool true]) = _
              rw [Hw.out]
            · have hr : R = .tuple #[.int .i64 0, .bool false] := by rw [HR.out]; exact num_neg_no Hcons.out (fun h => by have := h.2.2; rw [← Hm.out] at this; omega)
              subst hr
              have m1 : ((m : Int) == 0) = false := by simp [m0]
              have mb' : (9223372036854775808 : Int) < (m : Int) := by omega
              go_wp2_with fail
              go_ret2
              exact ⟨rfl, rfl⟩
        · have hr : R = .tuple #[.int .i64 0, .bool false] := by rw [HR.out]; exact num_neg_no Hcons.out (fun h => hno h.1)
          subst hr
          clear hno
          go_wp2_with fail
          go_ret2
          exact ⟨rfl, rfl⟩
    · have b1 : ((s[0].toNat : Int) == 45) = false := by simp [c45]
      have b2 : ((s[0].toNat : Int) != 45) = true := by simp [c45]
      have h45 : ∀ r, s.data.toList ≠ 45 :: r := fun r e => by
        rw [e] at hcons
        have e1 : s[0] = 45 := by injection hcons with a b; exact a.symm
        rw [e1] at c45
        exact c45 rfl
      clear hcons c45 h0
      have H45 := Lib.hid h45
      clear h45
      go_enter Try.func9, Try.ntmps9
      go_wp2_with fail
      refine (magnitude_any _ _ (by omega) (by omega)).mono ?_
      rintro e w' ⟨⟨hok, rfl⟩ | ⟨hno, rfl⟩, rfl⟩
      · obtain ⟨m, hm⟩ : ∃ m, m = valD s.data.toList := ⟨_, rfl⟩
        have hmb := valD_19 hok
        rw [← hm] at hmb ⊢
        have Hm := Lib.hid hm
        have Hok := Lib.hid hok
        clear hm hok
        by_cases mb : m ≤ 9223372036854775807
        · have hr : R = .tuple #[.int .i64 (m : Int), .bool true] := by rw [HR.out, Hm.out]; exact num_pos_yes Hok.out (by rw [← Hm.out]; exact mb)
          subst hr
          have mb' : decide ((9223372036854775808 : Int) ≤ (m : Int)) = false := by rw [decide_eq_false_iff_not]; omega
          go_wp2_with fail
          go_ret2
          exact ⟨rfl, rfl⟩
        · have hr : R = .tuple #[.int .i64 0, .bool false] := by rw [HR.out]; exact num_pos_no H45.out (fun h => by have := h.2; rw [← Hm.out] at this; omega)
          subst hr
          have mb' : decide ((9223372036854775808 : Int) ≤ (m : Int)) = true := by rw [decide_eq_true_eq]; omega
          clear mb hmb
          go_wp2_with fail
          go_ret2
          exact ⟨rfl, rfl⟩
      · have hr : R = .tuple #[.int .i64 0, .bool false] := by rw [HR.out]; exact num_pos_no H45.out (fun h => hno h.1)
        subst hr
        clear hno
        go_wp2_with fail
        go_ret2
        exact ⟨rfl, rfl⟩
end Go.Proofs.Ytjghnabepojddaa
