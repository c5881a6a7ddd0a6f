/-
  The contract of nuncio/nuncioref02.Clean.
-/
import Derived.Test.YtpeplejpcdadgaaRefLoops
namespace Go.Proofs.Ytpeplejpcdadgaa
open Go.RowKit

/-- What the reference has written behind so many steps. -/
def cleanN (s : ByteArray) (pre : List (Nat × Nat)) : ByteArray := ⟨((clnR s.data.toList 0 pre).flatMap encL).toArray⟩
theorem cleanN_snoc (s : ByteArray) (pre : List (Nat × Nat)) (x : Nat × Nat) : cleanN s (pre ++ [x]) = cleanN s pre ++ ⟨((outR s.data.toList (sumS pre + x.2) x.1).flatMap encL).toArray⟩ := by
  refine bytes_ext ?_
  rw [append_data']
  unfold cleanN
  rw [clnR_snoc, List.flatMap_append]
  simp
theorem cleanN_len (s : ByteArray) (pre : List (Nat × Nat)) : (cleanN s pre).size ≤ 4 * pre.length := by
  have := clnR_len s.data.toList pre 0
  unfold cleanN
  rw [Lib.size_eq]
  simpa using this
/-- How far the reference is. -/
def RefAt (s : ByteArray) (k : Nat) (pre : List (Nat × Nat)) : Prop := pre ++ stps (s.data.toList.drop k) = stps s.data.toList ∧ sumS pre = k
theorem RefAt.next {s : ByteArray} {k : Nat} {pre : List (Nat × Nat)} (h : RefAt s k pre) (hk : k < s.size) : RefAt s (k + (nxS s k).2) (pre ++ [nxS s k]) := by
  refine ⟨?_, by rw [sumS_append, h.2]; rfl⟩
  rw [List.append_assoc, List.singleton_append, ← stps_step s k hk]
  exact h.1
theorem RefAt.len {s : ByteArray} {k : Nat} {pre : List (Nat × Nat)} (h : RefAt s k pre) : pre.length ≤ s.size := by
  have h1 := stps_len _ s.data.toList (Nat.le_refl _)
  rw [← h.1, List.length_append] at h1
  simp at h1
  omega
theorem RefAt.done {s : ByteArray} {pre : List (Nat × Nat)} (h : RefAt s s.size pre) : pre = stps s.data.toList := by
  have := h.1
  rw [drop_size, stps_nil, List.append_nil] at this
  exact this
/-- The step writes rune q. -/
theorem out_is {s : ByteArray} {k q : Nat} {pre : List (Nat × Nat)} (h : RefAt s k pre) (hq : isRune q) (ho : outR s.data.toList (k + (nxS s k).2) (nxS s k).1 = [q]) : cleanN s pre ++ Utf8.encode (q : Int) = cleanN s (pre ++ [nxS s k]) := by
  rw [cleanN_snoc, h.2, ho, encode_rune q hq]
  simp
theorem tenAt_iff (s : ByteArray) (k : Nat) : tenAt s.data.toList k = true ↔ ∃ h : k < s.size, s[k].toNat = 10 := by
  unfold tenAt
  rw [Bool.and_eq_true, beq_iff_eq, decide_eq_true_iff]
  constructor
  · rintro ⟨h1, h2⟩
    have h : k < s.size := by simpa using h1
    refine ⟨h, ?_⟩
    rw [bt_at s k h]
    exact h2
  · rintro ⟨h, h2⟩
    rw [bt_at s k h] at h2
    exact ⟨by simpa using h, h2⟩

set_option maxRecDepth 100000 in
set_option maxHeartbeats 4000000 in
theorem refClean_any (s : ByteArray) (w : World) (hs : s.size ≤ 1000000000000) :
    Calls Try.prog 21 #[.string s] w fun e w' => e = .returned (.string ⟨(cleanL s.data.toList).toArray⟩) ∧ Below w.heap.size w w' := by
  obtain ⟨R, hR⟩ : ∃ R : ByteArray, R = ⟨(cleanL s.data.toList).toArray⟩ := ⟨_, rfl⟩
  rw [← hR]
  have HR := Lib.hid hR
  clear hR
  go_enter Try.func21, Try.ntmps21
  go_wp2
  go_loopw [3, 4, 5] (fun out i _ wr => ∃ (k : Nat) (pre : List (Nat × Nat)) (x : ByteArray), k ≤ s.size ∧ i = .int .i64 (k : Int) ∧ out = .string x ∧ Hid (RefAt s k pre) ∧ Hid (x = cleanN s pre) ∧ Below w.heap.size w wr) (fun _ i _ _ => s.size - (intOf i).toNat)
  case atStart => exact ⟨0, [], ⟨#[]⟩, Nat.zero_le _, rfl, rfl, Lib.hid ⟨rfl, rfl⟩, Lib.hid rfl, Below.refl _ _⟩
  case round =>
    obtain ⟨k, pre, x, hk, rfl, rfl, Hat, Hx, hB⟩ := hrel
    have HB := Lib.hid hB
    have hsB := hB.size
    clear hB
    by_cases hlt : k < s.size
    · have hle := nxS_le s k hlt
      have hok := nxS_ok s k hlt
      have hs1 := hok.2.1
      have hlen := Hat.out.len
      have hxl : x.size ≤ 4 * pre.length := by rw [Hx.out]; exact cleanN_len s pre
      have Hrune := Lib.hid hok.1
      have hr2 : (nxS s k).1 ≤ 1114111 := by have := hok.1; unfold isRune at this; omega
      clear hok
      obtain ⟨r, hr⟩ : ∃ r, r = (nxS s k).1 := ⟨_, rfl⟩
      obtain ⟨n, hn⟩ : ∃ n, n = (nxS s k).2 := ⟨_, rfl⟩
      have hv : nxVI (nxS s k) = .tuple #[.int .i64 (r : Int), .int .i64 (n : Int)] := by rw [hr, hn]; rfl
      rw [← hn] at hle hs1
      rw [← hr] at hr2
      have Hv := Lib.hid hv
      have Hr := Lib.hid hr
      have Hn := Lib.hid hn
      have q3 : 0 ≤ (k : Int) + (n : Int) := by omega
      have hi1 : -9223372036854775808 ≤ (r : Int) := by omega
      have hi2 : (r : Int) ≤ 9223372036854775807 := by omega
      have Hi1 := Lib.hid hi1
      have Hi2 := Lib.hid hi2
      clear hi1 hi2
      have q4 : ((k : Int) + (n : Int)).toNat = k + n := by omega
      clear hv hr hn
      by_cases c1 : r = 13
      · have e1 : ((r : Int) == 13) = true := by simp; omega
        have C1 := Lib.hid c1
        clear c1
        by_cases hlt2 : k + n < s.size
        · have q2 : (k : Int) + (n : Int) < (s.size : Int) := by omega
          by_cases c2 : s[k + n].toNat = 10
          · have q1 : ((s[k + n].toNat : Int) == 10) = true := by simp; omega
            have ht : tenAt s.data.toList (k + n) = true := (tenAt_iff s _).2 ⟨hlt2, c2⟩
            have hout : x = cleanN s (pre ++ [nxS s k]) := by
              rw [cleanN_snoc, Hat.out.2, ← Hn.out, ← Hr.out, Hx.out]
              unfold outR
              rw [if_pos C1.out, ht]
              exact bytes_ext (by rw [append_data']; simp)
            have Hout := Lib.hid hout
            clear hout ht c2
            go_wp2_with (go_at_call 10; refine (refNext_in s k _ (by omega) hlt).mono ?_; rw [Hv.out]; rintro e w1 ⟨rfl, hb1⟩; have hsz1 := hb1.size)
            go_roundw
            case rel => exact ⟨k + n, pre ++ [nxS s k], x, by omega, by go_num, rfl, Lib.hid (by rw [Hn.out]; exact Hat.out.next hlt), Hout, HB.out.trans (hb1.mono hsB)⟩
            case measure => simp [intOf]; omega
          · have q1 : ((s[k + n].toNat : Int) == 10) = false := by simp; omega
            have ht : tenAt s.data.toList (k + n) = false := by rw [Bool.eq_false_iff]; intro h; exact c2 ((tenAt_iff s _).1 h).2
            have Ht := Lib.hid ht
            clear ht c2
            obtain ⟨y, hy⟩ : ∃ y, y = Utf8.encode (10 : Int) := ⟨_, rfl⟩
            have hout : x ++ y = cleanN s (pre ++ [nxS s k]) := by
              rw [Hx.out, hy]
              exact out_is (q := 10) Hat.out (by decide) (by unfold outR; rw [← Hr.out, ← Hn.out, if_pos C1.out, Ht.out]; rfl)
            have hes : y.size ≤ 4 := by rw [hy]; exact encode_size _
            have Hy := Lib.hid hy
            have hsum : x.size + y.size ≤ 9223372036854775807 := by omega
            have Hout := Lib.hid hout
            clear hout hes hy
            go_wp2_with (first | (go_at_call 10; refine (refNext_in s k _ (by omega) hlt).mono ?_; rw [Hv.out]; rintro e w1 ⟨rfl, hb1⟩; have hsz1 := hb1.size) | (go_at_call 13; refine (refBytes_any _ _ (by decide) (by decide)).mono ?_; rw [← Hy.out]; rintro e w2 ⟨rfl, hb2⟩))
            go_roundw
            case rel => exact ⟨k + n, pre ++ [nxS s k], _, by omega, by go_num, rfl, Lib.hid (by rw [Hn.out]; exact Hat.out.next hlt), Hout, (HB.out.trans (hb1.mono hsB)).trans (hb2.mono (by omega))⟩
            case measure => simp [intOf]; omega
        · have q2 : (s.size : Int) ≤ (k : Int) + (n : Int) := by omega
          have ht : tenAt s.data.toList (k + n) = false := by rw [Bool.eq_false_iff]; intro h; exact hlt2 ((tenAt_iff s _).1 h).1
          have Ht := Lib.hid ht
          clear ht
          obtain ⟨y, hy⟩ : ∃ y, y = Utf8.encode (10 : Int) := ⟨_, rfl⟩
          have hout : x ++ y = cleanN s (pre ++ [nxS s k]) := by
            rw [Hx.out, hy]
            exact out_is (q := 10) Hat.out (by decide) (by unfold outR; rw [← Hr.out, ← Hn.out, if_pos C1.out, Ht.out]; rfl)
          have hes : y.size ≤ 4 := by rw [hy]; exact encode_size _
          have Hy := Lib.hid hy
          have hsum : x.size + y.size ≤ 9223372036854775807 := by omega
          have Hout := Lib.hid hout
          clear hout hes hy
          go_wp2_with (first | (go_at_call 10; refine (refNext_in s k _ (by omega) hlt).mono ?_; rw [Hv.out]; rintro e w1 ⟨rfl, hb1⟩; have hsz1 := hb1.size) | (go_at_call 13; refine (refBytes_any _ _ (by decide) (by decide)).mono ?_; rw [← Hy.out]; rintro e w2 ⟨rfl, hb2⟩))
          go_roundw
          case rel => exact ⟨k + n, pre ++ [nxS s k], _, by omega, by go_num, rfl, Lib.hid (by rw [Hn.out]; exact Hat.out.next hlt), Hout, (HB.out.trans (hb1.mono hsB)).trans (hb2.mono (by omega))⟩
          case measure => simp [intOf]; omega
      · have e1 : ((r : Int) == 13) = false := by simp; omega
        have C1 := Lib.hid c1
        by_cases c2 : (r : Int) < 32
        · by_cases c3 : r = 9
          · have e3 : ((r : Int) != 9) = false := by simp; omega
            have hc : ctlN r = false := decide_eq_false (by omega)
            have Hc := Lib.hid hc
            clear hc
            clear c1 c3
            obtain ⟨y, hy⟩ : ∃ y, y = Utf8.encode ((r : Nat) : Int) := ⟨_, rfl⟩
            have hout : x ++ y = cleanN s (pre ++ [nxS s k]) := by
              rw [Hx.out, hy]
              exact out_is (q := r) Hat.out (by rw [Hr.out]; exact Hrune.out) (by unfold outR; rw [← Hr.out, if_neg C1.out, Hc.out]; rfl)
            have hes : y.size ≤ 4 := by rw [hy]; exact encode_size _
            have Hy := Lib.hid hy
            have hsum : x.size + y.size ≤ 9223372036854775807 := by omega
            have Hout := Lib.hid hout
            clear hout hes hy
            go_wp2_with (first | (go_at_call 10; refine (refNext_in s k _ (by omega) hlt).mono ?_; rw [Hv.out]; rintro e w1 ⟨rfl, hb1⟩; have hsz1 := hb1.size) | (go_at_call 13; refine (refBytes_any _ _ Hi1.out Hi2.out).mono ?_; rw [← Hy.out]; rintro e w2 ⟨rfl, hb2⟩))
            go_roundw
            case rel => exact ⟨k + n, pre ++ [nxS s k], _, by omega, by go_num, rfl, Lib.hid (by rw [Hn.out]; exact Hat.out.next hlt), Hout, (HB.out.trans (hb1.mono hsB)).trans (hb2.mono (by omega))⟩
            case measure => simp [intOf]; omega
          · have e3 : ((r : Int) != 9) = true := by simp; omega
            by_cases c4 : r = 10
            · have e4 : ((r : Int) != 10) = false := by simp; omega
              have hc : ctlN r = false := decide_eq_false (by omega)
              have Hc := Lib.hid hc
              clear hc
              clear c1 c3 c4
              obtain ⟨y, hy⟩ : ∃ y, y = Utf8.encode ((r : Nat) : Int) := ⟨_, rfl⟩
              have hout : x ++ y = cleanN s (pre ++ [nxS s k]) := by
                rw [Hx.out, hy]
                exact out_is (q := r) Hat.out (by rw [Hr.out]; exact Hrune.out) (by unfold outR; rw [← Hr.out, if_neg C1.out, Hc.out]; rfl)
              have hes : y.size ≤ 4 := by rw [hy]; exact encode_size _
              have Hy := Lib.hid hy
              have hsum : x.size + y.size ≤ 9223372036854775807 := by omega
              have Hout := Lib.hid hout
              clear hout hes hy
              go_wp2_with (first | (go_at_call 10; refine (refNext_in s k _ (by omega) hlt).mono ?_; rw [Hv.out]; rintro e w1 ⟨rfl, hb1⟩; have hsz1 := hb1.size) | (go_at_call 13; refine (refBytes_any _ _ Hi1.out Hi2.out).mono ?_; rw [← Hy.out]; rintro e w2 ⟨rfl, hb2⟩))
              go_roundw
              case rel => exact ⟨k + n, pre ++ [nxS s k], _, by omega, by go_num, rfl, Lib.hid (by rw [Hn.out]; exact Hat.out.next hlt), Hout, (HB.out.trans (hb1.mono hsB)).trans (hb2.mono (by omega))⟩
              case measure => simp [intOf]; omega
            · have e4 : ((r : Int) != 10) = true := by simp; omega
              have hc : ctlN r = true := decide_eq_true (by omega)
              have Hc := Lib.hid hc
              clear hc
              clear c1 c3 c4
              obtain ⟨y, hy⟩ : ∃ y, y = Utf8.encode (65533 : Int) := ⟨_, rfl⟩
              have hout : x ++ y = cleanN s (pre ++ [nxS s k]) := by
                rw [Hx.out, hy]
                exact out_is (q := 65533) Hat.out (by decide) (by unfold outR; rw [← Hr.out, if_neg C1.out, Hc.out]; rfl)
              have hes : y.size ≤ 4 := by rw [hy]; exact encode_size _
              have Hy := Lib.hid hy
              have hsum : x.size + y.size ≤ 9223372036854775807 := by omega
              have Hout := Lib.hid hout
              clear hout hes hy
              go_wp2_with (first | (go_at_call 10; refine (refNext_in s k _ (by omega) hlt).mono ?_; rw [Hv.out]; rintro e w1 ⟨rfl, hb1⟩; have hsz1 := hb1.size) | (go_at_call 13; refine (refBytes_any _ _ (by decide) (by decide)).mono ?_; rw [← Hy.out]; rintro e w2 ⟨rfl, hb2⟩))
              go_roundw
              case rel => exact ⟨k + n, pre ++ [nxS s k], _, by omega, by go_num, rfl, Lib.hid (by rw [Hn.out]; exact Hat.out.next hlt), Hout, (HB.out.trans (hb1.mono hsB)).trans (hb2.mono (by omega))⟩
              case measure => simp [intOf]; omega
        · have c2' : 32 ≤ (r : Int) := by omega
          by_cases c5 : 127 ≤ (r : Int)
          · by_cases c6 : (r : Int) ≤ 159
            · have hc : ctlN r = true := decide_eq_true (by omega)
              have Hc := Lib.hid hc
              clear hc
              clear c1
              obtain ⟨y, hy⟩ : ∃ y, y = Utf8.encode (65533 : Int) := ⟨_, rfl⟩
              have hout : x ++ y = cleanN s (pre ++ [nxS s k]) := by
                rw [Hx.out, hy]
                exact out_is (q := 65533) Hat.out (by decide) (by unfold outR; rw [← Hr.out, if_neg C1.out, Hc.out]; rfl)
              have hes : y.size ≤ 4 := by rw [hy]; exact encode_size _
              have Hy := Lib.hid hy
              have hsum : x.size + y.size ≤ 9223372036854775807 := by omega
              have Hout := Lib.hid hout
              clear hout hes hy
              go_wp2_with (first | (go_at_call 10; refine (refNext_in s k _ (by omega) hlt).mono ?_; rw [Hv.out]; rintro e w1 ⟨rfl, hb1⟩; have hsz1 := hb1.size) | (go_at_call 13; refine (refBytes_any _ _ (by decide) (by decide)).mono ?_; rw [← Hy.out]; rintro e w2 ⟨rfl, hb2⟩))
              go_roundw
              case rel => exact ⟨k + n, pre ++ [nxS s k], _, by omega, by go_num, rfl, Lib.hid (by rw [Hn.out]; exact Hat.out.next hlt), Hout, (HB.out.trans (hb1.mono hsB)).trans (hb2.mono (by omega))⟩
              case measure => simp [intOf]; omega
            · have c6' : 159 < (r : Int) := by omega
              have hc : ctlN r = false := decide_eq_false (by omega)
              have Hc := Lib.hid hc
              clear hc
              clear c1
              obtain ⟨y, hy⟩ : ∃ y, y = Utf8.encode ((r : Nat) : Int) := ⟨_, rfl⟩
              have hout : x ++ y = cleanN s (pre ++ [nxS s k]) := by
                rw [Hx.out, hy]
                exact out_is (q := r) Hat.out (by rw [Hr.out]; exact Hrune.out) (by unfold outR; rw [← Hr.out, if_neg C1.out, Hc.out]; rfl)
              have hes : y.size ≤ 4 := by rw [hy]; exact encode_size _
              have Hy := Lib.hid hy
              have hsum : x.size + y.size ≤ 9223372036854775807 := by omega
              have Hout := Lib.hid hout
              clear hout hes hy
              go_wp2_with (first | (go_at_call 10; refine (refNext_in s k _ (by omega) hlt).mono ?_; rw [Hv.out]; rintro e w1 ⟨rfl, hb1⟩; have hsz1 := hb1.size) | (go_at_call 13; refine (refBytes_any _ _ Hi1.out Hi2.out).mono ?_; rw [← Hy.out]; rintro e w2 ⟨rfl, hb2⟩))
              go_roundw
              case rel => exact ⟨k + n, pre ++ [nxS s k], _, by omega, by go_num, rfl, Lib.hid (by rw [Hn.out]; exact Hat.out.next hlt), Hout, (HB.out.trans (hb1.mono hsB)).trans (hb2.mono (by omega))⟩
              case measure => simp [intOf]; omega
          · have c5' : (r : Int) < 127 := by omega
            have hc : ctlN r = false := decide_eq_false (by omega)
            have Hc := Lib.hid hc
            clear hc
            clear c1
            obtain ⟨y, hy⟩ : ∃ y, y = Utf8.encode ((r : Nat) : Int) := ⟨_, rfl⟩
            have hout : x ++ y = cleanN s (pre ++ [nxS s k]) := by
              rw [Hx.out, hy]
              exact out_is (q := r) Hat.out (by rw [Hr.out]; exact Hrune.out) (by unfold outR; rw [← Hr.out, if_neg C1.out, Hc.out]; rfl)
            have hes : y.size ≤ 4 := by rw [hy]; exact encode_size _
            have Hy := Lib.hid hy
            have hsum : x.size + y.size ≤ 9223372036854775807 := by omega
            have Hout := Lib.hid hout
            clear hout hes hy
            go_wp2_with (first | (go_at_call 10; refine (refNext_in s k _ (by omega) hlt).mono ?_; rw [Hv.out]; rintro e w1 ⟨rfl, hb1⟩; have hsz1 := hb1.size) | (go_at_call 13; refine (refBytes_any _ _ Hi1.out Hi2.out).mono ?_; rw [← Hy.out]; rintro e w2 ⟨rfl, hb2⟩))
            go_roundw
            case rel => exact ⟨k + n, pre ++ [nxS s k], _, by omega, by go_num, rfl, Lib.hid (by rw [Hn.out]; exact Hat.out.next hlt), Hout, (HB.out.trans (hb1.mono hsB)).trans (hb2.mono (by omega))⟩
            case measure => simp [intOf]; omega
    · obtain rfl : k = s.size := by omega
      go_wp2
      go_ret
      refine ⟨?_, HB.out⟩
      have e : R = x := by
        rw [HR.out, Hx.out, Hat.out.done]
        rfl
      rw [e]
      rfl
end Go.Proofs.Ytpeplejpcdadgaa
