/-
  Contracts of nuncio/octet's Trim and Begins and of their references.
-/
import Derived.Test.YtjghnabepojddaaPlainTrim
import Derived.Test.YtjghnabepojddaaOctCut
import Derived.Handy
import Derived.WalkLawsBesides
namespace Go.Proofs.Ytjghnabepojddaa
open Go.RowKit

set_option maxHeartbeats 400000 in
theorem blank_any (c : Int) (w : World) (_h0 : 0 ≤ c) (_h1 : c ≤ 255) :
    Calls Try.prog 37 #[.int .u8 c] w fun e w' => e = .returned (.bool (blankB c)) ∧ w = w' := by
  obtain ⟨v, hv⟩ : ∃ v, v = blankB c := ⟨_, rfl⟩
  rw [← hv]
  have Hv := Lib.hid hv
  clear hv
  by_cases a1 : c = 32
  · have b1 : (c == 32) = true := by simp [a1]
    clear a1
    go_enter Try.func37, Try.ntmps37
    go_wp2
    go_ret
    exact ⟨by rw [Hv.out]; unfold blankB; rw [b1]; rfl, rfl⟩
  · have b1 : (c == 32) = false := by simp [a1]
    clear a1
    go_enter Try.func37, Try.ntmps37
    go_wp2
    go_ret
    exact ⟨by rw [Hv.out]; unfold blankB; rw [b1]; rfl, rfl⟩

set_option maxHeartbeats 2000000 in
theorem octTrim_any (s : ByteArray) (w : World) (hs : s.size ≤ 100000000000000) :
    Calls Try.prog 26 #[.string s] w fun e w' => e = .returned (.string (trimB s)) ∧ Below w.heap.size w w' := by
  obtain ⟨R, hR⟩ : ∃ R, R = trimB s := ⟨_, rfl⟩
  rw [← hR]
  have HR := Lib.hid hR
  clear hR
  go_enter Try.func26, Try.ntmps26
  go_wp2
  go_loop [3] (fun f => ∃ k : Nat, k ≤ s.size ∧ f = .int .i64 (k : Int) ∧ lead (cutL s k s.size) = lead s.data.toList) (fun f => s.size - (intOf f).toNat)
  case atStart => exact ⟨0, Nat.zero_le _, rfl, by rw [cutL_all]⟩
  case round =>
    obtain ⟨k, hk, rfl, hld⟩ := hrel
    have Hld := Lib.hid hld
    clear hld
    by_cases hlt : k < s.size
    · have u0 : s[k].toNat ≤ 255 := by have := s[k].toNat_lt; omega
      have hcons := cutL_cons s k s.size hlt (Nat.le_refl _)
      by_cases hb : bl s[k] = true
      · have hb1 : blankB (s[k].toNat : Int) = true := hb
        have hnext : lead (cutL s (k + 1) s.size) = lead s.data.toList := by rw [← Hld.out, hcons, lead_cons _ _ hb]
        have Hnext := Lib.hid hnext
        clear hcons hb hnext
        go_wp2_with (go_at_call 37; refine (blank_any _ _ (by omega) (by omega)).mono ?_; rintro e w' ⟨rfl, rfl⟩)
        go_round
        case rel => exact ⟨k + 1, by omega, by go_num, Hnext.out⟩
        case measure => simp [intOf]; omega
      · have hb1 : blankB (s[k].toNat : Int) = false := by simpa [bl] using hb
        have hD : cutL s k s.size = lead s.data.toList := by rw [← Hld.out, hcons, lead_stop _ _ hb1]
        have HD := Lib.hid hD
        clear hcons hb hD
        go_wp2_with (go_at_call 37; refine (blank_any _ _ (by omega) (by omega)).mono ?_; rintro e w' ⟨rfl, rfl⟩)
        go_loop [4] (fun t => ∃ m : Nat, k ≤ m ∧ m ≤ s.size ∧ t = .int .i64 (m : Int) ∧ tail_ (cutL s k m) = tail_ (cutL s k s.size)) (fun t => (intOf t).toNat)
        case atStart => exact ⟨s.size, by omega, Nat.le_refl _, rfl, rfl⟩
        case round =>
          obtain ⟨m, hkm, hms, rfl, htl⟩ := hrel
          have Htl := Lib.hid htl
          clear htl
          by_cases hlt2 : k < m
          · have hlt3 : m - 1 < s.size := by omega
            have hm1 : ((m : Int) - 1).toNat = m - 1 := by omega
            have v0 : s[m - 1].toNat ≤ 255 := by have := s[m - 1].toNat_lt; omega
            have hsn := cutL_snoc s k m hlt2 hms
            by_cases hc : bl s[m - 1] = true
            · have hc1 : blankB (s[m - 1].toNat : Int) = true := hc
              have hnext : tail_ (cutL s k (m - 1)) = tail_ (cutL s k s.size) := by rw [← Htl.out, hsn, tail_snoc _ _ hc]
              have Hnext := Lib.hid hnext
              clear hsn hc hnext
              go_wp2_with (go_at_call 37; refine (blank_any _ _ (by omega) (by omega)).mono ?_; rintro e w' ⟨rfl, rfl⟩)
              go_round
              case rel => exact ⟨m - 1, by omega, by omega, by go_num, Hnext.out⟩
              case measure => simp [intOf]; omega
            · have hc1 : blankB (s[m - 1].toNat : Int) = false := by simpa [bl] using hc
              have hend : R = s.extract k m := by
                rw [HR.out, cutL_back]
                unfold trimB
                rw [← HD.out, ← Htl.out, hsn, tail_stop _ _ hc1]
              have Hend := Lib.hid hend
              have hex := size_ex_le s k m
              clear hsn hc hend
              go_wp2_with (first | (go_at_call 37; refine (blank_any _ _ (by omega) (by omega)).mono ?_; rintro e w' ⟨rfl, rfl⟩) | (go_at_call 36; refine (clone_any _ _ (by omega)).mono ?_; rintro e w' ⟨rfl, hbc⟩))
              go_ret
              exact ⟨by rw [Hend.out]; rfl, ‹_›⟩
          · obtain rfl : k = m := by omega
            have hend : R = s.extract k k := by
              rw [HR.out, cutL_back]
              unfold trimB
              rw [← HD.out, ← Htl.out, cutL_none]; rfl
            have Hend := Lib.hid hend
            have hex := size_ex_le s k k
            clear hend
            go_wp2_with (go_at_call 36; refine (clone_any _ _ (by first | omega | (simp; done) | (simp; omega))).mono ?_; rintro e w' ⟨rfl, hbc⟩)
            go_ret
            exact ⟨by rw [Hend.out]; first | rfl | (simp; done), ‹_›⟩
    · obtain rfl : k = s.size := by omega
      have hend : R = s.extract s.size s.size := by
        rw [HR.out, cutL_back]
        unfold trimB
        rw [← Hld.out, cutL_none]; rfl
      have Hend := Lib.hid hend
      have hex := size_ex_le s s.size s.size
      clear hend
      go_wp2
      refine wp_loop_rounds 1 ?_
      rw [rounds_succ]
      go_wp2_with (go_at_call 36; refine (clone_any _ _ (by first | omega | (simp; done) | (simp; omega))).mono ?_; rintro e w' ⟨rfl, hbc⟩)
      go_ret
      exact ⟨by rw [Hend.out]; first | rfl | (simp; done), ‹_›⟩

set_option maxHeartbeats 2000000 in
theorem refTrim_any (s : ByteArray) (w : World) (hs : s.size ≤ 100000000000000) :
    Calls Try.prog 27 #[.string s] w fun e w' => e = .returned (.string (trimB s)) ∧ w = w' := by
  obtain ⟨R, hR⟩ : ∃ R, R = trimB s := ⟨_, rfl⟩
  rw [← hR]
  have HR := Lib.hid hR
  clear hR
  go_enter Try.func27, Try.ntmps27
  go_wp2
  go_loop [0] (fun x => ∃ y : ByteArray, y.size ≤ s.size ∧ x = .string y ∧ lead y.data.toList = lead s.data.toList) (fun x => strLen x)
  case atStart => exact ⟨s, Nat.le_refl _, rfl, rfl⟩
  case round =>
    obtain ⟨y, hy, rfl, hld⟩ := hrel
    have Hld := Lib.hid hld
    clear hld
    by_cases hlt : 0 < y.size
    · have hcons := list_cons_at y hlt
      by_cases hb : bl y[0] = true
      · have hnext : lead (y.extract 1 y.size).data.toList = lead s.data.toList := by rw [← Hld.out, hcons, lead_cons _ _ hb]
        have Hnext := Lib.hid hnext
        have hex := size_ex_le y 1 y.size
        by_cases c1 : (y[0].toNat : Int) = 32
        · have b1 : ((y[0].toNat : Int) == 32) = true := by simp [c1]
          clear hcons hb hnext c1
          go_wp2
          go_round
          case rel => exact ⟨_, by omega, rfl, Hnext.out⟩
          case measure => simp [strLen]; omega
        · have b1 : ((y[0].toNat : Int) == 32) = false := by simp [c1]
          have b2 : ((y[0].toNat : Int) == 9) = true := by
            unfold bl blankB at hb
            rw [b1] at hb
            exact hb
          clear hcons hb hnext c1
          go_wp2
          go_round
          case rel => exact ⟨_, by omega, rfl, Hnext.out⟩
          case measure => simp [strLen]; omega
      · have hb0 : bl y[0] = false := by simpa using hb
        have hD : y.data.toList = lead s.data.toList := by rw [← Hld.out, hcons, lead_stop _ _ hb0]
        have HD := Lib.hid hD
        have b1 : ((y[0].toNat : Int) == 32) = false := by unfold bl blankB at hb0; rw [Bool.or_eq_false_iff] at hb0; exact hb0.1
        have b2 : ((y[0].toNat : Int) == 9) = false := by unfold bl blankB at hb0; rw [Bool.or_eq_false_iff] at hb0; exact hb0.2
        clear hcons hb hb0 hD
        go_wp2
        go_loop [0] (fun x => ∃ z : ByteArray, z.size ≤ s.size ∧ x = .string z ∧ tail_ z.data.toList = tail_ y.data.toList) (fun x => strLen x)
        case atStart => exact ⟨y, hy, rfl, rfl⟩
        case round =>
          obtain ⟨z, hz, rfl, htl⟩ := hrel
          have Htl := Lib.hid htl
          clear htl
          by_cases hlt2 : 0 < z.size
          · have hzi : z.size - 1 < z.size := by omega
            have hsn := list_snoc_at z hlt2
            have hm1 : ((z.size : Int) - 1).toNat = z.size - 1 := by omega
            by_cases hc : bl z[z.size - 1] = true
            · have hnext : tail_ (z.extract 0 (z.size - 1)).data.toList = tail_ y.data.toList := by rw [← Htl.out, hsn, tail_snoc _ _ hc]
              have Hnext := Lib.hid hnext
              have hex := size_ex_le z 0 (z.size - 1)
              by_cases c1 : (z[z.size - 1].toNat : Int) = 32
              · have d1 : ((z[z.size - 1].toNat : Int) == 32) = true := by simp [c1]
                clear hsn hc hnext c1
                go_wp2
                go_round
                case rel => exact ⟨_, by omega, rfl, Hnext.out⟩
                case measure => simp [strLen]; omega
              · have d1 : ((z[z.size - 1].toNat : Int) == 32) = false := by simp [c1]
                have d2 : ((z[z.size - 1].toNat : Int) == 9) = true := by
                  unfold bl blankB at hc
                  rw [d1] at hc
                  exact hc
                clear hsn hc hnext c1
                go_wp2
                go_round
                case rel => exact ⟨_, by omega, rfl, Hnext.out⟩
                case measure => simp [strLen]; omega
            · have hc0 : bl z[z.size - 1] = false := by simpa using hc
              have hend : R = z := by
                rw [HR.out]
                unfold trimB
                rw [← HD.out, ← Htl.out, hsn, tail_stop _ _ hc0, ← hsn]
              have Hend := Lib.hid hend
              have d1 : ((z[z.size - 1].toNat : Int) == 32) = false := by unfold bl blankB at hc0; rw [Bool.or_eq_false_iff] at hc0; exact hc0.1
              have d2 : ((z[z.size - 1].toNat : Int) == 9) = false := by unfold bl blankB at hc0; rw [Bool.or_eq_false_iff] at hc0; exact hc0.2
              clear hsn hc hc0 hend
              go_wp2
              go_ret
              exact ⟨by rw [Hend.out]; rfl, rfl⟩
          · have hz0 : z = ⟨#[]⟩ := ByteArray.ext (Array.eq_empty_of_size_eq_zero (by rw [show z.data.size = z.size from rfl]; omega))
            subst hz0
            go_wp2
            go_ret
            refine ⟨?_, rfl⟩
            rw [HR.out]
            unfold trimB
            rw [← HD.out, ← Htl.out]
            rfl
    · have hy0 : y = ⟨#[]⟩ := ByteArray.ext (Array.eq_empty_of_size_eq_zero (by rw [show y.data.size = y.size from rfl]; omega))
      subst hy0
      go_wp2
      refine wp_loop_rounds 1 ?_
      rw [rounds_succ]
      go_wp2
      go_ret
      refine ⟨?_, rfl⟩
      rw [HR.out]
      unfold trimB
      rw [← Hld.out]
      rfl
end Go.Proofs.Ytjghnabepojddaa
