/-
  Contracts of nuncio/nuncioref01's Same and Cut.
-/
import Derived.Test.YtjghnabepojddaaStrs
import Derived.BigQuiet
import Derived.Deep.QuietTactic
import Derived.WalkLawsBesides
namespace Go.Proofs.Ytjghnabepojddaa
open Go.RowKit

theorem eqUpto_snoc (la lb : List ByteArray) (k : Nat) (ha : k < la.length) (hb : k < lb.length) (h : la.take k = lb.take k) (e : la[k] = lb[k]) : la.take (k + 1) = lb.take (k + 1) := by
  rw [List.take_succ_eq_append_getElem ha, List.take_succ_eq_append_getElem hb, h, e]

set_option maxHeartbeats 1000000 in
theorem refSame_any (va vb : Value) (la lb : List ByteArray) (w : World) (ha : IsStrs w va la) (hb : IsStrs w vb lb) (hla : la.length ≤ 1000000000000) (hlb : lb.length ≤ 1000000000000) :
    Calls Try.prog 22 #[va, vb] w fun e w' => e = .returned (.bool (decide (la = lb))) ∧ ∃ n, w' = w.drewN n := by
  obtain ⟨B, hB⟩ : ∃ B, B = decide (la = lb) := ⟨_, rfl⟩
  rw [← hB]
  have HB := Lib.hid hB
  clear hB
  by_cases hlen : la.length = lb.length
  · rcases ha with ⟨ao, cap, rfl, rfl⟩ | ⟨ba, offa, capa, rfl, hlta, hca⟩
    · have hlb0 : lb = [] := List.eq_nil_of_length_eq_zero hlen.symm
      subst hlb0
      rcases hb with ⟨bo, capb, rfl, -⟩ | ⟨bb, offb, capb, rfl, hltb, hcb⟩
      all_goals
        go_enter Try.func22, Try.ntmps22
        go_wp2
        refine wp_loop_rounds 1 ?_
        rw [rounds_succ]
        go_wp2
        go_ret
        exact ⟨by rw [HB.out]; simp, 0, rfl⟩
    · rcases hb with ⟨bo, capb, rfl, rfl⟩ | ⟨bb, offb, capb, rfl, hltb, hcb⟩
      · have hla0 : la = [] := List.eq_nil_of_length_eq_zero hlen
        subst hla0
        go_enter Try.func22, Try.ntmps22
        go_wp2
        refine wp_loop_rounds 1 ?_
        rw [rounds_succ]
        go_wp2
        go_ret
        exact ⟨by rw [HB.out]; simp, 0, rfl⟩
      · have hne1 : ((la.length : Int) != (lb.length : Int)) = false := by simp [hlen]
        have Hlen := Lib.hid hlen
        have Hca := Lib.hid hca
        have Hcb := Lib.hid hcb
        clear hlen hca hcb
        go_enter Try.func22, Try.ntmps22
        go_wp2
        go_loopw [5] (fun i wr => ∃ (k q : Nat), k ≤ la.length ∧ i = .int .i64 (k : Int) ∧ la.take k = lb.take k ∧ wr = w.drewN q) (fun i wr => la.length - (intOf i).toNat)
        case atStart => exact ⟨0, 0, Nat.zero_le _, rfl, rfl, rfl⟩
        case round =>
          obtain ⟨k, q, hk, rfl, htk, rfl⟩ := hrel
          have Htk := Lib.hid htk
          clear htk
          by_cases hlt : k < la.length
          · have hltb' : k < lb.length := by have := Hlen.out; omega
            have c1 := Hca.out k hlt
            have c2 := Hcb.out k hltb'
            obtain ⟨x, hx⟩ : ∃ x, x = la[k] := ⟨_, rfl⟩
            obtain ⟨y, hy⟩ : ∃ y, y = lb[k] := ⟨_, rfl⟩
            rw [← hx] at c1
            rw [← hy] at c2
            have Hx := Lib.hid hx
            have Hy := Lib.hid hy
            clear hx hy
            by_cases he : x = y
            · have he1 := bytes_beq_same he
              have He := Lib.hid he
              clear he
              go_wp2
              go_quiet (fail)
              go_wp2
              go_roundw
              case rel => exact ⟨k + 1, q + nq, by omega, by go_num, eqUpto_snoc la lb k hlt hltb' Htk.out (by rw [← Hx.out, ← Hy.out, He.out]), rfl⟩
              case measure => simp [intOf]; omega
            · have he1 := bytes_beq_other he
              have He := Lib.hid he
              clear he
              go_wp2
              go_quiet (fail)
              go_wp2
              go_ret
              refine ⟨?_, q + nq, World.drewN_drewN _ _ _⟩
              have hne : ¬ la = lb := fun e => He.out (by rw [Hx.out, Hy.out]; simp only [e])
              rw [HB.out, decide_eq_false hne]
              rfl
          · obtain rfl : k = la.length := by omega
            go_wp2
            go_ret
            refine ⟨?_, q, rfl⟩
            have hab : la = lb := by
              have := Htk.out
              rw [List.take_length, List.take_of_length_le (by have := Hlen.out; omega)] at this
              exact this
            rw [HB.out, decide_eq_true hab]
            rfl
  · have hne1 : ((la.length : Int) != (lb.length : Int)) = true := by rw [bne_iff_ne]; omega
    have hne : ¬ la = lb := fun e => hlen (by rw [e])
    have hBf : B = false := by rw [HB.out]; exact decide_eq_false hne
    have HBf := Lib.hid hBf
    clear hBf hne
    obtain ⟨ao, capa, rfl⟩ := ha.form
    obtain ⟨bo, capb, rfl⟩ := hb.form
    clear hlen ha hb
    go_enter Try.func22, Try.ntmps22
    go_wp2
    go_ret
    exact ⟨by rw [HBf.out]; rfl, 0, rfl⟩
end Go.Proofs.Ytjghnabepojddaa
