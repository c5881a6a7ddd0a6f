/-
  nuncio/nuncioref07's unit and One.
-/
import Derived.Test.YtahkfoaogcbecaaRefQuoted
import Derived.Test.YtahkfoaogcbecaaRefNext
import Derived.Test.YtahkfoaogcbecaaBegins
namespace Go.Proofs.Ytahkfoaogcbecaa
set_option linter.unusedVariables false
set_option linter.unusedSimpArgs false
open Go.RowKit

theorem byteAt_hexJ (s : ByteArray) (k : Nat) : byteAt s (k : Int) = (hex2 (s.data.toList.drop k)).map fun b => (b.toNat : Int) := by
  have hsl : s.data.toList.length = s.size := rfl
  by_cases h : k + 1 < s.size
  · rw [byteAt_in s k (by omega) h, List.drop_eq_getElem_cons (by omega), List.drop_eq_getElem_cons (by omega)]
    show _ = (if hexI (s[k].toNat : Int) < 16 ∧ hexI (s[k + 1].toNat : Int) < 16 then some (16 * hexI (s[k].toNat : Int) + hexI (s[k + 1].toNat : Int)).toNat.toUInt8 else none : Option UInt8).map _
    have b0 := hexI_bd (s[k].toNat : Int)
    have b1 := hexI_bd (s[k + 1].toNat : Int)
    split
    · rename_i h2
      rw [Option.map_some]
      congr 1
      simp
      omega
    · rfl
  · rw [byteAt_out s _ (by omega)]
    have : hex2 (s.data.toList.drop k) = none := by
      have hl : (s.data.toList.drop k).length ≤ 1 := by rw [List.length_drop]; omega
      match hq : s.data.toList.drop k with
      | [] => rfl
      | [x] => rfl
      | x :: y :: z => rw [hq] at hl; simp at hl
    rw [this]
    rfl
theorem begins_far (s p : ByteArray) (i : Nat) (hp : p.data.toList ≠ []) : beginsB s p (i : Int) = p.data.toList.isPrefixOf (s.data.toList.drop i) := by
  by_cases h : i ≤ s.size
  · exact begins_pre s p i h
  · rw [List.drop_eq_nil_of_le (by show s.size ≤ i; omega)]
    unfold beginsB
    rw [if_neg (by omega)]
    cases hq : p.data.toList with
    | nil => exact absurd hq hp
    | cons x t => rfl
def numJ : Option Nat → Int
  | some n => (n : Int)
  | none => -1

set_option maxRecDepth 100000 in
set_option maxHeartbeats 2000000 in
theorem refUnit_any (w : World) (s : ByteArray) (k : Nat) (hs : s.size ≤ 100000) (hk : k ≤ 1000000) :
    Calls Try.prog 29 #[.string s, .int .i64 (k : Int)] w fun e w' => e = .returned (.int .i64 (numJ (unitJ (s.data.toList.drop k)))) ∧ ∃ n, w' = w.drewN n := by
  have kB := fun (W : World) => refBegins_any s ⟨#[92, 117]⟩ (k : Int) W (by omega) (by decide)
  rw [begins_far s _ k (by simp)] at kB
  have kY := fun (W : World) => refByte_any s ((k : Int) + 2) W (by omega)
  have kZ := fun (W : World) => refByte_any s ((k : Int) + 4) W (by omega)
  unfold byteRes at kY kZ
  rw [show (k : Int) + 2 = ((k + 2 : Nat) : Int) from rfl, byteAt_hexJ] at kY
  rw [show (k : Int) + 4 = ((k + 4 : Nat) : Int) from rfl, byteAt_hexJ] at kZ
  obtain ⟨R, hR⟩ : ∃ R, R = unitJ (s.data.toList.drop k) := ⟨_, rfl⟩
  rw [← hR]
  unfold unitJ at hR
  rw [List.drop_drop, List.drop_drop] at hR
  simp only at kB
  cases hp : List.isPrefixOf [92, 117] (s.data.toList.drop k) with
  | false =>
    rw [hp] at kB hR
    have hR2 : R = none := hR
    subst hR2
    clear hR hp kY kZ
    go_enter Try.func29, Try.ntmps29
    go_wp2_with fail
    refine (kB _).mono ?_
    rintro e w2 ⟨rfl, rfl⟩
    go_wp2_with fail
    go_ret
    exact ⟨rfl, 0, rfl⟩
  | true =>
    rw [hp] at kB hR
    rw [if_pos rfl] at hR
    clear hp
    generalize hex2 (s.data.toList.drop (k + 2)) = a at kY hR
    generalize hex2 (s.data.toList.drop (k + 4)) = b at kZ hR
    cases a with
    | none =>
      have hR2 : R = none := hR
      subst hR2
      clear hR
      simp only [Option.map_none, Option.getD_none, Option.isSome_none] at kY
      obtain ⟨x, t, hz⟩ : ∃ (x : Int) (t : Bool), (∀ W : World, Calls Try.prog 37 #[.string s, .int .i64 ((k + 4 : Nat) : Int)] W fun e w' => e = .returned (.tuple #[.int .u8 x, .bool t]) ∧ ∃ n, w' = W.drewN n) := ⟨_, _, kZ⟩
      clear kZ
      go_enter Try.func29, Try.ntmps29
      go_wp2_with fail
      refine (kB _).mono ?_
      rintro e w2 ⟨rfl, rfl⟩
      go_wp2_with fail
      refine (kY _).mono ?_
      rintro e w3 ⟨rfl, n1, rfl⟩
      go_wp2_with fail
      refine (hz _).mono ?_
      rintro e w4 ⟨rfl, n2, rfl⟩
      go_wp2_with fail
      go_ret
      exact ⟨rfl, n1 + n2, rfl⟩
    | some a =>
      have ha := a.toNat_lt
      simp only [Option.map_some, Option.getD_some, Option.isSome_some] at kY
      cases b with
      | none =>
        have hR2 : R = none := hR
        subst hR2
        clear hR
        simp only [Option.map_none, Option.getD_none, Option.isSome_none] at kZ
        go_enter Try.func29, Try.ntmps29
        go_wp2_with fail
        refine (kB _).mono ?_
        rintro e w2 ⟨rfl, rfl⟩
        go_wp2_with fail
        refine (kY _).mono ?_
        rintro e w3 ⟨rfl, n1, rfl⟩
        go_wp2_with fail
        refine (kZ _).mono ?_
        rintro e w4 ⟨rfl, n2, rfl⟩
        go_wp2_with fail
        go_ret
        exact ⟨rfl, n1 + n2, rfl⟩
      | some b =>
        have hb := b.toNat_lt
        have hR2 : R = some (256 * a.toNat + b.toNat) := hR
        subst hR2
        clear hR
        simp only [Option.map_some, Option.getD_some, Option.isSome_some] at kZ
        go_enter Try.func29, Try.ntmps29
        go_wp2_with fail
        refine (kB _).mono ?_
        rintro e w2 ⟨rfl, rfl⟩
        go_wp2_with fail
        refine (kY _).mono ?_
        rintro e w3 ⟨rfl, n1, rfl⟩
        go_wp2_with fail
        refine (kZ _).mono ?_
        rintro e w4 ⟨rfl, n2, rfl⟩
        go_wp2_with fail
        go_ret
        refine ⟨?_, n1 + n2, rfl⟩
        show Ending.returned (.int .i64 (256 * (a.toNat : Int) + (b.toNat : Int))) = .returned (.int .i64 ((256 * a.toNat + b.toNat : Nat) : Int))
        congr 2
end Go.Proofs.Ytahkfoaogcbecaa
