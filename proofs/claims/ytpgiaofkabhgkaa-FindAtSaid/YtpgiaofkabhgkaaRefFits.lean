/-
  nuncio/nuncioref03's Fits.
-/
import Derived.Test.YtpgiaofkabhgkaaFindAwake
namespace Go.Proofs.Ytpgiaofkabhgkaa
set_option linter.unusedVariables false
set_option linter.unusedSimpArgs false
open Go.RowKit Go.Shelf

/-- What New may say. -/
def fitsI (l : List ByteArray) : Int := if 256 < l.length then 5 else if 65536 < rem l 0 then 6 else 0
theorem sum_take_succ {l : List ByteArray} {j : Nat} {p : ByteArray} (h : l[j]? = some p) : rem (l.take (j + 1)) 0 = rem (l.take j) 0 + p.size := by
  rw [take_snoc h]
  unfold rem
  simp
theorem sum_take_le (l : List ByteArray) (j : Nat) : rem (l.take j) 0 ≤ rem l 0 := by
  have h : rem (l.take j ++ l.drop j) 0 = rem (l.take j) 0 + rem (l.drop j) 0 := by unfold rem; rw [List.map_append, List.sum_append]
  rw [List.take_append_drop] at h
  omega

set_option maxRecDepth 100000 in
set_option maxHeartbeats 1000000 in
theorem fits_any (w : World) (l : List ByteArray) (lv : Value) (hv : IsStrs w lv l) (hl : l.length ≤ 1000000) (hb : ∀ x ∈ l, x.size ≤ 1000000000000) :
    Calls Try.prog 22 #[lv] w fun e w' => e = .returned (.int .i64 (fitsI l)) ∧ w' = w := by
  obtain ⟨r, hr⟩ : ∃ r, r = fitsI l := ⟨_, rfl⟩
  rw [← hr]
  unfold fitsI at hr
  obtain ⟨ao, cap, rfl⟩ := hv.form
  by_cases h1 : 256 < l.length
  · rw [if_pos h1] at hr
    subst hr
    go_enter Try.func22, Try.ntmps22
    go_wp2
    go_ret
    exact ⟨rfl, rfl⟩
  · rw [if_neg h1] at hr
    have Hr := Lib.hid hr
    clear hr
    go_enter Try.func22, Try.ntmps22
    go_wp2
    go_loopw [3, 4] (fun leftv iv wr => ∃ j : Nat, j ≤ l.length ∧ iv = .int .i64 (j : Int) ∧ leftv = .int .i64 ((65536 - rem (l.take j) 0 : Nat) : Int) ∧ rem (l.take j) 0 ≤ 65536 ∧ wr = w) (fun leftv iv wr => l.length - (intOf iv).toNat)
    case atStart => exact ⟨0, Nat.zero_le _, rfl, by simp [rem], by simp [rem], rfl⟩
    case round =>
      obtain ⟨j, hj, rfl, rfl, hle, rfl⟩ := hrel
      by_cases hjl : j < l.length
      · have hp := List.getElem?_eq_getElem hjl
        obtain ⟨p, hp'⟩ : ∃ p, p = l[j] := ⟨_, rfl⟩
        rw [← hp'] at hp
        have hpb := hb p (List.mem_of_getElem? hp)
        obtain ⟨b, off, rfl, hc⟩ : ∃ b off, ao = some ⟨b, off, none⟩ ∧ wr.cell? ⟨b, off + j, none⟩ = some (.string p) := by
          rcases hv with ⟨ao', cap', h, rfl⟩ | ⟨b, off, cap', h, _, hc⟩
          · simp at hjl
          · cases h
            exact ⟨b, off, rfl, by rw [hp']; exact hc j hjl⟩
        have hsn := sum_take_succ hp
        have hle2 := sum_take_le l (j + 1)
        have Hsn := Lib.hid hsn
        have Hle2 := Lib.hid hle2
        by_cases hg : 65536 - rem (l.take j) 0 < p.size
        · have hr6 : r = 6 := by rw [Hr.out, if_pos (by omega)]
          subst hr6
          clear hp hp' hsn hle2
          generalize 65536 - rem (l.take j) 0 = lf at *
          go_wp2
          go_ret
          exact ⟨rfl, rfl⟩
        · have hsub : ((65536 - rem (l.take j) 0 : Nat) : Int) - (p.size : Int) = ((65536 - rem (l.take (j + 1)) 0 : Nat) : Int) := by omega
          have hle3 : rem (l.take (j + 1)) 0 ≤ 65536 := by omega
          have Hsub := Lib.hid hsub
          have Hle3 := Lib.hid hle3
          have hlfb : 65536 - rem (l.take j) 0 ≤ 65536 := by omega
          clear hp hp' hsn hle2 hsub hle3 hle
          generalize 65536 - rem (l.take j) 0 = lf at *
          have hps : p.size ≤ 65536 := by omega
          go_wp2
          go_roundw
          case rel => exact ⟨j + 1, by omega, by go_num, by rw [← Hsub.out], Hle3.out, trivial⟩
          case measure => simp [intOf]; omega
      · obtain rfl : j = l.length := by omega
        rw [List.take_length] at hle
        have hr0 : r = 0 := by rw [Hr.out, if_neg (by omega)]
        subst hr0
        go_wp2
        go_ret
        exact ⟨rfl, rfl⟩
end Go.Proofs.Ytpgiaofkabhgkaa
