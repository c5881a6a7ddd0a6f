/-
  nuncio/jstr's numbered, escaped and One.
-/
import Derived.Test.YtahkfoaogcbecaaQuotedForm
import Derived.Test.YtahkfoaogcbecaaUtfNext
namespace Go.Proofs.Ytahkfoaogcbecaa
set_option linter.unusedVariables false
set_option linter.unusedSimpArgs false
open Go.RowKit

def oneJP : Option (Nat × Nat) → Value
  | some (r, n) => .tuple #[.int .i32 (r : Int), .int .i64 (n : Int), .bool true]
  | none => .tuple #[.int .i32 0, .int .i64 0, .bool false]

set_option maxRecDepth 100000 in
set_option maxHeartbeats 2000000 in
theorem numbered_any (w : World) (s : ByteArray) (k : Nat) (hs : s.size ≤ 100000) (hk : k ≤ 100000) :
    Calls Try.prog 36 #[.string s, .int .i64 (k : Int)] w fun e w' => e = .returned (oneJP (wideJ (s.data.toList.drop k))) ∧ w = w' := by
  have kA := fun (W : World) => unit_any W s k hs (by omega)
  have kB := fun (W : World) => unit_any W s (k + 6) hs (by omega)
  obtain ⟨R, hR⟩ : ∃ R, R = oneJP (wideJ (s.data.toList.drop k)) := ⟨_, rfl⟩
  rw [← hR]
  unfold wideJ at hR
  rw [List.drop_drop] at hR
  have hua : ∀ n, unitJ (s.data.toList.drop k) = some n → n < 65536 := fun n => unitJ_lt
  have hub : ∀ n, unitJ (s.data.toList.drop (k + 6)) = some n → n < 65536 := fun n => unitJ_lt
  generalize unitJ (s.data.toList.drop k) = oa at kA hR hua
  generalize unitJ (s.data.toList.drop (k + 6)) = ob at kB hR hub
  rw [show (((k + 6 : Nat)) : Int) = (k : Int) + 6 from rfl] at kB
  cases oa with
  | none =>
    subst hR
    simp only [unitV] at kA
    clear kB hua hub
    go_enter Try.func36, Try.ntmps36
    go_wp2_with fail
    refine (kA _).mono ?_
    rintro e w2 ⟨rfl, rfl⟩
    go_wp2
    go_ret3
    exact ⟨rfl, rfl⟩
  | some a =>
    have ha := hua a rfl
    simp only [unitV] at kA
    dsimp only at hR
    obtain ⟨p, hp⟩ : ∃ p : Int, p = (a : Int) := ⟨_, rfl⟩
    rw [← hp] at kA
    by_cases hlow : 56320 ≤ a ∧ a ≤ 57343
    · have d1 : decide (p ≥ 56320) = true := decide_eq_true (by omega)
      have d2 : decide (p ≤ 57343) = true := decide_eq_true (by omega)
      rw [if_neg (by omega), if_neg (by unfold isRune; omega)] at hR
      subst hR
      clear hp ha hua hub kB hlow
      go_enter Try.func36, Try.ntmps36
      go_wp2_with fail
      refine (kA _).mono ?_
      rintro e w2 ⟨rfl, rfl⟩
      go_wp2
      go_ret3
      exact ⟨rfl, rfl⟩
    · by_cases hhigh : 55296 ≤ a ∧ a ≤ 56319
      · rw [if_pos hhigh] at hR
        have d1 : decide (p ≥ 56320) = false := decide_eq_false (by omega)
        have d3 : decide (p < 55296) = false := decide_eq_false (by omega)
        have d4 : decide (p > 57343) = false := decide_eq_false (by omega)
        cases ob with
        | none =>
          subst hR
          simp only [unitV] at kB
          clear hp ha hua hub hlow hhigh
          go_enter Try.func36, Try.ntmps36
          go_wp2_with fail
          refine (kA _).mono ?_
          rintro e w2 ⟨rfl, rfl⟩
          go_wp2_with fail
          refine (kB _).mono ?_
          rintro e w2 ⟨rfl, rfl⟩
          go_wp2
          go_ret3
          exact ⟨rfl, rfl⟩
        | some b =>
          have hb := hub b rfl
          simp only [unitV] at kB
          dsimp only at hR
          obtain ⟨q, hq⟩ : ∃ q : Int, q = (b : Int) := ⟨_, rfl⟩
          rw [← hq] at kB
          by_cases hq1 : b < 56320
          · have d5 : decide (q < 56320) = true := decide_eq_true (by omega)
            rw [if_neg (by omega)] at hR
            subst hR
            clear hp ha hua hub hlow hhigh hq hb hq1
            go_enter Try.func36, Try.ntmps36
            go_wp2_with fail
            refine (kA _).mono ?_
            rintro e w2 ⟨rfl, rfl⟩
            go_wp2_with fail
            refine (kB _).mono ?_
            rintro e w2 ⟨rfl, rfl⟩
            go_wp2
            go_ret3
            exact ⟨rfl, rfl⟩
          · have d5 : decide (q < 56320) = false := decide_eq_false (by omega)
            by_cases hq2 : b ≤ 57343
            · have d6 : decide (q > 57343) = false := decide_eq_false (by omega)
              rw [if_pos (by omega)] at hR
              have hR2 : R = .tuple #[.int .i32 (65536 + (p - 55296) * 1024 + q - 56320), .int .i64 12, .bool true] := by
                rw [hR]
                show Value.tuple #[.int .i32 ((65536 + 1024 * (a - 55296) + (b - 56320) : Nat) : Int), .int .i64 12, .bool true] = _
                rw [show ((65536 + 1024 * (a - 55296) + (b - 56320) : Nat) : Int) = 65536 + (p - 55296) * 1024 + q - 56320 from by omega]
              have hp1 : 55296 ≤ p ∧ p ≤ 56319 := by omega
              have hp2 := hp1.2
              have hp3 := hp1.1
              have hq3 : 56320 ≤ q := by omega
              have hq4 : q ≤ 57343 := by omega
              have HR := Lib.hid hR2
              clear hR hR2 hp ha hua hub hlow hhigh hq hb hq1 hq2 hp1
              go_enter Try.func36, Try.ntmps36
              go_wp2_with fail
              refine (kA _).mono ?_
              rintro e w2 ⟨rfl, rfl⟩
              go_wp2_with fail
              refine (kB _).mono ?_
              rintro e w2 ⟨rfl, rfl⟩
              go_wp2
              go_ret3
              rw [HR.out]
              exact ⟨rfl, rfl⟩
            · have d6 : decide (q > 57343) = true := decide_eq_true (by omega)
              rw [if_neg (by omega)] at hR
              subst hR
              clear hp ha hua hub hlow hhigh hq hb hq1 hq2
              go_enter Try.func36, Try.ntmps36
              go_wp2_with fail
              refine (kA _).mono ?_
              rintro e w2 ⟨rfl, rfl⟩
              go_wp2_with fail
              refine (kB _).mono ?_
              rintro e w2 ⟨rfl, rfl⟩
              go_wp2
              go_ret3
              exact ⟨rfl, rfl⟩
      · rw [if_neg hhigh, if_pos (by unfold isRune; omega)] at hR
        simp only [oneJP] at hR
        rw [← hp] at hR
        subst hR
        by_cases h1 : a < 55296
        · have d1 : decide (p ≥ 56320) = false := decide_eq_false (by omega)
          have d3 : decide (p < 55296) = true := decide_eq_true (by omega)
          clear hp ha hua hub hlow hhigh h1 kB
          go_enter Try.func36, Try.ntmps36
          go_wp2_with fail
          refine (kA _).mono ?_
          rintro e w2 ⟨rfl, rfl⟩
          go_wp2
          go_ret3
          exact ⟨rfl, rfl⟩
        · have d1 : decide (p ≥ 56320) = true := decide_eq_true (by omega)
          have d2 : decide (p ≤ 57343) = false := decide_eq_false (by omega)
          have d3 : decide (p < 55296) = false := decide_eq_false (by omega)
          have d4 : decide (p > 57343) = true := decide_eq_true (by omega)
          clear hp ha hua hub hlow hhigh h1 kB
          go_enter Try.func36, Try.ntmps36
          go_wp2_with fail
          refine (kA _).mono ?_
          rintro e w2 ⟨rfl, rfl⟩
          go_wp2
          go_ret3
          exact ⟨rfl, rfl⟩

theorem wide_end {c : UInt8} : wideJ [c] = none := by
  unfold wideJ unitJ
  rw [if_neg (by simp [List.isPrefixOf])]
theorem wide_other {c e : UInt8} (t : List UInt8) (h : e.toNat ≠ 117) : wideJ (c :: e :: t) = none := by
  unfold wideJ unitJ
  rw [if_neg ?_]
  intro h2
  simp only [List.isPrefixOf, Bool.and_eq_true, beq_iff_eq] at h2
  exact h (by rw [← h2.2.1]; rfl)

set_option maxRecDepth 100000 in
set_option maxHeartbeats 2000000 in
theorem escaped_any (w : World) (s : ByteArray) (k : Nat) (hs : s.size ≤ 100000) (hk : k < s.size) (h92 : s[k].toNat = 92) :
    Calls Try.prog 26 #[.string s, .int .i64 (k : Int)] w fun e w' => e = .returned (oneJP (oneJ (s.data.toList.drop k))) ∧ w = w' := by
  obtain ⟨R, hR⟩ : ∃ R, R = oneJP (oneJ (s.data.toList.drop k)) := ⟨_, rfl⟩
  rw [← hR]
  have hdr : s.data.toList.drop k = s[k] :: s.data.toList.drop (k + 1) := List.drop_eq_getElem_cons (by exact hk)
  have kW := fun (W : World) => numbered_any W s k hs (by omega)
  have hz : (k : Int) + 1 ≤ (s.size : Int) := by omega
  by_cases hend : k + 1 = s.size
  · have e1 : ((k : Int) + 1 == (s.size : Int)) = true := by rw [beq_iff_eq]; omega
    have hR2 : R = .tuple #[.int .i32 0, .int .i64 0, .bool false] := by
      rw [hR, hdr, List.drop_eq_nil_of_le (by show s.size ≤ _; omega), oneJ_end h92, wide_end]
      rfl
    subst hR2
    clear hR hdr kW hend h92
    go_enter Try.func26, Try.ntmps26
    go_wp2
    go_ret3
    exact ⟨rfl, rfl⟩
  · have e1 : ((k : Int) + 1 == (s.size : Int)) = false := by rw [beq_eq_false_iff_ne]; omega
    have hlt : k + 1 < s.size := by omega
    obtain ⟨c, hc⟩ : ∃ c, c = s[k + 1] := ⟨_, rfl⟩
    have hdr2 : s.data.toList.drop (k + 1) = c :: s.data.toList.drop (k + 2) := by rw [hc]; exact List.drop_eq_getElem_cons (by exact hlt)
    have hR1 : R = oneJP (match shortD c.toNat with
      | some v => some (v, 2)
      | none => wideJ (s.data.toList.drop k)) := by
      rw [hR, hdr, hdr2, oneJ_esc _ _ h92]
      cases shortD c.toNat <;> rfl
    have kM := fun (W : World) => meaning_any W c.toNat c.toNat_lt
    have q2 : 0 ≤ (k : Int) + 1 := by omega
    have q3 : (k : Int) + 1 < (s.size : Int) := by omega
    have q4 : ((k : Int) + 1).toNat = k + 1 := by omega
    have hc' : s[k + 1].toNat = c.toNat := by rw [hc]
    have hwo : c.toNat ≠ 117 → wideJ (s.data.toList.drop k) = none := fun h => by rw [hdr, hdr2]; exact wide_other _ h
    unfold meanV at kM
    clear hR hdr hdr2 h92 hend hc
    cases hsd : shortD c.toNat with
    | some v =>
      rw [hsd] at kM hR1
      dsimp only at kM hR1
      simp only [oneJP] at hR1
      subst hR1
      clear hsd kW hwo
      go_enter Try.func26, Try.ntmps26
      go_wp2_with fail
      refine (kM _).mono ?_
      rintro e w2 ⟨rfl, rfl⟩
      go_wp2
      go_ret3
      exact ⟨rfl, rfl⟩
    | none =>
      rw [hsd] at kM hR1
      dsimp only at kM hR1
      by_cases h117 : c.toNat = 117
      · rw [if_pos h117] at kM
        rw [← hR1] at kW
        obtain ⟨rv, nv, bv, hrv⟩ : ∃ (rv nv : Int) (bv : Bool), R = .tuple #[.int .i32 rv, .int .i64 nv, .bool bv] := by
          rw [hR1]
          cases wideJ (s.data.toList.drop k) with
          | none => exact ⟨_, _, _, rfl⟩
          | some p => exact ⟨_, _, _, rfl⟩
        subst hrv
        clear hsd hR1 h117 hwo
        go_enter Try.func26, Try.ntmps26
        go_wp2_with fail
        refine (kM _).mono ?_
        rintro e w2 ⟨rfl, rfl⟩
        go_wp2_with fail
        refine (kW _).mono ?_
        rintro e w2 ⟨rfl, rfl⟩
        go_wp2
        go_ret3
        exact ⟨rfl, rfl⟩
      · rw [if_neg h117] at kM
        rw [hwo h117] at hR1
        have hR2 : R = .tuple #[.int .i32 0, .int .i64 0, .bool false] := hR1
        subst hR2
        clear hsd hR1 h117 hwo kW
        go_enter Try.func26, Try.ntmps26
        go_wp2_with fail
        refine (kM _).mono ?_
        rintro e w2 ⟨rfl, rfl⟩
        go_wp2
        go_ret3
        exact ⟨rfl, rfl⟩

/-- What Next tells, in three kinds. -/
theorem nx_is (c : UInt8) (t : List UInt8) : (c.toNat < 128 ∧ nxL (c :: t) = (c.toNat, 1)) ∨ (128 ≤ c.toNat ∧ nxL (c :: t) = (65533, 1)) ∨ (128 ≤ c.toNat ∧ 2 ≤ (nxL (c :: t)).2 ∧ 128 ≤ (nxL (c :: t)).1) := by
  unfold nxL
  rw [show (c :: t).getD 0 0 = c from rfl]
  generalize c.toNat = b0
  generalize ((c :: t).getD 1 0).toNat = b1
  generalize ((c :: t).getD 2 0).toNat = b2
  generalize ((c :: t).getD 3 0).toNat = b3
  have h1 := lo2_is b0
  unfold dec
  by_cases g0 : b0 < 128
  · rw [if_pos g0]
    exact .inl ⟨g0, rfl⟩
  · rw [if_neg g0]
    split
    · exact .inr (.inr ⟨by omega, by simp, by dsimp only; omega⟩)
    · split
      · exact .inr (.inr ⟨by omega, by simp, by dsimp only; omega⟩)
      · split
        · exact .inr (.inr ⟨by omega, by simp, by dsimp only; omega⟩)
        · exact .inr (.inl ⟨by omega, rfl⟩)

set_option maxRecDepth 100000 in
set_option maxHeartbeats 2000000 in
theorem one_any (w : World) (s : ByteArray) (a : Int) (hs : s.size ≤ 100000) (h0 : -9223372036854775808 ≤ a) (h1 : a ≤ 9223372036854775807) :
    Calls Try.prog 14 #[.string s, .int .i64 a] w fun e w' => e = .returned (oneJP (oneJAt s a)) ∧ Below w.heap.size w w' := by
  obtain ⟨R, hR⟩ : ∃ R, R = oneJP (oneJAt s a) := ⟨_, rfl⟩
  rw [← hR]
  unfold oneJAt at hR
  by_cases h : 0 ≤ a ∧ a < (s.size : Int)
  · rw [if_pos h] at hR
    obtain ⟨k, rfl⟩ := Int.eq_ofNat_of_zero_le h.1
    have hlt : k < s.size := by omega
    rw [Int.toNat_natCast] at hR
    have kN := fun (W : World) => utfNext_in s k W (by omega) hlt
    have hdr : s.data.toList.drop k = s[k] :: s.data.toList.drop (k + 1) := List.drop_eq_getElem_cons (by exact hlt)
    have hnx : nxS s k = nxL (s[k] :: s.data.toList.drop (k + 1)) := by unfold nxS; rw [hdr]
    by_cases h92 : s[k].toNat = 92
    · have kE := fun (W : World) => escaped_any W s k hs hlt h92
      rw [← hR] at kE
      have hx : nxS s k = (92, 1) := by
        rw [hnx]
        rcases nx_is s[k] (s.data.toList.drop (k + 1)) with h | h | h
        · rw [h.2, h92]
        · omega
        · omega
      rw [hx] at kN
      have kN2 : ∀ W : World, Calls Try.prog 25 #[.string s, .int .i64 (k : Int)] W fun e w' => e = .returned (.tuple #[.int .i32 92, .int .i64 1]) ∧ ∃ n, w' = W.drewN n := kN
      obtain ⟨rv, nv, bv, hrv⟩ : ∃ (rv nv : Int) (bv : Bool), R = .tuple #[.int .i32 rv, .int .i64 nv, .bool bv] := by
        rw [hR]
        cases oneJ (s.data.toList.drop k) with
        | none => exact ⟨_, _, _, rfl⟩
        | some p => exact ⟨_, _, _, rfl⟩
      subst hrv
      clear hR hdr hnx h92 kN hx h h0 h1
      go_enter Try.func14, Try.ntmps14
      go_wp2_with fail
      refine (kN2 _).mono ?_
      rintro e w2 ⟨rfl, q, rfl⟩
      go_wp2_with fail
      refine (kE _).mono ?_
      rintro e w2 ⟨rfl, rfl⟩
      go_wp2
      go_ret3
      exact ⟨rfl, below_drewJ _ _ _⟩
    · rw [hdr, oneJ_own _ h92, ← hnx] at hR
      have hx := nx_is s[k] (s.data.toList.drop (k + 1))
      rw [← hnx] at hx
      have hok := nxS_ok s k hlt
      generalize nxS s k = x at kN hR hx hok
      obtain ⟨r, n⟩ := x
      have hr2 : r ≤ 1114111 := by have := hok.1; unfold isRune at this; dsimp only at this; omega
      have hn1 : 1 ≤ n ∧ n ≤ 4 := hok.2
      obtain ⟨rv, hrv⟩ : ∃ rv : Int, rv = (r : Int) := ⟨_, rfl⟩
      obtain ⟨nv, hnv⟩ : ∃ nv : Int, nv = (n : Int) := ⟨_, rfl⟩
      have kN2 : ∀ W : World, Calls Try.prog 25 #[.string s, .int .i64 (k : Int)] W fun e w' => e = .returned (.tuple #[.int .i32 rv, .int .i64 nv]) ∧ ∃ n, w' = W.drewN n := by rw [hrv, hnv]; exact kN
      have e92 : (rv == 92) = false := by
        rw [beq_eq_false_iff_ne]
        rcases hx with ⟨-, hx⟩ | ⟨-, hx⟩ | ⟨-, -, hx⟩
        · cases hx; omega
        · cases hx; omega
        · dsimp only at hx; omega
      have e0 : (nv == 0) = false := by rw [beq_eq_false_iff_ne]; omega
      dsimp only at hR hx
      by_cases hbad : r = 65533 ∧ n = 1
      · obtain ⟨rfl, rfl⟩ := hbad
        rw [if_pos (.inr (.inr ⟨rfl, rfl⟩))] at hR
        subst hR
        have hrv2 : rv = 65533 := hrv
        have hnv2 : nv = 1 := hnv
        subst hrv2
        subst hnv2
        clear hdr hnx h92 kN hx h hok hr2 hn1 hrv hnv h0 h1 e92 e0
        go_enter Try.func14, Try.ntmps14
        go_wp2_with fail
        refine (kN2 _).mono ?_
        rintro e w2 ⟨rfl, q, rfl⟩
        go_wp2
        go_ret3
        exact ⟨rfl, below_drewJ _ _ _⟩
      · have hsz : n = 1 → r < 128 := by
          intro h1
          rcases hx with ⟨hc, hx⟩ | ⟨-, hx⟩ | ⟨-, hx, -⟩
          · cases hx; exact hc
          · cases hx; exact absurd ⟨rfl, rfl⟩ hbad
          · omega
        by_cases hn : n = 1
        · have en : (nv == 1) = true := by rw [beq_iff_eq]; omega
          have d127 : decide (rv > 127) = false := decide_eq_false (by have := hsz hn; omega)
          by_cases h32 : r < 32
          · have d32 : decide (rv < 32) = true := decide_eq_true (by omega)
            rw [if_pos (.inl h32)] at hR
            subst hR
            clear hdr hnx h92 kN hx h hok hr2 hn1 hrv hnv h0 h1 hsz hn h32 hbad
            go_enter Try.func14, Try.ntmps14
            go_wp2_with fail
            refine (kN2 _).mono ?_
            rintro e w2 ⟨rfl, q, rfl⟩
            go_wp2
            go_ret3
            exact ⟨rfl, below_drewJ _ _ _⟩
          · have d32 : decide (rv < 32) = false := decide_eq_false (by omega)
            by_cases h34 : r = 34
            · have e34 : (rv == 34) = true := by rw [beq_iff_eq]; omega
              rw [if_pos (.inr (.inl h34))] at hR
              subst hR
              clear hdr hnx h92 kN hx h hok hr2 hn1 hrv hnv h0 h1 hsz hn h32 hbad h34
              go_enter Try.func14, Try.ntmps14
              go_wp2_with fail
              refine (kN2 _).mono ?_
              rintro e w2 ⟨rfl, q, rfl⟩
              go_wp2
              go_ret3
              exact ⟨rfl, below_drewJ _ _ _⟩
            · have e34 : (rv == 34) = false := by rw [beq_eq_false_iff_ne]; omega
              rw [if_neg (by omega)] at hR
              simp only [oneJP] at hR
              rw [← hrv, ← hnv] at hR
              subst hR
              clear hdr hnx h92 kN hx h hok hr2 hn1 hrv hnv h0 h1 hsz hn h32 hbad h34
              go_enter Try.func14, Try.ntmps14
              go_wp2_with fail
              refine (kN2 _).mono ?_
              rintro e w2 ⟨rfl, q, rfl⟩
              go_wp2
              go_ret3
              exact ⟨rfl, below_drewJ _ _ _⟩
        · have en : (nv == 1) = false := by rw [beq_eq_false_iff_ne]; omega
          have hr3 : 128 ≤ r := by
            rcases hx with ⟨-, hx⟩ | ⟨-, hx⟩ | ⟨-, -, hx⟩
            · cases hx; exact absurd rfl hn
            · cases hx; exact absurd rfl hn
            · exact hx
          have d32 : decide (rv < 32) = false := decide_eq_false (by omega)
          have e34 : (rv == 34) = false := by rw [beq_eq_false_iff_ne]; omega
          rw [if_neg (by omega)] at hR
          simp only [oneJP] at hR
          rw [← hrv, ← hnv] at hR
          subst hR
          clear hdr hnx h92 kN hx h hok hr2 hn1 hrv hnv h0 h1 hsz hn hbad hr3
          go_enter Try.func14, Try.ntmps14
          go_wp2_with fail
          refine (kN2 _).mono ?_
          rintro e w2 ⟨rfl, q, rfl⟩
          go_wp2
          go_ret3
          exact ⟨rfl, below_drewJ _ _ _⟩
  · rw [if_neg h] at hR
    have hR2 : R = .tuple #[.int .i32 0, .int .i64 0, .bool false] := hR
    subst hR2
    have kN := fun (W : World) => utfNext_out s a W (by omega) h
    clear hR h
    go_enter Try.func14, Try.ntmps14
    go_wp2_with fail
    refine (kN _).mono ?_
    rintro e w2 ⟨rfl, rfl⟩
    go_wp2
    go_ret3
    exact ⟨rfl, Below.refl _ _⟩
end Go.Proofs.Ytahkfoaogcbecaa
