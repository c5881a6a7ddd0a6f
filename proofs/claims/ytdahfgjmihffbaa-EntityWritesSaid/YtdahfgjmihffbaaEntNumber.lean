/-
  nuncio/entity's numbered: a reference by number.
-/
import Derived.Test.YtdahfgjmihffbaaEntSmall
import Derived.Test.YtdahfgjmihffbaaOctPre
import Derived.Test.YtdahfgjmihffbaaRefEntity
namespace Go.Proofs.Ytdahfgjmihffbaa
set_option linter.unusedVariables false
set_option linter.unusedSimpArgs false
open Go.RowKit

theorem pow_bd7 {n i : Nat} (h : n + 1 ≤ 16 ^ i) (hi : i ≤ 7) : n ≤ 268435456 := by
  have : 16 ^ i ≤ 16 ^ 7 := Nat.pow_le_pow_right (by decide) hi
  have e : 16 ^ 7 = 268435456 := by decide
  omega
theorem pow_bd6 {n i : Nat} (h : n + 1 ≤ 16 ^ i) (hi : i ≤ 6) : n ≤ 16777216 := by
  have : 16 ^ i ≤ 16 ^ 6 := Nat.pow_le_pow_right (by decide) hi
  have e : 16 ^ 6 = 16777216 := by decide
  omega
/-- What the digits so far make: n is their number, j of them have been read, and the rest makes the same. -/
def ScanI (base k : Nat) (l : List UInt8) (j n : Nat) : Prop := scanE base k 0 l = ((scanE base (k - j) n (l.drop j)).1, j + (scanE base (k - j) n (l.drop j)).2) ∧ n + 1 ≤ 16 ^ j ∧ j ≤ k
theorem scanI_start (base k : Nat) (l : List UInt8) : ScanI base k l 0 0 := by
  refine ⟨?_, by decide, Nat.zero_le _⟩
  rw [List.drop_zero, Nat.sub_zero, Nat.zero_add]
theorem scanI_next {base k : Nat} {l r : List UInt8} {j n d : Nat} {c : UInt8} (hb : base ≤ 16) (h : ScanI base k l j n) (hj : j < k) (hl : l.drop j = c :: r) (hd : digE c.toNat base = some d) : ScanI base k l (j + 1) (n * base + d) := by
  obtain ⟨h1, h2, h3⟩ := h
  have hr : l.drop (j + 1) = r := by rw [← List.drop_drop, hl]; rfl
  refine ⟨?_, pow_step h2 hb (digE_lt hd), hj⟩
  rw [h1, hl, show k - j = (k - (j + 1)) + 1 from by omega, scanE_some _ _ hd, hr]
  dsimp only
  rw [show j + ((scanE base (k - (j + 1)) (n * base + d) r).2 + 1) = j + 1 + (scanE base (k - (j + 1)) (n * base + d) r).2 from by omega]
theorem scanI_full {base k : Nat} {l : List UInt8} {j n : Nat} (h : ScanI base k l j n) (hj : j = k) : scanE base k 0 l = (n, j) := by
  obtain ⟨h1, h2, h3⟩ := h
  subst hj
  rw [h1, Nat.sub_self, scanE_zero]
  rfl
theorem scanI_over {base k : Nat} {l : List UInt8} {j n : Nat} (h : ScanI base k l j n) (hl : l.drop j = []) : scanE base k 0 l = (n, j) := by
  rw [h.1, hl, scanE_nil]
  rfl
theorem scanI_other {base k : Nat} {l r : List UInt8} {j n : Nat} {c : UInt8} (h : ScanI base k l j n) (hl : l.drop j = c :: r) (hd : digE c.toNat base = none) : scanE base k 0 l = (n, j) := by
  rw [h.1, hl, scanE_none _ _ hd]
  rfl
/-- What numbered answers, where the digits begin at f and j of them make n. -/
def fromScan (s : ByteArray) (f a n j : Nat) : Value := if (n ≠ 0 ∧ isRune n) ∧ List.isPrefixOf [59] (s.data.toList.drop (f + j)) = true then .tuple #[.string ⟨(encL n).toArray⟩, .int .i64 (((f + j : Nat) : Int) + 1 - (a : Int)), .bool true] else .tuple #[.string ⟨#[]⟩, .int .i64 0, .bool false]
theorem fromScan_ref {base : Nat} (hb : base ≤ 16) (s : ByteArray) (p a k n j : Nat) (h : scanE base k 0 (s.data.toList.drop (p + a)) = (n, j)) : oneV (refE a (numE base (k + 1) 0 0 (s.data.toList.drop (p + a)))) = fromScan s (p + a) p n j := by
  rw [ref_scan hb a k n j _ h, List.drop_drop]
  unfold fromScan
  by_cases hc : (n ≠ 0 ∧ isRune n) ∧ List.isPrefixOf [59] (s.data.toList.drop (p + a + j)) = true
  · rw [if_pos hc, if_pos hc]
    unfold oneV
    dsimp only
    rw [show ((a + j + 1 : Nat) : Int) = ((p + a + j : Nat) : Int) + 1 - (p : Int) from by omega]
  · rw [if_neg hc, if_neg hc]
    rfl

set_option maxRecDepth 100000 in
set_option maxHeartbeats 8000000 in
theorem numbered_hex (w : World) (s : ByteArray) (p : Nat) (hs : s.size ≤ 100000) (hp : p + 2 ≤ s.size) (hx : List.isPrefixOf [120] (s.data.toList.drop (p + 2)) = true) :
    Calls Try.prog 18 #[.string s, .int .i64 (p : Int)] w fun e w' => e = .returned (oneV (refE 3 (numE 16 7 0 0 (s.data.toList.drop (p + 3))))) ∧ Below w.heap.size w w' := by
  obtain ⟨R, hR⟩ : ∃ R, R = oneV (refE 3 (numE 16 7 0 0 (s.data.toList.drop (p + 3)))) := ⟨_, rfl⟩
  rw [← hR]
  have HR : ∀ n j, scanE 16 6 0 (s.data.toList.drop (p + 3)) = (n, j) → R = fromScan s (p + 3) p n j := fun n j h => by rw [hR, fromScan_ref (by decide) s p 3 6 n j h]
  have hsl : s.data.toList.length = s.size := rfl
  have kX := fun (W : World) => octBegins_any s ⟨#[120]⟩ ((p + 2 : Nat) : Int) W (by omega) (by decide)
  rw [begins_pre s _ (p + 2) hp, show (⟨#[120]⟩ : ByteArray).data.toList = [120] from rfl, hx] at kX
  have hf : p + 3 ≤ s.size := by
    by_cases h : p + 3 ≤ s.size
    · exact h
    · rw [List.drop_eq_nil_of_le (by omega)] at hx
      cases hx
  have hp2 : ((p + 2 : Nat) : Int) = (p : Int) + 2 := by omega
  rw [hp2] at kX
  have HX := Lib.hid HR
  clear hR HR hx
  go_enter Try.func18, Try.ntmps18
  go_wp2_with fail
  refine (kX _).mono ?_
  rintro e w2 ⟨rfl, rfl⟩
  clear kX
  go_wp2_with fail
  go_loopw [10, 11] (fun nv iv wr => ∃ (n j : Nat), nv = .int .i32 (n : Int) ∧ iv = .int .i64 ((p : Int) + 3 + (j : Int)) ∧ p + 3 + j ≤ s.size ∧ j ≤ 6 ∧ n ≤ 268435456 ∧ Hid (ScanI 16 6 (s.data.toList.drop (p + 3)) j n) ∧ wr = w) (fun nv iv wr => s.size - (intOf iv).toNat)
  case atStart => exact ⟨0, 0, rfl, by go_num, hf, by omega, by omega, Lib.hid (scanI_start _ _ _), rfl⟩
  case round =>
    obtain ⟨n, j, rfl, rfl, hi, hj, hn, HI, rfl⟩ := hrel
    have hE : ∀ {n0 j0}, scanE 16 6 0 (s.data.toList.drop (p + 3)) = (n0, j0) → p + 3 + j0 ≤ s.size → ∃ (ok sem : Bool), (∀ W : World, Calls Try.prog 17 #[.string s, .string ⟨#[59]⟩, .int .i64 ((p : Int) + 3 + (j0 : Int))] W fun e w' => e = .returned (.bool sem) ∧ W = w') ∧ encV n0 = .tuple #[.string (if ok then ⟨(encL n0).toArray⟩ else ⟨#[]⟩), .bool ok] ∧ R = if (ok && sem) = true then .tuple #[.string ⟨(encL n0).toArray⟩, .int .i64 ((p : Int) + 3 + (j0 : Int) + 1 - (p : Int)), .bool true] else .tuple #[.string ⟨#[]⟩, .int .i64 0, .bool false] := fun {n0 j0} h hb => by
      refine ⟨decide (n0 ≠ 0 ∧ isRune n0), List.isPrefixOf [59] (s.data.toList.drop (p + 3 + j0)), fun W => ?_, ?_, ?_⟩
      · have k := octBegins_any s ⟨#[59]⟩ ((p + 3 + j0 : Nat) : Int) W (by omega) (by decide)
        rw [begins_pre s _ (p + 3 + j0) hb, show (⟨#[59]⟩ : ByteArray).data.toList = [59] from rfl] at k
        rw [show ((p + 3 + j0 : Nat) : Int) = (p : Int) + 3 + (j0 : Int) from by omega] at k
        exact k
      · unfold encV
        by_cases hc : n0 ≠ 0 ∧ isRune n0
        · rw [if_pos hc, decide_eq_true hc]
          rfl
        · rw [if_neg hc, decide_eq_false hc]
          rfl
      · rw [HX.out n0 j0 h]
        unfold fromScan
        by_cases hc : n0 ≠ 0 ∧ isRune n0
        · rw [decide_eq_true hc, Bool.true_and, show ((p + 3 + j0 : Nat) : Int) = (p : Int) + 3 + (j0 : Int) from by omega]
          by_cases hs2 : List.isPrefixOf [59] (s.data.toList.drop (p + 3 + j0)) = true
          · rw [if_pos ⟨hc, hs2⟩, if_pos hs2]
          · rw [if_neg (fun h => hs2 h.2), if_neg hs2]
        · rw [decide_eq_false hc, Bool.false_and, if_neg (fun h => hc h.1)]
          rfl
    have kE := fun (W : World) => encoding_any W n (by omega)
    by_cases hlt : p + 3 + j < s.size
    · by_cases hjm : j < 6
      · obtain ⟨c, hc⟩ : ∃ c, c = s[p + 3 + j] := ⟨_, rfl⟩
        have hc' : s[p + 3 + j].toNat = c.toNat := by rw [hc]
        have hcl := c.toNat_lt
        have hdr : (s.data.toList.drop (p + 3)).drop j = c :: s.data.toList.drop (p + 3 + j + 1) := by
          rw [List.drop_drop, List.drop_eq_getElem_cons (by exact hlt), hc]
          rfl
        have htn : ((p : Int) + 3 + (j : Int)).toNat = p + 3 + j := by omega
        have g1 : decide ((p : Int) + 3 + (j : Int) < (s.size : Int)) = true := decide_eq_true (by omega)
        have g2 : decide ((p : Int) + 3 + (j : Int) - ((p : Int) + 3) < 6) = true := decide_eq_true (by omega)
        have kV := fun (W : World) => value_any W c.toNat 16 (by omega) (by decide)
        unfold digV at kV
        cases hd : digE c.toNat 16 with
        | some d =>
          rw [hd] at kV
          have hdl := digE_lt hd
          have hbd := pow_bd6 HI.out.2.1 (by omega)
          have hI2 := scanI_next (by decide) HI.out hjm hdr hd
          have hbd2 := pow_bd7 hI2.2.1 (by omega)
          have HI2 := Lib.hid hI2
          clear hI2 hd hdr hc hE kE HI
          go_wp2_with fail
          refine (kV _).mono ?_
          rintro e w2 ⟨rfl, rfl⟩
          go_wp2
          go_roundw
          case rel => exact ⟨n * 16 + d, j + 1, by go_num, by go_num, by omega, by omega, hbd2, HI2, trivial⟩
          case measure => simp [intOf]; omega
        | none =>
          rw [hd] at kV
          obtain ⟨ok, sem, kS, hV, hRR⟩ := hE (scanI_other HI.out hdr hd) hi
          rw [hV] at kE
          clear hd hdr hc hE hV HI
          have HRR := Lib.hid hRR
          clear hRR
          cases ok
          all_goals cases sem
          all_goals go_wp2_with fail
          all_goals refine (kV _).mono ?_
          all_goals rintro e w2 ⟨rfl, rfl⟩
          all_goals go_wp2_with fail
          all_goals refine (kE _).mono ?_
          all_goals rintro e w2 ⟨rfl, hb2⟩
          all_goals go_wp2_with (refine (kS _).mono ?_; rintro e w3 ⟨rfl, rfl⟩)
          all_goals go_ret3
          all_goals exact ⟨by rw [HRR.out]; rfl, hb2⟩
      · obtain rfl : j = 6 := by omega
        have g1 : decide ((p : Int) + 3 + ((6 : Nat) : Int) < (s.size : Int)) = true := decide_eq_true (by omega)
        have g2 : decide ((p : Int) + 3 + ((6 : Nat) : Int) - ((p : Int) + 3) < 6) = false := decide_eq_false (by omega)
        obtain ⟨ok, sem, kS, hV, hRR⟩ := hE (scanI_full HI.out rfl) hi
        rw [hV] at kE
        clear hE hV HI hjm
        have HRR := Lib.hid hRR
        clear hRR
        cases ok
        all_goals cases sem
        all_goals go_wp2_with fail
        all_goals refine (kE _).mono ?_
        all_goals rintro e w2 ⟨rfl, hb2⟩
        all_goals go_wp2_with (refine (kS _).mono ?_; rintro e w3 ⟨rfl, rfl⟩)
        all_goals go_ret3
        all_goals exact ⟨by rw [HRR.out]; rfl, hb2⟩
    · have g1 : decide ((p : Int) + 3 + (j : Int) < (s.size : Int)) = false := decide_eq_false (by omega)
      obtain ⟨ok, sem, kS, hV, hRR⟩ := hE (scanI_over HI.out (by rw [List.drop_drop]; exact List.drop_eq_nil_of_le (by omega))) hi
      rw [hV] at kE
      clear hE hV HI
      have HRR := Lib.hid hRR
      clear hRR
      cases ok
      all_goals cases sem
      all_goals go_wp2_with fail
      all_goals refine (kE _).mono ?_
      all_goals rintro e w2 ⟨rfl, hb2⟩
      all_goals go_wp2_with (refine (kS _).mono ?_; rintro e w3 ⟨rfl, rfl⟩)
      all_goals go_ret3
      all_goals exact ⟨by rw [HRR.out]; rfl, hb2⟩

set_option maxRecDepth 100000 in
set_option maxHeartbeats 8000000 in
theorem numbered_dec (w : World) (s : ByteArray) (p : Nat) (hs : s.size ≤ 100000) (hp : p + 2 ≤ s.size) (hx : List.isPrefixOf [120] (s.data.toList.drop (p + 2)) = false) :
    Calls Try.prog 18 #[.string s, .int .i64 (p : Int)] w fun e w' => e = .returned (oneV (refE 2 (numE 10 8 0 0 (s.data.toList.drop (p + 2))))) ∧ Below w.heap.size w w' := by
  obtain ⟨R, hR⟩ : ∃ R, R = oneV (refE 2 (numE 10 8 0 0 (s.data.toList.drop (p + 2)))) := ⟨_, rfl⟩
  rw [← hR]
  have HR : ∀ n j, scanE 10 7 0 (s.data.toList.drop (p + 2)) = (n, j) → R = fromScan s (p + 2) p n j := fun n j h => by rw [hR, fromScan_ref (by decide) s p 2 7 n j h]
  have hsl : s.data.toList.length = s.size := rfl
  have kX := fun (W : World) => octBegins_any s ⟨#[120]⟩ ((p + 2 : Nat) : Int) W (by omega) (by decide)
  rw [begins_pre s _ (p + 2) hp, show (⟨#[120]⟩ : ByteArray).data.toList = [120] from rfl, hx] at kX
  have hf : p + 2 ≤ s.size := hp
  have hp2 : ((p + 2 : Nat) : Int) = (p : Int) + 2 := by omega
  rw [hp2] at kX
  have HX := Lib.hid HR
  clear hR HR hx
  go_enter Try.func18, Try.ntmps18
  go_wp2_with fail
  refine (kX _).mono ?_
  rintro e w2 ⟨rfl, rfl⟩
  clear kX
  go_wp2_with fail
  go_loopw [10, 11] (fun nv iv wr => ∃ (n j : Nat), nv = .int .i32 (n : Int) ∧ iv = .int .i64 ((p : Int) + 2 + (j : Int)) ∧ p + 2 + j ≤ s.size ∧ j ≤ 7 ∧ n ≤ 268435456 ∧ Hid (ScanI 10 7 (s.data.toList.drop (p + 2)) j n) ∧ wr = w) (fun nv iv wr => s.size - (intOf iv).toNat)
  case atStart => exact ⟨0, 0, rfl, by go_num, hf, by omega, by omega, Lib.hid (scanI_start _ _ _), rfl⟩
  case round =>
    obtain ⟨n, j, rfl, rfl, hi, hj, hn, HI, rfl⟩ := hrel
    have hE : ∀ {n0 j0}, scanE 10 7 0 (s.data.toList.drop (p + 2)) = (n0, j0) → p + 2 + j0 ≤ s.size → ∃ (ok sem : Bool), (∀ W : World, Calls Try.prog 17 #[.string s, .string ⟨#[59]⟩, .int .i64 ((p : Int) + 2 + (j0 : Int))] W fun e w' => e = .returned (.bool sem) ∧ W = w') ∧ encV n0 = .tuple #[.string (if ok then ⟨(encL n0).toArray⟩ else ⟨#[]⟩), .bool ok] ∧ R = if (ok && sem) = true then .tuple #[.string ⟨(encL n0).toArray⟩, .int .i64 ((p : Int) + 2 + (j0 : Int) + 1 - (p : Int)), .bool true] else .tuple #[.string ⟨#[]⟩, .int .i64 0, .bool false] := fun {n0 j0} h hb => by
      refine ⟨decide (n0 ≠ 0 ∧ isRune n0), List.isPrefixOf [59] (s.data.toList.drop (p + 2 + j0)), fun W => ?_, ?_, ?_⟩
      · have k := octBegins_any s ⟨#[59]⟩ ((p + 2 + j0 : Nat) : Int) W (by omega) (by decide)
        rw [begins_pre s _ (p + 2 + j0) hb, show (⟨#[59]⟩ : ByteArray).data.toList = [59] from rfl] at k
        rw [show ((p + 2 + j0 : Nat) : Int) = (p : Int) + 2 + (j0 : Int) from by omega] at k
        exact k
      · unfold encV
        by_cases hc : n0 ≠ 0 ∧ isRune n0
        · rw [if_pos hc, decide_eq_true hc]
          rfl
        · rw [if_neg hc, decide_eq_false hc]
          rfl
      · rw [HX.out n0 j0 h]
        unfold fromScan
        by_cases hc : n0 ≠ 0 ∧ isRune n0
        · rw [decide_eq_true hc, Bool.true_and, show ((p + 2 + j0 : Nat) : Int) = (p : Int) + 2 + (j0 : Int) from by omega]
          by_cases hs2 : List.isPrefixOf [59] (s.data.toList.drop (p + 2 + j0)) = true
          · rw [if_pos ⟨hc, hs2⟩, if_pos hs2]
          · rw [if_neg (fun h => hs2 h.2), if_neg hs2]
        · rw [decide_eq_false hc, Bool.false_and, if_neg (fun h => hc h.1)]
          rfl
    have kE := fun (W : World) => encoding_any W n (by omega)
    by_cases hlt : p + 2 + j < s.size
    · by_cases hjm : j < 7
      · obtain ⟨c, hc⟩ : ∃ c, c = s[p + 2 + j] := ⟨_, rfl⟩
        have hc' : s[p + 2 + j].toNat = c.toNat := by rw [hc]
        have hcl := c.toNat_lt
        have hdr : (s.data.toList.drop (p + 2)).drop j = c :: s.data.toList.drop (p + 2 + j + 1) := by
          rw [List.drop_drop, List.drop_eq_getElem_cons (by exact hlt), hc]
          rfl
        have htn : ((p : Int) + 2 + (j : Int)).toNat = p + 2 + j := by omega
        have g1 : decide ((p : Int) + 2 + (j : Int) < (s.size : Int)) = true := decide_eq_true (by omega)
        have g2 : decide ((p : Int) + 2 + (j : Int) - ((p : Int) + 2) < 7) = true := decide_eq_true (by omega)
        have kV := fun (W : World) => value_any W c.toNat 10 (by omega) (by decide)
        unfold digV at kV
        cases hd : digE c.toNat 10 with
        | some d =>
          rw [hd] at kV
          have hdl := digE_lt hd
          have hbd := pow_bd6 HI.out.2.1 (by omega)
          have hI2 := scanI_next (by decide) HI.out hjm hdr hd
          have hbd2 := pow_bd7 hI2.2.1 (by omega)
          have HI2 := Lib.hid hI2
          clear hI2 hd hdr hc hE kE HI
          go_wp2_with fail
          refine (kV _).mono ?_
          rintro e w2 ⟨rfl, rfl⟩
          go_wp2
          go_roundw
          case rel => exact ⟨n * 10 + d, j + 1, by go_num, by go_num, by omega, by omega, hbd2, HI2, trivial⟩
          case measure => simp [intOf]; omega
        | none =>
          rw [hd] at kV
          obtain ⟨ok, sem, kS, hV, hRR⟩ := hE (scanI_other HI.out hdr hd) hi
          rw [hV] at kE
          clear hd hdr hc hE hV HI
          have HRR := Lib.hid hRR
          clear hRR
          cases ok
          all_goals cases sem
          all_goals go_wp2_with fail
          all_goals refine (kV _).mono ?_
          all_goals rintro e w2 ⟨rfl, rfl⟩
          all_goals go_wp2_with fail
          all_goals refine (kE _).mono ?_
          all_goals rintro e w2 ⟨rfl, hb2⟩
          all_goals go_wp2_with (refine (kS _).mono ?_; rintro e w3 ⟨rfl, rfl⟩)
          all_goals go_ret3
          all_goals exact ⟨by rw [HRR.out]; rfl, hb2⟩
      · obtain rfl : j = 7 := by omega
        have g1 : decide ((p : Int) + 2 + ((7 : Nat) : Int) < (s.size : Int)) = true := decide_eq_true (by omega)
        have g2 : decide ((p : Int) + 2 + ((7 : Nat) : Int) - ((p : Int) + 2) < 7) = false := decide_eq_false (by omega)
        obtain ⟨ok, sem, kS, hV, hRR⟩ := hE (scanI_full HI.out rfl) hi
        rw [hV] at kE
        clear hE hV HI hjm
        have HRR := Lib.hid hRR
        clear hRR
        cases ok
        all_goals cases sem
        all_goals go_wp2_with fail
        all_goals refine (kE _).mono ?_
        all_goals rintro e w2 ⟨rfl, hb2⟩
        all_goals go_wp2_with (refine (kS _).mono ?_; rintro e w3 ⟨rfl, rfl⟩)
        all_goals go_ret3
        all_goals exact ⟨by rw [HRR.out]; rfl, hb2⟩
    · have g1 : decide ((p : Int) + 2 + (j : Int) < (s.size : Int)) = false := decide_eq_false (by omega)
      obtain ⟨ok, sem, kS, hV, hRR⟩ := hE (scanI_over HI.out (by rw [List.drop_drop]; exact List.drop_eq_nil_of_le (by omega))) hi
      rw [hV] at kE
      clear hE hV HI
      have HRR := Lib.hid hRR
      clear hRR
      cases ok
      all_goals cases sem
      all_goals go_wp2_with fail
      all_goals refine (kE _).mono ?_
      all_goals rintro e w2 ⟨rfl, hb2⟩
      all_goals go_wp2_with (refine (kS _).mono ?_; rintro e w3 ⟨rfl, rfl⟩)
      all_goals go_ret3
      all_goals exact ⟨by rw [HRR.out]; rfl, hb2⟩

set_option maxRecDepth 100000 in
set_option maxHeartbeats 4000000 in
theorem numbered_any (w : World) (s : ByteArray) (p : Nat) (hs : s.size ≤ 100000) (hp : p + 2 ≤ s.size) :
    Calls Try.prog 18 #[.string s, .int .i64 (p : Int)] w fun e w' => e = .returned (oneV (if List.isPrefixOf [120] (s.data.toList.drop (p + 2)) = true then refE 3 (numE 16 7 0 0 (s.data.toList.drop (p + 3))) else refE 2 (numE 10 8 0 0 (s.data.toList.drop (p + 2))))) ∧ Below w.heap.size w w' := by
  by_cases hx : List.isPrefixOf [120] (s.data.toList.drop (p + 2)) = true
  · rw [if_pos hx]
    exact numbered_hex w s p hs hp hx
  · rw [if_neg hx]
    exact numbered_dec w s p hs hp (by rw [Bool.not_eq_true] at hx; exact hx)
end Go.Proofs.Ytdahfgjmihffbaa
