/-
  nuncio/nuncioref07's One, at a backslash.
-/
import Derived.Test.YtahkfoaogcbecaaRefQuotedOneB
namespace Go.Proofs.Ytahkfoaogcbecaa
set_option linter.unusedVariables false
set_option linter.unusedSimpArgs false
open Go.RowKit

theorem oneJV_pair (a b : Nat) (h1 : 55296 ≤ a) (h3 : 56320 ≤ b) : oneJV (some (65536 + 1024 * (a - 55296) + (b - 56320), 12)) = .tuple #[.int .i64 (65536 + 1024 * ((a : Int) - 55296) + (b : Int) - 56320), .int .i64 12, .bool true] := by
  have e : ((65536 + 1024 * (a - 55296) + (b - 56320) : Nat) : Int) = 65536 + 1024 * ((a : Int) - 55296) + (b : Int) - 56320 := by omega
  show Value.tuple #[.int .i64 ((65536 + 1024 * (a - 55296) + (b - 56320) : Nat) : Int), .int .i64 ((12 : Nat) : Int), .bool true] = _
  rw [e]
  rfl
/-- No letter of a short escape stands first, of the first i. -/
def NoLetter (r : List UInt8) (i : Nat) : Prop := (1 ≤ i → List.isPrefixOf [34] r = false) ∧ (2 ≤ i → List.isPrefixOf [92] r = false) ∧ (3 ≤ i → List.isPrefixOf [98] r = false) ∧ (4 ≤ i → List.isPrefixOf [102] r = false) ∧ (5 ≤ i → List.isPrefixOf [110] r = false) ∧ (6 ≤ i → List.isPrefixOf [114] r = false) ∧ (7 ≤ i → List.isPrefixOf [116] r = false)
theorem first_is {x : UInt8} {r : List UInt8} (h : List.isPrefixOf [x] r = true) : ∃ t, r = x :: t := by
  cases r with
  | nil => cases h
  | cons y t =>
    have : x = y := by simpa [List.isPrefixOf] using h
    exact ⟨t, by rw [this]⟩
theorem first_not {x y : UInt8} {t : List UInt8} (h : List.isPrefixOf [x] (y :: t) = false) : y.toNat ≠ x.toNat := by
  intro e
  have : x = y := (UInt8.toNat_inj.1 e).symm
  subst this
  simp [List.isPrefixOf] at h
theorem one_letter {c : UInt8} {r : List UInt8} (hc : c.toNat = 92) {x : UInt8} {v : Nat} (h : List.isPrefixOf [x] r = true) (hx : shortD x.toNat = some v) : oneJ (c :: r) = some (v, 2) := by
  obtain ⟨t, rfl⟩ := first_is h
  rw [oneJ_esc x t hc, hx]
theorem one_wide {c : UInt8} {r : List UInt8} (hc : c.toNat = 92) (h : NoLetter r 7) (h47 : List.isPrefixOf [47] r = false) : oneJ (c :: r) = wideJ (c :: r) := by
  cases r with
  | nil => exact oneJ_end hc
  | cons y t =>
    rw [oneJ_esc y t hc]
    obtain ⟨h1, h2, h3, h4, h5, h6, h7⟩ := h
    have a1 : y.toNat ≠ 34 := first_not (h1 (by omega))
    have a2 : y.toNat ≠ 92 := first_not (h2 (by omega))
    have a3 : y.toNat ≠ 98 := first_not (h3 (by omega))
    have a4 : y.toNat ≠ 102 := first_not (h4 (by omega))
    have a5 : y.toNat ≠ 110 := first_not (h5 (by omega))
    have a6 : y.toNat ≠ 114 := first_not (h6 (by omega))
    have a7 : y.toNat ≠ 116 := first_not (h7 (by omega))
    have a8 : y.toNat ≠ 47 := first_not h47
    have : shortD y.toNat = none := by
      unfold shortD
      rw [if_neg a1, if_neg a2, if_neg a3, if_neg a4, if_neg a5, if_neg a6, if_neg a7, if_neg a8]
    rw [this]

set_option maxRecDepth 100000 in
set_option maxHeartbeats 4000000 in
theorem refOneJ_esc (w : World) (s : ByteArray) (k : Nat) (hs : s.size ≤ 100000) (hlt : k < s.size) (h92 : s[k].toNat = 92) :
    Calls Try.prog 15 #[.string s, .int .i64 (k : Int)] w fun e w' => e = .returned (oneJV (oneJ (s.data.toList.drop k))) ∧ Below w.heap.size w w' := by
  obtain ⟨c, hc⟩ : ∃ c, c = s[k] := ⟨_, rfl⟩
  have hc92 : c.toNat = 92 := by rw [hc]; exact h92
  have hdr : s.data.toList.drop k = c :: s.data.toList.drop (k + 1) := by
    rw [List.drop_eq_getElem_cons (by exact hlt), hc]
    rfl
  obtain ⟨R, hR⟩ : ∃ R, R = oneJ (s.data.toList.drop k) := ⟨_, rfl⟩
  rw [← hR]
  rw [hdr] at hR
  have HR := Lib.hid hR
  have Hdr := Lib.hid hdr
  have kB := fun (W : World) (p : ByteArray) (hp : p.size ≤ 100) => refBegins_any s p ((k + 1 : Nat) : Int) W (by omega) (by omega)
  simp only [begins_pre s _ (k + 1) hlt] at kB
  obtain ⟨r, hr⟩ : ∃ r, r = s.data.toList.drop (k + 1) := ⟨_, rfl⟩
  rw [← hr] at kB HR Hdr
  have kU := fun (W : World) => refUnit_any W s k hs (by omega)
  have kV := fun (W : World) => refUnit_any W s (k + 6) hs (by omega)
  have kS := fun (W : World) => refShort_any W
  have hk0 : decide ((k : Int) < 0) = false := decide_eq_false (by omega)
  clear hc hdr hR hr
  go_enter Try.func15, Try.ntmps15
  go_wp2_with fail
  refine (kS _).mono ?_
  rintro e w2 ⟨rfl, rfl⟩
  have c0 : (w.alloc (.cells shortRow 3)).cell? ⟨w.heap.size, 0, none⟩ = some (.int .i64 34) := by rw [World.cell?_alloc_at _ _ _ _ rfl]; rfl
  have c1 : (w.alloc (.cells shortRow 3)).cell? ⟨w.heap.size, 1, none⟩ = some (.int .i64 92) := by rw [World.cell?_alloc_at _ _ _ _ rfl]; rfl
  have c2 : (w.alloc (.cells shortRow 3)).cell? ⟨w.heap.size, 2, none⟩ = some (.int .i64 8) := by rw [World.cell?_alloc_at _ _ _ _ rfl]; rfl
  have c3 : (w.alloc (.cells shortRow 3)).cell? ⟨w.heap.size, 3, none⟩ = some (.int .i64 12) := by rw [World.cell?_alloc_at _ _ _ _ rfl]; rfl
  have c4 : (w.alloc (.cells shortRow 3)).cell? ⟨w.heap.size, 4, none⟩ = some (.int .i64 10) := by rw [World.cell?_alloc_at _ _ _ _ rfl]; rfl
  have c5 : (w.alloc (.cells shortRow 3)).cell? ⟨w.heap.size, 5, none⟩ = some (.int .i64 13) := by rw [World.cell?_alloc_at _ _ _ _ rfl]; rfl
  have c6 : (w.alloc (.cells shortRow 3)).cell? ⟨w.heap.size, 6, none⟩ = some (.int .i64 9) := by rw [World.cell?_alloc_at _ _ _ _ rfl]; rfl
  have hb2 : Below w.heap.size w (w.alloc (.cells shortRow 3)) := (Below.refl _ _).alloc (Nat.le_refl _) _
  generalize w.alloc (.cells shortRow 3) = W2 at c0 c1 c2 c3 c4 c5 c6 hb2 ⊢
  clear kS
  go_wp2_with fail
  go_loopw [11] (fun iv wr => ∃ i : Nat, iv = .int .i64 (i : Int) ∧ i ≤ 7 ∧ Hid (NoLetter r i) ∧ wr = W2) (fun iv wr => 7 - (intOf iv).toNat)
  case atStart => exact ⟨0, rfl, by omega, Lib.hid ⟨by omega, by omega, by omega, by omega, by omega, by omega, by omega⟩, rfl⟩
  case round =>
    obtain ⟨i, rfl, hi, HP, hwr⟩ := hrel
    subst hwr
    rcases (show i = 0 ∨ i = 1 ∨ i = 2 ∨ i = 3 ∨ i = 4 ∨ i = 5 ∨ i = 6 ∨ i = 7 by omega) with rfl | rfl | rfl | rfl | rfl | rfl | rfl | rfl
    · have kB0 := fun W => kB W ⟨#[34]⟩ (by decide)
      by_cases hp : List.isPrefixOf [34] r = true
      · simp only [show List.isPrefixOf (⟨#[34]⟩ : ByteArray).data.toList r = true from hp] at kB0
        have hR2 : R = some (34, 2) := by rw [HR.out]; exact one_letter hc92 hp rfl
        subst hR2
        clear HR HP kB kU kV
        go_wp2_with fail
        rw [show (⟨#[34, 92, 98, 102, 110, 114, 116]⟩ : ByteArray).extract 0 1 = ⟨#[34]⟩ from by decide]
        refine (kB0 _).mono ?_
        rintro e w3 ⟨rfl, rfl⟩
        go_wp2_with fail
        go_ret3
        exact ⟨rfl, hb2⟩
      · have hp' : List.isPrefixOf [34] r = false := eq_false_of_ne_true hp
        simp only [show List.isPrefixOf (⟨#[34]⟩ : ByteArray).data.toList r = false from hp'] at kB0
        obtain ⟨p1, p2, p3, p4, p5, p6, p7⟩ := HP.out
        have HP2 : Hid (NoLetter r (0 + 1)) := Lib.hid ⟨fun _ => hp', fun h => absurd h (by omega), fun h => absurd h (by omega), fun h => absurd h (by omega), fun h => absurd h (by omega), fun h => absurd h (by omega), fun h => absurd h (by omega)⟩
        clear hp hp' p1 p2 p3 p4 p5 p6 p7 HP kB kU kV
        go_wp2_with fail
        rw [show (⟨#[34, 92, 98, 102, 110, 114, 116]⟩ : ByteArray).extract 0 1 = ⟨#[34]⟩ from by decide]
        refine (kB0 _).mono ?_
        rintro e w3 ⟨rfl, rfl⟩
        go_wp2_with fail
        go_roundw
        case rel => exact ⟨0 + 1, by go_num, by omega, HP2, trivial⟩
        case measure => simp [intOf]
    · have kB0 := fun W => kB W ⟨#[92]⟩ (by decide)
      by_cases hp : List.isPrefixOf [92] r = true
      · simp only [show List.isPrefixOf (⟨#[92]⟩ : ByteArray).data.toList r = true from hp] at kB0
        have hR2 : R = some (92, 2) := by rw [HR.out]; exact one_letter hc92 hp rfl
        subst hR2
        clear HR HP kB kU kV
        go_wp2_with fail
        rw [show (⟨#[34, 92, 98, 102, 110, 114, 116]⟩ : ByteArray).extract 1 2 = ⟨#[92]⟩ from by decide]
        refine (kB0 _).mono ?_
        rintro e w3 ⟨rfl, rfl⟩
        go_wp2_with fail
        go_ret3
        exact ⟨rfl, hb2⟩
      · have hp' : List.isPrefixOf [92] r = false := eq_false_of_ne_true hp
        simp only [show List.isPrefixOf (⟨#[92]⟩ : ByteArray).data.toList r = false from hp'] at kB0
        obtain ⟨p1, p2, p3, p4, p5, p6, p7⟩ := HP.out
        have HP2 : Hid (NoLetter r (1 + 1)) := Lib.hid ⟨fun _ => p1 (by omega), fun _ => hp', fun h => absurd h (by omega), fun h => absurd h (by omega), fun h => absurd h (by omega), fun h => absurd h (by omega), fun h => absurd h (by omega)⟩
        clear hp hp' p1 p2 p3 p4 p5 p6 p7 HP kB kU kV
        go_wp2_with fail
        rw [show (⟨#[34, 92, 98, 102, 110, 114, 116]⟩ : ByteArray).extract 1 2 = ⟨#[92]⟩ from by decide]
        refine (kB0 _).mono ?_
        rintro e w3 ⟨rfl, rfl⟩
        go_wp2_with fail
        go_roundw
        case rel => exact ⟨1 + 1, by go_num, by omega, HP2, trivial⟩
        case measure => simp [intOf]
    · have kB0 := fun W => kB W ⟨#[98]⟩ (by decide)
      by_cases hp : List.isPrefixOf [98] r = true
      · simp only [show List.isPrefixOf (⟨#[98]⟩ : ByteArray).data.toList r = true from hp] at kB0
        have hR2 : R = some (8, 2) := by rw [HR.out]; exact one_letter hc92 hp rfl
        subst hR2
        clear HR HP kB kU kV
        go_wp2_with fail
        rw [show (⟨#[34, 92, 98, 102, 110, 114, 116]⟩ : ByteArray).extract 2 3 = ⟨#[98]⟩ from by decide]
        refine (kB0 _).mono ?_
        rintro e w3 ⟨rfl, rfl⟩
        go_wp2_with fail
        go_ret3
        exact ⟨rfl, hb2⟩
      · have hp' : List.isPrefixOf [98] r = false := eq_false_of_ne_true hp
        simp only [show List.isPrefixOf (⟨#[98]⟩ : ByteArray).data.toList r = false from hp'] at kB0
        obtain ⟨p1, p2, p3, p4, p5, p6, p7⟩ := HP.out
        have HP2 : Hid (NoLetter r (2 + 1)) := Lib.hid ⟨fun _ => p1 (by omega), fun _ => p2 (by omega), fun _ => hp', fun h => absurd h (by omega), fun h => absurd h (by omega), fun h => absurd h (by omega), fun h => absurd h (by omega)⟩
        clear hp hp' p1 p2 p3 p4 p5 p6 p7 HP kB kU kV
        go_wp2_with fail
        rw [show (⟨#[34, 92, 98, 102, 110, 114, 116]⟩ : ByteArray).extract 2 3 = ⟨#[98]⟩ from by decide]
        refine (kB0 _).mono ?_
        rintro e w3 ⟨rfl, rfl⟩
        go_wp2_with fail
        go_roundw
        case rel => exact ⟨2 + 1, by go_num, by omega, HP2, trivial⟩
        case measure => simp [intOf]
    · have kB0 := fun W => kB W ⟨#[102]⟩ (by decide)
      by_cases hp : List.isPrefixOf [102] r = true
      · simp only [show List.isPrefixOf (⟨#[102]⟩ : ByteArray).data.toList r = true from hp] at kB0
        have hR2 : R = some (12, 2) := by rw [HR.out]; exact one_letter hc92 hp rfl
        subst hR2
        clear HR HP kB kU kV
        go_wp2_with fail
        rw [show (⟨#[34, 92, 98, 102, 110, 114, 116]⟩ : ByteArray).extract 3 4 = ⟨#[102]⟩ from by decide]
        refine (kB0 _).mono ?_
        rintro e w3 ⟨rfl, rfl⟩
        go_wp2_with fail
        go_ret3
        exact ⟨rfl, hb2⟩
      · have hp' : List.isPrefixOf [102] r = false := eq_false_of_ne_true hp
        simp only [show List.isPrefixOf (⟨#[102]⟩ : ByteArray).data.toList r = false from hp'] at kB0
        obtain ⟨p1, p2, p3, p4, p5, p6, p7⟩ := HP.out
        have HP2 : Hid (NoLetter r (3 + 1)) := Lib.hid ⟨fun _ => p1 (by omega), fun _ => p2 (by omega), fun _ => p3 (by omega), fun _ => hp', fun h => absurd h (by omega), fun h => absurd h (by omega), fun h => absurd h (by omega)⟩
        clear hp hp' p1 p2 p3 p4 p5 p6 p7 HP kB kU kV
        go_wp2_with fail
        rw [show (⟨#[34, 92, 98, 102, 110, 114, 116]⟩ : ByteArray).extract 3 4 = ⟨#[102]⟩ from by decide]
        refine (kB0 _).mono ?_
        rintro e w3 ⟨rfl, rfl⟩
        go_wp2_with fail
        go_roundw
        case rel => exact ⟨3 + 1, by go_num, by omega, HP2, trivial⟩
        case measure => simp [intOf]
    · have kB0 := fun W => kB W ⟨#[110]⟩ (by decide)
      by_cases hp : List.isPrefixOf [110] r = true
      · simp only [show List.isPrefixOf (⟨#[110]⟩ : ByteArray).data.toList r = true from hp] at kB0
        have hR2 : R = some (10, 2) := by rw [HR.out]; exact one_letter hc92 hp rfl
        subst hR2
        clear HR HP kB kU kV
        go_wp2_with fail
        rw [show (⟨#[34, 92, 98, 102, 110, 114, 116]⟩ : ByteArray).extract 4 5 = ⟨#[110]⟩ from by decide]
        refine (kB0 _).mono ?_
        rintro e w3 ⟨rfl, rfl⟩
        go_wp2_with fail
        go_ret3
        exact ⟨rfl, hb2⟩
      · have hp' : List.isPrefixOf [110] r = false := eq_false_of_ne_true hp
        simp only [show List.isPrefixOf (⟨#[110]⟩ : ByteArray).data.toList r = false from hp'] at kB0
        obtain ⟨p1, p2, p3, p4, p5, p6, p7⟩ := HP.out
        have HP2 : Hid (NoLetter r (4 + 1)) := Lib.hid ⟨fun _ => p1 (by omega), fun _ => p2 (by omega), fun _ => p3 (by omega), fun _ => p4 (by omega), fun _ => hp', fun h => absurd h (by omega), fun h => absurd h (by omega)⟩
        clear hp hp' p1 p2 p3 p4 p5 p6 p7 HP kB kU kV
        go_wp2_with fail
        rw [show (⟨#[34, 92, 98, 102, 110, 114, 116]⟩ : ByteArray).extract 4 5 = ⟨#[110]⟩ from by decide]
        refine (kB0 _).mono ?_
        rintro e w3 ⟨rfl, rfl⟩
        go_wp2_with fail
        go_roundw
        case rel => exact ⟨4 + 1, by go_num, by omega, HP2, trivial⟩
        case measure => simp [intOf]
    · have kB0 := fun W => kB W ⟨#[114]⟩ (by decide)
      by_cases hp : List.isPrefixOf [114] r = true
      · simp only [show List.isPrefixOf (⟨#[114]⟩ : ByteArray).data.toList r = true from hp] at kB0
        have hR2 : R = some (13, 2) := by rw [HR.out]; exact one_letter hc92 hp rfl
        subst hR2
        clear HR HP kB kU kV
        go_wp2_with fail
        rw [show (⟨#[34, 92, 98, 102, 110, 114, 116]⟩ : ByteArray).extract 5 6 = ⟨#[114]⟩ from by decide]
        refine (kB0 _).mono ?_
        rintro e w3 ⟨rfl, rfl⟩
        go_wp2_with fail
        go_ret3
        exact ⟨rfl, hb2⟩
      · have hp' : List.isPrefixOf [114] r = false := eq_false_of_ne_true hp
        simp only [show List.isPrefixOf (⟨#[114]⟩ : ByteArray).data.toList r = false from hp'] at kB0
        obtain ⟨p1, p2, p3, p4, p5, p6, p7⟩ := HP.out
        have HP2 : Hid (NoLetter r (5 + 1)) := Lib.hid ⟨fun _ => p1 (by omega), fun _ => p2 (by omega), fun _ => p3 (by omega), fun _ => p4 (by omega), fun _ => p5 (by omega), fun _ => hp', fun h => absurd h (by omega)⟩
        clear hp hp' p1 p2 p3 p4 p5 p6 p7 HP kB kU kV
        go_wp2_with fail
        rw [show (⟨#[34, 92, 98, 102, 110, 114, 116]⟩ : ByteArray).extract 5 6 = ⟨#[114]⟩ from by decide]
        refine (kB0 _).mono ?_
        rintro e w3 ⟨rfl, rfl⟩
        go_wp2_with fail
        go_roundw
        case rel => exact ⟨5 + 1, by go_num, by omega, HP2, trivial⟩
        case measure => simp [intOf]
    · have kB0 := fun W => kB W ⟨#[116]⟩ (by decide)
      by_cases hp : List.isPrefixOf [116] r = true
      · simp only [show List.isPrefixOf (⟨#[116]⟩ : ByteArray).data.toList r = true from hp] at kB0
        have hR2 : R = some (9, 2) := by rw [HR.out]; exact one_letter hc92 hp rfl
        subst hR2
        clear HR HP kB kU kV
        go_wp2_with fail
        rw [show (⟨#[34, 92, 98, 102, 110, 114, 116]⟩ : ByteArray).extract 6 7 = ⟨#[116]⟩ from by decide]
        refine (kB0 _).mono ?_
        rintro e w3 ⟨rfl, rfl⟩
        go_wp2_with fail
        go_ret3
        exact ⟨rfl, hb2⟩
      · have hp' : List.isPrefixOf [116] r = false := eq_false_of_ne_true hp
        simp only [show List.isPrefixOf (⟨#[116]⟩ : ByteArray).data.toList r = false from hp'] at kB0
        obtain ⟨p1, p2, p3, p4, p5, p6, p7⟩ := HP.out
        have HP2 : Hid (NoLetter r (6 + 1)) := Lib.hid ⟨fun _ => p1 (by omega), fun _ => p2 (by omega), fun _ => p3 (by omega), fun _ => p4 (by omega), fun _ => p5 (by omega), fun _ => p6 (by omega), fun _ => hp'⟩
        clear hp hp' p1 p2 p3 p4 p5 p6 p7 HP kB kU kV
        go_wp2_with fail
        rw [show (⟨#[34, 92, 98, 102, 110, 114, 116]⟩ : ByteArray).extract 6 7 = ⟨#[116]⟩ from by decide]
        refine (kB0 _).mono ?_
        rintro e w3 ⟨rfl, rfl⟩
        go_wp2_with fail
        go_roundw
        case rel => exact ⟨6 + 1, by go_num, by omega, HP2, trivial⟩
        case measure => simp [intOf]
    · have kB0 := fun W => kB W ⟨#[47]⟩ (by decide)
      by_cases hp : List.isPrefixOf [47] r = true
      · simp only [show List.isPrefixOf (⟨#[47]⟩ : ByteArray).data.toList r = true from hp] at kB0
        have hR2 : R = some (47, 2) := by rw [HR.out]; exact one_letter hc92 hp rfl
        subst hR2
        clear HR HP kB kU kV
        go_wp2_with fail
        refine (kB0 _).mono ?_
        rintro e w3 ⟨rfl, rfl⟩
        go_wp2_with fail
        go_ret3
        exact ⟨rfl, hb2⟩
      · have hp' : List.isPrefixOf [47] r = false := eq_false_of_ne_true hp
        simp only [show List.isPrefixOf (⟨#[47]⟩ : ByteArray).data.toList r = false from hp'] at kB0
        have hR2 : R = wideJ (s.data.toList.drop k) := by rw [HR.out, Hdr.out]; exact one_wide hc92 HP.out hp'
        unfold wideJ at hR2
        rw [List.drop_drop] at hR2
        clear HR HP kB hp hp' Hdr
        cases hu : unitJ (s.data.toList.drop k) with
        | none =>
          rw [hu] at kU hR2
          have hR3 : R = none := hR2
          subst hR3
          simp only [numJ] at kU
          clear hR2 hu kV
          go_wp2_with fail
          refine (kB0 _).mono ?_
          rintro e w3 ⟨rfl, rfl⟩
          go_wp2_with fail
          refine (kU _).mono ?_
          rintro e w4 ⟨rfl, n0, rfl⟩
          go_wp2_with fail
          go_ret3
          exact ⟨rfl, hb2.trans (below_drewJ _ _ _)⟩
        | some a =>
          have ha := unitJ_lt hu
          rw [hu] at kU hR2
          simp only at hR2
          simp only [numJ] at kU
          have kR := fun (W : World) => refRune_any (a : Int) W (by omega) (by omega)
          have hrb : runeB (a : Int) = decide (isRune a) := by
            unfold runeB isRune
            congr 1
            exact propext ⟨fun h => by omega, fun h => by omega⟩
          rw [hrb] at kR
          clear hu hrb
          by_cases h1 : 55296 ≤ a
          · have d1 : decide ((a : Int) ≥ 55296) = true := decide_eq_true (by omega)
            by_cases h2 : a ≤ 56319
            · have d2 : decide ((a : Int) ≤ 56319) = true := decide_eq_true (by omega)
              rw [if_pos ⟨h1, h2⟩] at hR2
              have hnr : decide (isRune a) = false := decide_eq_false (by unfold isRune; omega)
              rw [hnr] at kR
              clear hnr
              cases hv : unitJ (s.data.toList.drop (k + 6)) with
              | none =>
                rw [hv] at kV hR2
                have hR3 : R = none := hR2
                subst hR3
                simp only [numJ] at kV
                clear hR2 hv
                go_wp2_with fail
                refine (kB0 _).mono ?_
                rintro e w3 ⟨rfl, rfl⟩
                go_wp2_with fail
                refine (kU _).mono ?_
                rintro e w4 ⟨rfl, n0, rfl⟩
                go_wp2_with fail
                refine (kV _).mono ?_
                rintro e w5 ⟨rfl, n1, rfl⟩
                go_wp2_with fail
                refine (kR _).mono ?_
                rintro e w6 ⟨rfl, rfl⟩
                go_wp2_with fail
                go_ret3
                exact ⟨rfl, hb2.trans (below_drewJ _ _ _)⟩
              | some b =>
                have hb := unitJ_lt hv
                rw [hv] at kV hR2
                simp only at hR2
                simp only [numJ] at kV
                clear hv
                by_cases h3 : 56320 ≤ b
                · have d3 : decide ((b : Int) ≥ 56320) = true := decide_eq_true (by omega)
                  by_cases h4 : b ≤ 57343
                  · have d4 : decide ((b : Int) ≤ 57343) = true := decide_eq_true (by omega)
                    rw [if_pos ⟨h3, h4⟩] at hR2
                    subst hR2
                    clear kR
                    go_wp2_with fail
                    refine (kB0 _).mono ?_
                    rintro e w3 ⟨rfl, rfl⟩
                    go_wp2_with fail
                    refine (kU _).mono ?_
                    rintro e w4 ⟨rfl, n0, rfl⟩
                    go_wp2_with fail
                    refine (kV _).mono ?_
                    rintro e w5 ⟨rfl, n1, rfl⟩
                    go_wp2_with fail
                    go_ret3
                    exact ⟨by rw [oneJV_pair a b h1 h3]; rfl, hb2.trans (below_drewJ _ _ _)⟩
                  · have d4 : decide ((b : Int) ≤ 57343) = false := decide_eq_false (by omega)
                    rw [if_neg (by omega)] at hR2
                    subst hR2
                    go_wp2_with fail
                    refine (kB0 _).mono ?_
                    rintro e w3 ⟨rfl, rfl⟩
                    go_wp2_with fail
                    refine (kU _).mono ?_
                    rintro e w4 ⟨rfl, n0, rfl⟩
                    go_wp2_with fail
                    refine (kV _).mono ?_
                    rintro e w5 ⟨rfl, n1, rfl⟩
                    go_wp2_with fail
                    refine (kR _).mono ?_
                    rintro e w6 ⟨rfl, rfl⟩
                    go_wp2_with fail
                    go_ret3
                    exact ⟨rfl, hb2.trans (below_drewJ _ _ _)⟩
                · have d3 : decide ((b : Int) ≥ 56320) = false := decide_eq_false (by omega)
                  rw [if_neg (by omega)] at hR2
                  subst hR2
                  go_wp2_with fail
                  refine (kB0 _).mono ?_
                  rintro e w3 ⟨rfl, rfl⟩
                  go_wp2_with fail
                  refine (kU _).mono ?_
                  rintro e w4 ⟨rfl, n0, rfl⟩
                  go_wp2_with fail
                  refine (kV _).mono ?_
                  rintro e w5 ⟨rfl, n1, rfl⟩
                  go_wp2_with fail
                  refine (kR _).mono ?_
                  rintro e w6 ⟨rfl, rfl⟩
                  go_wp2_with fail
                  go_ret3
                  exact ⟨rfl, hb2.trans (below_drewJ _ _ _)⟩
            · have d2 : decide ((a : Int) ≤ 56319) = false := decide_eq_false (by omega)
              rw [if_neg (by omega)] at hR2
              by_cases hra : isRune a
              · rw [if_pos hra] at hR2
                rw [decide_eq_true hra] at kR
                subst hR2
                clear kV hra
                go_wp2_with fail
                refine (kB0 _).mono ?_
                rintro e w3 ⟨rfl, rfl⟩
                go_wp2_with fail
                refine (kU _).mono ?_
                rintro e w4 ⟨rfl, n0, rfl⟩
                go_wp2_with fail
                refine (kR _).mono ?_
                rintro e w5 ⟨rfl, rfl⟩
                go_wp2_with fail
                go_ret3
                exact ⟨rfl, hb2.trans (below_drewJ _ _ _)⟩
              · rw [if_neg hra] at hR2
                rw [decide_eq_false hra] at kR
                subst hR2
                clear kV hra
                go_wp2_with fail
                refine (kB0 _).mono ?_
                rintro e w3 ⟨rfl, rfl⟩
                go_wp2_with fail
                refine (kU _).mono ?_
                rintro e w4 ⟨rfl, n0, rfl⟩
                go_wp2_with fail
                refine (kR _).mono ?_
                rintro e w5 ⟨rfl, rfl⟩
                go_wp2_with fail
                go_ret3
                exact ⟨rfl, hb2.trans (below_drewJ _ _ _)⟩
          · have d1 : decide ((a : Int) ≥ 55296) = false := decide_eq_false (by omega)
            rw [if_neg (by omega), if_pos (.inl (by omega))] at hR2
            rw [decide_eq_true (show isRune a from .inl (by omega))] at kR
            subst hR2
            clear kV
            go_wp2_with fail
            refine (kB0 _).mono ?_
            rintro e w3 ⟨rfl, rfl⟩
            go_wp2_with fail
            refine (kU _).mono ?_
            rintro e w4 ⟨rfl, n0, rfl⟩
            go_wp2_with fail
            refine (kR _).mono ?_
            rintro e w5 ⟨rfl, rfl⟩
            go_wp2_with fail
            go_ret3
            exact ⟨rfl, hb2.trans (below_drewJ _ _ _)⟩

theorem refOneJ_any (w : World) (s : ByteArray) (a : Int) (hs : s.size ≤ 100000) :
    Calls Try.prog 15 #[.string s, .int .i64 a] w fun e w' => e = .returned (oneJV (oneJAt s a)) ∧ Below w.heap.size w w' := by
  unfold oneJAt
  by_cases h : 0 ≤ a ∧ a < (s.size : Int)
  · rw [if_pos h]
    obtain ⟨k, rfl⟩ := Int.eq_ofNat_of_zero_le h.1
    have hlt : k < s.size := by omega
    rw [Int.toNat_natCast]
    by_cases h92 : s[k].toNat = 92
    · exact refOneJ_esc w s k hs hlt h92
    · exact refOneJ_own w s k hs hlt h92
  · rw [if_neg h]
    exact (refOneJ_out w s a hs h).mono fun e w' ⟨h1, h2⟩ => ⟨h1, by rw [h2]; exact Below.refl _ _⟩
end Go.Proofs.Ytahkfoaogcbecaa
