/-
  nuncio/nuncioref06's One.
-/
import Derived.Test.YtdahfgjmihffbaaRefNumbered
import Derived.Deep.QuietTactic
import Derived.BigQuiet
import Derived.Laws.NewBlocks
import Derived.Deep.RegionHeld
namespace Go.Proofs.Ytdahfgjmihffbaa
set_option linter.unusedVariables false
set_option linter.unusedSimpArgs false
open Go.RowKit

theorem below_drewO (B : Nat) (w : World) (n : Nat) : Below B w (w.drewN n) := ⟨rfl, rfl, rfl, Nat.le_refl _, fun _ _ => rfl⟩
theorem numE_bd {b : Nat} (hb : b ≤ 16) : ∀ (k i n : Nat) (l : List UInt8), n + 1 ≤ 16 ^ i → (numE b k i n l).1 + 1 ≤ 16 ^ (i + k) := by
  intro k
  induction k with
  | zero => intro i n l h; exact Nat.pow_pos (by decide)
  | succ k ih =>
    intro i n l h
    cases l with
    | nil => exact Nat.pow_pos (by decide)
    | cons c r =>
      rw [numE]
      split
      · exact Nat.le_trans h (Nat.pow_le_pow_right (by decide) (by omega))
      · cases hx : digE c.toNat b with
        | none => exact Nat.pow_pos (by decide)
        | some d =>
          have := ih (i + 1) (n * b + d) r (pow_step h hb (digE_lt hx))
          rw [show i + 1 + k = i + (k + 1) from by omega] at this
          exact this
theorem runeB_is (n : Nat) : runeB (n : Int) = decide (isRune n) := by
  unfold runeB isRune
  congr 1
  exact propext ⟨fun h => by omega, fun h => by omega⟩
def oneV : Option (List UInt8 × Nat) → Value
  | some (b, n) => .tuple #[.string ⟨b.toArray⟩, .int .i64 (n : Int), .bool true]
  | none => .tuple #[.string ⟨#[]⟩, .int .i64 0, .bool false]

theorem oneV_some (b : List UInt8) (a n : Nat) : oneV (some (b, a + n)) = .tuple #[.string ⟨b.toArray⟩, .int .i64 ((a : Int) + (n : Int)), .bool true] := by
  show Value.tuple #[_, .int .i64 ((a + n : Nat) : Int), _] = _
  rw [show ((a + n : Nat) : Int) = (a : Int) + (n : Int) from by omega]
theorem size_alloc1 (w : World) (o : Obj) : (w.alloc o).heap.size = w.heap.size + 1 := Array.size_push ..
theorem cell_second (w : World) (o : Obj) (xs : Array Value) (t : TypeId) (j : Nat) {v : Value} (h : xs[j]? = some v) : ((w.alloc o).alloc (.cells xs t)).cell? ⟨w.heap.size + 1, j, none⟩ = some v := by
  rw [World.cell?_alloc_at _ _ _ _ (size_alloc1 w o).symm, h]
theorem cell_first (w : World) (xs : Array Value) (t : TypeId) (o : Obj) (j : Nat) {v : Value} (h : xs[j]? = some v) : ((w.alloc (.cells xs t)).alloc o).cell? ⟨w.heap.size, j, none⟩ = some v := by
  have e : (w.alloc (.cells xs t)).cell? ⟨w.heap.size, j, none⟩ = some v := by rw [World.cell?_alloc_at _ _ _ _ rfl, h]
  rw [World.cell?_alloc_some _ _ _ (by rw [e]; rfl), e]
set_option maxRecDepth 100000 in
set_option maxHeartbeats 4000000 in
theorem refOne_in (w : World) (s : ByteArray) (at_ : Nat) (hs : s.size ≤ 100000) (ha : at_ ≤ s.size) :
    Calls Try.prog 14 #[.string s, .int .i64 (at_ : Int)] w fun e w' => e = .returned (oneV (oneL (s.data.toList.drop at_))) ∧ Below w.heap.size w w' := by
  have kB := fun (W : World) (p : ByteArray) (hp : p.size ≤ 100) => refBegins_any s p (at_ : Int) W (by omega) (by omega)
  simp only [begins_pre s _ at_ ha] at kB
  obtain ⟨l, hl⟩ : ∃ l, l = s.data.toList.drop at_ := ⟨_, rfl⟩
  rw [← hl] at kB ⊢
  obtain ⟨R, hR⟩ : ∃ R, R = oneL l := ⟨_, rfl⟩
  rw [← hR]
  go_enter Try.func14, Try.ntmps14
  go_wp2
  generalize hW2 : World.alloc (World.alloc w _) _ = W2
  have hb2 : Below w.heap.size w W2 := by rw [← hW2]; exact ((Below.refl _ _).alloc (Nat.le_refl _) _).alloc ((Below.refl _ _).alloc (Nat.le_refl _) _).size _
  have n0 : W2.cell? ⟨w.heap.size, 0, none⟩ = some (.string ⟨#[38, 97, 109, 112, 59]⟩) := by rw [← hW2]; exact cell_first _ _ _ _ _ rfl
  have n1 : W2.cell? ⟨w.heap.size, 1, none⟩ = some (.string ⟨#[38, 108, 116, 59]⟩) := by rw [← hW2]; exact cell_first _ _ _ _ _ rfl
  have n2 : W2.cell? ⟨w.heap.size, 2, none⟩ = some (.string ⟨#[38, 103, 116, 59]⟩) := by rw [← hW2]; exact cell_first _ _ _ _ _ rfl
  have n3 : W2.cell? ⟨w.heap.size, 3, none⟩ = some (.string ⟨#[38, 113, 117, 111, 116, 59]⟩) := by rw [← hW2]; exact cell_first _ _ _ _ _ rfl
  have b0 : W2.cell? ⟨w.heap.size + 1, 0, none⟩ = some (.string ⟨#[38]⟩) := by rw [← hW2]; exact cell_second _ _ _ _ _ rfl
  have b1 : W2.cell? ⟨w.heap.size + 1, 1, none⟩ = some (.string ⟨#[60]⟩) := by rw [← hW2]; exact cell_second _ _ _ _ _ rfl
  have b2 : W2.cell? ⟨w.heap.size + 1, 2, none⟩ = some (.string ⟨#[62]⟩) := by rw [← hW2]; exact cell_second _ _ _ _ _ rfl
  have b3 : W2.cell? ⟨w.heap.size + 1, 3, none⟩ = some (.string ⟨#[34]⟩) := by rw [← hW2]; exact cell_second _ _ _ _ _ rfl
  clear hW2
  go_loopw [9] (fun iv wr => ∃ i : Nat, iv = .int .i64 (i : Int) ∧ i ≤ 4 ∧ Hid ((1 ≤ i → List.isPrefixOf [38, 97, 109, 112, 59] l = false) ∧ (2 ≤ i → List.isPrefixOf [38, 108, 116, 59] l = false) ∧ (3 ≤ i → List.isPrefixOf [38, 103, 116, 59] l = false) ∧ (4 ≤ i → List.isPrefixOf [38, 113, 117, 111, 116, 59] l = false)) ∧ wr = W2) (fun iv wr => 4 - (intOf iv).toNat)
  case atStart => exact ⟨0, rfl, by omega, Lib.hid ⟨by omega, by omega, by omega, by omega⟩, rfl⟩
  case round =>
    obtain ⟨i, rfl, hi, HP, hwr⟩ := hrel
    subst hwr
    rcases (show i = 0 ∨ i = 1 ∨ i = 2 ∨ i = 3 ∨ i = 4 by omega) with rfl | rfl | rfl | rfl | rfl
    · have kB0 := fun W => kB W ⟨#[38, 97, 109, 112, 59]⟩ (by decide)
      by_cases hp : List.isPrefixOf [38, 97, 109, 112, 59] l = true
      · simp only [show List.isPrefixOf (⟨#[38, 97, 109, 112, 59]⟩ : ByteArray).data.toList l = true from hp] at kB0
        have hR2 : R = some ([38], 5) := by rw [hR, oneL, if_pos hp]
        go_wp2_with fail
        refine (kB0 _).mono ?_
        rintro e w3 ⟨rfl, rfl⟩
        go_wp2_with fail
        go_quiet (fail)
        go_wp2
        go_ret3
        exact ⟨by rw [hR2]; rfl, hb2.trans (below_drewO _ _ _)⟩
      · have hpf : List.isPrefixOf [38, 97, 109, 112, 59] l = false := Bool.eq_false_iff.2 hp
        simp only [show List.isPrefixOf (⟨#[38, 97, 109, 112, 59]⟩ : ByteArray).data.toList l = false from hpf] at kB0
        go_wp2_with fail
        refine (kB0 _).mono ?_
        rintro e w3 ⟨rfl, rfl⟩
        go_wp2
        go_roundw
        case rel => exact ⟨1, by go_num, by omega, Lib.hid ⟨fun _ => hpf, fun h => absurd h (by omega), fun h => absurd h (by omega), fun h => absurd h (by omega)⟩, trivial⟩
        case measure => simp [intOf]
    · have kB0 := fun W => kB W ⟨#[38, 108, 116, 59]⟩ (by decide)
      by_cases hp : List.isPrefixOf [38, 108, 116, 59] l = true
      · simp only [show List.isPrefixOf (⟨#[38, 108, 116, 59]⟩ : ByteArray).data.toList l = true from hp] at kB0
        have hR2 : R = some ([60], 4) := by rw [hR, oneL, if_neg (show ¬ List.isPrefixOf [38, 97, 109, 112, 59] l = true from by rw [HP.out.1 (by omega)]; decide), if_pos hp]
        go_wp2_with fail
        refine (kB0 _).mono ?_
        rintro e w3 ⟨rfl, rfl⟩
        go_wp2_with fail
        go_quiet (fail)
        go_wp2
        go_ret3
        exact ⟨by rw [hR2]; rfl, hb2.trans (below_drewO _ _ _)⟩
      · have hpf : List.isPrefixOf [38, 108, 116, 59] l = false := Bool.eq_false_iff.2 hp
        simp only [show List.isPrefixOf (⟨#[38, 108, 116, 59]⟩ : ByteArray).data.toList l = false from hpf] at kB0
        go_wp2_with fail
        refine (kB0 _).mono ?_
        rintro e w3 ⟨rfl, rfl⟩
        go_wp2
        go_roundw
        case rel => exact ⟨2, by go_num, by omega, Lib.hid ⟨fun _ => HP.out.1 (by omega), fun _ => hpf, fun h => absurd h (by omega), fun h => absurd h (by omega)⟩, trivial⟩
        case measure => simp [intOf]
    · have kB0 := fun W => kB W ⟨#[38, 103, 116, 59]⟩ (by decide)
      by_cases hp : List.isPrefixOf [38, 103, 116, 59] l = true
      · simp only [show List.isPrefixOf (⟨#[38, 103, 116, 59]⟩ : ByteArray).data.toList l = true from hp] at kB0
        have hR2 : R = some ([62], 4) := by rw [hR, oneL, if_neg (show ¬ List.isPrefixOf [38, 97, 109, 112, 59] l = true from by rw [HP.out.1 (by omega)]; decide), if_neg (show ¬ List.isPrefixOf [38, 108, 116, 59] l = true from by rw [HP.out.2.1 (by omega)]; decide), if_pos hp]
        go_wp2_with fail
        refine (kB0 _).mono ?_
        rintro e w3 ⟨rfl, rfl⟩
        go_wp2_with fail
        go_quiet (fail)
        go_wp2
        go_ret3
        exact ⟨by rw [hR2]; rfl, hb2.trans (below_drewO _ _ _)⟩
      · have hpf : List.isPrefixOf [38, 103, 116, 59] l = false := Bool.eq_false_iff.2 hp
        simp only [show List.isPrefixOf (⟨#[38, 103, 116, 59]⟩ : ByteArray).data.toList l = false from hpf] at kB0
        go_wp2_with fail
        refine (kB0 _).mono ?_
        rintro e w3 ⟨rfl, rfl⟩
        go_wp2
        go_roundw
        case rel => exact ⟨3, by go_num, by omega, Lib.hid ⟨fun _ => HP.out.1 (by omega), fun _ => HP.out.2.1 (by omega), fun _ => hpf, fun h => absurd h (by omega)⟩, trivial⟩
        case measure => simp [intOf]
    · have kB0 := fun W => kB W ⟨#[38, 113, 117, 111, 116, 59]⟩ (by decide)
      by_cases hp : List.isPrefixOf [38, 113, 117, 111, 116, 59] l = true
      · simp only [show List.isPrefixOf (⟨#[38, 113, 117, 111, 116, 59]⟩ : ByteArray).data.toList l = true from hp] at kB0
        have hR2 : R = some ([34], 6) := by rw [hR, oneL, if_neg (show ¬ List.isPrefixOf [38, 97, 109, 112, 59] l = true from by rw [HP.out.1 (by omega)]; decide), if_neg (show ¬ List.isPrefixOf [38, 108, 116, 59] l = true from by rw [HP.out.2.1 (by omega)]; decide), if_neg (show ¬ List.isPrefixOf [38, 103, 116, 59] l = true from by rw [HP.out.2.2.1 (by omega)]; decide), if_pos hp]
        go_wp2_with fail
        refine (kB0 _).mono ?_
        rintro e w3 ⟨rfl, rfl⟩
        go_wp2_with fail
        go_quiet (fail)
        go_wp2
        go_ret3
        exact ⟨by rw [hR2]; rfl, hb2.trans (below_drewO _ _ _)⟩
      · have hpf : List.isPrefixOf [38, 113, 117, 111, 116, 59] l = false := Bool.eq_false_iff.2 hp
        simp only [show List.isPrefixOf (⟨#[38, 113, 117, 111, 116, 59]⟩ : ByteArray).data.toList l = false from hpf] at kB0
        go_wp2_with fail
        refine (kB0 _).mono ?_
        rintro e w3 ⟨rfl, rfl⟩
        go_wp2
        go_roundw
        case rel => exact ⟨4, by go_num, by omega, Lib.hid ⟨fun _ => HP.out.1 (by omega), fun _ => HP.out.2.1 (by omega), fun _ => HP.out.2.2.1 (by omega), fun _ => hpf⟩, trivial⟩
        case measure => simp [intOf]
    · have hR2 : R = if List.isPrefixOf [38, 35, 120] l then refE 3 (numE 16 7 0 0 (l.drop 3)) else if List.isPrefixOf [38, 35] l then refE 2 (numE 10 8 0 0 (l.drop 2)) else none := by
        rw [hR, oneL, if_neg (by rw [HP.out.1 (by omega)]; decide), if_neg (by rw [HP.out.2.1 (by omega)]; decide), if_neg (by rw [HP.out.2.2.1 (by omega)]; decide), if_neg (by rw [HP.out.2.2.2 (by omega)]; decide)]
      have kB1 := fun W => kB W ⟨#[38, 35, 120]⟩ (by decide)
      have kB2 := fun W => kB W ⟨#[38, 35]⟩ (by decide)
      clear hR HP kB n0 n1 n2 n3 b0 b1 b2 b3
      by_cases hx : List.isPrefixOf [38, 35, 120] l = true
      · have hR3 : R = refE 3 (numE 16 7 0 0 (l.drop 3)) := by rw [hR2, if_pos hx]
        simp only [show List.isPrefixOf (⟨#[38, 35, 120]⟩ : ByteArray).data.toList l = true from hx] at kB1
        clear hR2 kB2
        have hlen := pre_len hx
        have hll : l.length = s.size - at_ := by rw [hl, List.length_drop]; rfl
        have hat : at_ + 3 ≤ s.size := by simp at hlen; omega
        obtain ⟨t, ht⟩ : ∃ t : ByteArray, t = s.extract (at_ + 3) s.size := ⟨_, rfl⟩
        have htl : t.data.toList = l.drop 3 := by
          rw [ht, hl, List.drop_drop, ByteArray.data_extract, Array.toList_extract, List.extract_eq_take_drop]
          exact List.take_of_length_le (by rw [List.length_drop]; exact Nat.le_refl _)
        have hts : t.size ≤ 100000 := by rw [ht]; simp; omega
        have kN := fun (W : World) => refNumbered_hex W t hts
        rw [htl] at kN
        have hbd := numE_bd (b := 16) (by decide) 7 0 0 (l.drop 3) (by decide)
        obtain ⟨p, hp⟩ : ∃ p, p = numE 16 7 0 0 (l.drop 3) := ⟨_, rfl⟩
        have hsz := numE_size 16 7 0 0 (l.drop 3)
        rw [← hp] at kN hR3 hbd hsz
        rw [List.length_drop] at hsz
        unfold numV at kN
        have hbd2 : p.1 ≤ 4294967296 := by
          have e : 16 ^ (0 + 7) ≤ 4294967296 := by decide
          omega
        have ht' : s.extract (at_ + 3) s.size = t := ht.symm
        have han : ((at_ : Int) + 3).toNat = at_ + 3 := by omega
        have han2 : (at_ : Int) + 3 ≤ (s.size : Int) := by omega
        clear hbd hp ht htl hlen hl
        go_wp2_with fail
        refine (kB1 _).mono ?_
        rintro e w3 ⟨rfl, rfl⟩
        go_wp2_with fail
        refine (kN _).mono ?_
        rintro e w4 ⟨rfl, rfl⟩
        by_cases hz : p.2 = 0
        · have hRn : R = none := by rw [hR3]; unfold refE; rw [if_pos (.inl hz)]
          have e0 : ((p.2 : Int) == 0) = true := by rw [beq_iff_eq]; omega
          clear hR3
          go_wp2
          go_ret3
          exact ⟨by rw [hRn]; rfl, hb2⟩
        · have e0 : ((p.2 : Int) == 0) = false := by rw [beq_eq_false_iff_ne]; omega
          by_cases hn : p.1 = 0
          · have hRn : R = none := by rw [hR3]; unfold refE; rw [if_pos (.inr (.inl hn))]
            have e1 : ((p.1 : Int) == 0) = true := by rw [beq_iff_eq]; omega
            clear hR3
            go_wp2
            go_ret3
            exact ⟨by rw [hRn]; rfl, hb2⟩
          · have e1 : ((p.1 : Int) == 0) = false := by rw [beq_eq_false_iff_ne]; omega
            have kQ := fun (W : World) => refRune_any (p.1 : Int) W (by omega) (by omega)
            rw [runeB_is] at kQ
            by_cases hq : isRune p.1
            · rw [decide_eq_true hq] at kQ
              have kY := fun (W : World) => refBytes_any (p.1 : Int) W (by omega) (by omega)
              rw [encode_rune p.1 hq] at kY
              have hRn : R = some (encL p.1, 3 + p.2) := by rw [hR3]; unfold refE; rw [if_neg (by rintro (h | h | h); exact hz h; exact hn h; exact h hq)]
              clear hR3
              go_wp2_with fail
              refine (kQ _).mono ?_
              rintro e w5 ⟨rfl, rfl⟩
              go_wp2_with fail
              refine (kY _).mono ?_
              rintro e w6 ⟨rfl, hb6⟩
              go_wp2
              go_ret3
              refine ⟨?_, hb2.trans (hb6.mono hb2.size)⟩
              rw [hRn, oneV_some]
              rfl
            · rw [decide_eq_false hq] at kQ
              have hRn : R = none := by rw [hR3]; unfold refE; rw [if_pos (.inr (.inr hq))]
              clear hR3
              go_wp2_with fail
              refine (kQ _).mono ?_
              rintro e w5 ⟨rfl, rfl⟩
              go_wp2
              go_ret3
              exact ⟨by rw [hRn]; rfl, hb2⟩
      · have hx0 := hx
        have hxf : List.isPrefixOf [38, 35, 120] l = false := Bool.eq_false_iff.2 hx
        simp only [show List.isPrefixOf (⟨#[38, 35, 120]⟩ : ByteArray).data.toList l = false from hxf] at kB1
        clear hx hxf
        by_cases hx : List.isPrefixOf [38, 35] l = true
        · have hR3 : R = refE 2 (numE 10 8 0 0 (l.drop 2)) := by rw [hR2, if_neg hx0, if_pos hx]
          simp only [show List.isPrefixOf (⟨#[38, 35]⟩ : ByteArray).data.toList l = true from hx] at kB2
          clear hR2 hx0
          have hlen := pre_len hx
          have hll : l.length = s.size - at_ := by rw [hl, List.length_drop]; rfl
          have hat : at_ + 2 ≤ s.size := by simp at hlen; omega
          obtain ⟨t, ht⟩ : ∃ t : ByteArray, t = s.extract (at_ + 2) s.size := ⟨_, rfl⟩
          have htl : t.data.toList = l.drop 2 := by
            rw [ht, hl, List.drop_drop, ByteArray.data_extract, Array.toList_extract, List.extract_eq_take_drop]
            exact List.take_of_length_le (by rw [List.length_drop]; exact Nat.le_refl _)
          have hts : t.size ≤ 100000 := by rw [ht]; simp; omega
          have kN := fun (W : World) => refNumbered_dec W t hts
          rw [htl] at kN
          have hbd := numE_bd (b := 10) (by decide) 8 0 0 (l.drop 2) (by decide)
          obtain ⟨p, hp⟩ : ∃ p, p = numE 10 8 0 0 (l.drop 2) := ⟨_, rfl⟩
          have hsz := numE_size 10 8 0 0 (l.drop 2)
          rw [← hp] at kN hR3 hbd hsz
          rw [List.length_drop] at hsz
          unfold numV at kN
          have hbd2 : p.1 ≤ 4294967296 := by
            have e : 16 ^ (0 + 8) ≤ 4294967296 := by decide
            omega
          have ht' : s.extract (at_ + 2) s.size = t := ht.symm
          have han : ((at_ : Int) + 2).toNat = at_ + 2 := by omega
          have han2 : (at_ : Int) + 2 ≤ (s.size : Int) := by omega
          clear hbd hp ht htl hlen hl
          go_wp2_with fail
          refine (kB1 _).mono ?_
          rintro e w3 ⟨rfl, rfl⟩
          go_wp2_with fail
          refine (kB2 _).mono ?_
          rintro e w7 ⟨rfl, rfl⟩
          go_wp2_with fail
          refine (kN _).mono ?_
          rintro e w4 ⟨rfl, rfl⟩
          by_cases hz : p.2 = 0
          · have hRn : R = none := by rw [hR3]; unfold refE; rw [if_pos (.inl hz)]
            have e0 : ((p.2 : Int) == 0) = true := by rw [beq_iff_eq]; omega
            clear hR3
            go_wp2
            go_ret3
            exact ⟨by rw [hRn]; rfl, hb2⟩
          · have e0 : ((p.2 : Int) == 0) = false := by rw [beq_eq_false_iff_ne]; omega
            by_cases hn : p.1 = 0
            · have hRn : R = none := by rw [hR3]; unfold refE; rw [if_pos (.inr (.inl hn))]
              have e1 : ((p.1 : Int) == 0) = true := by rw [beq_iff_eq]; omega
              clear hR3
              go_wp2
              go_ret3
              exact ⟨by rw [hRn]; rfl, hb2⟩
            · have e1 : ((p.1 : Int) == 0) = false := by rw [beq_eq_false_iff_ne]; omega
              have kQ := fun (W : World) => refRune_any (p.1 : Int) W (by omega) (by omega)
              rw [runeB_is] at kQ
              by_cases hq : isRune p.1
              · rw [decide_eq_true hq] at kQ
                have kY := fun (W : World) => refBytes_any (p.1 : Int) W (by omega) (by omega)
                rw [encode_rune p.1 hq] at kY
                have hRn : R = some (encL p.1, 2 + p.2) := by rw [hR3]; unfold refE; rw [if_neg (by rintro (h | h | h); exact hz h; exact hn h; exact h hq)]
                clear hR3
                go_wp2_with fail
                refine (kQ _).mono ?_
                rintro e w5 ⟨rfl, rfl⟩
                go_wp2_with fail
                refine (kY _).mono ?_
                rintro e w6 ⟨rfl, hb6⟩
                go_wp2
                go_ret3
                refine ⟨?_, hb2.trans (hb6.mono hb2.size)⟩
                rw [hRn, oneV_some]
                rfl
              · rw [decide_eq_false hq] at kQ
                have hRn : R = none := by rw [hR3]; unfold refE; rw [if_pos (.inr (.inr hq))]
                clear hR3
                go_wp2_with fail
                refine (kQ _).mono ?_
                rintro e w5 ⟨rfl, rfl⟩
                go_wp2
                go_ret3
                exact ⟨by rw [hRn]; rfl, hb2⟩
        · have hxf : List.isPrefixOf [38, 35] l = false := Bool.eq_false_iff.2 hx
          simp only [show List.isPrefixOf (⟨#[38, 35]⟩ : ByteArray).data.toList l = false from hxf] at kB2
          have hRn : R = none := by rw [hR2, if_neg hx0, if_neg hx]
          clear hR2 hx0 hxf hx
          go_wp2_with fail
          refine (kB1 _).mono ?_
          rintro e w3 ⟨rfl, rfl⟩
          go_wp2_with fail
          refine (kB2 _).mono ?_
          rintro e w7 ⟨rfl, rfl⟩
          go_wp2
          go_ret3
          exact ⟨by rw [hRn]; rfl, hb2⟩

set_option maxRecDepth 100000 in
set_option maxHeartbeats 4000000 in
theorem refOne_out (w : World) (s : ByteArray) (a : Int) (hs : s.size ≤ 100000) (ha : a < 0 ∨ (s.size : Int) < a) :
    Calls Try.prog 14 #[.string s, .int .i64 a] w fun e w' => e = .returned (oneV none) ∧ Below w.heap.size w w' := by
  have kB : ∀ (W : World) (p : ByteArray) (hp : p.size ≤ 100), Calls Try.prog 19 #[.string s, .string p, .int .i64 a] W fun e w' => e = .returned (.bool false) ∧ W = w' := fun W p hp => by
    have h := refBegins_any s p a W (by omega) (by omega)
    rw [show beginsB s p a = false from by unfold beginsB; rw [if_neg (by omega)]] at h
    exact h
  go_enter Try.func14, Try.ntmps14
  go_wp2
  generalize hW2 : World.alloc (World.alloc w _) _ = W2
  have hb2 : Below w.heap.size w W2 := by rw [← hW2]; exact ((Below.refl _ _).alloc (Nat.le_refl _) _).alloc ((Below.refl _ _).alloc (Nat.le_refl _) _).size _
  have n0 : W2.cell? ⟨w.heap.size, 0, none⟩ = some (.string ⟨#[38, 97, 109, 112, 59]⟩) := by rw [← hW2]; exact cell_first _ _ _ _ _ rfl
  have n1 : W2.cell? ⟨w.heap.size, 1, none⟩ = some (.string ⟨#[38, 108, 116, 59]⟩) := by rw [← hW2]; exact cell_first _ _ _ _ _ rfl
  have n2 : W2.cell? ⟨w.heap.size, 2, none⟩ = some (.string ⟨#[38, 103, 116, 59]⟩) := by rw [← hW2]; exact cell_first _ _ _ _ _ rfl
  have n3 : W2.cell? ⟨w.heap.size, 3, none⟩ = some (.string ⟨#[38, 113, 117, 111, 116, 59]⟩) := by rw [← hW2]; exact cell_first _ _ _ _ _ rfl
  have b0 : W2.cell? ⟨w.heap.size + 1, 0, none⟩ = some (.string ⟨#[38]⟩) := by rw [← hW2]; exact cell_second _ _ _ _ _ rfl
  have b1 : W2.cell? ⟨w.heap.size + 1, 1, none⟩ = some (.string ⟨#[60]⟩) := by rw [← hW2]; exact cell_second _ _ _ _ _ rfl
  have b2 : W2.cell? ⟨w.heap.size + 1, 2, none⟩ = some (.string ⟨#[62]⟩) := by rw [← hW2]; exact cell_second _ _ _ _ _ rfl
  have b3 : W2.cell? ⟨w.heap.size + 1, 3, none⟩ = some (.string ⟨#[34]⟩) := by rw [← hW2]; exact cell_second _ _ _ _ _ rfl
  clear hW2
  go_loopw [9] (fun iv wr => ∃ i : Nat, iv = .int .i64 (i : Int) ∧ i ≤ 4 ∧ wr = W2) (fun iv wr => 4 - (intOf iv).toNat)
  case atStart => exact ⟨0, rfl, by omega, rfl⟩
  case round =>
    obtain ⟨i, rfl, hi, hwr⟩ := hrel
    subst hwr
    rcases (show i = 0 ∨ i = 1 ∨ i = 2 ∨ i = 3 ∨ i = 4 by omega) with rfl | rfl | rfl | rfl | rfl
    · go_wp2_with fail
      refine (kB _ _ (by decide)).mono ?_
      rintro e w3 ⟨rfl, rfl⟩
      go_wp2
      go_roundw
      case rel => exact ⟨1, by go_num, by omega, trivial⟩
      case measure => simp [intOf]
    · go_wp2_with fail
      refine (kB _ _ (by decide)).mono ?_
      rintro e w3 ⟨rfl, rfl⟩
      go_wp2
      go_roundw
      case rel => exact ⟨2, by go_num, by omega, trivial⟩
      case measure => simp [intOf]
    · go_wp2_with fail
      refine (kB _ _ (by decide)).mono ?_
      rintro e w3 ⟨rfl, rfl⟩
      go_wp2
      go_roundw
      case rel => exact ⟨3, by go_num, by omega, trivial⟩
      case measure => simp [intOf]
    · go_wp2_with fail
      refine (kB _ _ (by decide)).mono ?_
      rintro e w3 ⟨rfl, rfl⟩
      go_wp2
      go_roundw
      case rel => exact ⟨4, by go_num, by omega, trivial⟩
      case measure => simp [intOf]
    · go_wp2_with fail
      refine (kB _ _ (by decide)).mono ?_
      rintro e w3 ⟨rfl, rfl⟩
      go_wp2_with fail
      refine (kB _ _ (by decide)).mono ?_
      rintro e w7 ⟨rfl, rfl⟩
      go_wp2
      go_ret3
      exact ⟨rfl, hb2⟩
end Go.Proofs.Ytdahfgjmihffbaa
