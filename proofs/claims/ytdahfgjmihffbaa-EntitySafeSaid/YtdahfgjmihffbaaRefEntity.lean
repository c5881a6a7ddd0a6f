/-
  nuncio/nuncioref06's Decode.
-/
import Derived.Test.YtdahfgjmihffbaaRefOne
namespace Go.Proofs.Ytdahfgjmihffbaa
set_option linter.unusedVariables false
set_option linter.unusedSimpArgs false
open Go.RowKit

/-- What Decode answers. -/
def resE : Option (List UInt8) → Value
  | some x => .tuple #[.string ⟨x.toArray⟩, .int .i64 0]
  | none => .tuple #[.string ⟨#[]⟩, .int .i64 7]
theorem encL_len4 (r : Nat) : (encL r).length ≤ 4 := by
  unfold encL
  repeat' split
  all_goals simp
theorem refE_len {a : Nat} {p : Nat × Nat} {b : List UInt8} {n : Nat} (h : refE a p = some (b, n)) : b.length ≤ 4 := by
  unfold refE at h
  split at h
  · cases h
  · injection h with h
    injection h with h _
    rw [← h]
    exact encL_len4 _
theorem oneL_len {l b : List UInt8} {n : Nat} (h : oneL l = some (b, n)) : b.length ≤ 4 := by
  unfold oneL at h
  repeat' split at h
  all_goals first
    | (injection h with h; injection h with h _; rw [← h]; decide)
    | exact refE_len h
    | cases h

set_option maxRecDepth 100000 in
set_option maxHeartbeats 4000000 in
theorem refDecode_any (w : World) (s : ByteArray) (hs : s.size ≤ 100000) :
    Calls Try.prog 15 #[.string s] w fun e w' => e = .returned (resE (decE s.data.toList)) ∧ Below w.heap.size w w' := by
  obtain ⟨D, hD⟩ : ∃ D, D = decE s.data.toList := ⟨_, rfl⟩
  rw [← hD]
  have HD := Lib.hid hD
  have hsl : s.data.toList.length = s.size := rfl
  clear hD
  go_enter Try.func15, Try.ntmps15
  go_wp2
  go_loopw [4, 5] (fun ov iv wr => ∃ (O : ByteArray) (i : Nat), ov = .string O ∧ iv = .int .i64 (i : Int) ∧ i ≤ s.size ∧ O.size ≤ 4 * i ∧ Hid (D = (decE (s.data.toList.drop i)).map (O.data.toList ++ ·)) ∧ Below w.heap.size w wr) (fun ov iv wr => s.size - (intOf iv).toNat)
  case atStart =>
    refine ⟨⟨#[]⟩, 0, rfl, rfl, Nat.zero_le _, by decide, ?_, Below.refl _ _⟩
    refine Lib.hid ?_
    rw [HD.out, List.drop_zero]
    cases decE s.data.toList <;> simp
  case round =>
    obtain ⟨O, i, rfl, rfl, hi, hO, HO, hbel⟩ := hrel
    by_cases hlt : i < s.size
    · obtain ⟨c, hc⟩ : ∃ c, c = s[i] := ⟨_, rfl⟩
      have hx := one_slice s i hlt
      rw [← hc] at hx
      have hdr : s.data.toList.drop i = c :: s.data.toList.drop (i + 1) := by
        rw [List.drop_eq_getElem_cons (by exact hlt), hc]
        rfl
      have kO := fun (W : World) => refOne_in W s i hs hi
      have hO2 := HO.out
      rw [hdr] at kO hO2
      have hll : (c :: s.data.toList.drop (i + 1)).length = s.size - i := by rw [← hdr, List.length_drop, hsl]
      cases hq : oneL (c :: s.data.toList.drop (i + 1)) with
      | some bn =>
        obtain ⟨b, n⟩ := bn
        have h1 := oneL_size hq
        have h2 := oneL_len hq
        rw [hll] at h1
        rw [decE_one hq, ← hdr, List.drop_drop] at hO2
        obtain ⟨x, hxb⟩ : ∃ x : ByteArray, x = ⟨b.toArray⟩ := ⟨_, rfl⟩
        have hxl : x.data.toList = b := by rw [hxb]
        have hxs : x.size ≤ 4 := by rw [hxb]; exact h2
        have hO3 : D = (decE (s.data.toList.drop (i + n))).map ((O ++ x).data.toList ++ ·) := by
          rw [hO2, Option.map_map, app_data, hxl]
          congr 1
          funext y
          simp
        have HO3 := Lib.hid hO3
        rw [hq, show oneV (some (b, n)) = .tuple #[.string x, .int .i64 (n : Int), .bool true] from by rw [hxb]; rfl] at kO
        clear hO2 hO3 hdr hc hq hll hxb hxl h2 HO
        go_wp2_with fail
        refine (kO _).mono ?_
        rintro e w2 ⟨rfl, hb2⟩
        have hB2 := hbel.trans (hb2.mono hbel.size)
        go_wp2
        go_roundw
        case rel => exact ⟨O ++ x, i + n, rfl, by go_num, by omega, by rw [ByteArray.size_append]; omega, HO3, hB2⟩
        case measure => simp [intOf]; omega
      | none =>
        rw [hq, show oneV none = .tuple #[.string ⟨#[]⟩, .int .i64 0, .bool false] from rfl] at kO
        have hi1 : ((i : Int) + 1).toNat = i + 1 := by omega
        have hi2 : (i : Int) + 1 ≤ (s.size : Int) := by omega
        have p38 := one_beq c 38
        have p60 := one_beq c 60
        have p62 := one_beq c 62
        have p34 := one_beq c 34
        have p39 := one_beq c 39
        have hm : markE c = (decide (c.toNat = 38) || (decide (c.toNat = 60) || (decide (c.toNat = 62) || (decide (c.toNat = 34) || decide (c.toNat = 39))))) := rfl
        by_cases h38 : c.toNat = 38
        · rw [decide_eq_true (show c.toNat = (UInt8.toNat 38) from h38)] at p38
          have hO3 : D = none := by rw [hO2, decE_bad hq (by rw [hm, decide_eq_true h38]; simp)]; rfl
          subst hO3
          clear hO2 hdr hc hq hll HO hm
          go_wp2_with fail
          refine (kO _).mono ?_
          rintro e w2 ⟨rfl, hb2⟩
          go_wp2
          go_ret2
          exact ⟨rfl, hbel.trans (hb2.mono hbel.size)⟩
        by_cases h60 : c.toNat = 60
        · rw [decide_eq_false (show ¬ c.toNat = (UInt8.toNat 38) from h38)] at p38
          rw [decide_eq_true (show c.toNat = (UInt8.toNat 60) from h60)] at p60
          have hO3 : D = none := by rw [hO2, decE_bad hq (by rw [hm, decide_eq_true h60]; simp)]; rfl
          subst hO3
          clear hO2 hdr hc hq hll HO hm
          go_wp2_with fail
          refine (kO _).mono ?_
          rintro e w2 ⟨rfl, hb2⟩
          go_wp2
          go_ret2
          exact ⟨rfl, hbel.trans (hb2.mono hbel.size)⟩
        by_cases h62 : c.toNat = 62
        · rw [decide_eq_false (show ¬ c.toNat = (UInt8.toNat 38) from h38)] at p38
          rw [decide_eq_false (show ¬ c.toNat = (UInt8.toNat 60) from h60)] at p60
          rw [decide_eq_true (show c.toNat = (UInt8.toNat 62) from h62)] at p62
          have hO3 : D = none := by rw [hO2, decE_bad hq (by rw [hm, decide_eq_true h62]; simp)]; rfl
          subst hO3
          clear hO2 hdr hc hq hll HO hm
          go_wp2_with fail
          refine (kO _).mono ?_
          rintro e w2 ⟨rfl, hb2⟩
          go_wp2
          go_ret2
          exact ⟨rfl, hbel.trans (hb2.mono hbel.size)⟩
        by_cases h34 : c.toNat = 34
        · rw [decide_eq_false (show ¬ c.toNat = (UInt8.toNat 38) from h38)] at p38
          rw [decide_eq_false (show ¬ c.toNat = (UInt8.toNat 60) from h60)] at p60
          rw [decide_eq_false (show ¬ c.toNat = (UInt8.toNat 62) from h62)] at p62
          rw [decide_eq_true (show c.toNat = (UInt8.toNat 34) from h34)] at p34
          have hO3 : D = none := by rw [hO2, decE_bad hq (by rw [hm, decide_eq_true h34]; simp)]; rfl
          subst hO3
          clear hO2 hdr hc hq hll HO hm
          go_wp2_with fail
          refine (kO _).mono ?_
          rintro e w2 ⟨rfl, hb2⟩
          go_wp2
          go_ret2
          exact ⟨rfl, hbel.trans (hb2.mono hbel.size)⟩
        by_cases h39 : c.toNat = 39
        · rw [decide_eq_false (show ¬ c.toNat = (UInt8.toNat 38) from h38)] at p38
          rw [decide_eq_false (show ¬ c.toNat = (UInt8.toNat 60) from h60)] at p60
          rw [decide_eq_false (show ¬ c.toNat = (UInt8.toNat 62) from h62)] at p62
          rw [decide_eq_false (show ¬ c.toNat = (UInt8.toNat 34) from h34)] at p34
          rw [decide_eq_true (show c.toNat = (UInt8.toNat 39) from h39)] at p39
          have hO3 : D = none := by rw [hO2, decE_bad hq (by rw [hm, decide_eq_true h39]; simp)]; rfl
          subst hO3
          clear hO2 hdr hc hq hll HO hm
          go_wp2_with fail
          refine (kO _).mono ?_
          rintro e w2 ⟨rfl, hb2⟩
          go_wp2
          go_ret2
          exact ⟨rfl, hbel.trans (hb2.mono hbel.size)⟩
        · rw [decide_eq_false (show ¬ c.toNat = (UInt8.toNat 38) from h38)] at p38
          rw [decide_eq_false (show ¬ c.toNat = (UInt8.toNat 60) from h60)] at p60
          rw [decide_eq_false (show ¬ c.toNat = (UInt8.toNat 62) from h62)] at p62
          rw [decide_eq_false (show ¬ c.toNat = (UInt8.toNat 34) from h34)] at p34
          rw [decide_eq_false (show ¬ c.toNat = (UInt8.toNat 39) from h39)] at p39
          have hO3 : D = (decE (s.data.toList.drop (i + 1))).map ((O ++ ⟨#[c]⟩).data.toList ++ ·) := by
            rw [hO2, decE_own hq (by rw [hm]; simp [h38, h60, h62, h34, h39]), Option.map_map, app_data]
            congr 1
            funext y
            simp
          have HO3 := Lib.hid hO3
          clear hO2 hO3 hdr hc hq hll HO hm
          go_wp2_with fail
          refine (kO _).mono ?_
          rintro e w2 ⟨rfl, hb2⟩
          have hB2 := hbel.trans (hb2.mono hbel.size)
          go_wp2
          go_roundw
          case rel => exact ⟨O ++ ⟨#[c]⟩, i + 1, rfl, by go_num, by omega, by rw [ByteArray.size_append]; show O.size + 1 ≤ _; omega, HO3, hB2⟩
          case measure => simp [intOf]; omega
    · have hO2 : D = some O.data.toList := by
        rw [HO.out, List.drop_eq_nil_of_le (by show s.size ≤ _; omega), decE_nil]
        simp
      subst hO2
      have hltI : decide ((i : Int) < (s.size : Int)) = false := decide_eq_false (by omega)
      go_wp2
      go_ret2
      exact ⟨rfl, hbel⟩
end Go.Proofs.Ytdahfgjmihffbaa
