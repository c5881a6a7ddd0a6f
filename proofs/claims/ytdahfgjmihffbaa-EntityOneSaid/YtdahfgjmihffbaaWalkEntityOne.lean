/-
  nunciolaw06: the walks of EntityOne and EntitySafe. (oneAt, one_any, the contract of the program's One, come from the text EntProg.)
-/
import Derived.Test.YtdahfgjmihffbaaWalkEntity
import Derived.OpenShut
namespace Go.Proofs.Ytdahfgjmihffbaa
set_option linter.unusedVariables false
set_option linter.unusedSimpArgs false
open Go.RowKit

theorem refOne_any (w : World) (s : ByteArray) (a : Int) (hs : s.size ≤ 100000) :
    Calls Try.prog 14 #[.string s, .int .i64 a] w fun e w' => e = .returned (oneV (oneAt s a)) ∧ Below w.heap.size w w' := by
  unfold oneAt
  by_cases h : 0 ≤ a ∧ a ≤ (s.size : Int)
  · rw [if_pos h]
    obtain ⟨k, rfl⟩ := Int.eq_ofNat_of_zero_le h.1
    exact refOne_in w s k hs (by omega)
  · rw [if_neg h]
    exact refOne_out w s a hs (by omega)
theorem oneV_is (o : Option (List UInt8 × Nat)) : ∃ (b : ByteArray) (n : Nat) (t : Bool), oneV o = .tuple #[.string b, .int .i64 (n : Int), .bool t] := by
  cases o with
  | none => exact ⟨_, 0, _, rfl⟩
  | some p => exact ⟨_, _, _, rfl⟩

set_option maxRecDepth 100000 in
set_option maxHeartbeats 4000000 in
theorem entityOne_walk (s0 : ByteArray) (a : Int) (w0 : s0.size ≤ maxLen) (w1 : (Lit.int .i64 a).wf = true) (w : World) :
    Calls Try.prog 4 #[.string s0, .int .i64 a] w fun e w' => e = .returned (.bool true) ∧ Below w.heap.size w w' := by
  have hc := bounds_i64 w1
  have kF := fun W => few_any s0 W w0
  have hss := few_size s0
  generalize s0.extract 0 (min s0.size 300) = s at kF hss
  have kD := fun (W : World) => one_any W s a (by omega) hc.1 (by omega)
  have kR := fun (W : World) => refOne_any W s a (by omega)
  obtain ⟨b, n, t, hb⟩ := oneV_is (oneAt s a)
  rw [hb] at kD kR
  have q1 := bytes_beq_same (x := b) rfl
  have q2 : (t == t) = true := beq_self_eq_true t
  clear w0 hb hc
  go_enter Try.func4, Try.ntmps4
  go_wp2_with fail
  refine (kF _).mono ?_
  rintro e w' ⟨rfl, rfl⟩
  go_wp2_with fail
  refine (kD _).mono ?_
  rintro e w2 ⟨rfl, hb2⟩
  clear kF kD
  go_wp2_with fail
  refine (kR _).mono ?_
  rintro e w3 ⟨rfl, hb3⟩
  have hB3 := hb2.trans (hb3.mono hb2.size)
  clear hb2 hb3 kR
  go_wp2_with fail
  refine (awake_any _).mono ?_
  rintro e w4 ⟨rfl, hb4⟩
  go_wp2_with fail
  go_ret
  exact ⟨rfl, hB3.trans (hb4.mono hB3.size)⟩

set_option maxRecDepth 100000 in
set_option maxHeartbeats 4000000 in
theorem entitySafe_walk (s0 : ByteArray) (w0 : s0.size ≤ maxLen) (w : World) :
    Calls Try.prog 6 #[.string s0] w fun e w' => e = .returned (.bool true) ∧ Below w.heap.size w w' := by
  have kF := fun W => few_any s0 W w0
  have hss := few_size s0
  generalize s0.extract 0 (min s0.size 300) = s at kF hss
  have kT := fun (W : World) => text_any W s (by omega)
  have kA := fun (W : World) => attr_any W s (by omega)
  have hlen : ∀ (t : Bool) (q : ByteArray), q = ⟨(escL t s.data.toList).toArray⟩ → safeE t q.data.toList = true ∧ q.size ≤ 1800 := fun t q hq => by
    have hql : q.data.toList = escL t s.data.toList := by rw [hq]
    have h1 : q.data.toList.length = q.size := rfl
    have h2 := escL_len t s.data.toList
    have h3 : s.data.toList.length = s.size := rfl
    rw [hql] at h1
    exact ⟨by rw [hql]; exact safe_escL _ _, by omega⟩
  obtain ⟨x, hx⟩ : ∃ q : ByteArray, q = ⟨(escL false s.data.toList).toArray⟩ := ⟨_, rfl⟩
  obtain ⟨y, hy⟩ : ∃ q : ByteArray, q = ⟨(escL true s.data.toList).toArray⟩ := ⟨_, rfl⟩
  obtain ⟨hxl, hxs⟩ := hlen false x hx
  obtain ⟨hyl, hys⟩ := hlen true y hy
  rw [← hx] at kT
  rw [← hy] at kA
  have HX := Lib.hid hxl
  have HY := Lib.hid hyl
  clear w0 hx hy hxl hyl hlen
  go_enter Try.func6, Try.ntmps6
  go_wp2_with fail
  refine (kF _).mono ?_
  rintro e w' ⟨rfl, rfl⟩
  go_wp2_with fail
  refine (kT _).mono ?_
  rintro e w1 ⟨rfl, hb1⟩
  clear kF kT
  go_wp2_with fail
  refine (kA _).mono ?_
  rintro e w2 ⟨rfl, hb2⟩
  have hB2 := hb1.trans (hb2.mono hb1.size)
  clear hb1 hb2 kA
  go_wp2_with fail
  have n0 : (w2.alloc (.cells #[.string x, .string y] 9)).cell? ⟨w2.heap.size, 0, none⟩ = some (.string x) := by rw [World.cell?_alloc_at _ _ _ _ rfl]; rfl
  have n1 : (w2.alloc (.cells #[.string x, .string y] 9)).cell? ⟨w2.heap.size, 1, none⟩ = some (.string y) := by rw [World.cell?_alloc_at _ _ _ _ rfl]; rfl
  have hB3 : Below w.heap.size w (w2.alloc (.cells #[.string x, .string y] 9)) := hB2.alloc hB2.size _
  have hL : w2.heap.size < (w2.alloc (.cells #[.string x, .string y] 9)).heap.size := by rw [World.size_alloc]; omega
  generalize w2.alloc (.cells #[.string x, .string y] 9) = W2 at n0 n1 hB3 hL ⊢
  go_loopw [4] (fun kv wr => ∃ k : Nat, kv = .int .i64 (k : Int) ∧ k ≤ 2 ∧ Below W2.heap.size W2 wr) (fun kv wr => 2 - (intOf kv).toNat)
  case atStart => exact ⟨0, rfl, by omega, Below.refl _ _⟩
  case round =>
    obtain ⟨k, rfl, hk, hbel⟩ := hrel
    rcases (show k = 2 ∨ ∃ (z : ByteArray) (t : Bool), z.size ≤ 1800 ∧ safeE t z.data.toList = true ∧ W2.cell? ⟨w2.heap.size, k, none⟩ = some (.string z) ∧ ((k = 0 ∧ t = false) ∨ (k = 1 ∧ t = true)) by
      rcases (show k = 0 ∨ k = 1 ∨ k = 2 by omega) with rfl | rfl | rfl
      · exact .inr ⟨x, false, hxs, HX.out, n0, .inl ⟨rfl, rfl⟩⟩
      · exact .inr ⟨y, true, hys, HY.out, n1, .inr ⟨rfl, rfl⟩⟩
      · exact .inl rfl) with rfl | ⟨z, t, hzs, hz, nz, hkt⟩
    · go_wp2_with fail
      refine (awake_any _).mono ?_
      rintro e w4 ⟨rfl, hb4⟩
      go_wp2_with fail
      go_ret
      have h1 := hB3.trans (hbel.mono hB3.size)
      exact ⟨rfl, h1.trans (hb4.mono h1.size)⟩
    · have HZ := Lib.hid hz
      have hk1 : k ≤ 1 := by omega
      have Hkt := Lib.hid hkt
      clear hz n0 n1 hkt
      have hklt : decide ((k : Int) < 2) = true := decide_eq_true (by omega)
      go_wp2_with fail
      go_loopw [5] (fun iv wr => ∃ i : Nat, iv = .int .i64 (i : Int) ∧ i ≤ z.size ∧ Hid (safeE t (z.data.toList.drop i) = true) ∧ Below W2.heap.size W2 wr) (fun iv wr => z.size - (intOf iv).toNat)
      case atStart => exact ⟨0, rfl, Nat.zero_le _, HZ, hbel⟩
      case round =>
        obtain ⟨i, rfl, hi, HL, hbel2⟩ := hrel
        have nz2 : wr.cell? ⟨w2.heap.size, k, none⟩ = some (.string z) := by rw [World.cell?_of_block (hbel2.block w2.heap.size hL)]; exact nz
        by_cases hlt : i < z.size
        · obtain ⟨c, hc⟩ : ∃ c, c = z[i] := ⟨_, rfl⟩
          have hc' : z[i].toNat = c.toNat := by rw [hc]
          have hcl := c.toNat_lt
          have hdr : z.data.toList.drop i = c :: z.data.toList.drop (i + 1) := by
            rw [List.drop_eq_getElem_cons (by exact hlt), hc]
            rfl
          have hL2 := HL.out
          rw [hdr, safeE, Bool.and_eq_true, Bool.and_eq_true] at hL2
          obtain ⟨⟨ho, hs1⟩, hL3⟩ := hL2
          have HL3 := Lib.hid hL3
          unfold okE at ho
          simp only [Bool.and_eq_true, Bool.not_eq_true', decide_eq_false_iff_not] at ho
          obtain ⟨h60, h62, h34, h39, h910⟩ := ho
          have e60 : ((c.toNat : Int) == 60) = false := by rw [beq_eq_false_iff_ne]; omega
          have e62 : ((c.toNat : Int) == 62) = false := by rw [beq_eq_false_iff_ne]; omega
          have e34 : ((c.toNat : Int) == 34) = false := by rw [beq_eq_false_iff_ne]; omega
          have e39 : ((c.toNat : Int) == 39) = false := by rw [beq_eq_false_iff_ne]; omega
          have hat : oneAt z (i : Int) = oneL (c :: z.data.toList.drop (i + 1)) := by
            unfold oneAt
            rw [if_pos (by omega), Int.toNat_natCast, hdr]
          obtain ⟨b, n, ok, hb⟩ := oneV_is (oneAt z (i : Int))
          have kO := fun (W : World) => one_any W z (i : Int) (by omega) (by omega) (by omega)
          rw [hb] at kO
          have hok : c.toNat = 38 → ok = true := fun h38 => by
            rw [hat] at hb
            rw [decide_eq_true h38] at hs1
            cases ho : oneL (c :: z.data.toList.drop (i + 1)) with
            | none => rw [ho] at hs1; cases hs1
            | some p =>
              rw [ho] at hb
              simp only [oneV, Value.tuple.injEq, Array.mk.injEq, List.cons.injEq, Value.bool.injEq] at hb
              exact hb.2.2.1.symm
          have Hok := Lib.hid hok
          have h910' : (t = true → c.toNat ≠ 9 ∧ c.toNat ≠ 10) := fun ht => by
            subst ht
            simpa using h910
          clear hdr hc hL3 hs1 hat hb hok h60 h62 h34 h39 h910 HL
          rcases Hkt.out with ⟨hk0, rfl⟩ | ⟨hk0, rfl⟩
          · have ek : ((k : Int) == 1) = false := by rw [beq_eq_false_iff_ne]; omega
            clear hk0
            by_cases h38 : c.toNat = 38
            · have hok := Hok.out h38
              subst hok
              rw [h38] at hc' 
              clear e60 e62 e34 e39 h910' h38
              go_wp2_with fail
              refine (kO _).mono ?_
              rintro e w5 ⟨rfl, hb5⟩
              go_wp2_with fail
              go_roundw
              case rel => exact ⟨i + 1, by go_num, by omega, HL3, hbel2.trans (hb5.mono hbel2.size)⟩
              case measure => simp [intOf]; omega
            · have e38 : ((c.toNat : Int) == 38) = false := by rw [beq_eq_false_iff_ne]; omega
              clear h910' h38
              go_wp2_with fail
              refine (kO _).mono ?_
              rintro e w5 ⟨rfl, hb5⟩
              go_wp2_with fail
              go_roundw
              case rel => exact ⟨i + 1, by go_num, by omega, HL3, hbel2.trans (hb5.mono hbel2.size)⟩
              case measure => simp [intOf]; omega
          · have h910'' := h910' rfl
            have ek : ((k : Int) == 1) = true := by rw [beq_iff_eq]; omega
            clear hk0
            have e9 : ((c.toNat : Int) == 9) = false := by rw [beq_eq_false_iff_ne]; omega
            have e10 : ((c.toNat : Int) == 10) = false := by rw [beq_eq_false_iff_ne]; omega
            by_cases h38 : c.toNat = 38
            · have hok := Hok.out h38
              subst hok
              rw [h38] at hc' 
              clear e60 e62 e34 e39 e9 e10 h910' h910'' h38
              go_wp2_with fail
              refine (kO _).mono ?_
              rintro e w5 ⟨rfl, hb5⟩
              go_wp2_with fail
              go_roundw
              case rel => exact ⟨i + 1, by go_num, by omega, HL3, hbel2.trans (hb5.mono hbel2.size)⟩
              case measure => simp [intOf]; omega
            · have e38 : ((c.toNat : Int) == 38) = false := by rw [beq_eq_false_iff_ne]; omega
              clear h910' h910'' h38
              go_wp2_with fail
              refine (kO _).mono ?_
              rintro e w5 ⟨rfl, hb5⟩
              go_wp2_with fail
              go_roundw
              case rel => exact ⟨i + 1, by go_num, by omega, HL3, hbel2.trans (hb5.mono hbel2.size)⟩
              case measure => simp [intOf]; omega
        · obtain rfl : i = z.size := by omega
          go_wp2_with fail
          go_roundw
          case rel => exact ⟨k + 1, by go_num, by omega, hbel2⟩
          case measure => simp [intOf]; omega
end Go.Proofs.Ytdahfgjmihffbaa
