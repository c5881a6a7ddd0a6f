/-
  The contract of nuncio/nuncioref02.Next.
-/
import Derived.BigQuiet
import Derived.Deep.QuietTactic
import Derived.IntWalk
import Derived.Lib.QuietBelow
import Derived.Test.YtahkfoaogcbecaaPlainCut
import Derived.Test.YtahkfoaogcbecaaPlainNext
import Derived.Test.YtahkfoaogcbecaaNextS
namespace Go.Proofs.Ytahkfoaogcbecaa
open Go.RowKit

set_option maxRecDepth 100000 in
set_option maxHeartbeats 400000 in
theorem refNext_out (s : ByteArray) (at_ : Int) (w : World) (_hs : s.size ≤ 9223372036854775807) (h : ¬(0 ≤ at_ ∧ at_ < (s.size : Int))) :
    Calls Try.prog 24 #[.string s, .int .i64 at_] w fun e w' => e = .returned (.tuple #[.int .i64 0, .int .i64 0]) ∧ w = w' := by
  by_cases h0 : at_ < 0
  · go_enter Try.func24, Try.ntmps24
    go_wp2
    go_ret2
    exact ⟨rfl, rfl⟩
  · have h1 : (s.size : Int) ≤ at_ := by omega
    clear h
    go_enter Try.func24, Try.ntmps24
    go_wp2
    go_ret2
    exact ⟨rfl, rfl⟩

/-- The reference's table of first bytes, where it lies. -/
def leadRow : Array Value := #[.int .i64 0, .int .i64 0, .int .i64 192, .int .i64 224, .int .i64 240]
theorem leadRow_at (z : Nat) (h1 : 1 ≤ z) (h : z ≤ 4) : leadRow[z]? = some (.int .i64 (leadN z)) := by
  obtain rfl | rfl | rfl | rfl : z = 1 ∨ z = 2 ∨ z = 3 ∨ z = 4 := by omega
  all_goals rfl
theorem lead_cell {w wr : World} (hb : Below (w.heap.size + 1) (w.alloc (.cells leadRow 3)) wr) (z : Nat) (h1 : 1 ≤ z) (h : z ≤ 4) :
    wr.cell? ⟨w.heap.size, z, none⟩ = some (.int .i64 (leadN z)) := by
  rw [hb.cell (p := ⟨w.heap.size, z, none⟩) (by simp)]
  unfold World.cell?
  dsimp only
  rw [heap_alloc_new]
  simp [leadRow_at z h1 h]

/-- No number of bytes below z fits. -/
def NoFit (l : List UInt8) (z : Nat) : Prop := ∀ y, 1 ≤ y → y < z → ¬ fitsL l y

theorem below_drewN (B : Nat) (w : World) (n : Nat) : Below B w (w.drewN n) := ⟨rfl, rfl, rfl, Nat.le_refl _, fun _ _ => rfl⟩
/-- p is what is gathered behind j bytes. -/
def PvIs (z : Nat) (b : Nat → Nat) (j : Nat) (p : Int) : Prop := p = pvN z b j
theorem PvIs.bd {z : Nat} {b : Nat → Nat} {j : Nat} {p : Int} (h : PvIs z b j p) (hb : ∀ i, b i < 256) (h1 : 1 ≤ j) (h4 : j ≤ 4) : -100000000 ≤ p ∧ p ≤ 100000000 := by
  unfold PvIs at h; rw [h]; exact pvN_bd4 z b hb j h1 h4
theorem PvIs.next {z : Nat} {b : Nat → Nat} {j : Nat} {p : Int} (h : PvIs z b j p) (h1 : 1 ≤ j) : PvIs z b (j + 1) (64 * p + (b j : Int) - 128) := by
  obtain ⟨i, rfl⟩ : ∃ i, j = i + 1 := ⟨j - 1, by omega⟩
  unfold PvIs at h
  subst h
  rfl

theorem bt_drop (s : ByteArray) (k : Nat) : (fun j => ((s.data.toList.drop k).getD j 0).toNat) = fun j => bt s (k + j) := by
  funext j
  unfold bt
  simp [List.getD_eq_getElem?_getD]
theorem extract_take (s : ByteArray) (k j : Nat) : (s.extract k (k + j)).data.toList = (s.data.toList.drop k).take j := by
  rw [Lib.extract_data, Nat.add_sub_cancel_left]
theorem noFit_next {s : ByteArray} {k j : Nat} {p : Int} (hno : NoFit (s.data.toList.drop k) j) (hp : PvIs j (fun i => bt s (k + i)) j p)
    (h : p < 0 ∨ runeB p = false ∨ Utf8.encode p ≠ s.extract k (k + j)) : NoFit (s.data.toList.drop k) (j + 1) := by
  intro y h1 h2
  by_cases hy : y < j
  · exact hno y h1 hy
  · obtain rfl : y = j := by omega
    rintro ⟨r, hr, hv, he⟩
    rw [bt_drop] at hv
    unfold PvIs at hp
    rw [hv] at hp
    subst hp
    rcases h with h | h | h
    · omega
    · have h2 : runeB (r : Int) = true := decide_eq_true (by unfold isRune at hr; omega)
      rw [h] at h2
      cases h2
    · exact h (bytes_ext (by rw [encode_rune r hr, extract_take, ← he]))
theorem fit_end {s : ByteArray} {k j : Nat} {p : Int} (hr : runeB p = true) (he : Utf8.encode p = s.extract k (k + j)) (hj : k + j ≤ s.size) : nxVI (nxS s k) = .tuple #[.int .i64 p, .int .i64 (j : Int)] := by
  have h' := of_decide_eq_true hr
  obtain ⟨r, rfl⟩ := Int.eq_ofNat_of_zero_le (show 0 ≤ p by omega)
  have hr' : isRune r := by unfold isRune; omega
  have : encL r = (s.data.toList.drop k).take j := by rw [← extract_take, ← he, encode_rune r hr']
  unfold nxS
  rw [nx_fits hr' this (by simp; omega)]
  rfl
theorem fit_none {s : ByteArray} {k z : Nat} (hk : k < s.size) (hno : NoFit (s.data.toList.drop k) z) (hz : 4 < z ∨ s.size - k < z) : nxVI (nxS s k) = .tuple #[.int .i64 65533, .int .i64 1] := by
  unfold nxS
  rw [nx_none _ (by rw [Ne, List.drop_eq_nil_iff]; simpa using hk) fun y h1 h2 h3 => hno y h1 (by simp at h3; omega)]
  rfl

set_option maxRecDepth 100000 in
set_option maxHeartbeats 1000000 in
theorem refNext_in (s : ByteArray) (k : Nat) (w : World) (hs : s.size ≤ 9223372036854775807) (h0 : k < s.size) :
    Calls Try.prog 24 #[.string s, .int .i64 (k : Int)] w fun e w' => e = .returned (nxVI (nxS s k)) ∧ Below w.heap.size w w' := by
  have u0 : s[k].toNat ≤ 255 := by have := s[k].toNat_lt; omega
  have u1 : 0 ≤ (s[k].toNat : Int) := by omega
  obtain ⟨b, hb⟩ : ∃ b : Nat → Nat, b = fun j => bt s (k + j) := ⟨_, rfl⟩
  have hb0 : b 0 = s[k].toNat := by rw [hb, bt_at]; rfl
  have k2 : (k : Int) < (s.size : Int) := by omega
  have k3 : decide ((k : Int) < 0) = false := by simp
  have k4 : decide (s.size ≤ k) = false := by simp; omega
  have Hb := Lib.hid hb
  have Hb0 := Lib.hid hb0
  clear hb hb0
  obtain ⟨r, hr⟩ : ∃ r, r = nxVI (nxS s k) := ⟨_, rfl⟩
  rw [← hr]
  have Hr := Lib.hid hr
  clear hr
  go_enter Try.func24, Try.ntmps24
  go_wp2
  go_loopw [4, 5, 7, 8, 9] (fun _ _ sz _ _ wr => ∃ z : Nat, 1 ≤ z ∧ z ≤ 5 ∧ sz = .int .i64 (z : Int) ∧ Below (w.heap.size + 1) (w.alloc (.cells leadRow 3)) wr ∧ NoFit (s.data.toList.drop k) z)
    (fun _ _ sz _ _ _ => 5 - (intOf sz).toNat)
  case atStart => exact ⟨1, by omega, by omega, rfl, Below.refl _ _, fun y h1 h2 => by omega⟩
  case round =>
    obtain ⟨z, z1, z2, rfl, hbel, hno⟩ := hrel
    have Hbel := Lib.hid hbel
    by_cases hz : z ≤ 4 ∧ (z : Int) ≤ (s.size : Int) - k
    · obtain ⟨hz4, hzs⟩ := hz
      have hc := lead_cell hbel z z1 hz4
      have hld := leadN_bd z
      have hld1 := hld.1
      have hld2 := hld.2
      have z3 : (z : Int) ≤ 4 := by omega
      clear hbel hld
      go_wp2
      go_quiet (fail)
      obtain ⟨wv, hwv⟩ : ∃ wv : World, wv = wr.drewN nq := ⟨_, rfl⟩
      rw [← hwv]
      have hbv : Below (w.heap.size + 1) (w.alloc (.cells leadRow 3)) wv := by rw [hwv]; exact Hbel.out.trans (below_drewN _ _ _)
      have Hbv := Lib.hid hbv
      clear hwv hbv hc Hbel
      go_wp2
      go_loop [8, 9] (fun n i => ∃ (j : Nat) (p : Int), 1 ≤ j ∧ j ≤ z ∧ i = .int .i64 (j : Int) ∧ n = .int .i64 p ∧ PvIs z b j p) (fun _ i => z - (intOf i).toNat)
      case atStart => exact ⟨1, _, by omega, by omega, rfl, rfl, by show _ = (b 0 : Int) - leadN z; rw [Hb0.out]⟩
      case round =>
        obtain ⟨j, p, j1, j2, rfl, rfl, hp⟩ := hrel
        have hbd := hp.bd (by rw [Hb.out]; exact fun i => bt_lt _ _) j1 (by omega)
        have p1 := hbd.1
        have p2 := hbd.2
        clear hbd
        by_cases hlt : j < z
        · have hks : k + j < s.size := by omega
          have hbj : b j = s[k + j].toNat := by rw [Hb.out, bt_at]
          have Hbj := Lib.hid hbj
          have x0 : s[k + j].toNat ≤ 255 := by have := s[k + j].toNat_lt; omega
          have e1 : ((k : Int) + (j : Int)).toNat = k + j := by omega
          have e2 : 0 ≤ (k : Int) + (j : Int) := by omega
          have e3 : (k : Int) + (j : Int) < (s.size : Int) := by omega
          have e4 : (j : Int) < (z : Int) := by omega
          clear hbj
          go_wp2
          go_round
          case rel => exact ⟨j + 1, _, by omega, by omega, by go_num, rfl, by rw [← Hbj.out]; exact hp.next j1⟩
          case measure => simp [intOf]; omega
        · obtain rfl : j = z := by omega
          clear hlt
          by_cases c1 : p < 0
          · have q1 : decide (0 ≤ p) = false := by simp; omega
            go_wp2
            go_quiet (fail)
            go_wp2
            go_roundw
            case rel => exact ⟨j + 1, by omega, by omega, by go_num, Hbv.out.trans (below_drewN _ _ _), noFit_next hno (by have := hp; rw [Hb.out] at this; exact this) (.inl c1)⟩
            case measure => simp [intOf]; omega
          · have c1' : 0 ≤ p := by omega
            have q1 : decide (0 ≤ p) = true := by simp; omega
            have e1 : IntKind.i64.wrap ((k : Int) + (j : Int)) = (k : Int) + (j : Int) := IntWalk.i64_in _ (by omega)
            have e2 : 0 ≤ (k : Int) + (j : Int) := by omega
            have e3 : ((k : Int) + (j : Int)).toNat = k + j := by omega
            have e5 : (k : Int) ≤ (k : Int) + (j : Int) := by omega
            have e6 : (k : Int) + (j : Int) ≤ (s.size : Int) := by omega
            have r1 : -9223372036854775808 ≤ p := by omega
            have r2 : p ≤ 9223372036854775807 := by omega
            cases hrb : runeB p with
            | false =>
              have Hrb := Lib.hid hrb
              clear hrb
              go_wp2
              go_quiet ((go_at_call 30; exact Calls.quiet_of_same ((refRune_any _ _ r1 r2).mono fun _ _ ⟨a, b⟩ => ⟨by rw [a, Hrb.out], b.symm⟩)))
              go_wp2
              go_roundw
              case rel => exact ⟨j + 1, by omega, by omega, by go_num, Hbv.out.trans (below_drewN _ _ _), noFit_next hno (by have := hp; rw [Hb.out] at this; exact this) (.inr (.inl Hrb.out))⟩
              case measure => simp [intOf]; omega
            | true =>
              have Hrb := Lib.hid hrb
              clear hrb
              go_wp2
              refine wp_region_quiet_below (by kernel_rfl) (by kernel_rfl) ?_
              repeat (go_big_quiet_step (first | (go_at_call 30; exact Calls.regrown_of ((refRune_any _ _ r1 r2).mono fun _ _ ⟨a, b⟩ => ⟨by rw [a, Hrb.out], by rw [← b]; exact Below.refl _ _⟩)) | (go_at_call 23; exact Calls.regrown_of (refBytes_any _ _ r1 r2))))
              refine wpQuiet_nil ?_
              intro _ hw'
              obtain ⟨⟨dq, osq⟩, hw''⟩ := hw'
              have hbg : Below wv.heap.size wv (Sort.grow (redrawn wv dq) osq) := below_regrown wv dq osq
              obtain ⟨wx, hwx⟩ : ∃ wx : World, wx = Sort.grow (redrawn wv dq) osq := ⟨_, rfl⟩
              subst hw''
              rw [← hwx] at hbg ⊢
              have hbx : Below (w.heap.size + 1) (w.alloc (.cells leadRow 3)) wx := Hbv.out.trans (hbg.mono (by have := Hbv.out.size; simpa using this))
              have Hbx := Lib.hid hbx
              clear hwx hbg hbx
              by_cases he : Utf8.encode p = s.extract k (k + j)
              · have hbq := bytes_beq_same he
                have He := Lib.hid he
                clear he
                go_wp2
                rotate_left
                · exact Bool.noConfusion (hbq.symm.trans ‹((Utf8.encode p).toList == (s.extract k (k + j)).toList) = false›)
                go_ret2
                refine ⟨?_, (((Below.refl _ w).alloc (Nat.le_refl _) _).trans (Hbx.out.mono (by omega)))⟩
                rw [Hr.out, fit_end Hrb.out He.out (by omega)]
                rfl
              · have hbq := bytes_beq_other he
                have He := Lib.hid he
                clear he
                go_wp2
                · exact Bool.noConfusion (hbq.symm.trans ‹((Utf8.encode p).toList == (s.extract k (k + j)).toList) = true›)
                go_roundw
                case rel => exact ⟨j + 1, by omega, by omega, by go_num, Hbx.out, noFit_next hno (by have := hp; rw [Hb.out] at this; exact this) (.inr (.inr He.out))⟩
                case measure => simp [intOf]; omega
    · have hz' : z = 5 ∨ (z ≤ 4 ∧ (s.size : Int) - k < z) := by omega
      have Hno := Lib.hid hno
      clear hz hno hbel
      rcases hz' with rfl | ⟨hz4, hzs⟩
      · go_wp2
        go_ret2
        refine ⟨?_, (((Below.refl _ w).alloc (Nat.le_refl _) _).trans (Hbel.out.mono (by omega)))⟩
        rw [Hr.out, fit_none h0 Hno.out (by omega)]
        rfl
      · have z3 : (z : Int) ≤ 4 := by omega
        go_wp2
        go_ret2
        refine ⟨?_, (((Below.refl _ w).alloc (Nat.le_refl _) _).trans (Hbel.out.mono (by omega)))⟩
        rw [Hr.out, fit_none h0 Hno.out (by omega)]
        rfl
end Go.Proofs.Ytahkfoaogcbecaa
