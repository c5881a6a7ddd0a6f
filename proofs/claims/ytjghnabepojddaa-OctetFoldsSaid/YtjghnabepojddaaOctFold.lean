/-
  Contracts of nuncio/octet's Fold and Alike and of their references.
-/
import Derived.Test.YtjghnabepojddaaPlainFold
import Derived.Test.YtjghnabepojddaaOctJoin
import Derived.BigQuiet
import Derived.Deep.QuietTactic
namespace Go.Proofs.Ytjghnabepojddaa
open Go.RowKit

set_option maxHeartbeats 400000 in
theorem small_any (c : Int) (w : World) (h0 : 0 ≤ c) (h1 : c ≤ 255) :
    Calls Try.prog 34 #[.int .u8 c] w fun e w' => e = .returned (.int .u8 (smallI c)) ∧ w = w' := by
  obtain ⟨v, hv⟩ : ∃ v, v = smallI c := ⟨_, rfl⟩
  rw [← hv]
  have Hv := Lib.hid hv
  clear hv
  by_cases a1 : c < 65
  · go_enter Try.func34, Try.ntmps34
    go_wp2
    go_ret
    exact ⟨by rw [Hv.out]; unfold smallI; rw [if_neg (by omega)]; rfl, rfl⟩
  · by_cases a2 : 90 < c
    · go_enter Try.func34, Try.ntmps34
      go_wp2
      go_ret
      exact ⟨by rw [Hv.out]; unfold smallI; rw [if_neg (by omega)]; rfl, rfl⟩
    · have a3 : 65 ≤ c := by omega
      have a4 : c ≤ 90 := by omega
      go_enter Try.func34, Try.ntmps34
      go_wp2
      go_ret
      refine ⟨?_, rfl⟩
      rw [Hv.out]; unfold smallI; rw [if_pos (by omega), show c + 32 = c - 65 + 97 from by omega]; rfl

theorem foldConv (w : World) (s : ByteArray) :
    (convert 37 9 (.slice (some ⟨w.heap.size, 0, none⟩) s.size s.size)).run Try.prog (w.alloc (.cells (foldRow s s.size) 5)) = .ok (.string (foldB s)) (w.alloc (.cells (foldRow s s.size) 5)) := by
  have := run_convert_bytes_back (P := Try.prog) (w.alloc (.cells (foldRow s s.size) 5)) 37 9 5 ⟨w.heap.size, 0, none⟩ s.size (foldB s).data.toList Try.underlying37 Try.underlying5 Try.underlying9 (fun j hj => by
    rw [show (Addr.add ⟨w.heap.size, 0, none⟩ j) = ⟨w.heap.size, j, none⟩ from by simp [Addr.add]; omega]
    unfold World.cell?
    dsimp only
    rw [heap_alloc_new, foldRow_end]
    simp only []
    rw [List.getElem?_toArray]
    unfold Lib.strCells
    rw [List.getElem?_map, List.getElem?_eq_getElem hj]
    rfl)
  rw [← Lib.size_eq, foldB_size] at this
  exact this

set_option maxHeartbeats 1000000 in
theorem octFold_any (s : ByteArray) (w : World) (hs : s.size ≤ 100000000000000) :
    Calls Try.prog 18 #[.string s] w fun e w' => e = .returned (.string (foldB s)) ∧ Below w.heap.size w w' := by
  obtain ⟨i0, hi, hz0, hz1, hz2⟩ := info_parts infoU8
  have hmk : (Instr.makeSlice 37 (.int .i64 (s.size : Int)) (.int .i64 (s.size : Int))).run Try.prog w = .ok (.slice (some ⟨w.heap.size, 0, none⟩) s.size s.size) (w.alloc (.cells (foldRow s 0) 5)) := by
    have h := run_make (P := Try.prog) w 37 5 i0 (.int .u8 0) Try.underlying37 hi hz0 .i64 .i64 (s.size : Int) (s.size : Int) (by omega) (by omega) (by rw [hz2]; omega) (by omega)
    rw [foldRow_zero]
    simp only [Int.toNat_natCast] at h
    have e : madeCells (Value.int IntKind.u8 0).cells (s.size * i0.size) = Array.replicate s.size (Value.int .u8 0) := by
      rw [hz1, Nat.mul_one]
      apply Array.toList_inj.1
      rw [show (Value.int IntKind.u8 0).cells = #[Value.int .u8 0] from rfl, toList_madeCells_one]
      simp
    rw [h, e]
  go_enter Try.func18, Try.ntmps18
  go_wp2
  go_loopw [10] (fun i wr => ∃ k : Nat, k ≤ s.size ∧ i = .int .i64 (k : Int) ∧ wr = w.alloc (.cells (foldRow s k) 5)) (fun i wr => s.size - (intOf i).toNat)
  case atStart => exact ⟨0, Nat.zero_le _, rfl, rfl⟩
  case round =>
    obtain ⟨k, hk, rfl, rfl⟩ := hrel
    by_cases hlt : k < s.size
    · have u0 : s[k].toNat ≤ 255 := by have := s[k].toNat_lt; omega
      have hset := foldRow_set s k hlt
      have hat := foldRow_at s k hlt
      go_wp2_with (go_at_call 34; refine (small_any _ _ (by omega) (by omega)).mono ?_; rintro e w' ⟨rfl, rfl⟩)
      go_roundw
      case rel => exact ⟨k + 1, by omega, by go_num, rfl⟩
      case measure => simp [intOf]; omega
    · obtain rfl : k = s.size := by omega
      have kc := foldConv w s
      go_wp2
      go_ret
      exact ⟨rfl, (Below.refl _ _).alloc (Nat.le_refl _) _⟩

set_option maxHeartbeats 1000000 in
theorem refFold_any (s : ByteArray) (w : World) (hs : s.size ≤ 100000000000000) :
    Calls Try.prog 19 #[.string s] w fun e w' => e = .returned (.string (foldB s)) ∧ Below w.heap.size w w' := by
  obtain ⟨i0, hi, hz0, hz1, hz2⟩ := info_parts infoU8
  have hF := foldB_size s
  have HF := Lib.hid hF
  clear hF
  have hl : (Lib.strCells (foldB s)).length = s.size := by rw [Lib.strCells_length, HF.out]
  have Hl := Lib.hid hl
  clear hl
  go_enter Try.func19, Try.ntmps19
  go_wp2
  go_loopw [3, 4] (fun out i wr => ∃ k : Nat, k ≤ s.size ∧ i = .int .i64 (k : Int) ∧ wr.ownsRow w.heap.size 5 1 out k ((Lib.strCells (foldB s)).take k) ∧ Below w.heap.size w wr) (fun out i wr => s.size - (intOf i).toNat)
  case atStart => exact ⟨0, Nat.zero_le _, rfl, World.ownsRow_made w #[] 0 (Nat.le_refl _) (by unfold maxLen; omega) rfl, (Below.refl _ _).alloc (Nat.le_refl _) _⟩
  case round =>
    obtain ⟨k, hk, rfl, hown, hB⟩ := hrel
    have hsB := hB.size
    by_cases hlt : k < s.size
    · have u0 : s[k].toNat ≤ 255 := by have := s[k].toNat_lt; omega
      have hnew := foldCells_at s k hlt
      have hml : k + 1 ≤ maxLen := by unfold maxLen; omega
      have hsn : (Lib.strCells (foldB s)).take (k + 1) = (Lib.strCells (foldB s)).take k ++ [Value.int .u8 (smallI (s[k].toNat : Int))] := by
        rw [List.take_add_one, hnew]; rfl
      have Hsn := Lib.hid hsn
      clear hsn hnew
      by_cases hc : 65 ≤ (s[k].toNat : Int) ∧ (s[k].toNat : Int) ≤ 90
      · have hc0 := hc.1
        have hc1 := hc.2
        have hv : smallI (s[k].toNat : Int) = (s[k].toNat : Int) + 32 := by unfold smallI; rw [if_pos hc]
        have Hv := Lib.hid hv
        clear hv hc
        go_wp2_with (at_builtin; refine wpList_append_own _ rfl _ _ 37 rfl w.heap.size 5 i0 (.int .u8 0) 1 1 Try.underlying37 hi hz0 hz1 hz2 rfl (by decide) _ _ _ rfl (hown.alloc _) ⟨wr.heap.size, 0, none⟩ 1 1 [.int .u8 ((s[k].toNat : Int) + 32)] rfl rfl (cell_one_new _ _ _) (by simp [Value.oneCell']) hml (by omega) (by simp; omega) ?_; intro v1 w1 hown1 hgrow1 _)
        have hB1 := (hB.alloc hsB _).grown hgrow1 (by simp; omega) (fun j ej => (hown.lt j ej).1)
        go_roundw
        case rel => exact ⟨k + 1, by omega, by go_num, by rw [Hsn.out, Hv.out]; exact hown1, hB1⟩
        case measure => simp [intOf]; omega
      · have hv : smallI (s[k].toNat : Int) = (s[k].toNat : Int) := by unfold smallI; rw [if_neg hc]
        have Hv := Lib.hid hv
        clear hv
        by_cases hc1 : (s[k].toNat : Int) < 65
        · clear hc
          go_wp2_with (at_builtin; refine wpList_append_own _ rfl _ _ 37 rfl w.heap.size 5 i0 (.int .u8 0) 1 1 Try.underlying37 hi hz0 hz1 hz2 rfl (by decide) _ _ _ rfl (hown.alloc _) ⟨wr.heap.size, 0, none⟩ 1 1 [.int .u8 (s[k].toNat : Int)] rfl rfl (cell_one_new _ _ _) (by simp [Value.oneCell']) hml (by omega) (by simp; omega) ?_; intro v1 w1 hown1 hgrow1 _)
          have hB1 := (hB.alloc hsB _).grown hgrow1 (by simp; omega) (fun j ej => (hown.lt j ej).1)
          go_roundw
          case rel => exact ⟨k + 1, by omega, by go_num, by rw [Hsn.out, Hv.out]; exact hown1, hB1⟩
          case measure => simp [intOf]; omega
        · have hc2 : 90 < (s[k].toNat : Int) := by omega
          clear hc hc1
          go_wp2_with (at_builtin; refine wpList_append_own _ rfl _ _ 37 rfl w.heap.size 5 i0 (.int .u8 0) 1 1 Try.underlying37 hi hz0 hz1 hz2 rfl (by decide) _ _ _ rfl (hown.alloc _) ⟨wr.heap.size, 0, none⟩ 1 1 [.int .u8 (s[k].toNat : Int)] rfl rfl (cell_one_new _ _ _) (by simp [Value.oneCell']) hml (by omega) (by simp; omega) ?_; intro v1 w1 hown1 hgrow1 _)
          have hB1 := (hB.alloc hsB _).grown hgrow1 (by simp; omega) (fun j ej => (hown.lt j ej).1)
          go_roundw
          case rel => exact ⟨k + 1, by omega, by go_num, by rw [Hsn.out, Hv.out]; exact hown1, hB1⟩
          case measure => simp [intOf]; omega
    · obtain rfl : k = s.size := by omega
      rw [List.take_of_length_le (by rw [Hl.out]; exact Nat.le_refl _)] at hown
      have kc := conv_owns hown
      go_wp2
      go_ret
      exact ⟨rfl, hB⟩

theorem foldB_eq_upto {a b : ByteArray} (h : a.size = b.size) (e : ∀ k (h1 : k < a.size) (h2 : k < b.size), smallI (a[k].toNat : Int) = smallI (b[k].toNat : Int)) : foldB a = foldB b := by
  refine bytes_eq_of_at (by rw [foldB_size, foldB_size, h]) (fun k h1 h2 => ?_)
  rw [foldB_size] at h1 h2
  rw [foldB_at a k h1, foldB_at b k h2]
  apply UInt8.toNat_inj.1
  have := e k h1 h2
  rw [← small8_toNat, ← small8_toNat] at this
  omega

set_option maxHeartbeats 1000000 in
theorem octAlike_any (a b : ByteArray) (w : World) (_ha : a.size ≤ 100000000000000) (_hb : b.size ≤ 100000000000000) :
    Calls Try.prog 20 #[.string a, .string b] w fun e w' => e = .returned (.bool (decide (foldB a = foldB b))) ∧ ∃ n, w' = w.drewN n := by
  obtain ⟨B, hB⟩ : ∃ B, B = decide (foldB a = foldB b) := ⟨_, rfl⟩
  rw [← hB]
  have HB := Lib.hid hB
  clear hB
  by_cases hlen : a.size = b.size
  · have hne1 : ((a.size : Int) != (b.size : Int)) = false := by simp [hlen]
    have Hlen := Lib.hid hlen
    have hle : a.size ≤ b.size := by omega
    clear hlen
    go_enter Try.func20, Try.ntmps20
    go_wp2
    go_loopw [13] (fun i wr => ∃ (k q : Nat), k ≤ a.size ∧ i = .int .i64 (k : Int) ∧ (∀ j (h1 : j < a.size) (h2 : j < b.size), j < k → smallI (a[j].toNat : Int) = smallI (b[j].toNat : Int)) ∧ wr = w.drewN q) (fun i wr => a.size - (intOf i).toNat)
    case atStart => exact ⟨0, 0, Nat.zero_le _, rfl, fun j _ _ h => absurd h (by omega), rfl⟩
    case round =>
      obtain ⟨k, q, hk, rfl, htk, hwr⟩ := hrel
      have Htk := Lib.hid htk
      have Hwr := Lib.hid hwr
      clear htk hwr
      by_cases hlt : k < a.size
      · have hltb : k < b.size := by omega
        have u0 : a[k].toNat ≤ 255 := by have := a[k].toNat_lt; omega
        have u1 : b[k].toNat ≤ 255 := by have := b[k].toNat_lt; omega
        by_cases he : smallI (a[k].toNat : Int) = smallI (b[k].toNat : Int)
        · have he1 : (smallI (a[k].toNat : Int) == smallI (b[k].toNat : Int)) = true := by simp [he]
          have he2 : (smallI (a[k].toNat : Int) != smallI (b[k].toNat : Int)) = false := by simp [he]
          have He := Lib.hid he
          clear he
          go_wp2
          go_quiet ((go_at_call 34; exact Calls.quiet_of_same ((small_any _ _ (by omega) (by omega)).mono fun _ _ ⟨a, b⟩ => ⟨a, b.symm⟩)))
          go_wp2
          go_roundw
          case rel => exact ⟨k + 1, q + nq, by omega, by go_num, fun j h1 h2 hj => by
            by_cases hjk : j = k
            · subst hjk; exact He.out
            · exact Htk.out j h1 h2 (by omega), by rw [Hwr.out, World.drewN_drewN]⟩
          case measure => simp [intOf]; omega
        · have he1 : (smallI (a[k].toNat : Int) == smallI (b[k].toNat : Int)) = false := by simp [he]
          have he2 : (smallI (a[k].toNat : Int) != smallI (b[k].toNat : Int)) = true := by simp [he]
          have He := Lib.hid he
          clear he
          go_wp2
          go_quiet ((go_at_call 34; exact Calls.quiet_of_same ((small_any _ _ (by omega) (by omega)).mono fun _ _ ⟨a, b⟩ => ⟨a, b.symm⟩)))
          go_wp2
          go_ret
          refine ⟨?_, q + nq, by rw [Hwr.out, World.drewN_drewN]⟩
          have hne : ¬ foldB a = foldB b := fun e => He.out (by
            have h1 := foldB_at a k hlt (by rw [foldB_size]; exact hlt)
            have h2 := foldB_at b k hltb (by rw [foldB_size]; exact hltb)
            rw [← small8_toNat, ← small8_toNat, ← h1, ← h2]
            simp only [e])
          rw [HB.out, decide_eq_false hne]
          rfl
      · obtain rfl : k = a.size := by omega
        go_wp2
        go_ret
        refine ⟨?_, q, Hwr.out⟩
        have hab : foldB a = foldB b := foldB_eq_upto Hlen.out (fun j h1 h2 => Htk.out j h1 h2 h1)
        rw [HB.out, decide_eq_true hab]
        rfl
  · have hne1 : ((a.size : Int) != (b.size : Int)) = true := by rw [bne_iff_ne]; omega
    have hne : ¬ foldB a = foldB b := fun e => hlen (by rw [← foldB_size a, ← foldB_size b, e])
    have hBf : B = false := by rw [HB.out]; exact decide_eq_false hne
    have HBf := Lib.hid hBf
    clear hBf hne hlen
    go_enter Try.func20, Try.ntmps20
    go_wp2
    go_ret
    exact ⟨by rw [HBf.out]; rfl, 0, rfl⟩
end Go.Proofs.Ytjghnabepojddaa
