/-
  The walk of nunciolaw02.UtfRunes.
-/
import Derived.Test.YtpeplejpcdadgaaRow
import Derived.Test.YtpeplejpcdadgaaUtfRunes
import Derived.Test.YtpeplejpcdadgaaUtfCount
import Derived.Test.YtpeplejpcdadgaaUtfAwake
import Derived.OpenShut
namespace Go.Proofs.Ytpeplejpcdadgaa
open Go.RowKit

def i32V (x : Nat × Nat) : Value := .int .i32 (x.1 : Int)
/-- The bytes of the first k steps' runes. -/
def backN (l : List (Nat × Nat)) (k : Nat) : ByteArray := ⟨((l.take k).flatMap fun x => encL x.1).toArray⟩
theorem backN_succ (l : List (Nat × Nat)) (k : Nat) (h : k < l.length) (hr : isRune l[k].1) : backN l (k + 1) = backN l k ++ Utf8.encode (l[k].1 : Int) := by
  refine bytes_ext ?_
  rw [append_data', encode_rune _ hr]
  unfold backN
  rw [List.take_succ_eq_append_getElem h, List.flatMap_append]
  simp
theorem backN_len (l : List (Nat × Nat)) (k : Nat) : (backN l k).size ≤ 4 * k := by
  have h : ∀ t : List (Nat × Nat), (t.flatMap fun x => encL x.1).length ≤ 4 * t.length := by
    intro t
    induction t with
    | nil => simp
    | cons x t ih =>
      have : (encL x.1).length ≤ 4 := by rw [encL_len]; split <;> (try split) <;> (try split) <;> omega
      rw [List.flatMap_cons, List.length_append, List.length_cons]
      omega
  have := h (l.take k)
  rw [List.length_take] at this
  unfold backN
  rw [Lib.size_eq]
  show ((l.take k).flatMap fun x => encL x.1).length ≤ 4 * k
  omega

set_option maxRecDepth 100000 in
set_option maxHeartbeats 2000000 in
theorem utfRunes_walk (s : ByteArray) (w0 : s.size ≤ maxLen) (w : World) :
    Calls Try.prog 5 #[.string s] w fun e w' => e = .returned (.bool true) ∧ Below w.heap.size w w' := by
  go_enter Try.func5, Try.ntmps5
  go_wp2_with fail
  refine (few_any _ _ w0).mono ?_
  rintro e w' ⟨⟨t, rfl, ht⟩, rfl⟩
  obtain ⟨L, hL⟩ : ∃ L, L = stps t.data.toList := ⟨_, rfl⟩
  have hLl : L.length ≤ 400 := by rw [hL]; have := stps_len _ t.data.toList (Nat.le_refl _); simp at this; omega
  have hLr : ∀ x ∈ L, isRune x.1 := by rw [hL]; exact stps_runes _
  have HL := Lib.hid hL
  have HLr := Lib.hid hLr
  clear hL hLr
  go_wp2_with fail
  refine (utfRunes_any t _ (by omega)).mono ?_
  rw [← HL.out]
  rintro e w1 ⟨v1, rfl, hown1, hb1⟩
  have hrow1 := IsRow.of_owns (xs := L.map i32V) hown1 (by simp)
  go_wp2_with fail
  refine (refRunes_any t _ (by omega)).mono ?_
  rw [← HL.out]
  rintro e w2 ⟨v2, rfl, hown2, hb2⟩
  have hrow2 := IsRow.of_owns (xs := L.map intV) hown2 (by simp)
  obtain ⟨N, hN⟩ : ∃ N, N = L.length := ⟨_, rfl⟩
  rw [← hN] at hLl
  have hb12 := hb1.trans (hb2.mono hb1.size)
  have Hb12 := Lib.hid hb12
  have HN := Lib.hid hN
  clear hb12
  cases hok : okL t.data.toList with
  | true =>
    have Hok := Lib.hid hok
    have hback : backN L N = t := by
      unfold backN
      rw [hN, List.take_length]
      refine bytes_ext ?_
      rw [HL.out]
      exact (ok_back _ hok).1
    have Hback := Lib.hid hback
    clear hok hback
    by_cases h0 : L = []
    · have hN0 : N = 0 := by rw [hN, h0]; rfl
      subst hN0
      obtain ⟨a1, cap1, hv1⟩ := hrow1.form
      obtain ⟨a2, cap2, hv2⟩ := hrow2.form
      rw [List.length_map, ← hN] at hv1 hv2
      subst hv1 hv2
      clear hrow1 hrow2 hown1 hown2 hN h0
      have ht0 : t = ⟨#[]⟩ := by rw [← Hback.out]; rfl
      have hbq0 := bytes_beq_same ht0.symm
      have hbq1 : t.toList.isEmpty = true := by rw [ht0, Lib.toList_data]; rfl
      clear ht0
      go_wp2_with fail
      refine (utfCount_any t _ (by omega)).mono ?_
      rw [← HL.out, ← HN.out]
      rintro e w3 ⟨rfl, hb3⟩
      go_wp2_with fail
      refine (utfIs_any t _ (by omega)).mono ?_
      rw [Hok.out]
      rintro e w4 ⟨rfl, hb4⟩
      go_wp2_with fail
      refine (refIs_any t _ (by omega)).mono ?_
      rw [Hok.out]
      rintro e w5 ⟨rfl, hb5⟩
      have hb25 := (hb3.trans (hb4.mono hb3.size)).trans (hb5.mono (hb3.trans (hb4.mono hb3.size)).size)
      go_wp2
      refine wp_loop_rounds 1 ?_
      rw [rounds_succ]
      go_wp2_with fail
      refine (refIs_any t _ (by omega)).mono ?_
      rw [Hok.out]
      rintro e w6 ⟨rfl, hb6⟩
      go_wp2_with fail
      refine (awake_any _).mono ?_
      rintro e w8 ⟨rfl, hb8⟩
      go_wp2_with fail
      go_ret
      refine ⟨rfl, ?_⟩
      have h5 := Hb12.out.trans (hb25.mono Hb12.out.size)
      have h6 := h5.trans (hb6.mono h5.size)
      exact h6.trans (hb8.mono h6.size)
    · obtain ⟨b1, cap1, hv1, hlt1, hc1⟩ := hrow1.some (by simpa using h0)
      obtain ⟨b2, cap2, hv2, hlt2, hc2⟩ := hrow2.some (by simpa using h0)
      rw [List.length_map, ← hN] at hv1 hv2
      subst hv1 hv2
      have Hc1 := Lib.hid (cells_below hlt1 hc1 hb2)
      have Hc2 := Lib.hid hc2
      have hlt1' : b1 < w2.heap.size := Nat.lt_of_lt_of_le hlt1 hb2.size
      clear hrow1 hrow2 hown1 hown2 hc1 hc2 hN h0 hb1 hb2
      go_wp2_with fail
      refine (utfCount_any t _ (by omega)).mono ?_
      rw [← HL.out, ← HN.out]
      rintro e w3 ⟨rfl, hb3⟩
      go_wp2_with fail
      refine (utfIs_any t _ (by omega)).mono ?_
      rw [Hok.out]
      rintro e w4 ⟨rfl, hb4⟩
      go_wp2_with fail
      refine (refIs_any t _ (by omega)).mono ?_
      rw [Hok.out]
      rintro e w5 ⟨rfl, hb5⟩
      have hb25 := (hb3.trans (hb4.mono hb3.size)).trans (hb5.mono (hb3.trans (hb4.mono hb3.size)).size)
      have Hd1 := Lib.hid (cells_below hlt1' Hc1.out hb25)
      have Hd2 := Lib.hid (cells_below hlt2 Hc2.out hb25)
      go_wp2
      go_loopw [2, 5, 6] (fun _ back i wr => ∃ (k q : Nat) (x : ByteArray), k ≤ N ∧ i = .int .i64 (k : Int) ∧ back = .string x ∧ Hid (x = backN L k) ∧ Hid (wr = w5.drewN q)) (fun _ _ i _ => N - (intOf i).toNat)
      case atStart => exact ⟨0, 0, ⟨#[]⟩, Nat.zero_le _, rfl, rfl, Lib.hid rfl, Lib.hid rfl⟩
      case round =>
        obtain ⟨k, q, x, hk, rfl, rfl, Hx, Hwr⟩ := hrel
        have hxl : x.size ≤ 4 * k := by rw [Hx.out]; exact backN_len L k
        by_cases hlt : k < N
        · have hkL : k < L.length := by rw [← HN.out]; exact hlt
          obtain ⟨r, hr⟩ : ∃ r, r = L[k].1 := ⟨_, rfl⟩
          have c1 : wr.cell? ⟨b1, k, none⟩ = some (.int .i32 (r : Int)) := by
            rw [Hwr.out]
            have := Hd1.out k (by simpa using hkL)
            rw [List.getElem_map] at this
            rw [hr]
            exact this
          have c2 : wr.cell? ⟨b2, k, none⟩ = some (.int .i64 (r : Int)) := by
            rw [Hwr.out]
            have := Hd2.out k (by simpa using hkL)
            rw [List.getElem_map] at this
            rw [hr]
            exact this
          have hrr := HLr.out L[k] (List.getElem_mem hkL)
          have hr2 : (r : Int) ≤ 1114111 := by rw [hr]; unfold isRune at hrr; omega
          obtain ⟨y, hy⟩ : ∃ y, y = Utf8.encode (r : Int) := ⟨_, rfl⟩
          have hyl : y.size ≤ 4 := by rw [hy]; exact encode_size _
          have hnext : x ++ y = backN L (k + 1) := by rw [backN_succ L k hkL hrr, Hx.out, hy, hr]
          have hsum : x.size + y.size ≤ 9223372036854775807 := by omega
          have Hy := Lib.hid hy
          have Hnext := Lib.hid hnext
          clear hr hrr hy hnext
          go_wp2
          go_quiet (fail)
          go_wp2_with (go_at_call 12; refine (utfBytes_any (r : Int) _).mono ?_; rw [← Hy.out]; rintro e w' ⟨rfl, rfl⟩)
          go_roundw
          case rel => exact ⟨k + 1, q + nq, x ++ y, by omega, by go_num, rfl, Hnext, Lib.hid (by rw [Hwr.out, World.drewN_drewN])⟩
          case measure => simp [intOf]; omega
        · obtain rfl : k = N := by omega
          have hbqx : (x.toList == t.toList) = true := bytes_beq_same (by rw [Hx.out, Hback.out])
          go_wp2_with fail
          refine (refIs_any t _ (by omega)).mono ?_
          rw [Hok.out]
          rintro e w6 ⟨rfl, hb6⟩
          go_wp2_with fail
          refine (awake_any _).mono ?_
          rintro e w8 ⟨rfl, hb8⟩
          go_wp2_with fail
          go_ret
          refine ⟨rfl, ?_⟩
          have h5 := Hb12.out.trans (hb25.mono Hb12.out.size)
          have h5' : Below w.heap.size w wr := by rw [Hwr.out]; exact h5.trans (below_drewN _ _ _)
          have h6 := h5'.trans (hb6.mono h5'.size)
          exact h6.trans (hb8.mono h6.size)
  | false =>
    have Hok := Lib.hid hok
    clear hok
    by_cases h0 : L = []
    · have hN0 : N = 0 := by rw [hN, h0]; rfl
      subst hN0
      obtain ⟨a1, cap1, hv1⟩ := hrow1.form
      obtain ⟨a2, cap2, hv2⟩ := hrow2.form
      rw [List.length_map, ← hN] at hv1 hv2
      subst hv1 hv2
      clear hrow1 hrow2 hown1 hown2 hN h0
      go_wp2_with fail
      refine (utfCount_any t _ (by omega)).mono ?_
      rw [← HL.out, ← HN.out]
      rintro e w3 ⟨rfl, hb3⟩
      go_wp2_with fail
      refine (utfIs_any t _ (by omega)).mono ?_
      rw [Hok.out]
      rintro e w4 ⟨rfl, hb4⟩
      go_wp2_with fail
      refine (refIs_any t _ (by omega)).mono ?_
      rw [Hok.out]
      rintro e w5 ⟨rfl, hb5⟩
      have hb25 := (hb3.trans (hb4.mono hb3.size)).trans (hb5.mono (hb3.trans (hb4.mono hb3.size)).size)
      go_wp2
      refine wp_loop_rounds 1 ?_
      rw [rounds_succ]
      go_wp2_with fail
      refine (refIs_any t _ (by omega)).mono ?_
      rw [Hok.out]
      rintro e w6 ⟨rfl, hb6⟩
      go_wp2_with fail
      refine (awake_any _).mono ?_
      rintro e w8 ⟨rfl, hb8⟩
      go_wp2_with fail
      go_ret
      refine ⟨rfl, ?_⟩
      have h5 := Hb12.out.trans (hb25.mono Hb12.out.size)
      have h6 := h5.trans (hb6.mono h5.size)
      exact h6.trans (hb8.mono h6.size)
    · obtain ⟨b1, cap1, hv1, hlt1, hc1⟩ := hrow1.some (by simpa using h0)
      obtain ⟨b2, cap2, hv2, hlt2, hc2⟩ := hrow2.some (by simpa using h0)
      rw [List.length_map, ← hN] at hv1 hv2
      subst hv1 hv2
      have Hc1 := Lib.hid (cells_below hlt1 hc1 hb2)
      have Hc2 := Lib.hid hc2
      have hlt1' : b1 < w2.heap.size := Nat.lt_of_lt_of_le hlt1 hb2.size
      clear hrow1 hrow2 hown1 hown2 hc1 hc2 hN h0 hb1 hb2
      go_wp2_with fail
      refine (utfCount_any t _ (by omega)).mono ?_
      rw [← HL.out, ← HN.out]
      rintro e w3 ⟨rfl, hb3⟩
      go_wp2_with fail
      refine (utfIs_any t _ (by omega)).mono ?_
      rw [Hok.out]
      rintro e w4 ⟨rfl, hb4⟩
      go_wp2_with fail
      refine (refIs_any t _ (by omega)).mono ?_
      rw [Hok.out]
      rintro e w5 ⟨rfl, hb5⟩
      have hb25 := (hb3.trans (hb4.mono hb3.size)).trans (hb5.mono (hb3.trans (hb4.mono hb3.size)).size)
      have Hd1 := Lib.hid (cells_below hlt1' Hc1.out hb25)
      have Hd2 := Lib.hid (cells_below hlt2 Hc2.out hb25)
      go_wp2
      go_loopw [2, 5, 6] (fun _ back i wr => ∃ (k q : Nat) (x : ByteArray), k ≤ N ∧ i = .int .i64 (k : Int) ∧ back = .string x ∧ Hid (x = backN L k) ∧ Hid (wr = w5.drewN q)) (fun _ _ i _ => N - (intOf i).toNat)
      case atStart => exact ⟨0, 0, ⟨#[]⟩, Nat.zero_le _, rfl, rfl, Lib.hid rfl, Lib.hid rfl⟩
      case round =>
        obtain ⟨k, q, x, hk, rfl, rfl, Hx, Hwr⟩ := hrel
        have hxl : x.size ≤ 4 * k := by rw [Hx.out]; exact backN_len L k
        by_cases hlt : k < N
        · have hkL : k < L.length := by rw [← HN.out]; exact hlt
          obtain ⟨r, hr⟩ : ∃ r, r = L[k].1 := ⟨_, rfl⟩
          have c1 : wr.cell? ⟨b1, k, none⟩ = some (.int .i32 (r : Int)) := by
            rw [Hwr.out]
            have := Hd1.out k (by simpa using hkL)
            rw [List.getElem_map] at this
            rw [hr]
            exact this
          have c2 : wr.cell? ⟨b2, k, none⟩ = some (.int .i64 (r : Int)) := by
            rw [Hwr.out]
            have := Hd2.out k (by simpa using hkL)
            rw [List.getElem_map] at this
            rw [hr]
            exact this
          have hrr := HLr.out L[k] (List.getElem_mem hkL)
          have hr2 : (r : Int) ≤ 1114111 := by rw [hr]; unfold isRune at hrr; omega
          obtain ⟨y, hy⟩ : ∃ y, y = Utf8.encode (r : Int) := ⟨_, rfl⟩
          have hyl : y.size ≤ 4 := by rw [hy]; exact encode_size _
          have hnext : x ++ y = backN L (k + 1) := by rw [backN_succ L k hkL hrr, Hx.out, hy, hr]
          have hsum : x.size + y.size ≤ 9223372036854775807 := by omega
          have Hy := Lib.hid hy
          have Hnext := Lib.hid hnext
          clear hr hrr hy hnext
          go_wp2
          go_quiet (fail)
          go_wp2_with (go_at_call 12; refine (utfBytes_any (r : Int) _).mono ?_; rw [← Hy.out]; rintro e w' ⟨rfl, rfl⟩)
          go_roundw
          case rel => exact ⟨k + 1, q + nq, x ++ y, by omega, by go_num, rfl, Hnext, Lib.hid (by rw [Hwr.out, World.drewN_drewN])⟩
          case measure => simp [intOf]; omega
        · obtain rfl : k = N := by omega
          go_wp2_with fail
          refine (refIs_any t _ (by omega)).mono ?_
          rw [Hok.out]
          rintro e w6 ⟨rfl, hb6⟩
          go_wp2_with fail
          refine (awake_any _).mono ?_
          rintro e w8 ⟨rfl, hb8⟩
          go_wp2_with fail
          go_ret
          refine ⟨rfl, ?_⟩
          have h5 := Hb12.out.trans (hb25.mono Hb12.out.size)
          have h5' : Below w.heap.size w wr := by rw [Hwr.out]; exact h5.trans (below_drewN _ _ _)
          have h6 := h5'.trans (hb6.mono h5'.size)
          exact h6.trans (hb8.mono h6.size)
end Go.Proofs.Ytpeplejpcdadgaa
