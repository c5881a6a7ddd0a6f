/-
  Contracts of nuncio/octet.Join and of its reference.
-/
import Derived.Test.YtjghnabepojddaaStrs
import Derived.Test.YtjghnabepojddaaOctHex
import Derived.Lib.AppendStr
namespace Go.Proofs.Ytjghnabepojddaa
open Go.RowKit

theorem infoU8 : (Try.prog.info? 5).map (fun i => (i.zero, i.size, i.bytes)) = some (some (.int .u8 0), 1, 1) := by kernel_rfl

/-- 'string(b)' where b owns the bytes of s. -/
theorem conv_owns {w : World} {base : Nat} {v : Value} {n : Nat} {s : ByteArray} (h : w.ownsRow base 5 1 v n (Lib.strCells s)) :
    (convert 37 9 v).run Try.prog w = .ok (.string s) w := by
  have hl := h.1
  rw [Lib.strCells_length] at hl
  rcases h.2 with ⟨rfl, h0⟩ | ⟨g, cap, cur, rfl, hb, hg, hrest⟩
  · have hs0 : s = ⟨#[]⟩ := ByteArray.ext (Array.eq_empty_of_size_eq_zero (by rw [show s.data.size = s.size from rfl]; omega))
    subst hs0
    exact run_convert_bytes_nil w 37 5 Try.underlying37 Try.underlying5 0 0 9 Try.underlying9
  · have := run_convert_bytes_back (P := Try.prog) w 37 9 5 ⟨g, 0, none⟩ cap s.data.toList Try.underlying37 Try.underlying5 Try.underlying9 (fun j hj => by
      have hc := World.ownsRow.cellAt h j (by rw [← Lib.size_eq] at hj; omega)
      rw [show (Addr.add ⟨g, 0, none⟩ j) = ⟨g, j, none⟩ from by simp [Addr.add]; omega, hc]
      unfold Lib.strCells
      rw [List.getElem?_map, List.getElem?_eq_getElem hj]
      rfl)
    rw [← Lib.size_eq, show s.size = n from by omega] at this
    rw [this]

theorem empty_app (y : ByteArray) : (⟨#[]⟩ : ByteArray) ++ y = y := bytes_ext (by rw [append_data]; rfl)
theorem strCells_app (x y : ByteArray) : Lib.strCells (x ++ y) = Lib.strCells x ++ Lib.strCells y := by
  unfold Lib.strCells
  rw [append_data, List.map_append]

set_option maxHeartbeats 1000000 in
theorem refJoin_any (v : Value) (l : List ByteArray) (b : ByteArray) (w : World) (hv : IsStrs w v l) (hl : l.length ≤ 1000000000000) (hsz : (joinB b l).size ≤ 100000000000000) (hb : b.size ≤ 100000000000000) (hel : ∀ x ∈ l, x.size ≤ 100000000000000) :
    Calls Try.prog 25 #[v, .string b] w fun e w' => e = .returned (.string (joinB b l)) ∧ w = w' := by
  obtain ⟨R, hR⟩ : ∃ R, R = joinB b l := ⟨_, rfl⟩
  rw [← hR] at hsz ⊢
  have HR := Lib.hid hR
  clear hR
  rcases hv with ⟨ao, cap, rfl, rfl⟩ | ⟨ba, offa, capa, rfl, hlta, hca⟩
  · go_enter Try.func25, Try.ntmps25
    go_wp2
    refine wp_loop_rounds 1 ?_
    rw [rounds_succ]
    go_wp2
    go_ret
    exact ⟨by rw [HR.out]; rfl, rfl⟩
  · have Hca := Lib.hid hca
    have Hel := Lib.hid hel
    clear hca hel
    go_enter Try.func25, Try.ntmps25
    go_wp2
    go_loop [5, 6] (fun s i => ∃ (k : Nat) (x : ByteArray), k ≤ l.length ∧ i = .int .i64 (k : Int) ∧ s = .string x ∧ x = joinB b (l.take k)) (fun s i => l.length - (intOf i).toNat)
    case atStart => exact ⟨0, _, Nat.zero_le _, rfl, rfl, rfl⟩
    case round =>
      obtain ⟨k, x, hk, rfl, rfl, hx⟩ := hrel
      have hle := joinB_size_le b l k hk
      rw [← hx, ← HR.out] at hle
      have Hx := Lib.hid hx
      clear hx
      by_cases hlt : k < l.length
      · have c1 := Hca.out k hlt
        obtain ⟨y, hy⟩ : ∃ y, y = l[k] := ⟨_, rfl⟩
        have hys : y.size ≤ 100000000000000 := by rw [hy]; exact Hel.out _ (List.getElem_mem hlt)
        rw [← hy] at c1
        have Hy := Lib.hid hy
        clear hy
        by_cases h0 : 0 < k
        · have hss : x.size + b.size ≤ 9223372036854775807 := by omega
          have hss2 : (x ++ b).size + y.size ≤ 9223372036854775807 := by rw [ByteArray.size_append]; omega
          go_wp2
          go_round
          case rel => exact ⟨k + 1, _, by omega, by go_num, rfl, by rw [joinB_succ b l k hlt h0, ← Hx.out, ← Hy.out]⟩
          case measure => simp [intOf]; omega
        · obtain rfl : k = 0 := by omega
          have hx0 : x = ⟨#[]⟩ := by rw [Hx.out, joinB_zero]
          subst hx0
          rw [Nat.add_zero] at c1
          go_wp2
          go_round
          case rel => exact ⟨0 + 1, y, by omega, by go_num, by rw [empty_app], by rw [joinB_first b l hlt, ← Hy.out]⟩
          case measure => simp [intOf]; omega
      · obtain rfl : k = l.length := by omega
        go_wp2
        go_ret
        exact ⟨by rw [HR.out, Hx.out, List.take_length]; rfl, rfl⟩

set_option maxHeartbeats 1000000 in
theorem octJoin_any (v : Value) (l : List ByteArray) (b : ByteArray) (w : World) (hv : IsStrs w v l) (hl : l.length ≤ 1000000000000) (hsz : (joinB b l).size ≤ 100000000000000) (hb : b.size ≤ 100000000000000) :
    Calls Try.prog 24 #[v, .string b] w fun e w' => e = .returned (.string (joinB b l)) ∧ Below w.heap.size w w' := by
  obtain ⟨i0, hi, hz0, hz1, hz2⟩ := info_parts infoU8
  obtain ⟨R, hR⟩ : ∃ R, R = joinB b l := ⟨_, rfl⟩
  rw [← hR] at hsz ⊢
  have HR := Lib.hid hR
  clear hR
  rcases hv with ⟨ao, cap, rfl, rfl⟩ | ⟨ba, offa, capa, rfl, hlta, hca⟩
  · have kc := fun W => conv_owns (s := ⟨#[]⟩) (World.ownsRow_nil W 0 5 1)
    go_enter Try.func24, Try.ntmps24
    go_wp2
    refine wp_loop_rounds 1 ?_
    rw [rounds_succ]
    go_wp2
    go_ret
    exact ⟨by rw [HR.out]; rfl, Below.refl _ _⟩
  · have Hca := Lib.hid hca
    clear hca
    go_enter Try.func24, Try.ntmps24
    go_wp2
    go_loopw [5, 10] (fun out i wr => ∃ (k : Nat) (x : ByteArray), k ≤ l.length ∧ i = .int .i64 (k : Int) ∧ wr.ownsRow w.heap.size 5 1 out x.size (Lib.strCells x) ∧ x = joinB b (l.take k) ∧ Below w.heap.size w wr) (fun out i wr => l.length - (intOf i).toNat)
    case atStart => exact ⟨0, ⟨#[]⟩, Nat.zero_le _, rfl, World.ownsRow_nil _ _ _ _, rfl, Below.refl _ _⟩
    case round =>
      obtain ⟨k, x, hk, rfl, hown, hx, hB⟩ := hrel
      have hle := joinB_size_le b l k hk
      have hsB := hB.size
      rw [← hx, ← HR.out] at hle
      have Hx := Lib.hid hx
      clear hx
      by_cases hlt : k < l.length
      · have c1 := (hB.cell (p := ⟨ba, offa + k, none⟩) hlta).trans (Hca.out k hlt)
        obtain ⟨y, hy⟩ : ∃ y, y = l[k] := ⟨_, rfl⟩
        rw [← hy] at c1
        have hstep := joinB_size_le b l (k + 1) (by omega)
        rw [← HR.out] at hstep
        by_cases h0 : 0 < k
        · rw [joinB_succ b l k hlt h0, ← hy, ← Hx.out, ByteArray.size_append, ByteArray.size_append] at hstep
          have Hy := Lib.hid hy
          clear hy
          have hm1 : x.size + b.size ≤ maxLen := by unfold maxLen; omega
          have hm2 : x.size + b.size + y.size ≤ maxLen := by unfold maxLen; omega
          go_wp2_with (first | (at_builtin; refine Lib.wpList_append_own_string _ rfl (.tmp 17) (.tmp 18) 37 9 rfl w.heap.size 5 i0 Try.underlying37 Try.underlying9 hi hz0 hz1 hz2 _ _ _ rfl hown b rfl hm1 (by omega) hsB ?_; intro v1 w1 hown1 hgrow1 _) | (at_builtin; refine Lib.wpList_append_own_string _ rfl (.tmp 20) (.tmp 21) 37 9 rfl w.heap.size 5 i0 Try.underlying37 Try.underlying9 hi hz0 hz1 hz2 _ _ _ rfl hown1 y rfl hm2 (by omega) (Nat.le_trans hsB hgrow1.size) ?_; intro v2 w2 hown2 hgrow2 _))
          have hB1 := hB.grown hgrow1 hsB (fun j ej => (hown.lt j ej).1)
          have hB2 := hB1.grown hgrow2 hB1.size (fun j ej => (hown1.lt j ej).1)
          go_roundw
          case rel => exact ⟨k + 1, x ++ b ++ y, by omega, by go_num, by rw [strCells_app, strCells_app, ByteArray.size_append, ByteArray.size_append]; exact hown2, by rw [joinB_succ b l k hlt h0, ← Hx.out, ← Hy.out], hB2⟩
          case measure => simp [intOf]; omega
        · obtain rfl : k = 0 := by omega
          have hx0 : x = ⟨#[]⟩ := by rw [Hx.out, joinB_zero]
          subst hx0
          rw [Nat.add_zero] at c1
          rw [joinB_first b l hlt, ← hy] at hstep
          have Hy := Lib.hid hy
          clear hy
          have hm1 : (⟨#[]⟩ : ByteArray).size + y.size ≤ maxLen := by rw [show (⟨#[]⟩ : ByteArray).size = 0 from rfl]; unfold maxLen; omega
          have hm2 : (⟨#[]⟩ : ByteArray).size + y.size ≤ 140737488355328 := by rw [show (⟨#[]⟩ : ByteArray).size = 0 from rfl]; omega
          go_wp2_with (at_builtin; refine Lib.wpList_append_own_string _ rfl (.tmp 20) (.tmp 21) 37 9 rfl w.heap.size 5 i0 Try.underlying37 Try.underlying9 hi hz0 hz1 hz2 _ _ _ rfl hown y rfl hm1 hm2 hsB ?_; intro v2 w2 hown2 hgrow2 _)
          have hB2 := hB.grown hgrow2 hsB (fun j ej => (hown.lt j ej).1)
          go_roundw
          case rel => exact ⟨0 + 1, y, by omega, by go_num, by have h := hown2; rw [show (⟨#[]⟩ : ByteArray).size = 0 from rfl, Nat.zero_add] at h; exact h, by rw [joinB_first b l hlt, ← Hy.out], hB2⟩
          case measure => simp [intOf]; omega
      · obtain rfl : k = l.length := by omega
        have kc := conv_owns hown
        go_wp2
        go_ret
        exact ⟨by rw [HR.out, Hx.out, List.take_length]; rfl, hB⟩
end Go.Proofs.Ytjghnabepojddaa
