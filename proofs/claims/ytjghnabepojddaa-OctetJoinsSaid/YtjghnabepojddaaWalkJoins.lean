/-
  The walk of nunciolaw01.OctetJoins.
-/
import Derived.Test.YtjghnabepojddaaFew
import Derived.Test.YtjghnabepojddaaOctJoin
import Derived.Test.YtjghnabepojddaaOctTrim
import Derived.Test.YtjghnabepojddaaOctBegins
import Derived.SliceStrings
import Derived.Carry
import Derived.OpenShut
namespace Go.Proofs.Ytjghnabepojddaa
open Go.RowKit

/-- What the walk is told of a slice of strings that came in. -/
def ArgStrs (w : World) (v : Value) (l : List ByteArray) : Prop :=
  (∃ ao cap, v = .slice ao 0 cap ∧ l = []) ∨ (∃ (b off cap : Nat), v = .slice (some ⟨b, off, none⟩) l.length cap ∧ 0 < l.length ∧ l.length ≤ cap ∧ cap ≤ maxLen ∧ b < w.heap.size ∧ ∀ j (h : j < l.length), w.cell? ⟨b, off + j, none⟩ = some (.string l[j]) ∧ l[j].size ≤ maxLen)

theorem addr_add (b off j : Nat) : Addr.add ⟨b, off, none⟩ j = ⟨b, off + j, none⟩ := by
  by_cases h : j = 0
  · subst h; simp [Addr.add]
  · simp [Addr.add, h]
theorem argStrs_open {H : Type} {enc : TypeId × Value → H} {W : World} {base : Nat} {v : Value} {d : DataW H} {ps : List MemPlace} (hok : Value.okWide Try.prog W .any base 33 v) (h : DataW.Trod enc Try.prog W 0 (fun _ => true) true 33 v d ps) : ∃ l, ArgStrs W v l := by
  obtain ⟨a0, len, cap, rfl⟩ := WideShapes.okWide_slice Try.underlying33 hok
  obtain ⟨fuel, hf⟩ := h
  rcases ChangeShapes.open_strings Try.underlying33 Try.underlying9 (by kernel_rfl) hf with ⟨hcs, _⟩ | ⟨x, len', cap', ss, hcs, _, hl, hm, hz, _, hcell, hws⟩
  · simp [Value.cells] at hcs
    obtain ⟨rfl, rfl, rfl⟩ := hcs
    exact ⟨[], .inl ⟨_, _, rfl, rfl⟩⟩
  · simp [Value.cells] at hcs
    obtain ⟨rfl, rfl, rfl⟩ := hcs
    simp at hz
    rcases Nat.eq_zero_or_pos len with rfl | hpos
    · exact ⟨[], .inl ⟨_, _, rfl, rfl⟩⟩
    · obtain ⟨b, off, spot⟩ := x
      have hc0 := hcell 0 (by omega)
      have hspot : spot = none := by simpa [Addr.add] using World.cell?_spot hc0
      subst hspot
      have hlt := World.block_lt_of_cell? W _ hc0
      have hlen : (ss.take len).length = len := by rw [List.length_take, hz]; omega
      refine ⟨ss.take len, .inr ⟨b, off, cap, by rw [hlen], by omega, by omega, hm, by simpa [Addr.add] using hlt, fun j hj => ?_⟩⟩
      rw [hlen] at hj
      have hc := hcell j (by omega)
      have e : (ss.take len)[j]'(by rw [hlen]; exact hj) = ss.getD j ByteArray.empty := by
        rw [List.getElem_take, List.getD_eq_getElem?_getD, List.getElem?_eq_getElem (by omega)]; rfl
      refine ⟨?_, ?_⟩
      · rw [e, ← hc, addr_add]
      · rw [e, List.getD_eq_getElem?_getD, List.getElem?_eq_getElem (by omega)]
        exact hws _ (List.getElem_mem _)

theorem joinB_bd (b : ByteArray) (l : List ByteArray) (hb : b.size ≤ 300) (hl : ∀ x ∈ l, x.size ≤ 300) : ∀ k, k ≤ l.length → (joinB b (l.take k)).size ≤ 600 * k := by
  intro k
  induction k with
  | zero => intro _; rw [joinB_zero]; exact Nat.zero_le _
  | succ k ih =>
    intro hk
    have hx := hl l[k] (List.getElem_mem _)
    rcases Nat.eq_zero_or_pos k with rfl | h0
    · rw [joinB_first b l hk]; omega
    · rw [joinB_succ b l k hk h0, ByteArray.size_append, ByteArray.size_append]
      have := ih (by omega)
      omega

set_option maxHeartbeats 4000000 in
theorem octetJoins_walk (w : World) (v : Value) (l : List ByteArray) (b s : ByteArray) (i : Int) (w0 : ArgStrs w v l) (w1 : b.size ≤ maxLen) (w2 : s.size ≤ maxLen) :
    Calls Try.prog 7 #[v, .string b, .string s, .int .i64 i] w fun e w' => e = .returned (.bool true) ∧ Below w.heap.size w w' := by
  obtain ⟨i0, hi, hz0, hz1, hz2⟩ := info_parts infoStr
  rcases w0 with ⟨ao, cap, rfl, rfl⟩ | ⟨ba, off, cap, rfl, hpos, hcap, hmax, hba, hcell⟩
  · have hB : Below w.heap.size w (w.alloc (.cells #[] 9)) := (Below.refl _ _).alloc (Nat.le_refl _) _
    have hs1 : IsStrs (w.alloc (.cells #[] 9)) (.slice (some ⟨w.heap.size, 0, none⟩) 0 0) [] := .inl ⟨_, _, rfl, rfl⟩
    obtain ⟨ms, hms0⟩ : ∃ ms : List ByteArray, ms = [] := ⟨_, rfl⟩
    rw [← hms0] at hs1
    have Hmk : Hid (ms.length = 0) := Lib.hid (by rw [hms0]; rfl)
    have Hms : Hid (∀ x ∈ ms, x.size ≤ 300) := Lib.hid (by rw [hms0]; simp)
    clear hms0
    go_enter Try.func7, Try.ntmps7
    go_wp2
    refine wp_loop_rounds 1 ?_
    rw [rounds_succ]
    go_wp2_with fail
    refine (few_any _ _ w1).mono ?_
    rintro e w' ⟨⟨tb, rfl, htb⟩, rfl⟩
    go_wp2_with fail
    refine (few_any _ _ w2).mono ?_
    rintro e w' ⟨⟨ts, rfl, hts⟩, rfl⟩
    have hjs : (joinB tb ms).size ≤ 12000 := by have := joinB_bd tb ms htb Hms.out ms.length (Nat.le_refl _); rw [List.take_length] at this; have := Hmk.out; omega
    go_wp2_with fail
    refine (octJoin_any _ ms _ _ hs1 (by have := Hmk.out; omega) (by omega) (by omega)).mono ?_
    rintro e w3 ⟨rfl, hb3⟩
    have hs3 := hs1.below hb3
    go_wp2_with fail
    refine (refJoin_any _ ms _ _ hs3 (by have := Hmk.out; omega) (by omega) (by omega) (fun x hx => by have := Hms.out x hx; omega)).mono ?_
    rintro e w' ⟨rfl, rfl⟩
    have q1 := bytes_beq_same (rfl : joinB tb ms = joinB tb ms)
    go_wp2_with fail
    refine (octTrim_any _ _ (by omega)).mono ?_
    rintro e w4 ⟨rfl, hb4⟩
    go_wp2_with fail
    refine (refTrim_any _ _ (by omega)).mono ?_
    rintro e w' ⟨rfl, rfl⟩
    have q2 := bytes_beq_same (rfl : trimB ts = trimB ts)
    go_wp2_with fail
    refine (octBegins_any _ _ _ _ (by omega) (by omega)).mono ?_
    rintro e w' ⟨rfl, rfl⟩
    go_wp2_with fail
    refine (refBegins_any _ _ _ _ (by omega) (by omega)).mono ?_
    rintro e w' ⟨rfl, rfl⟩
    go_wp2_with fail
    refine (awake_any _).mono ?_
    rintro e w5 ⟨rfl, hb5⟩
    go_wp2_with fail
    go_ret
    refine ⟨rfl, ?_⟩
    have h3 := hB.trans (hb3.mono hB.size)
    have h4 := h3.trans (hb4.mono h3.size)
    exact h4.trans (hb5.mono h4.size)
  · have Hcell := Lib.hid hcell
    clear hcell
    unfold maxLen at hmax
    by_cases h20 : 20 < l.length
    · have h20' : (20 : Int) < (l.length : Int) := by omega
      have h20c : 20 ≤ cap := by omega
      go_enter Try.func7, Try.ntmps7
      go_wp2
      go_loopw [9, 10] (fun out i wr => ∃ (k : Nat) (ms : List ByteArray), k ≤ 20 ∧ i = .int .i64 (k : Int) ∧ wr.ownsRow w.heap.size 9 1 out k (ms.map Value.string) ∧ ms.length = k ∧ (∀ x ∈ ms, x.size ≤ 300) ∧ Below w.heap.size w wr) (fun out i wr => 20 - (intOf i).toNat)
      case atStart => exact ⟨0, [], Nat.zero_le _, rfl, World.ownsRow_made w #[] 0 (Nat.le_refl _) (by unfold maxLen; omega) rfl, rfl, by simp, (Below.refl _ _).alloc (Nat.le_refl _) _⟩
      case round =>
        obtain ⟨k, ms, hk, rfl, hown, hmk, hms, hB⟩ := hrel
        have Hmk := Lib.hid hmk
        have Hms := Lib.hid hms
        have hsB := hB.size
        clear hmk hms
        by_cases hlt : k < 20
        · have hkl : k < l.length := by omega
          have c1 := (hB.cell (p := ⟨ba, off + k, none⟩) hba).trans (Hcell.out k hkl).1
          have hys := (Hcell.out k hkl).2
          obtain ⟨y, hy⟩ : ∃ y, y = l[k] := ⟨_, rfl⟩
          rw [← hy] at c1 hys
          have hml : k + 1 ≤ maxLen := by unfold maxLen; omega
          clear hy
          go_wp2_with (first | (go_at_call 8; refine (few_any _ _ hys).mono ?_; rintro e w' ⟨⟨tx, rfl, htx⟩, rfl⟩) | (at_builtin; refine wpList_append_own _ rfl _ _ 33 rfl w.heap.size 9 i0 (.string ⟨#[]⟩) 1 16 Try.underlying33 hi hz0 hz1 hz2 rfl (by decide) _ _ _ rfl (hown.alloc _) ⟨wr.heap.size, 0, none⟩ 1 1 [.string tx] rfl rfl (cell_one_new _ _ _) (by simp [Value.oneCell']) hml (by omega) (by simp; omega) ?_; intro v1 w1' hown1 hgrow1 _))
          have hB1 := (hB.alloc hsB _).grown hgrow1 (by simp; omega) (fun j ej => (hown.lt j ej).1)
          go_roundw
          case rel => exact ⟨k + 1, ms ++ [tx], by omega, by go_num, by rw [List.map_append]; exact hown1, by rw [List.length_append, Hmk.out]; rfl, fun x hx => by
            rcases List.mem_append.1 hx with h | h
            · exact Hms.out x h
            · rw [List.mem_singleton.1 h]; exact htx, hB1⟩
          case measure => simp [intOf]; omega
        · obtain rfl : k = 20 := by omega
          have hs1 := IsStrs.of_owns hown Hmk.out.symm
          go_wp2_with fail
          refine (few_any _ _ w1).mono ?_
          rintro e w' ⟨⟨tb, rfl, htb⟩, rfl⟩
          go_wp2_with fail
          refine (few_any _ _ w2).mono ?_
          rintro e w' ⟨⟨ts, rfl, hts⟩, rfl⟩
          have hjs : (joinB tb ms).size ≤ 12000 := by have := joinB_bd tb ms htb Hms.out ms.length (Nat.le_refl _); rw [List.take_length] at this; have := Hmk.out; omega
          go_wp2_with fail
          refine (octJoin_any _ ms _ _ hs1 (by have := Hmk.out; omega) (by omega) (by omega)).mono ?_
          rintro e w3 ⟨rfl, hb3⟩
          have hs3 := hs1.below hb3
          go_wp2_with fail
          refine (refJoin_any _ ms _ _ hs3 (by have := Hmk.out; omega) (by omega) (by omega) (fun x hx => by have := Hms.out x hx; omega)).mono ?_
          rintro e w' ⟨rfl, rfl⟩
          have q1 := bytes_beq_same (rfl : joinB tb ms = joinB tb ms)
          go_wp2_with fail
          refine (octTrim_any _ _ (by omega)).mono ?_
          rintro e w4 ⟨rfl, hb4⟩
          go_wp2_with fail
          refine (refTrim_any _ _ (by omega)).mono ?_
          rintro e w' ⟨rfl, rfl⟩
          have q2 := bytes_beq_same (rfl : trimB ts = trimB ts)
          go_wp2_with fail
          refine (octBegins_any _ _ _ _ (by omega) (by omega)).mono ?_
          rintro e w' ⟨rfl, rfl⟩
          go_wp2_with fail
          refine (refBegins_any _ _ _ _ (by omega) (by omega)).mono ?_
          rintro e w' ⟨rfl, rfl⟩
          go_wp2_with fail
          refine (awake_any _).mono ?_
          rintro e w5 ⟨rfl, hb5⟩
          go_wp2_with fail
          go_ret
          refine ⟨rfl, ?_⟩
          have h3 := hB.trans (hb3.mono hB.size)
          have h4 := h3.trans (hb4.mono h3.size)
          exact h4.trans (hb5.mono h4.size)
    · have h20' : (l.length : Int) ≤ 20 := by omega
      go_enter Try.func7, Try.ntmps7
      go_wp2
      go_loopw [9, 10] (fun out i wr => ∃ (k : Nat) (ms : List ByteArray), k ≤ l.length ∧ i = .int .i64 (k : Int) ∧ wr.ownsRow w.heap.size 9 1 out k (ms.map Value.string) ∧ ms.length = k ∧ (∀ x ∈ ms, x.size ≤ 300) ∧ Below w.heap.size w wr) (fun out i wr => l.length - (intOf i).toNat)
      case atStart => exact ⟨0, [], Nat.zero_le _, rfl, World.ownsRow_made w #[] 0 (Nat.le_refl _) (by unfold maxLen; omega) rfl, rfl, by simp, (Below.refl _ _).alloc (Nat.le_refl _) _⟩
      case round =>
        obtain ⟨k, ms, hk, rfl, hown, hmk, hms, hB⟩ := hrel
        have Hmk := Lib.hid hmk
        have Hms := Lib.hid hms
        have hsB := hB.size
        clear hmk hms
        by_cases hlt : k < l.length
        · have hkl : k < l.length := by omega
          have c1 := (hB.cell (p := ⟨ba, off + k, none⟩) hba).trans (Hcell.out k hkl).1
          have hys := (Hcell.out k hkl).2
          obtain ⟨y, hy⟩ : ∃ y, y = l[k] := ⟨_, rfl⟩
          rw [← hy] at c1 hys
          have hml : k + 1 ≤ maxLen := by unfold maxLen; omega
          clear hy
          go_wp2_with (first | (go_at_call 8; refine (few_any _ _ hys).mono ?_; rintro e w' ⟨⟨tx, rfl, htx⟩, rfl⟩) | (at_builtin; refine wpList_append_own _ rfl _ _ 33 rfl w.heap.size 9 i0 (.string ⟨#[]⟩) 1 16 Try.underlying33 hi hz0 hz1 hz2 rfl (by decide) _ _ _ rfl (hown.alloc _) ⟨wr.heap.size, 0, none⟩ 1 1 [.string tx] rfl rfl (cell_one_new _ _ _) (by simp [Value.oneCell']) hml (by omega) (by simp; omega) ?_; intro v1 w1' hown1 hgrow1 _))
          have hB1 := (hB.alloc hsB _).grown hgrow1 (by simp; omega) (fun j ej => (hown.lt j ej).1)
          go_roundw
          case rel => exact ⟨k + 1, ms ++ [tx], by omega, by go_num, by rw [List.map_append]; exact hown1, by rw [List.length_append, Hmk.out]; rfl, fun x hx => by
            rcases List.mem_append.1 hx with h | h
            · exact Hms.out x h
            · rw [List.mem_singleton.1 h]; exact htx, hB1⟩
          case measure => simp [intOf]; omega
        · obtain rfl : k = l.length := by omega
          have hs1 := IsStrs.of_owns hown Hmk.out.symm
          go_wp2_with fail
          refine (few_any _ _ w1).mono ?_
          rintro e w' ⟨⟨tb, rfl, htb⟩, rfl⟩
          go_wp2_with fail
          refine (few_any _ _ w2).mono ?_
          rintro e w' ⟨⟨ts, rfl, hts⟩, rfl⟩
          have hjs : (joinB tb ms).size ≤ 12000 := by have := joinB_bd tb ms htb Hms.out ms.length (Nat.le_refl _); rw [List.take_length] at this; have := Hmk.out; omega
          go_wp2_with fail
          refine (octJoin_any _ ms _ _ hs1 (by have := Hmk.out; omega) (by omega) (by omega)).mono ?_
          rintro e w3 ⟨rfl, hb3⟩
          have hs3 := hs1.below hb3
          go_wp2_with fail
          refine (refJoin_any _ ms _ _ hs3 (by have := Hmk.out; omega) (by omega) (by omega) (fun x hx => by have := Hms.out x hx; omega)).mono ?_
          rintro e w' ⟨rfl, rfl⟩
          have q1 := bytes_beq_same (rfl : joinB tb ms = joinB tb ms)
          go_wp2_with fail
          refine (octTrim_any _ _ (by omega)).mono ?_
          rintro e w4 ⟨rfl, hb4⟩
          go_wp2_with fail
          refine (refTrim_any _ _ (by omega)).mono ?_
          rintro e w' ⟨rfl, rfl⟩
          have q2 := bytes_beq_same (rfl : trimB ts = trimB ts)
          go_wp2_with fail
          refine (octBegins_any _ _ _ _ (by omega) (by omega)).mono ?_
          rintro e w' ⟨rfl, rfl⟩
          go_wp2_with fail
          refine (refBegins_any _ _ _ _ (by omega) (by omega)).mono ?_
          rintro e w' ⟨rfl, rfl⟩
          go_wp2_with fail
          refine (awake_any _).mono ?_
          rintro e w5 ⟨rfl, hb5⟩
          go_wp2_with fail
          go_ret
          refine ⟨rfl, ?_⟩
          have h3 := hB.trans (hb3.mono hB.size)
          have h4 := h3.trans (hb4.mono h3.size)
          exact h4.trans (hb5.mono h4.size)
end Go.Proofs.Ytjghnabepojddaa
