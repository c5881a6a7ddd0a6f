/-
  nuncio/nuncioref03's Blot.
-/
import Derived.Test.YtpgiaofkabhgkaaRefHits
import Derived.Test.YtpgiaofkabhgkaaBytesOwn
import Derived.Deep.QuietTactic
import Derived.IntWalk
namespace Go.Proofs.Ytpgiaofkabhgkaa
set_option linter.unusedVariables false
set_option linter.unusedSimpArgs false
open Go.RowKit

def covX (l : List ByteArray) (p : Nat) (x : Nat × Nat) : Bool := decide (x.1 ≤ p ∧ p < x.1 + ((l[x.2]?).map ByteArray.size).getD 0)
theorem covB_any (l : List ByteArray) (s : ByteArray) (p : Nat) : covB l s p = (hitsL l s).any (covX l p) := rfl
def byteV (b : UInt8) : Value := .int .u8 (b.toNat : Int)
theorem blotBytes_at (l : List ByteArray) (s : ByteArray) (u : UInt8) (a : Nat) (h : a < s.size) : (blotBytes l s u)[a]? = some (if covB l s a = true then u else s[a]) := by
  unfold blotBytes
  rw [List.getElem?_map, List.getElem?_range h]
  have h' : a < s.data.size := h
  have : s.data.getD a 0 = s[a] := by
    unfold Array.getD
    rw [dif_pos h']
    rfl
  rw [Option.map_some, this]
theorem blotBytes_len (l : List ByteArray) (s : ByteArray) (u : UInt8) : (blotBytes l s u).length = s.size := by simp [blotBytes]

theorem row_drewN {W : World} {base : Nat} {e : TypeId} {size n : Nat} {v : Value} {xs : List Value} (h : W.ownsRow base e size v n xs) (q : Nat) : (W.drewN q).ownsRow base e size v n xs := h
theorem bel_drewN {B : Nat} {w W : World} (h : Below B w W) (q : Nat) : Below B w (W.drewN q) := h.trans ⟨rfl, rfl, rfl, Nat.le_refl _, fun _ _ => rfl⟩
set_option maxRecDepth 100000 in
set_option maxHeartbeats 4000000 in
theorem refBlot_any (w : World) (l : List ByteArray) (s : ByteArray) (u : UInt8) (lv : Value) (hv : IsStrs w lv l) (hs : s.size ≤ 1000000) (hl : l.length ≤ 1000000) (hb : ∀ x ∈ l, x.size ≤ 1000000) :
    Calls Try.prog 19 #[lv, .string s, .int .u8 (u.toNat : Int)] w fun e w' => e = .returned (.tuple #[.string ⟨(blotBytes l s u).toArray⟩, .int .i64 (blotN l s : Int)]) ∧ Below w.heap.size w w' := by
  obtain ⟨i0, hi, hz0, hz1, hz2⟩ := info_parts infoU8
  obtain ⟨ao, cap, rfl⟩ := hv.form
  have kH := refHits_any w l s _ hv hs hl hb
  have hmemL : ∀ x ∈ hitsL l s, x.2 < l.length ∧ x.1 < s.size := fun x hx => by
    obtain ⟨e, he⟩ := mem_hitsL.1 hx
    have := he.lt
    omega
  have hcov := fun p => covB_any l s p
  have hLb : (hitsL l s).length ≤ 2000000000000 := by
    have h1 := hitsTo_len l s s.size
    have h3 : s.size * l.length ≤ 1000000 * 1000000 := Nat.mul_le_mul hs hl
    show (hitsTo l s s.size).length ≤ _
    omega
  have hbat := blotBytes_at l s u
  have hblen := blotBytes_len l s u
  have hN : blotN l s = (List.range s.size).countP (covB l s) := rfl
  have hNb : ∀ a, (List.range a).countP (covB l s) ≤ a := fun a => by
    have := List.countP_le_length (p := covB l s) (l := List.range a)
    simpa using this
  have hNs : ∀ a, (List.range (a + 1)).countP (covB l s) = (List.range a).countP (covB l s) + (if covB l s a = true then 1 else 0) := fun a => by
    rw [List.range_succ, List.countP_append]
    by_cases h : covB l s a = true <;> simp [h]
  generalize hitsL l s = L at kH hmemL hcov hLb
  generalize blotBytes l s u = bs at hbat hblen ⊢
  have HmemL := Lib.hid hmemL
  have Hcov := Lib.hid hcov
  have Hbat := Lib.hid hbat
  have Hblen := Lib.hid hblen
  have HN := Lib.hid hN
  have HNb := Lib.hid hNb
  have HNs := Lib.hid hNs
  have Hv := Lib.hid hv
  clear hmemL hcov hbat hblen hN hNb hNs hv
  go_enter Try.func19, Try.ntmps19
  go_wp2_with (go_at_call 13; refine kH.mono ?_; rintro e w1 ⟨v, rfl, hrow, hB1⟩; obtain ⟨hao, hcap, rfl⟩ := row_slice hrow)
  have Hrow := Lib.hid hrow
  have HB1 := Lib.hid hB1
  have hz1' := hB1.size
  clear hrow hB1 kH
  go_loopw [9, 10, 11] (fun ov nv av wr => ∃ a : Nat, a ≤ s.size ∧ av = .int .i64 (a : Int) ∧ nv = .int .i64 ((List.range a).countP (covB l s) : Int) ∧ Hid (wr.ownsRow w1.heap.size 5 1 ov a ((bs.take a).map byteV)) ∧ Below w1.heap.size w1 wr) (fun ov nv av wr => s.size - (intOf av).toNat)
  case atStart => exact ⟨0, Nat.zero_le _, rfl, rfl, Lib.hid (World.ownsRow_made w1 #[] 0 (Nat.le_refl _) (by unfold maxLen; omega) rfl), (Below.refl _ _).alloc (Nat.le_refl _) _⟩
  case round =>
    obtain ⟨a, ha, rfl, rfl, Hown, hB⟩ := hrel
    have hsz := hB.size
    by_cases hlt : a < s.size
    · have hnb := HNb.out a
      have hS := fun (wr : World) (hB : Below w1.heap.size w1 wr) => Hv.out.below (HB1.out.trans (hB.mono hz1'))
      have hcell : ∀ (wr : World), Below w1.heap.size w1 wr → ∀ j x, L[j]? = some x → ∃ g, hao = some ⟨g, 0, none⟩ ∧ wr.cell? ⟨g, j * 2, none⟩ = some (.int .i64 (x.1 : Int)) ∧ wr.cell? ⟨g, j * 2 + 1, none⟩ = some (.int .i64 (x.2 : Int)) := fun wr hB j x hx => by
        have hjl := (List.getElem?_eq_some_iff.1 hx).1
        have hcl := hitCells_at L j x hx
        have hr := Hrow.out
        rcases hr.2 with ⟨h, h'⟩ | ⟨g, cap', cur, h, h2, h3, h4⟩
        · omega
        · cases h
          have hg := (Array.getElem?_eq_some_iff.1 h3).1
          refine ⟨g, rfl, ?_, ?_⟩
          · rw [World.cell?_of_block (hB.block g hg), World.ownsRow.cellAt hr (j * 2) (by omega)]
            exact hcl 0 (by omega)
          · rw [World.cell?_of_block (hB.block g hg), World.ownsRow.cellAt hr (j * 2 + 1) (by omega)]
            exact hcl 1 (by omega)
      have Hcell := Lib.hid hcell
      have HS := Lib.hid hS
      clear hS hcell
      go_wp2
      go_loopw [13, 14] (fun cv iv wi => ∃ j : Nat, j ≤ L.length ∧ iv = .int .i64 (j : Int) ∧ cv = .bool ((L.take j).any (covX l a)) ∧ Hid (wi.ownsRow w1.heap.size 5 1 u9 a ((bs.take a).map byteV)) ∧ Below w1.heap.size w1 wi) (fun cv iv wi => L.length - (intOf iv).toNat)
      case atStart => exact ⟨0, Nat.zero_le _, rfl, rfl, Hown, hB⟩
      case round =>
        obtain ⟨j, hj, rfl, rfl, Hown, hB⟩ := hrel
        have hsz := hB.size
        by_cases hjl : j < L.length
        · obtain ⟨x, hx⟩ : ∃ x, L[j]? = some x := ⟨_, List.getElem?_eq_getElem hjl⟩
          obtain ⟨g, rfl, c0, c1⟩ := Hcell.out _ hB j x hx
          obtain ⟨hx2, hx1⟩ := HmemL.out x (List.mem_of_getElem? hx)
          have hp := List.getElem?_eq_getElem hx2
          obtain ⟨p, hp'⟩ : ∃ p, p = l[x.2] := ⟨_, rfl⟩
          rw [← hp'] at hp
          have hpb := hb p (List.mem_of_getElem? hp)
          obtain ⟨b, off, rfl, hc⟩ : ∃ b off, ao = some ⟨b, off, none⟩ ∧ wr.cell? ⟨b, off + x.2, none⟩ = some (.string p) := by
            rcases HS.out _ hB with ⟨ao', cap', h, h0⟩ | ⟨b, off, cap', h, _, hc⟩
            · rw [h0] at hx2; simp at hx2
            · cases h
              exact ⟨b, off, rfl, by rw [hp']; exact hc x.2 hx2⟩
          have hsn : (L.take (j + 1)).any (covX l a) = ((L.take j).any (covX l a) || covX l a x) := by rw [take_snoc hx]; simp
          have hcx : covX l a x = decide (x.1 ≤ a ∧ a < x.1 + p.size) := by unfold covX; rw [hp]; rfl
          have Hsn := Lib.hid hsn
          have Hcx := Lib.hid hcx
          have hx2' : (x.2 : Int) < (l.length : Int) := by omega
          clear hx hp hp' hsn hcx
          generalize (L.take j).any (covX l a) = cj at *
          by_cases h1 : x.1 ≤ a
          · have d1 : decide ((x.1 : Int) ≤ (a : Int)) = true := decide_eq_true (by omega)
            by_cases h2 : a < x.1 + p.size
            · have d2 : decide ((a : Int) - (x.1 : Int) < (p.size : Int)) = true := decide_eq_true (by omega)
              have hcy : covX l a x = true := by rw [Hcx.out]; exact decide_eq_true ⟨h1, h2⟩
              have Hcy := Lib.hid hcy
              clear hcy
              go_wp2
              go_quiet (fail)
              go_wp2
              go_roundw
              case rel => exact ⟨j + 1, by omega, by go_num, by rw [Hsn.out, Hcy.out, Bool.or_true], Lib.hid (row_drewN Hown.out _), bel_drewN hB _⟩
              case measure => simp [intOf]; omega
            · have d2 : decide ((a : Int) - (x.1 : Int) < (p.size : Int)) = false := decide_eq_false (by omega)
              have hcy : covX l a x = false := by rw [Hcx.out]; exact decide_eq_false (by omega)
              have Hcy := Lib.hid hcy
              clear hcy
              go_wp2
              go_quiet (fail)
              go_wp2
              go_roundw
              case rel => exact ⟨j + 1, by omega, by go_num, by rw [Hsn.out, Hcy.out, Bool.or_false], Lib.hid (row_drewN Hown.out _), bel_drewN hB _⟩
              case measure => simp [intOf]; omega
          · have d1 : decide ((x.1 : Int) ≤ (a : Int)) = false := decide_eq_false (by omega)
            have hcy : covX l a x = false := by rw [Hcx.out]; exact decide_eq_false (by omega)
            have Hcy := Lib.hid hcy
            clear hcy
            go_wp2
            go_quiet (fail)
            go_wp2
            go_roundw
            case rel => exact ⟨j + 1, by omega, by go_num, by rw [Hsn.out, Hcy.out, Bool.or_false], Lib.hid (row_drewN Hown.out _), bel_drewN hB _⟩
            case measure => simp [intOf]; omega
        · obtain rfl : j = L.length := by omega
          have hca : (L.take L.length).any (covX l a) = covB l s a := by rw [List.take_length, Hcov.out]
          rw [hca]
          have hat := Hbat.out a hlt
          have hns := HNs.out a
          have u0 : s[a].toNat ≤ 255 := by have := s[a].toNat_lt; omega
          have u1 : u.toNat ≤ 255 := by have := u.toNat_lt; omega
          cases hcb : covB l s a with
          | true =>
            rw [hcb, if_pos rfl] at hat hns
            have Hat := Lib.hid hat
            have Hns := Lib.hid hns
            clear hat hns hca hcb
            generalize (List.range a).countP (covB l s) = na at *
            have hnab : na ≤ 1000000 := by omega
            go_wp2_with (at_builtin; refine wpList_append_own _ rfl _ _ 51 rfl w1.heap.size 5 i0 (.int .u8 0) 1 1 Try.underlying51 hi hz0 hz1 hz2 rfl (by decide) _ _ _ rfl (Hown.out.alloc _) ⟨wr.heap.size, 0, none⟩ 1 1 [.int .u8 (u.toNat : Int)] rfl rfl (cell_one_new _ _ _) (by simp [Value.oneCell']) (by unfold maxLen; omega) (by omega) (by simp; omega) ?_; intro v1 w3 hown1 hgrow1 _)
            have hB3 := (hB.alloc hsz _).grown hgrow1 (by simp; omega) (fun j ej => (Hown.out.lt j ej).1)
            have Hown1 := Lib.hid hown1
            clear hown1 hgrow1
            go_roundw
            case rel => exact ⟨a + 1, by omega, by go_num, by rw [Hns.out]; congr 1, Lib.hid (by rw [take_snoc Hat.out, List.map_append]; exact Hown1.out), hB3⟩
            case measure => simp [intOf]; omega
          | false =>
            rw [hcb, if_neg (by decide)] at hat hns
            have Hat := Lib.hid hat
            have Hns := Lib.hid hns
            clear hat hns hca hcb
            generalize (List.range a).countP (covB l s) = na at *
            go_wp2_with (at_builtin; refine wpList_append_own _ rfl _ _ 51 rfl w1.heap.size 5 i0 (.int .u8 0) 1 1 Try.underlying51 hi hz0 hz1 hz2 rfl (by decide) _ _ _ rfl (Hown.out.alloc _) ⟨wr.heap.size, 0, none⟩ 1 1 [.int .u8 (s[a].toNat : Int)] rfl rfl (cell_one_new _ _ _) (by simp [Value.oneCell']) (by unfold maxLen; omega) (by omega) (by simp; omega) ?_; intro v1 w3 hown1 hgrow1 _)
            have hB3 := (hB.alloc hsz _).grown hgrow1 (by simp; omega) (fun j ej => (Hown.out.lt j ej).1)
            have Hown1 := Lib.hid hown1
            clear hown1 hgrow1
            go_roundw
            case rel => exact ⟨a + 1, by omega, by go_num, by rw [Hns.out]; rfl, Lib.hid (by rw [take_snoc Hat.out, List.map_append]; exact Hown1.out), hB3⟩
            case measure => simp [intOf]; omega
    · obtain rfl : a = s.size := by omega
      have hown := Hown.out
      rw [List.take_of_length_le (by rw [Hblen.out]; exact Nat.le_refl _)] at hown
      have kb := conv_owns (s := ⟨bs.toArray⟩) (by rw [show Lib.strCells ⟨bs.toArray⟩ = bs.map byteV from by unfold Lib.strCells; simp [byteV]]; exact hown)
      clear hown
      go_wp2
      refine bodyPost_ret (results_tmp2 rfl _ _ _) rfl ?_
      refine ⟨?_, HB1.out.trans (hB.mono hz1')⟩
      rw [HN.out]
      rfl
end Go.Proofs.Ytpgiaofkabhgkaa
