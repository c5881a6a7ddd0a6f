/-
  The walk of nunciolaw03.FindHits.
-/
import Derived.Test.YtpgiaofkabhgkaaWalkFindBlots
import Derived.Test.YtpgiaofkabhgkaaFindFirst
namespace Go.Proofs.Ytpgiaofkabhgkaa
set_option linter.unusedVariables false
set_option linter.unusedSimpArgs false
open Go.RowKit Go.Shelf

theorem hasHit_iff (l : List ByteArray) (s : ByteArray) : HasHit l s ↔ 0 < (hitsL l s).length := by
  constructor
  · rintro ⟨a, i, e, h⟩
    exact List.length_pos_of_mem (mem_hitsL.2 ⟨e, h⟩ : (a, i) ∈ hitsL l s)
  · intro h
    obtain ⟨x, hx⟩ := List.exists_mem_of_length_pos h
    obtain ⟨e, he⟩ := mem_hitsL.1 hx
    exact ⟨_, _, e, he⟩
theorem row_keep {w w' : World} {B : Nat} {t : TypeId} {v : Value} {n : Nat} {xs : List Value} {k : Nat} (h : w.ownsRow B t k v n xs) (hb : Below w.heap.size w w') : w'.ownsRow B t k v n xs := by
  refine ⟨h.1, ?_⟩
  rcases h.2 with hn | ⟨g, cap, cur, h1, h2, h3, h4⟩
  · exact .inl hn
  · exact .inr ⟨g, cap, cur, h1, h2, (hb.block g (Array.getElem?_eq_some_iff.1 h3).1).trans h3, h4⟩

/-- What holds in each round of the comparison. -/
structure HitsAt (w : World) (base mp bh br : Nat) (v vh vr : Value) (l : List ByteArray) (L : List (Nat × Nat)) (W : World) : Prop where
  many : IsMany W base mp l
  strs : IsStrs W v l
  bel : Below w.heap.size w W
  rowh : W.ownsRow bh 36 2 vh L.length (hitCells L)
  rowr : W.ownsRow br 37 2 vr L.length (hitCells L)
theorem HitsAt.next {w : World} {base mp bh br : Nat} {v vh vr : Value} {l : List ByteArray} {L : List (Nat × Nat)} {W W' : World} (h : HitsAt w base mp bh br v vh vr l L W) (hb : Below W.heap.size W W') : HitsAt w base mp bh br v vh vr l L W' :=
  ⟨h.many.below hb, h.strs.below hb, h.bel.trans (hb.mono h.bel.size), row_keep h.rowh hb, row_keep h.rowr hb⟩
theorem HitsAt.drewN {w : World} {base mp bh br : Nat} {v vh vr : Value} {l : List ByteArray} {L : List (Nat × Nat)} {W : World} (h : HitsAt w base mp bh br v vh vr l L W) (n : Nat) : HitsAt w base mp bh br v vh vr l L (W.drewN n) := h.next ⟨rfl, rfl, rfl, Nat.le_refl _, fun _ _ => rfl⟩

set_option maxRecDepth 100000 in
set_option maxHeartbeats 4000000 in
theorem findHits_walk (w : World) (lv : Value) (l0 : List ByteArray) (s0 : ByteArray) (fr : Int) (w0 : ArgStrs w lv l0) (w1 : s0.size ≤ maxLen) (w2 : (Lit.int .i64 fr).wf = true) :
    Calls Try.prog 3 #[lv, .string s0, .int .i64 fr] w fun e w' => e = .returned (.bool true) ∧ Below w.heap.size w w' := by
  have hfb := bounds_i64 w2
  have kfew := few_any w l0 lv w0
  have hfl := fewL_len l0
  have hfs := fewL_size l0
  generalize fewL l0 = l at kfew hfl hfs
  obtain ⟨s, hs⟩ : ∃ t, t = s0.extract 0 (min s0.size 120) := ⟨_, rfl⟩
  have hss : s.size ≤ 120 := by rw [hs]; simp; omega
  have kS := fun W => short_any s0 W w1
  rw [← hs] at kS
  clear hs w0 w1 w2
  have Hfs := Lib.hid hfs
  have Hfb := Lib.hid hfb
  clear hfs hfb
  have hmul : (s.size + 2) * (l.length + 1) ≤ 1000000000000 := by
    have : (s.size + 2) * (l.length + 1) ≤ 122 * 13 := Nat.mul_le_mul (by omega) (by omega)
    omega
  have Hmul := Lib.hid hmul
  clear hmul
  go_enter Try.func3, Try.ntmps3
  go_wp2_with fail
  refine kfew.mono ?_
  rintro e wa ⟨v, rfl, hrow, hBa⟩
  have hSa := IsStrs.of_owns hrow rfl
  clear hrow kfew
  go_wp2_with fail
  refine (kS _).mono ?_
  rintro e w' ⟨rfl, rfl⟩
  go_wp2_with fail
  refine (new_few _ l v hSa hfl Hfs.out).mono ?_
  rintro e wb ⟨mp, rfl, hMb, hbb⟩
  have hSb := hSa.below hbb
  have hBb := hBa.trans (hbb.mono hBa.size)
  obtain ⟨ao, cap, rfl⟩ := hSb.form
  clear hSa hBa hbb
  obtain ⟨xs, hX⟩ := isMany_src hMb s
  have kLen := len_any _ s xs l wb hX
  go_wp2_with (go_at_call 11; refine kLen.mono ?_; rintro e w9 ⟨rfl, rfl⟩)
  refine (hits_all _ s xs l wb (by omega) Hmul.out hX).mono ?_
  rintro e wc ⟨vh, rfl, hRc, hbc⟩
  have hMc := hMb.below hbc
  have hSc := hSb.below hbc
  have hBc := hBb.trans (hbc.mono hBb.size)
  clear hMb hSb hBb hbc hX kLen
  go_wp2_with fail
  refine (refHits_any wc l s _ hSc (by omega) (by omega) (fun x hx => by have := Hfs.out x hx; omega)).mono ?_
  rintro e wd ⟨vr, rfl, hRd, hbd⟩
  have hMd := hMc.below hbd
  have hSd := hSc.below hbd
  have hBd := hBc.trans (hbd.mono hBc.size)
  have hRh := row_keep hRc hbd
  clear hMc hSc hBc hbd hRc
  obtain ⟨xs2, hX2⟩ := isMany_src hMd s
  have kHas : Calls Try.prog 14 #[.pointer (some ⟨mp, 0, none⟩), .string s] wd fun e w' => e = .returned (.bool (decide (0 < (hitsL l s).length))) ∧ Below wd.heap.size wd w' := by
    refine (has_any _ s xs2 l wd (by omega) hX2).mono ?_
    rintro e w' ⟨b, rfl, hb, hB⟩
    refine ⟨?_, hB⟩
    rw [hasHit_iff] at hb
    rw [show b = decide (0 < (hitsL l s).length) from by cases b <;> simp_all]
  obtain ⟨aoh, caph, rfl⟩ := row_slice hRh
  obtain ⟨aor, capr, rfl⟩ := row_slice hRd
  have hLb : (hitsL l s).length ≤ 2000000000000 := by
    have h1 := hitsTo_len l s s.size
    have h3 : s.size * l.length ≤ 122 * 13 := Nat.mul_le_mul (by omega) (by omega)
    show (hitsTo l s s.size).length ≤ _
    omega
  obtain ⟨L, hL⟩ : ∃ L, L = hitsL l s := ⟨_, rfl⟩
  rw [← hL] at hRh hRd kHas hLb ⊢
  have HL := Lib.hid hL
  have HX2 := Lib.hid hX2
  have HMd := Lib.hid hMd
  have HSd := Lib.hid hSd
  have HBd := Lib.hid hBd
  have HRh := Lib.hid hRh
  have HRd := Lib.hid hRd
  have HasB := Lib.hid kHas
  clear hX2 hMd hSd hBd hRh hRd kHas hL kS
  have hgt : decide ((L.length : Int) > 0) = decide (0 < L.length) := by rw [decide_eq_decide]; omega
  go_wp2_with (go_at_call 14; refine HasB.out.mono ?_; rintro e we ⟨rfl, hbe⟩)
  have HA : Hid (HitsAt w wa.heap.size mp wb.heap.size wc.heap.size (.slice ao l.length cap) (.slice aoh L.length caph) (.slice aor L.length capr) l L we) := Lib.hid (HitsAt.next ⟨HMd.out, HSd.out, HBd.out, HRh.out, HRd.out⟩ hbe)
  clear hbe HasB hgt HRh HRd HMd HSd HBd
  go_loopw [11] (fun iv wr => ∃ i : Nat, i ≤ L.length ∧ iv = .int .i64 (i : Int) ∧ Hid (HitsAt w wa.heap.size mp wb.heap.size wc.heap.size (.slice ao l.length cap) (.slice aoh L.length caph) (.slice aor L.length capr) l L wr)) (fun iv wr => L.length - (intOf iv).toNat)
  case atStart => exact ⟨0, Nat.zero_le _, rfl, HA⟩
  case round =>
    obtain ⟨i, hi, rfl, HW⟩ := hrel
    by_cases hil : i < L.length
    · obtain ⟨x, hx⟩ : ∃ x, L[i]? = some x := ⟨_, List.getElem?_eq_getElem hil⟩
      have hcl := hitCells_at L i x hx
      have h1 := HW.out.rowh
      have h2 := HW.out.rowr
      obtain ⟨gh, rfl⟩ : ∃ g, aoh = some ⟨g, 0, none⟩ := by
        rcases h1.2 with ⟨h, h'⟩ | ⟨g, cap', cur, h, _⟩
        · omega
        · cases h; exact ⟨g, rfl⟩
      obtain ⟨gr, rfl⟩ : ∃ g, aor = some ⟨g, 0, none⟩ := by
        rcases h2.2 with ⟨h, h'⟩ | ⟨g, cap', cur, h, _⟩
        · omega
        · cases h; exact ⟨g, rfl⟩
      have ch0 : wr.cell? ⟨gh, i * 2, none⟩ = some (.int .i64 (x.1 : Int)) := by
        rw [World.ownsRow.cellAt h1 (i * 2) (by omega)]
        exact hcl 0 (by omega)
      have ch1 : wr.cell? ⟨gh, i * 2 + 1, none⟩ = some (.int .i64 (x.2 : Int)) := by
        rw [World.ownsRow.cellAt h1 (i * 2 + 1) (by omega)]
        exact hcl 1 (by omega)
      have cr0 : wr.cell? ⟨gr, i * 2, none⟩ = some (.int .i64 (x.1 : Int)) := by
        rw [World.ownsRow.cellAt h2 (i * 2) (by omega)]
        exact hcl 0 (by omega)
      have cr1 : wr.cell? ⟨gr, i * 2 + 1, none⟩ = some (.int .i64 (x.2 : Int)) := by
        rw [World.ownsRow.cellAt h2 (i * 2 + 1) (by omega)]
        exact hcl 1 (by omega)
      clear h1 h2 hcl hx
      go_wp2
      go_quiet (fail)
      go_wp2
      go_roundw
      case rel => exact ⟨i + 1, by omega, by go_num, Lib.hid (HW.out.drewN _)⟩
      case measure => simp [intOf]; omega
    · obtain rfl : i = L.length := by omega
      have hfb := Hfb.out
      have kF := first_any (some ⟨mp, 0, none⟩) l s fr wr (by omega) hfb (by omega) (fun s' => isMany_src HW.out.many s')
      have kR := fun W (hW : IsStrs W (.slice ao l.length cap) l) => refFirst_any W l s fr _ hW (by omega) (by omega) (fun x hx => by have := Hfs.out x hx; omega)
      rw [first_shift] at kF
      rw [show ((hitsL l s).find? fun x => decide (fr ≤ (x.1 : Int))) = firstFrom l s fr from rfl] at kF
      generalize firstFrom l s fr = o at kF kR
      obtain ⟨fa, fi, fo, hfo⟩ : ∃ (fa fi : Nat) (fo : Bool), firstV o = .tuple #[.agg #[.int .i64 (fa : Int), .int .i64 (fi : Int)], .bool fo] := by
        cases o with
        | none => exact ⟨0, 0, false, rfl⟩
        | some x => exact ⟨_, _, _, rfl⟩
      rw [hfo] at kF
      simp only [hfo] at kR
      have KF := Lib.hid kF
      have KR := Lib.hid kR
      clear kF kR hfb hfo
      go_wp2_with (go_at_call 15; refine KF.out.mono ?_; rintro e wf ⟨rfl, hbf⟩)
      have HF := Lib.hid (HW.out.next hbf)
      clear hbf
      obtain ⟨wF, hwF⟩ : ∃ wF, wF = wf.alloc (.cells #[.int .i64 (fa : Int), .int .i64 (fi : Int)] 36) := ⟨_, rfl⟩
      rw [← hwF]
      have hF1 : wF.heap[wf.heap.size]? = some (.cells #[.int .i64 (fa : Int), .int .i64 (fi : Int)] 36 (0, 0)) := by rw [hwF]; exact World.alloc_heap_new _ _
      have hFb : Below wf.heap.size wf wF := by rw [hwF]; exact (Below.refl _ _).alloc (Nat.le_refl _) _
      have HFF := Lib.hid (HF.out.next hFb)
      have HF1 := Lib.hid hF1
      clear hwF hF1 hFb
      refine (KR.out wF HFF.out.strs).mono ?_
      rintro e wg ⟨rfl, hbg⟩
      have HG := Lib.hid (HFF.out.next hbg)
      have hfz := (Array.getElem?_eq_some_iff.1 HF1.out).1
      have hG1 := (hbg.block _ hfz).trans HF1.out
      have hgz := hbg.size
      have ca0 : (wg.alloc (.cells #[.int .i64 (fa : Int), .int .i64 (fi : Int)] 37)).cell? ⟨wf.heap.size, 0, none⟩ = some (.int .i64 (fa : Int)) := by
        simp [World.cell?, Below.heap_alloc wg _ _ (show wf.heap.size < wg.heap.size by omega), hG1]
      have ca1 : (wg.alloc (.cells #[.int .i64 (fa : Int), .int .i64 (fi : Int)] 37)).cell? ⟨wf.heap.size, 1, none⟩ = some (.int .i64 (fi : Int)) := by
        simp [World.cell?, Below.heap_alloc wg _ _ (show wf.heap.size < wg.heap.size by omega), hG1]
      clear hbg hfz hG1 hgz
      go_wp2_with (go_at_call 17; refine (awake_any _).mono ?_; rintro e w9 ⟨rfl, hb9⟩)
      have hB9 := HG.out.bel.alloc HG.out.bel.size (.cells #[.int .i64 (fa : Int), .int .i64 (fi : Int)] 37)

      go_ret
      exact ⟨rfl, hB9.trans (hb9.mono hB9.size)⟩
end Go.Proofs.Ytpgiaofkabhgkaa
