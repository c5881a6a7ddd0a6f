/-
  nuncio/jstr's Write.
-/
import Derived.Test.YtahkfoaogcbecaaQuotedForm
import Derived.Test.YtahkfoaogcbecaaQuotedSteps
import Derived.Test.YtahkfoaogcbecaaOrders
import Derived.Test.YtahkfoaogcbecaaMarks
import Derived.Test.YtahkfoaogcbecaaMakeBytes
import Derived.Test.YtahkfoaogcbecaaBytesOwn
namespace Go.Proofs.Ytahkfoaogcbecaa
set_option linter.unusedVariables false
set_option linter.unusedSimpArgs false
open Go.RowKit Go.Shelf
attribute [local go_sem] Oper.semAt_some

/-- What is written behind so many runes. -/
def wrP (pre : List RuneV) : ByteArray := ⟨(writeR (pre.map (·.1))).toArray⟩
theorem wrP_snoc (pre : List RuneV) (x : RuneV) : wrP (pre ++ [x]) = wrP pre ++ ⟨(escJ x.1).toArray⟩ := by
  refine bytes_ext ?_
  rw [append_data]
  simp [wrP, writeR]
theorem wrP_size (pre : List RuneV) : (wrP pre).size ≤ 6 * pre.length := by
  have := writeR_len (pre.map (·.1))
  rw [List.length_map] at this
  exact this
/-- What lies in memory while O is written of s. -/
def WrM (w : World) (s O : ByteArray) (W : World) : Prop :=
  ((∃ v, Boxed W (w.heap.size + 1) 33 v ∧ W.ownsRow w.heap.size 5 1 v O.size (Lib.strCells O) ∧ True) ∧ Boxed W (w.heap.size + 1 + 1) 9 (.string s)) ∧ Below w.heap.size w W
theorem wrM_own {β : Type} (w : World) (T : Nat) (hwT : w.heap.size ≤ T) (s : ByteArray) (O : β → ByteArray) : OwnFrom T (fun q => WrM w s (O q)) :=
  OwnFrom.and (OwnFrom.and (Own.from (holdsRow_own w.heap.size (w.heap.size + 1) 33 5 1 (fun q : β => (O q).size) (fun q => Lib.strCells (O q)) (fun _ _ => True)) _) (Own.from (boxed_own _ 9 (fun _ => Value.string s)) _)) (ownFrom_below (Nat.le_refl _) hwT)
theorem WrM.below {w W W' : World} {s O : ByteArray} (h : WrM w s O W) (hb : Below W.heap.size W W') : WrM w s O W' := by
  obtain ⟨⟨⟨v, hv, hrow, -⟩, hs⟩, hB⟩ := h
  exact ⟨⟨⟨v, boxed_below hv hb, ownsRow_below hrow hb, trivial⟩, boxed_below hs hb⟩, hB.trans (hb.mono hB.size)⟩
/-- 'written = append(written, ..)'. -/
theorem WrM.append {w W w1 : World} {s O y : ByteArray} {v v' : Value} (h : WrM w s O W) (hv : Boxed W (w.heap.size + 1) 33 v) (hrow : W.ownsRow w.heap.size 5 1 v O.size (Lib.strCells O))
    (hown : w1.ownsRow w.heap.size 5 1 v' (O.size + y.size) (Lib.strCells O ++ Lib.strCells y)) (hgrow : W.grownBy w1 v.ownBlock) :
    Boxed w1 (w.heap.size + 1) 33 v ∧ WrM w s (O ++ y) (w1.setCell ⟨w.heap.size + 1, 0, none⟩ v') ∧ KeepsOthers W (w1.setCell ⟨w.heap.size + 1, 0, none⟩ v') := by
  obtain ⟨⟨-, hs⟩, hB⟩ := h
  obtain ⟨h1, h2, h3, h4, h5, h6⟩ := boxed_grown_other (m := w.heap.size) hv (by decide) hrow (by omega) (Nat.le_refl _) hB.size hown hgrow
  exact ⟨h1, ⟨⟨⟨v', h2, by rw [ByteArray.size_append, strCells_app]; exact h3, trivial⟩, h6 _ _ hs (fun cur e => by cases e) (by omega)⟩, hB.trans h5⟩, h4⟩

theorem cell_two_q (w : World) (a b : Value) (t : TypeId) : ∀ j u, [a, b][j]? = some u → (w.alloc (.cells #[a, b] t)).cell? (Addr.add ⟨w.heap.size, 0, none⟩ j) = some u := fun j u hj => by
  match j, hj with
  | 0, hj => simp at hj; subst hj; simp [Addr.add]
  | 1, hj => simp at hj; subst hj; simp [Addr.add]
theorem four_pairs (n : Nat) (hn : n < 65536) : pairOf ((n : Int) / 256) ++ pairOf ((n : Int) % 256) = ⟨(fourL n).toArray⟩ := by
  rw [show (n : Int) / 256 = ((n / 256 : Nat) : Int) from by omega, show (n : Int) % 256 = ((n % 256 : Nat) : Int) from by omega, pairOf_LJ _ (by omega), pairOf_LJ _ (by omega)]
  exact bytes_ext (by simp [fourL])
theorem litU : (⟨#[92, 117]⟩ : ByteArray).size = 2 := rfl

set_option maxRecDepth 100000 in
set_option maxHeartbeats 4000000 in
theorem write_any (w : World) (s : ByteArray) (hs : s.size ≤ 100000) :
    Calls Try.prog 8 #[.string s] w fun e w' => e = .returned (.string ⟨(writeJ s.data.toList).toArray⟩) ∧ Below w.heap.size w w' := by
  obtain ⟨E, hE⟩ : ∃ E : ByteArray, E = ⟨(writeJ s.data.toList).toArray⟩ := ⟨_, rfl⟩
  rw [← hE]
  have HE := Lib.hid hE
  clear hE
  refine (callsIn_wide (n := 5)).1 ?_
  have hmix : Try.prog.follows .mixedOrders = true := by kernel_rfl
  obtain ⟨i0, hi, hz0, hz1, hz2⟩ := info_parts infoU8
  obtain ⟨cur, hcur, hmk⟩ := make_bytes w (s.size : Int) s.size rfl (by omega)
  refine callsIn_of_wp_marks Try.func8 rfl trivial ?_ rfl
  simp only [Try.ntmps8, List.size_toArray, List.length_cons, List.length_nil, Nat.reduceAdd, Nat.reduceSub, Array.replicate_succ, Array.replicate_zero, List.push_toArray, List.append_toArray, List.nil_append, List.cons_append]
  gi_wp2_with fail
  have b0 := World.ownsRow_made (base := w.heap.size) (size := 1) (e := 5) w cur s.size (Nat.le_refl _) (by unfold maxLen; omega) (by omega)
  have b1 := Boxed.new (w.alloc (.cells cur 5)) 33 (.slice (some ⟨w.heap.size, 0, none⟩) 0 s.size)
  rw [World.size_alloc] at b1
  have hB0 : Below w.heap.size w ((w.alloc (.cells cur 5)).alloc (.cells #[.slice (some ⟨w.heap.size, 0, none⟩) 0 s.size] 33)) := ((Below.refl _ _).alloc (Nat.le_refl _) _).alloc (by simp) _
  have b0' := b0.alloc (.cells #[.slice (some ⟨w.heap.size, 0, none⟩) 0 s.size] 33)
  obtain ⟨w0, hw0⟩ : ∃ w0, (w.alloc (.cells cur 5)).alloc (.cells #[.slice (some ⟨w.heap.size, 0, none⟩) 0 s.size] 33) = w0 := ⟨_, rfl⟩
  have hz : w0.heap.size = w.heap.size + 1 + 1 := by rw [← hw0]; simp
  rw [hw0] at b1 hB0 b0'
  have HW0 := Lib.hid hw0
  clear hw0 b0 hmk
  rw [HW0.out]
  refine ⟨trivial, ?_⟩
  refine (jsteps_in _ s w0).mono ?_
  rintro e w' ⟨rfl, rfl⟩
  have bS := Boxed.new w0 9 (.string s)
  have hB1 : Below w0.heap.size w0 (w0.alloc (.cells #[.string s] 9)) := (Below.refl _ _).alloc (Nat.le_refl _) _
  rw [hz] at bS
  have hM0 : WrM w s ⟨#[]⟩ (w0.alloc (.cells #[.string s] 9)) := ⟨⟨⟨_, b1.alloc _, b0'.alloc _, trivial⟩, bS⟩, hB0.trans (hB1.mono (by omega))⟩
  obtain ⟨W2, hW2⟩ : ∃ W2, w0.alloc (.cells #[.string s] 9) = W2 := ⟨_, rfl⟩
  have hz2' : W2.heap.size = w.heap.size + 1 + 1 + 1 := by rw [← hW2]; simp [hz]
  rw [hW2] at bS hM0
  have HW2 := Lib.hid hW2
  clear hW2 b1 b0' hB0 hB1
  gi_wp2_with fail
  rw [HW2.out]
  refine wpIn_rangeFunc_ownG rfl (by omega) (gf := 31) (lb := #[.pointer (some ⟨w.heap.size + 1 + 1, 0, none⟩)]) rfl trivial (enters_of Try.func31 (by kernel_rfl) rfl)
    (jsteps_stops 4 (by omega) (w.heap.size + 1 + 1) s hs W2 bS) KeepBox.t (KeepBox.b (by omega)) (Below.refl _ _) (fun _ => rfl)
    (fun (pre : List RuneV) W => WrM w s (wrP pre) W)
    (fun _ _ _ => False)
    (wrM_own w _ (by omega) s wrP)
    (fun _ _ _ _ _ h _ _ => h)
    hM0
    (fun x => { tmps := #[.string s, undef, .string ⟨#[]⟩, .pointer (some ⟨w.heap.size + 1, 0, none⟩), .int .i32 (x.1 : Int), undef, undef, .string s, .int .i64 (s.size : Int), .slice (some ⟨w.heap.size, 0, none⟩) 0 s.size, .string s, .func (.func 31) #[] #[.pointer (some ⟨w.heap.size + 1 + 1, 0, none⟩)], .int .i32 (x.1 : Int), undef, undef, undef, undef, undef, undef, undef, undef, undef, undef, undef, undef, undef, undef, undef, undef, undef, undef, undef, undef, undef, undef, undef, undef, undef, undef, undef, undef, undef, undef, undef, undef, undef], defers := [] }) ?assign ?body ?done ?stop
  case assign =>
    intro l x W K hK
    unfold runeArgs
    gi_wp2
    exact hK
  case body =>
    rintro l pre x W hM hlt
    have hwp := wrP_size pre
    obtain ⟨r, hr⟩ := x
    have hr2 : r ≤ 1114111 := by unfold isRune at hr; omega
    have kF := fun (W : World) => form_any W r hr2
    have e1 : wrP (pre ++ [⟨r, hr⟩]) = wrP pre ++ ⟨(escJ r).toArray⟩ := wrP_snoc pre ⟨r, hr⟩
    have hel := (escJ_len r).2
    have E1 := Lib.hid e1
    obtain ⟨O, hO⟩ : ∃ O, O = wrP pre := ⟨_, rfl⟩
    rw [← hO] at hM hwp E1
    have hO2 : O.size ≤ 1000000 := by omega
    obtain ⟨m, hm⟩ : ∃ m : Int, m = (r : Int) := ⟨_, rfl⟩
    dsimp only
    rw [← hm] at kF ⊢
    have HM := Lib.hid hM
    obtain ⟨⟨⟨v, hv, hrow, -⟩, hsb⟩, hB⟩ := hM
    have hszB := hB.size
    have hcv := hv.cell
    have hfv := hv.frozen
    unfold formV at kF
    unfold escJ at E1 hel
    clear e1 hO hwp
    have Hm := Lib.hid hm
    have hm0 : 0 ≤ m := by omega
    have hm1 : m ≤ 1114111 := by omega
    have keep : ∀ {Wf : World} {O' : ByteArray}, WrM w s O' Wf → KeepBox (w.heap.size + 1 + 1) W Wf := fun h => (show _ = _ from h.1.2).trans (show W.heap[_]? = _ from hsb).symm
    clear hm
    cases hsh : shortE r with
    | some c =>
      rw [hsh] at kF E1
      dsimp only at kF E1
      have el := c.toNat_lt
      have hbA : Below W.heap.size W (W.alloc (.cells #[.int .u8 92, .int .u8 (c.toNat : Int)] 5)) := (Below.refl _ _).alloc (Nat.le_refl _) _
      clear hsh hr2 hel
      gi_wp2_with fail
      refine ⟨trivial, ?_⟩
      refine (CallsIn.inRound l (callsIn_wide.2 (kF _))).mono ?_
      rintro e w2 ⟨rfl, rfl⟩
      gi_wp2_with (gi_at_builtin; refine wpListIn_append_own _ rfl _ _ 33 rfl w.heap.size 5 i0 (.int .u8 0) 1 1 Try.underlying33 hi hz0 hz1 hz2 rfl (by decide) _ _ _ rfl (hrow.alloc _) ⟨W.heap.size, 0, none⟩ 2 2 [.int .u8 92, .int .u8 (c.toNat : Int)] rfl rfl (cell_two_q _ _ _ _) (by simp [Value.oneCell']) (by unfold maxLen; omega) (by omega) (by simp; omega) ?_; intro v' w1 hown' hgrow _; obtain ⟨ao, sn, scap, rfl⟩ := owns_slice hown'; obtain ⟨hv3, hM4, hk4⟩ := (HM.out.below hbA).append (y := ⟨#[92, c]⟩) (hv.alloc _) (hrow.alloc _) hown' hgrow; have hc3 := hv3.cell; have hf3 := hv3.frozen)
      exact ⟨((KeepsOthers.alloc _ _).trans hk4).from _, keep hM4, by show WrM w s (wrP _) _; rw [E1.out]; exact hM4⟩
    | none =>
      rw [hsh] at kF E1 hel
      dsimp only at kF E1 hel
      cases hlo : longE r with
      | false =>
        rw [hlo] at kF E1 hel
        simp only [Bool.false_eq_true, if_false] at kF E1 hel
        have kB := fun (W : World) => utfBytes_any (r : Int) W
        rw [encode_rune r hr] at kB
        obtain ⟨y, hy⟩ : ∃ y : ByteArray, y = ⟨(encL r).toArray⟩ := ⟨_, rfl⟩
        rw [← hy] at kB E1
        have hys : y.size ≤ 6 := by rw [hy]; exact hel
        rw [← Hm.out] at kB
        clear hsh hr2 hel hlo hy
        have hd : Below W.heap.size W W.drew := ⟨rfl, rfl, rfl, Nat.le_refl _, fun _ _ => rfl⟩
        have hMd := HM.out.below hd
        have hvd := boxed_below hv hd
        have hrowd := ownsRow_below hrow hd
        gi_wp2_with fail
        refine ⟨trivial, ?_⟩
        refine (CallsIn.inRound l (callsIn_wide.2 (kF _))).mono ?_
        rintro e w2 ⟨rfl, rfl⟩
        gi_wp2_with fail
        have hcd := hvd.cell
        clear hcv hfv
        refine wpIn_region_orders [[0, 1, 2, 3, 4], [1, 0, 2, 3, 4], [1, 2, 0, 3, 4]] hmix (by kernel_rfl) ?_
        simp only [List.forall_mem_cons, pickOps, List.flatMap_cons, List.flatMap_nil, List.getElem?_toArray, List.getElem?_cons_zero, List.getElem?_cons_succ, Option.toList_some, List.cons_append, List.nil_append]
        refine ⟨?_, ?_, ?_, by simp⟩
        all_goals gi_wp2_with (first | (refine ⟨trivial, ?_⟩; refine (CallsIn.inRound l (callsIn_wide.2 (kB _))).mono ?_; rintro e W1 ⟨rfl, rfl⟩) | (gi_at_builtin; refine wpListIn_append_own_string _ rfl _ _ 33 9 rfl w.heap.size 5 i0 Try.underlying33 Try.underlying9 hi hz0 hz1 hz2 _ _ _ rfl hrowd _ rfl (by unfold maxLen; omega) (by omega) hszB ?_; intro v' w1 hown' hgrow _; obtain ⟨ao, sn, scap, rfl⟩ := owns_slice hown'; obtain ⟨hv3, hM4, hk4⟩ := hMd.append hvd hrowd hown' hgrow; have hc3 := hv3.cell; have hf3 := hv3.frozen))
        all_goals exact ⟨((KeepsOthers.drew _).trans hk4).from _, keep hM4, by show WrM w s (wrP _) _; rw [E1.out]; exact hM4⟩
      | true =>
        rw [hlo] at kF E1 hel
        simp only [if_true] at kF E1 hel
        have hr3 : r ≤ 8233 := by unfold longE at hlo; simp at hlo; omega
        have e2 : wrP (pre ++ [⟨r, hr⟩]) = ((O ++ ⟨#[92, 117]⟩) ++ pairOf (m / 256)) ++ pairOf (m % 256) := by
          have h4 := four_pairs r (by omega)
          rw [← Hm.out] at h4
          refine bytes_ext ?_
          rw [E1.out]
          have h5 := congrArg (fun b : ByteArray => b.data.toList) h4
          simp only [append_data] at h5 ⊢
          rw [List.append_assoc, List.append_assoc, h5]
          rfl
        have E2 := Lib.hid e2
        clear e2
        have hm3 : m ≤ 8233 := by rw [Hm.out]; omega
        clear hsh hr2 hel hlo
        gi_wp2_with fail
        refine ⟨trivial, ?_⟩
        refine (CallsIn.inRound l (callsIn_wide.2 (kF _))).mono ?_
        rintro e w2 ⟨rfl, rfl⟩
        gi_wp2_with (gi_at_builtin; refine wpListIn_append_own_string _ rfl _ _ 33 9 rfl w.heap.size 5 i0 Try.underlying33 Try.underlying9 hi hz0 hz1 hz2 _ _ _ rfl hrow _ rfl (by simp only [litU]; unfold maxLen; omega) (by simp only [litU]; omega) hszB ?_; intro v' w1 hown' hgrow _; obtain ⟨ao, sn, scap, rfl⟩ := owns_slice hown'; obtain ⟨hv3, hM4, hk4⟩ := HM.out.append hv hrow hown' hgrow; have hc3 := hv3.cell; have hf3 := hv3.frozen)
        have hO3 : (O ++ ⟨#[92, 117]⟩).size ≤ 1000002 := by rw [ByteArray.size_append]; simp only [litU]; omega
        obtain ⟨O3, hOO⟩ : ∃ O3 : ByteArray, O3 = O ++ ⟨#[92, 117]⟩ := ⟨_, rfl⟩
        rw [← hOO] at hM4 hO3
        have HOO := Lib.hid hOO
        generalize World.setCell w1 ⟨w.heap.size + 1, 0, none⟩ _ = W3 at hM4 hk4 ⊢
        clear hv3 hc3 hf3 hown' hgrow hcv hfv hv hrow hOO hszB
        have hd : Below W3.heap.size W3 W3.drew := ⟨rfl, rfl, rfl, Nat.le_refl _, fun _ _ => rfl⟩
        have hMd := hM4.below hd
        obtain ⟨Wd, hWd⟩ : ∃ Wd, Wd = W3.drew := ⟨_, rfl⟩
        rw [← hWd] at hMd hd
        have HMd := Lib.hid hMd
        obtain ⟨⟨⟨v3, hv, hrow, -⟩, -⟩, hB3⟩ := hMd
        have hszB := hB3.size
        have hcd := hv.cell
        have hfd := hv.frozen
        have kP := fun (W : World) => octPair_any (m / 256) W (by omega) (by omega)
        have kQ := fun (W : World) => octPair_any (m % 256) W (by omega) (by omega)
        obtain ⟨y, hy⟩ : ∃ y : ByteArray, y = pairOf (m / 256) := ⟨_, rfl⟩
        obtain ⟨z, hzz⟩ : ∃ z : ByteArray, z = pairOf (m % 256) := ⟨_, rfl⟩
        rw [← hy] at kP E2
        rw [← hzz] at kQ E2
        rw [← HOO.out] at E2
        have hys : y.size = 2 := by rw [hy]; rfl
        have hzs : z.size = 2 := by rw [hzz]; rfl
        have hk3 : KeepsOthers W Wd := by rw [hWd]; exact hk4.trans (KeepsOthers.drew _)
        have HWd := Lib.hid hWd
        clear hy hWd hzz HM
        refine wpIn_region_orders [[0, 1, 2, 3, 4, 5, 6], [1, 0, 2, 3, 4, 5, 6], [1, 2, 0, 3, 4, 5, 6], [1, 2, 3, 0, 4, 5, 6], [1, 2, 3, 4, 0, 5, 6]] hmix (by kernel_rfl) ?_
        simp only [List.forall_mem_cons, pickOps, List.flatMap_cons, List.flatMap_nil, List.getElem?_toArray, List.getElem?_cons_zero, List.getElem?_cons_succ, Option.toList_some, List.cons_append, List.nil_append]
        rw [← HWd.out]
        refine ⟨?_, ?_, ?_, ?_, ?_, by simp⟩
        all_goals
          gi_wp2_with (first | (refine ⟨trivial, ?_⟩; refine (CallsIn.inRound l (callsIn_wide.2 (kP _))).mono ?_; rintro e w4 ⟨rfl, hb4⟩; have HM4 := Lib.hid (HMd.out.below hb4); have hv4 := boxed_below hv hb4; have hrow4 := ownsRow_below hrow hb4; have hcd4 := hv4.cell; have hsz4 := (hB3.trans (hb4.mono hszB)).size) | (gi_at_builtin; refine wpListIn_append_own_string _ rfl _ _ 33 9 rfl w.heap.size 5 i0 Try.underlying33 Try.underlying9 hi hz0 hz1 hz2 _ _ _ rfl hrow4 _ rfl (by unfold maxLen; omega) (by omega) hsz4 ?_; intro v' w5 hown' hgrow _; obtain ⟨ao, sn, scap, rfl⟩ := owns_slice hown'; obtain ⟨hv5, hM5, hk5⟩ := HM4.out.append hv4 hrow4 hown' hgrow; have hc5 := hv5.cell; have hf5 := hv5.frozen))
          have hk6 := (hk3.trans (keeps_below hb4)).trans hk5
          have hO5 : (O3 ++ y).size ≤ 1000004 := by rw [ByteArray.size_append]; omega
          obtain ⟨O5, hOO5⟩ : ∃ O5 : ByteArray, O5 = O3 ++ y := ⟨_, rfl⟩
          rw [← hOO5] at hM5 hO5 E2
          generalize World.setCell w5 ⟨w.heap.size + 1, 0, none⟩ _ = W6 at hM5 hk6 ⊢
          clear hv5 hc5 hf5 hown' hgrow hv hrow hszB hOO5 HM4 hv4 hrow4 hcd4 hsz4 hb4 hk5 hk3 hcd hfd kP HMd hB3
          have hd6 : Below W6.heap.size W6 W6.drew := ⟨rfl, rfl, rfl, Nat.le_refl _, fun _ _ => rfl⟩
          have hM6 := hM5.below hd6
          obtain ⟨We, hWe⟩ : ∃ We, We = W6.drew := ⟨_, rfl⟩
          rw [← hWe] at hM6 hd6
          have HM6 := Lib.hid hM6
          have hk7 : KeepsOthers W We := by rw [hWe]; exact hk6.trans (KeepsOthers.drew _)
          obtain ⟨⟨⟨v6, hv6, hrow6, -⟩, -⟩, hB6⟩ := hM6
          have hszB6 := hB6.size
          have hcd6 := hv6.cell
          have hfd6 := hv6.frozen
          have HWe := Lib.hid hWe
          clear hWe hM5
          refine wpIn_region_orders [[0, 1, 2, 3, 4, 5], [1, 0, 2, 3, 4, 5], [1, 2, 0, 3, 4, 5], [1, 2, 3, 0, 4, 5]] hmix (by kernel_rfl) ?_
          simp only [List.forall_mem_cons, pickOps, List.flatMap_cons, List.flatMap_nil, List.getElem?_toArray, List.getElem?_cons_zero, List.getElem?_cons_succ, Option.toList_some, List.cons_append, List.nil_append]
          rw [← HWe.out]
          refine ⟨?_, ?_, ?_, ?_, by simp⟩
          all_goals
            gi_wp2_with (first | (refine ⟨trivial, ?_⟩; refine (CallsIn.inRound l (callsIn_wide.2 (kQ _))).mono ?_; rintro e w7 ⟨rfl, hb7⟩; have HM7 := Lib.hid (HM6.out.below hb7); have hv7 := boxed_below hv6 hb7; have hrow7 := ownsRow_below hrow6 hb7; have hcd7 := hv7.cell; have hsz7 := (hB6.trans (hb7.mono hszB6)).size) | (gi_at_builtin; refine wpListIn_append_own_string _ rfl _ _ 33 9 rfl w.heap.size 5 i0 Try.underlying33 Try.underlying9 hi hz0 hz1 hz2 _ _ _ rfl hrow7 _ rfl (by unfold maxLen; omega) (by omega) hsz7 ?_; intro v' w8 hown' hgrow _; obtain ⟨ao, sn, scap, rfl⟩ := owns_slice hown'; obtain ⟨hv8, hM8, hk8⟩ := HM7.out.append hv7 hrow7 hown' hgrow; have hc8 := hv8.cell; have hf8 := hv8.frozen))
            exact ⟨((hk7.trans (keeps_below hb7)).trans hk8).from _, keep hM8, by show WrM w s (wrP _) _; rw [E2.out]; exact hM8⟩
  case done =>
    rintro D ys W hD hys hM hK
    obtain ⟨⟨⟨v, hv, hrow, -⟩, hsb⟩, hB⟩ := hM
    have hc := hv.cell
    have kc := conv_owns hrow
    have e : E = wrP ys := by
      rw [HE.out]
      unfold wrP writeJ
      rw [hys.done]
    have HEE := Lib.hid e
    have HB := Lib.hid hB
    clear hB
    gi_wp2
    refine ⟨by simp, .inl ⟨_, _, rfl, run_takeDeferred hK, ?_⟩⟩
    exact ⟨_, results_tmp rfl _ _ _, by rw [HEE.out]; rfl, HB.out.trans (belowK_b (w := w) (Nat.le_refl _) W D _ _ (by omega) hK rfl rfl)⟩
  case stop =>
    rintro D c pre W _ _ h _
    exact h.elim
end Go.Proofs.Ytahkfoaogcbecaa
