/-
  nuncio/qp's Encode: a range over codes, left by a goto where a line ends.
-/
import Derived.Test.YtoplcmckglglcaaQpLines
import Derived.Test.YtoplcmckglglcaaMarks
import Derived.Test.YtoplcmckglglcaaBytesOwn
import Derived.Test.YtoplcmckglglcaaMakeBytes
namespace Go.Proofs.Ytoplcmckglglcaa
set_option linter.unusedVariables false
set_option linter.unusedSimpArgs false
open Go.RowKit Go.Shelf
attribute [local go_sem] Oper.semAt_some

theorem lit2 : (⟨#[13, 10]⟩ : ByteArray).size = 2 ∧ (⟨#[61, 13, 10]⟩ : ByteArray).size = 3 := ⟨rfl, rfl⟩
theorem Exit.jump_normal {l : Nat} {J : Act → World → Prop} {Q : Exit → Act → World → Prop} {a : Act} {w : World} : Exit.jump l J Q .normal a w = Q .normal a w := rfl
theorem Exit.jump_ret {l : Nat} {J : Act → World → Prop} {Q : Exit → Act → World → Prop} {a : Act} {w : World} : Exit.jump l J Q .ret a w = Q .ret a w := rfl

/-- What lies in memory while lines are written: O in 'lines', k in 'at', n in 'size'. -/
def EncM (w : World) (Ds : List Nat) (O : ByteArray) (k n : Nat) (W : World) : Prop :=
  (((∃ v, Boxed W (w.heap.size + 1) 28 v ∧ W.ownsRow w.heap.size 5 1 v O.size (Lib.strCells O) ∧ True) ∧ Boxed W (w.heap.size + 1 + 1) 3 (.int .i64 (k : Int))) ∧ Boxed W (w.heap.size + 1 + 1 + 1) 3 (.int .i64 (n : Int))) ∧ Marks w.heap.size Ds W ∧ Below w.heap.size w W
theorem encM_own {β : Type} (w : World) (T : Nat) (Ds : List Nat) (hT : ∀ D ∈ Ds, D < T) (hwT : w.heap.size ≤ T) (O : β → ByteArray) (k n : β → Nat) : OwnFrom T (fun s => EncM w Ds (O s) (k s) (n s)) :=
  OwnFrom.and (OwnFrom.and (OwnFrom.and (Own.from (holdsRow_own w.heap.size (w.heap.size + 1) 28 5 1 (fun s : β => (O s).size) (fun s => Lib.strCells (O s)) (fun _ _ => True)) _) (Own.from (boxed_own _ 3 (fun s : β => Value.int .i64 (k s : Int))) _)) (Own.from (boxed_own _ 3 (fun s : β => Value.int .i64 (n s : Int))) _)) (OwnFrom.and (Marks.from hT) (ownFrom_below (Nat.le_refl _) hwT))

theorem EncM.setSize {w W : World} {Ds : List Nat} {O : ByteArray} {k n : Nat} (h : EncM w Ds O k n W) (n' : Nat) : EncM w Ds O k n' (W.setCell ⟨w.heap.size + 1 + 1 + 1, 0, none⟩ (.int .i64 (n' : Int))) := by
  obtain ⟨⟨⟨⟨v, hv, hrow, -⟩, ha⟩, hn⟩, hm, hB⟩ := h
  refine ⟨⟨⟨⟨v, hv.other (by omega) _, ownsRow_setBox hrow hn (by decide) _, trivial⟩, ha.other (by omega) _⟩, hn.set _⟩, hm.kept fun D hD => ?_, hB.setCell (by dsimp only; omega) _⟩
  have h1 := (hm.2 D hD).2
  exact Below.heap_setCell _ _ _ _ (fun e => by subst e; rw [show W.heap[w.heap.size + 1 + 1 + 1]? = _ from hn] at h1; cases h1)
theorem EncM.setAt {w W : World} {Ds : List Nat} {O : ByteArray} {k n : Nat} (h : EncM w Ds O k n W) (k' : Nat) : EncM w Ds O k' n (W.setCell ⟨w.heap.size + 1 + 1, 0, none⟩ (.int .i64 (k' : Int))) := by
  obtain ⟨⟨⟨⟨v, hv, hrow, -⟩, ha⟩, hn⟩, hm, hB⟩ := h
  refine ⟨⟨⟨⟨v, hv.other (by omega) _, ownsRow_setBox hrow ha (by decide) _, trivial⟩, ha.set _⟩, hn.other (by omega) _⟩, hm.kept fun D hD => ?_, hB.setCell (by dsimp only; omega) _⟩
  have h1 := (hm.2 D hD).2
  exact Below.heap_setCell _ _ _ _ (fun e => by subst e; rw [show W.heap[w.heap.size + 1 + 1]? = _ from ha] at h1; cases h1)
theorem EncM.below {w W W' : World} {Ds : List Nat} {O : ByteArray} {k n : Nat} (h : EncM w Ds O k n W) (hb : Below W.heap.size W W') : EncM w Ds O k n W' := by
  obtain ⟨⟨⟨⟨v, hv, hrow, -⟩, ha⟩, hn⟩, hm, hB⟩ := h
  exact ⟨⟨⟨⟨v, boxed_below hv hb, ownsRow_below hrow hb, trivial⟩, boxed_below ha hb⟩, boxed_below hn hb⟩, hm.below hb, hB.trans (hb.mono hB.size)⟩
theorem EncM.mark {w W : World} {Ds : List Nat} {O : ByteArray} {k n D : Nat} (h : EncM w Ds O k n W) (hD : ∀ d ∈ Ds, d < D) (hwD : w.heap.size ≤ D) (hK : W.heap[D]? = some (.deferred (some []))) : EncM w (D :: Ds) O k n W :=
  ⟨h.1, ⟨List.nodup_cons.2 ⟨fun hm => by have := hD D hm; omega, h.2.1.1⟩, fun d hd => by
    rcases List.mem_cons.1 hd with rfl | hd
    · exact ⟨hwD, hK⟩
    · exact h.2.1.2 d hd⟩, h.2.2⟩
/-- 'lines = append(lines, ..)'. -/
theorem EncM.append {w W w1 : World} {Ds : List Nat} {O y : ByteArray} {k n : Nat} {v v' : Value} (h : EncM w Ds O k n W) (hv : Boxed W (w.heap.size + 1) 28 v) (hrow : W.ownsRow w.heap.size 5 1 v O.size (Lib.strCells O))
    (hown : w1.ownsRow w.heap.size 5 1 v' (O.size + y.size) (Lib.strCells O ++ Lib.strCells y)) (hgrow : W.grownBy w1 v.ownBlock) :
    Boxed w1 (w.heap.size + 1) 28 v ∧ EncM w Ds (O ++ y) k n (w1.setCell ⟨w.heap.size + 1, 0, none⟩ v') ∧ KeepsOthers W (w1.setCell ⟨w.heap.size + 1, 0, none⟩ v') ∧
      (∀ B t u, t ≠ 5 → B ≠ w.heap.size + 1 → Boxed W B t u → Boxed (w1.setCell ⟨w.heap.size + 1, 0, none⟩ v') B t u) := by
  obtain ⟨⟨⟨-, ha⟩, hn⟩, hm, hB⟩ := h
  obtain ⟨h1, h2, h3, h4, h5, h6⟩ := boxed_grown_other (m := w.heap.size) hv (by decide) hrow (by omega) (Nat.le_refl _) hB.size hown hgrow
  have hbx : ∀ B t u, t ≠ 5 → B ≠ w.heap.size + 1 → Boxed W B t u → Boxed (w1.setCell ⟨w.heap.size + 1, 0, none⟩ v') B t u := fun B t u ht hne hb =>
    h6 B _ hb (fun cur e => by cases e; exact ht rfl) hne
  refine ⟨h1, ⟨⟨⟨⟨v', h2, by rw [ByteArray.size_append, strCells_app]; exact h3, trivial⟩, hbx _ _ _ (by decide) (by omega) ha⟩, hbx _ _ _ (by decide) (by omega) hn⟩, hm.kept fun D hD => ?_, hB.trans h5⟩, h4, hbx⟩
  have hD2 := (hm.2 D hD).2
  rw [hD2]
  exact h6 D _ hD2 (fun cur e => by cases e) (fun e => by subst e; rw [show W.heap[w.heap.size + 1]? = _ from hv] at hD2; cases hD2)

set_option maxRecDepth 100000 in
set_option maxHeartbeats 4000000 in
theorem encode_any (w : World) (s : ByteArray) (hs : s.size ≤ 100000) :
    Calls Try.prog 7 #[.string s] w fun e w' => e = .returned (.string ⟨(encQ 0 s.data.toList).toArray⟩) ∧ Below w.heap.size w w' := by
  obtain ⟨E, hE⟩ : ∃ E : ByteArray, E = ⟨(encQ 0 s.data.toList).toArray⟩ := ⟨_, rfl⟩
  rw [← hE]
  have hEl : E.data.toList = encQ 0 s.data.toList := by rw [hE]
  have HE := Lib.hid hEl
  clear hE hEl
  refine (callsIn_wide (n := 5)).1 ?_
  obtain ⟨i0, hi, hz0, hz1, hz2⟩ := info_parts infoU8
  refine callsIn_of_wp_marks Try.func7 rfl trivial ?_ rfl
  simp only [Try.ntmps7, List.size_toArray, List.length_cons, List.length_nil, Nat.reduceAdd, Nat.reduceSub, Array.replicate_succ, Array.replicate_zero, List.push_toArray, List.append_toArray, List.nil_append, List.cons_append]
  gi_wp2
  refine wpIn_scope_again (b := ?b) 0 (fun a W => ∃ (u7 u8 u9 u10 u11 u12 : Value) (Ds : List Nat) (O : ByteArray) (k n : Nat), a = { tmps := #[.string s, undef, .string ⟨#[]⟩, .pointer (some ⟨w.heap.size + 1, 0, none⟩), .pointer (some ⟨w.heap.size + 1 + 1, 0, none⟩), .pointer (some ⟨w.heap.size + 1 + 1 + 1, 0, none⟩), undef, u7, u8, u9, u10, u11, u12, undef, undef, undef, undef, undef, undef, undef, undef, undef, undef, undef, undef, undef, undef, undef, undef, undef, undef, undef, undef, undef, undef, undef, undef, undef], defers := Ds.map markOf } ∧
      k ≤ s.size ∧ O.size ≤ 6 * k ∧ Hid (E.data.toList = O.data.toList ++ encQ 0 (s.data.toList.drop k)) ∧ EncM w Ds O k n W)
    (fun a W => match W.cell? ⟨w.heap.size + 1 + 1, 0, none⟩ with
      | some (.int _ k) => s.size - k.toNat
      | _ => 0) ?find ?pass ?first
  case find => rfl
  case pass =>
    rintro a W ⟨u7, u8, u9, u10, u11, u12, Ds, O, k, n, rfl, hk, hO, HO, hM⟩
    have hm0 : ∀ (W : World) (k : Nat), Boxed W (w.heap.size + 1 + 1) 3 (.int .i64 (k : Int)) → (match W.cell? ⟨w.heap.size + 1 + 1, 0, none⟩ with
      | some (.int _ k) => s.size - k.toNat
      | _ => 0) = s.size - k := fun W k h => by rw [h.cell]; simp
    have hM1 := hM.setSize 0
    have hcn := hM.1.2.cell
    have hfn := hM.1.2.frozen
    have hca := hM1.1.1.2.cell
    rw [hm0 _ k hM.1.1.2]
    obtain ⟨W1, hW1⟩ : ∃ W1, W.setCell ⟨w.heap.size + 1 + 1 + 1, 0, none⟩ (.int .i64 0) = W1 := ⟨_, rfl⟩
    have hW1' : W.setCell ⟨w.heap.size + 1 + 1 + 1, 0, none⟩ (.int .i64 ((0 : Nat) : Int)) = W1 := hW1
    rw [hW1'] at hM1 hca
    have HM1 := Lib.hid hM1
    rw [← hW1] at hca
    have HW1 := Lib.hid hW1
    clear hW1 hW1' hM1
    gi_wp2_with fail
    rw [HW1.out]
    refine ⟨trivial, ?_⟩
    refine (codes_in _ s k W1).mono ?_
    rintro e w' ⟨rfl, rfl⟩
    clear hcn hfn hca HW1 hM
    obtain ⟨⟨⟨⟨v, hv, hrow, -⟩, ha⟩, hn⟩, hm, hB⟩ := HM1.out
    have bS := (Boxed.new W1 9 (.string s)).alloc (.cells #[.int .i64 (k : Int)] 3)
    have bF := Boxed.new (W1.alloc (.cells #[.string s] 9)) 3 (.int .i64 (k : Int))
    have hB2 : Below W1.heap.size W1 ((W1.alloc (.cells #[.string s] 9)).alloc (.cells #[.int .i64 (k : Int)] 3)) := ((Below.refl _ _).alloc (Nat.le_refl _) _).alloc (by simp) _
    rw [World.size_alloc] at bF
    have hT : ∀ D ∈ Ds, D < W1.heap.size := fun D hD => heap_lt (hm.2 D hD).2
    obtain ⟨W2, hW2⟩ : ∃ W2, (W1.alloc (.cells #[.string s] 9)).alloc (.cells #[.int .i64 (k : Int)] 3) = W2 := ⟨_, rfl⟩
    have hsz2 : W2.heap.size = W1.heap.size + 2 := by rw [← hW2]; simp
    have hszB := hB.size
    have hszB4 := hn.lt
    rw [hW2] at bS bF hB2
    have hM2 := HM1.out.below hB2
    have HW2 := Lib.hid hW2
    clear hW2
    gi_wp2_with fail
    rw [HW2.out]
    have HHO := Lib.hid hO
    refine wpIn_rangeFunc_ownG rfl (by omega) (gf := 21) (lb := #[.pointer (some ⟨W1.heap.size + 1, 0, none⟩), .pointer (some ⟨W1.heap.size, 0, none⟩)]) rfl trivial (enters_of Try.func21 (by kernel_rfl) rfl)
      (codes_stops 4 (by omega) (W1.heap.size + 1) W1.heap.size s k hk hs W2 bF bS) KeepTwo.t (KeepTwo.b (by omega) (by omega)) (Below.refl _ _) (fun _ => rfl)
      (fun (pre : List CodeV) W => (EncM w Ds (O ++ catC pre) (k + pre.length) (catC pre).size W ∧ (Boxed W (W1.heap.size + 1) 3 (.int .i64 (k : Int)) ∧ Boxed W W1.heap.size 9 (.string s))) ∧ InLine pre)
      (fun c q W => c = .goto 0 ∧ ∃ O' k' n', Jump O k q O' k' ∧ EncM w Ds O' k' n' W)
      (OwnFrom.and (OwnFrom.and (encM_own w _ Ds (fun D hD => by have := hT D hD; omega) (by omega) _ _ _) (OwnFrom.and (Own.from (boxed_own _ 3 (fun _ => _)) _) (Own.from (boxed_own _ 9 (fun _ => _)) _))) (fun _ _ _ _ h _ _ => h))
      (fun c q A B row h hg hr => by
        obtain ⟨hc, O', k', n', hj, he⟩ := h
        exact ⟨hc, O', k', n', hj, encM_own w _ Ds (fun D hD => by have := hT D hD; omega) (by omega) (fun _ : List CodeV => O') (fun _ => k') (fun _ => n') q A B row he hg hr⟩)
      ⟨⟨by rw [show O ++ catC [] = O from bytes_ext (by simp [catC, codesL])]; exact hM2, bF, bS⟩, InLine.nil⟩
      (fun x => { tmps := #[.string s, undef, .string ⟨#[]⟩, .pointer (some ⟨w.heap.size + 1, 0, none⟩), .pointer (some ⟨w.heap.size + 1 + 1, 0, none⟩), .pointer (some ⟨w.heap.size + 1 + 1 + 1, 0, none⟩), .string x.1, u7, u8, u9, .string s, .int .i64 (k : Int), .func (.func 21) #[] #[.pointer (some ⟨W1.heap.size + 1, 0, none⟩), .pointer (some ⟨W1.heap.size, 0, none⟩)], .string x.1, undef, undef, undef, undef, undef, undef, undef, undef, undef, undef, undef, undef, undef, undef, undef, undef, undef, undef, undef, undef, undef, undef, undef, undef], defers := [] }) ?assign ?body ?done ?stop
    case assign =>
      intro l x W K hK
      unfold codeArgs
      gi_wp2
      exact hK
    case body =>
      rintro l pre x W ⟨⟨hM, hF, hS⟩, hl⟩ hlt
      obtain ⟨y, hy⟩ : ∃ y, y = x.1 := ⟨_, rfl⟩
      obtain ⟨ka, hka⟩ : ∃ ka, ka = k + pre.length := ⟨_, rfl⟩
      obtain ⟨m, hmc⟩ : ∃ m, m = (catC pre).size := ⟨_, rfl⟩
      obtain ⟨P, hP⟩ : ∃ P, P = O ++ catC pre := ⟨_, rfl⟩
      have hpc := catC_len pre
      have hP2 : P.size ≤ 2000000 := by rw [hP, ByteArray.size_append]; omega
      have hka2 : ka ≤ 1000000 := by omega
      have hm2 : m ≤ 75 := by rw [hmc]; exact hl.2
      have hx := x.2
      rw [← hy] at hx
      rw [← hka, ← hmc, ← hP] at hM
      have HM := Lib.hid hM
      have HL := Lib.hid hl
      have Hka := Lib.hid hka
      have Hmc := Lib.hid hmc
      have HP := Lib.hid hP
      have Hy := Lib.hid hy
      obtain ⟨⟨⟨⟨v, hv, hrow, -⟩, ha⟩, hn⟩, hm, hB⟩ := hM
      have hca := ha.cell
      have hfa := ha.frozen
      have hcn := hn.cell
      have hfn := hn.frozen
      have hcv := hv.cell
      have hszB3 := hB.size
      simp only [← hy]
      clear hl hka hmc hP hy hpc
      by_cases hcr : y = crlf
      · unfold crlf at hcr
        subst hcr
        gi_wp2_with (gi_at_builtin; refine wpListIn_append_own_string _ rfl _ _ 28 9 rfl w.heap.size 5 i0 Try.underlying28 Try.underlying9 hi hz0 hz1 hz2 _ _ _ rfl hrow _ rfl (by first | (simp only [lit2]; unfold maxLen; omega) | (unfold maxLen; omega)) (by first | (simp only [lit2]; omega) | omega) hszB3 ?_; intro v' w1 hown' hgrow _; obtain ⟨ao, sn, scap, rfl⟩ := owns_slice hown'; obtain ⟨hv3, hM4, hk4, hbx⟩ := HM.out.append hv hrow hown' hgrow; have hc3 := hv3.cell; have hf3 := hv3.frozen; have hca4 := hM4.1.1.2.cell; have hfa4 := hM4.1.1.2.frozen; have hfn4 := hM4.1.2.frozen; have hcn4 := ((hM4.setAt (ka + 1)).1.2).cell; simp only [Int.natCast_add, Int.cast_ofNat_Int] at hcn4)
        have hk5 := (hk4.trans (KeepsOthers.setCell _ ⟨w.heap.size + 1 + 1, 0, none⟩ (.int .i64 ((ka : Int) + 1)))).from W2.heap.size
        refine wpIn_goto ?_
        exact ⟨hk5, rfl, _, _, _, ⟨pre, x, rfl, HL.out, .inl ⟨Hy.out.symm, by rw [← HP.out]; rfl, by rw [← Hka.out]⟩⟩, hM4.setAt (ka + 1)⟩
      · have q1 : (y.toList == [13, 10]) = false := by
          have h := bytes_beq_other hcr
          simpa [crlf] using h
        by_cases h75 : 75 < m + y.size
        · have g75 : decide ((m : Int) + (y.size : Int) > 75) = true := decide_eq_true (by omega)
          gi_wp2_with (gi_at_builtin; refine wpListIn_append_own_string _ rfl _ _ 28 9 rfl w.heap.size 5 i0 Try.underlying28 Try.underlying9 hi hz0 hz1 hz2 _ _ _ rfl hrow _ rfl (by first | (simp only [lit2]; unfold maxLen; omega) | (unfold maxLen; omega)) (by first | (simp only [lit2]; omega) | omega) hszB3 ?_; intro v' w1 hown' hgrow _; obtain ⟨ao, sn, scap, rfl⟩ := owns_slice hown'; obtain ⟨hv3, hM4, hk4, hbx⟩ := HM.out.append hv hrow hown' hgrow; have hc3 := hv3.cell; have hf3 := hv3.frozen; have hca4 := hM4.1.1.2.cell; have hfa4 := hM4.1.1.2.frozen; have hfn4 := hM4.1.2.frozen; have hcn4 := ((hM4.setAt (ka + 1)).1.2).cell; simp only [Int.natCast_add, Int.cast_ofNat_Int] at hcn4)
          refine wpIn_goto ?_
          exact ⟨hk4.from _, rfl, _, _, _, ⟨pre, x, rfl, HL.out, .inr ⟨by rw [← Hy.out]; exact hcr, by rw [← Hy.out, ← Hmc.out]; exact h75, by rw [← HP.out]; rfl, Hka.out⟩⟩, hM4⟩
        · have g75 : decide ((m : Int) + (y.size : Int) > 75) = false := decide_eq_false (by omega)
          gi_wp2_with (gi_at_builtin; refine wpListIn_append_own_string _ rfl _ _ 28 9 rfl w.heap.size 5 i0 Try.underlying28 Try.underlying9 hi hz0 hz1 hz2 _ _ _ rfl hrow _ rfl (by first | (simp only [lit2]; unfold maxLen; omega) | (unfold maxLen; omega)) (by first | (simp only [lit2]; omega) | omega) hszB3 ?_; intro v' w1 hown' hgrow _; obtain ⟨ao, sn, scap, rfl⟩ := owns_slice hown'; obtain ⟨hv3, hM4, hk4, hbx⟩ := HM.out.append hv hrow hown' hgrow; have hc3 := hv3.cell; have hf3 := hv3.frozen; have hca4 := hM4.1.1.2.cell; have hfa4 := hM4.1.1.2.frozen; have hfn4 := hM4.1.2.frozen; have hcn4 := ((hM4.setAt (ka + 1)).1.2).cell; simp only [Int.natCast_add, Int.cast_ofNat_Int] at hcn4)
          have hM5 := (hM4.setAt (ka + 1)).setSize (m + y.size)
          have hF4 := hbx _ _ _ (by decide) (by omega) hF
          have hS4 := hbx _ _ _ (by decide) (by omega) hS
          have hF5 := (hF4.other (B' := w.heap.size + 1 + 1) (by omega) (.int .i64 ((ka : Int) + 1))).other (B' := w.heap.size + 1 + 1 + 1) (by omega) (.int .i64 ((m : Int) + (y.size : Int)))
          have hS5 := (hS4.other (B' := w.heap.size + 1 + 1) (by omega) (.int .i64 ((ka : Int) + 1))).other (B' := w.heap.size + 1 + 1 + 1) (by omega) (.int .i64 ((m : Int) + (y.size : Int)))
          have hk5 := ((hk4.trans (KeepsOthers.setCell _ ⟨w.heap.size + 1 + 1, 0, none⟩ (.int .i64 ((ka : Int) + 1)))).trans (KeepsOthers.setCell _ ⟨w.heap.size + 1 + 1 + 1, 0, none⟩ (.int .i64 ((m : Int) + (y.size : Int))))).from W2.heap.size
          refine ⟨hk5, ⟨hF5.trans (show W.heap[_]? = _ from hF).symm, hS5.trans (show W.heap[_]? = _ from hS).symm⟩, ⟨?_, hF5, hS5⟩, HL.out.snoc (by rw [← Hy.out]; exact hcr) (by rw [← Hy.out, ← Hmc.out]; omega)⟩
          rw [catC_snoc, ← Hy.out, List.length_append, ByteArray.size_append, ← Hmc.out, show O ++ (catC pre ++ y) = P ++ y from by rw [HP.out]; exact bytes_ext (by simp), show k + (pre.length + [x].length) = ka + 1 from by rw [Hka.out]; rfl]
          exact hM5
    case done =>
      rintro D ys W hD ⟨hys, hyn⟩ ⟨⟨hM, -⟩, hl⟩ hK
      have hE := done_right hys hyn hl HO.out
      have HM := Lib.hid hM
      obtain ⟨⟨⟨⟨v, hv, hrow, -⟩, ha⟩, hn⟩, hm, hB⟩ := hM
      have hc := hv.cell
      have kc := conv_owns hrow
      have hmk : Marks w.heap.size (D :: Ds) W := ⟨List.nodup_cons.2 ⟨fun h => by have := hT D h; omega, hm.1⟩, fun d hd => by
        rcases List.mem_cons.1 hd with rfl | hd
        · exact ⟨by omega, hK⟩
        · exact hm.2 d hd⟩
      have Hmk := Lib.hid hmk
      have HB := Lib.hid hB
      have HEE := Lib.hid hE
      clear hE hB hK hmk
      gi_wp2_with fail
      rw [Exit.jump_ret]
      exact leaves_marks (D :: Ds) W Hmk.out fun w' hb => ⟨_, results_tmp rfl _ _ _, by rw [← HEE.out]; rfl, HB.out.trans hb⟩
    case stop =>
      rintro D c q W hD hq ⟨rfl, O', k', n', hj, he⟩ hK
      obtain ⟨j1, j2, j3, j4⟩ := jump_right hq hj HHO.out HO.out
      have he2 := he.mark (D := D) (fun d hd => by have := hT d hd; omega) (by omega) hK
      refine wpIn_goto ?_
      refine ⟨rfl, ⟨u7, u8, u9, _, _, _, D :: Ds, O', k', n', rfl, j3, j4, Lib.hid j1, he2⟩, ?_⟩
      rw [hm0 _ k' he.1.1.2]
      omega
  case first =>
    intro hrest
    obtain ⟨cur, hcur, hmk⟩ := make_bytes w (s.size : Int) s.size rfl (by omega)
    gi_wp2_with fail
    have b0 := World.ownsRow_made (base := w.heap.size) (size := 1) (e := 5) w cur s.size (Nat.le_refl _) (by unfold maxLen; omega) (by omega)
    have b1 := Boxed.new (w.alloc (.cells cur 5)) 28 (.slice (some ⟨w.heap.size, 0, none⟩) 0 s.size)
    have b2 := Boxed.new ((w.alloc (.cells cur 5)).alloc (.cells #[.slice (some ⟨w.heap.size, 0, none⟩) 0 s.size] 28)) 3 (.int .i64 0)
    have b3 := Boxed.new (((w.alloc (.cells cur 5)).alloc (.cells #[.slice (some ⟨w.heap.size, 0, none⟩) 0 s.size] 28)).alloc (.cells #[.int .i64 0] 3)) 3 (.int .i64 0)
    simp only [World.size_alloc] at b1 b2 b3
    refine wpIn_label ?_
    rename_i hK
    refine hK _ _ (hrest _ _ ⟨_, _, _, _, _, _, [], ⟨#[]⟩, 0, 0, rfl, Nat.zero_le _, Nat.zero_le _, HE, ⟨⟨⟨⟨_, (b1.alloc _).alloc _, ?_, trivial⟩, b2.alloc _⟩, b3⟩, Marks.nil _ _, ?_⟩⟩)
    · exact ((b0.alloc _).alloc _).alloc _
    · exact ((((Below.refl _ _).alloc (Nat.le_refl _) _).alloc (by simp) _).alloc (by simp; omega) _).alloc (by simp; omega) _
end Go.Proofs.Ytoplcmckglglcaa
