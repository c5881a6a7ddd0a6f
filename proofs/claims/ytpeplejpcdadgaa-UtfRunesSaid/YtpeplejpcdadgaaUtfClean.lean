/-
  The contract of nuncio/utf.Clean.
-/
import Derived.Test.YtpeplejpcdadgaaOrders
import Derived.Test.YtpeplejpcdadgaaPlainClean
import Derived.Test.YtpeplejpcdadgaaBytesOwn
import Derived.Test.YtpeplejpcdadgaaUtfFront
namespace Go.Proofs.Ytpeplejpcdadgaa
open Go.RowKit Go.Shelf

def ctlI (r : Int) : Bool := decide ((r < 32 ∧ r ≠ 9 ∧ r ≠ 10) ∨ (127 ≤ r ∧ r ≤ 159))
theorem ctlI_nat (r : Nat) : ctlI (r : Int) = ctlN r := by
  unfold ctlI ctlN
  rw [decide_eq_decide]
  omega
set_option maxHeartbeats 400000 in
theorem control_any (r : Int) (w : World) :
    Calls Try.prog 27 #[.int .i32 r] w fun e w' => e = .returned (.bool (ctlI r)) ∧ w = w' := by
  obtain ⟨b, hb⟩ : ∃ b, b = ctlI r := ⟨_, rfl⟩
  rw [← hb]
  have Hb := Lib.hid hb
  clear hb
  by_cases c1 : r < 32
  · by_cases c2 : r = 9
    · subst c2
      go_enter Try.func27, Try.ntmps27
      go_wp2
      go_ret
      exact ⟨by rw [Hb.out]; rfl, rfl⟩
    · by_cases c3 : r = 10
      · subst c3
        go_enter Try.func27, Try.ntmps27
        go_wp2
        go_ret
        exact ⟨by rw [Hb.out]; rfl, rfl⟩
      · have e2 : (r != 9) = true := by simp [c2]
        have e3 : (r != 10) = true := by simp [c3]
        have hv : ctlI r = true := decide_eq_true (by omega)
        have Hv := Lib.hid hv
        clear hv
        go_enter Try.func27, Try.ntmps27
        go_wp2
        go_ret
        exact ⟨by rw [Hb.out, Hv.out]; rfl, rfl⟩
  · have c1' : 32 ≤ r := by omega
    by_cases c4 : 127 ≤ r
    · by_cases c5 : r ≤ 159
      · have hv : ctlI r = true := decide_eq_true (by omega)
        have Hv := Lib.hid hv
        clear hv
        go_enter Try.func27, Try.ntmps27
        go_wp2
        go_ret
        exact ⟨by rw [Hb.out, Hv.out]; rfl, rfl⟩
      · have c5' : 159 < r := by omega
        have hv : ctlI r = false := decide_eq_false (by omega)
        have Hv := Lib.hid hv
        clear hv
        go_enter Try.func27, Try.ntmps27
        go_wp2
        go_ret
        exact ⟨by rw [Hb.out, Hv.out]; rfl, rfl⟩
    · have c4' : r < 127 := by omega
      have hv : ctlI r = false := decide_eq_false (by omega)
      have Hv := Lib.hid hv
      clear hv
      go_enter Try.func27, Try.ntmps27
      go_wp2
      go_ret
      exact ⟨by rw [Hb.out, Hv.out]; rfl, rfl⟩

attribute [local go_sem] Oper.semAt_some

def runesS (s : ByteArray) (pre : List StepV) : List Nat := clnR s.data.toList 0 (pre.map fun y : StepV => y.1)
/-- What Clean has written behind so many steps. -/
def cleanP (s : ByteArray) (pre : List StepV) : ByteArray := ⟨((runesS s pre).flatMap encL).toArray⟩
theorem cleanP_snoc (s : ByteArray) (pre : List StepV) (x : StepV) : cleanP s (pre ++ [x]) = cleanP s pre ++ ⟨((outR s.data.toList (sumP pre + x.1.2) x.1.1).flatMap encL).toArray⟩ := by
  refine bytes_ext ?_
  rw [append_data']
  unfold cleanP runesS
  rw [List.map_append, List.map_cons, List.map_nil, clnR_snoc, List.flatMap_append]
  simp [sumP]
theorem cleanP_len (s : ByteArray) (pre : List StepV) : (cleanP s pre).size ≤ 4 * pre.length := by
  have := clnR_len s.data.toList (pre.map fun y : StepV => y.1) 0
  rw [List.length_map] at this
  unfold cleanP runesS
  rw [Lib.size_eq]
  simpa using this

/-- What holds behind so many steps of Clean. -/
def CleanI (w w0 : World) (s : ByteArray) (pre : List StepV) (W : World) : Prop :=
  (((∃ v, Boxed W (w.heap.size + 1) 44 v ∧ W.ownsRow (w0.heap.size + 1) 5 1 v (cleanP s pre).size (Lib.strCells (cleanP s pre)) ∧ True) ∧ Boxed W (w.heap.size + 1 + 1) 3 (.int .i64 (sumP pre : Int))) ∧ Boxed W w.heap.size 9 (.string s)) ∧ Below w.heap.size w W ∧ w0.heap.size + 1 ≤ W.heap.size
theorem cleanI_own (w w0 : World) (s : ByteArray) (hz : w.heap.size + 1 + 1 + 1 = w0.heap.size) : OwnFrom (w0.heap.size + 1) (CleanI w w0 s) :=
  OwnFrom.and (OwnFrom.and (OwnFrom.and (Own.from (holdsRow_own (w0.heap.size + 1) (w.heap.size + 1) 44 5 1 (fun pre : List StepV => (cleanP s pre).size) (fun pre => Lib.strCells (cleanP s pre)) (fun _ _ => True)) _) (Own.from (boxed_own _ 3 (fun pre : List StepV => Value.int .i64 (sumP pre : Int))) _)) (Own.from (boxed_own _ 9 (fun _ : List StepV => Value.string s)) _)) (OwnFrom.and (ownFrom_below (Nat.le_refl _) (by omega)) (fun _ _ _ _ h hg _ => Nat.le_trans h hg.size))
/-- A step that has written y. -/
theorem clean_next {w w0 W W2 Wf : World} {s y : ByteArray} {pre : List StepV} {x : StepV} {v' : Value} (hz : w.heap.size + 1 + 1 + 1 = w0.heap.size) (hI : CleanI w w0 s pre W)
    (hW2 : W2 = W.setCell ⟨w.heap.size + 1 + 1, 0, none⟩ (.int .i64 ((sumP pre : Int) + (x.1.2 : Int)))) (hk3 : KeepsOthers W2 Wf) (hb3 : Below w.heap.size W2 Wf)
    (hlo3 : ∀ j, j < w0.heap.size + 1 → j ≠ w.heap.size + 1 → Wf.heap[j]? = W2.heap[j]?) (hv3 : Boxed Wf (w.heap.size + 1) 44 v')
    (hr3 : Wf.ownsRow (w0.heap.size + 1) 5 1 v' ((cleanP s pre).size + y.size) (Lib.strCells (cleanP s pre) ++ Lib.strCells y))
    (hy : y = ⟨((outR s.data.toList (sumP pre + x.1.2) x.1.1).flatMap encL).toArray⟩) : KeepsFrom (w0.heap.size + 1) W Wf ∧ KeepOne w0.heap.size W Wf ∧ CleanI w w0 s (pre ++ [x]) Wf := by
  obtain ⟨⟨⟨-, hn⟩, hst⟩, hB, hws⟩ := hI
  have e : cleanP s (pre ++ [x]) = cleanP s pre ++ y := by rw [cleanP_snoc, hy]
  have ho : ∀ j, j < w0.heap.size + 1 → j ≠ w.heap.size + 1 → j ≠ w.heap.size + 1 + 1 → Wf.heap[j]? = W.heap[j]? := fun j h1 h2 h3 => by
    rw [hlo3 j h1 h2, hW2]
    exact Below.heap_setCell _ _ _ _ h3
  have hn2 : Boxed W2 (w.heap.size + 1 + 1) 3 (.int .i64 ((sumP pre : Int) + (x.1.2 : Int))) := by rw [hW2]; exact hn.set _
  refine ⟨(KeepsOthers.trans (by rw [hW2]; exact KeepsOthers.setCell _ _ _) hk3).from _, ho _ (by omega) (by omega) (by omega), ⟨⟨⟨v', hv3, ?_, trivial⟩, ?_⟩, (ho _ (by omega) (by omega) (by omega)).trans hst⟩, ?_, ?_⟩
  · rw [e, strCells_app, ByteArray.size_append]
    exact hr3
  · have := (hlo3 (w.heap.size + 1 + 1) (by omega) (by omega)).trans hn2
    rw [sumP_snoc, Int.natCast_add]
    exact this
  · exact Below.trans (by rw [hW2]; exact hB.setCell (by dsimp only; omega) _) hb3
  · have h1 := hk3.size
    rw [hW2] at h1
    simp [World.setCell] at h1
    omega
theorem owns_slice {W : World} {base : Nat} {e : TypeId} {size : Nat} {v : Value} {n : Nat} {xs : List Value} (h : W.ownsRow base e size v n xs) : ∃ ao m cap, v = .slice ao m cap := by
  rcases h.2 with ⟨rfl, _⟩ | ⟨g, cap, cur, rfl, _⟩
  · exact ⟨_, _, _, rfl⟩
  · exact ⟨_, _, _, rfl⟩
theorem encode_size (r : Int) : (Utf8.encode r).size ≤ 4 := by
  cases h : runeB r with
  | false => rw [encode_bad r h]; decide
  | true =>
    have h' := of_decide_eq_true h
    obtain ⟨k, rfl⟩ := Int.eq_ofNat_of_zero_le (show 0 ≤ r by omega)
    rw [encode_rune k (by unfold isRune; omega)]
    show (encL k).length ≤ 4
    rw [encL_len]
    split <;> (try split) <;> (try split) <;> omega
theorem below_drew_self (W : World) : Below W.heap.size W W.drew := ⟨rfl, rfl, rfl, Nat.le_refl _, fun _ _ => rfl⟩

set_option maxRecDepth 100000 in
set_option maxHeartbeats 4000000 in
theorem utfClean_any (s : ByteArray) (w : World) (hs : s.size ≤ 1000000000000) :
    Calls Try.prog 20 #[.string s] w fun e W' => e = .returned (.string ⟨(cleanL s.data.toList).toArray⟩) ∧ Below w.heap.size w W' := by
  obtain ⟨R, hR⟩ : ∃ R : ByteArray, R = ⟨(cleanL s.data.toList).toArray⟩ := ⟨_, rfl⟩
  rw [← hR]
  have HR := Lib.hid hR
  clear hR
  refine (callsIn_wide (n := 5)).1 ?_
  have hmix : Try.prog.follows .mixedOrders = true := by kernel_rfl
  obtain ⟨i0, hi, hz0, hz1, hz2⟩ := info_parts infoU8
  refine callsIn_of_wp_marks Try.func20 rfl trivial ?_ rfl
  simp only [Try.ntmps20, List.size_toArray, List.length_cons, List.length_nil, Nat.reduceAdd, Nat.reduceSub, Array.replicate_succ, Array.replicate_zero, List.push_toArray, List.append_toArray, List.nil_append, List.cons_append]
  gi_wp2_with (refine ⟨trivial, ?_⟩; gi_at_call 26; refine (steps_in _ _ _).mono ?_; rintro e w' ⟨rfl, rfl⟩)
  have bS := Boxed.new w 9 (.string s)
  have bC := Boxed.new (w.alloc (.cells #[.string s] 9)) 44 (.slice none 0 0)
  have bN := Boxed.new ((w.alloc (.cells #[.string s] 9)).alloc (.cells #[.slice none 0 0] 44)) 3 (.int .i64 0)
  rw [World.size_alloc] at bC
  rw [World.size_alloc, World.size_alloc] at bN
  have hB0 : Below w.heap.size w (((w.alloc (.cells #[.string s] 9)).alloc (.cells #[.slice none 0 0] 44)).alloc (.cells #[.int .i64 0] 3)) := (((Below.refl _ w).alloc (Nat.le_refl _) _).alloc (by simp) _).alloc (by simp; omega) _
  obtain ⟨w0, hw0⟩ : ∃ w0, ((w.alloc (.cells #[.string s] 9)).alloc (.cells #[.slice none 0 0] 44)).alloc (.cells #[.int .i64 0] 3) = w0 := ⟨_, rfl⟩
  have hz : w.heap.size + 1 + 1 + 1 = w0.heap.size := by rw [← hw0]; simp
  have bS0 : Boxed w0 w.heap.size 9 (.string s) := by rw [← hw0]; exact (bS.alloc _).alloc _
  have bC0 : Boxed w0 (w.heap.size + 1) 44 (.slice none 0 0) := by rw [← hw0]; exact bC.alloc _
  rw [hw0] at bN hB0
  have hB1 : Below w.heap.size w (w0.alloc (.cells #[.string s] 9)) := hB0.alloc (by omega) _
  simp only [hw0, hz]
  clear bS bC hw0
  refine range_steps s (by omega) w0 rfl
    (CleanI w w0 s)
    (fun _ _ _ => False)
    (cleanI_own w w0 s hz)
    (fun _ _ _ _ _ hs _ _ => hs)
    ⟨⟨⟨⟨_, bC0.alloc _, World.ownsRow_nil _ _ _ _, trivial⟩, bN.alloc _⟩, bS0.alloc _⟩, hB1, by simp⟩
    (fun x => { tmps := #[.string s, .pointer (some ⟨w.heap.size, 0, none⟩), .string ⟨#[]⟩, .pointer (some ⟨w.heap.size + 1, 0, none⟩), .pointer (some ⟨w.heap.size + 1 + 1, 0, none⟩), .int .i32 (x.1.1 : Int), .int .i64 (x.1.2 : Int), .string s, .func (.func 29) #[] #[.pointer (some ⟨w0.heap.size, 0, none⟩)], .int .i32 (x.1.1 : Int), .int .i64 (x.1.2 : Int), undef, undef, undef, undef, undef, undef, undef, undef, undef, undef, undef, undef, undef, undef, undef, undef, undef, undef, undef, undef, undef, undef, undef, undef, undef, undef, undef, undef, undef, undef, undef, undef, undef, undef, undef, undef], defers := [] }) ?assign ?body ?done ?stop
  case assign =>
    intro l x W K hK
    gi_wp2
    exact hK
  case body =>
    rintro l pre x W hI hlt
    have HI := Lib.hid hI
    obtain ⟨⟨⟨⟨v, hv, hrow, -⟩, hn⟩, hst⟩, hB, hws⟩ := hI
    have hx1 := x.2.2.1
    have hx2 := x.2.2.2
    have hsl := sumP_le pre
    have hcl := cleanP_len s pre
    have hcn := hn.cell
    have hfn := hn.frozen
    obtain ⟨W2, hW2⟩ : ∃ W2, W2 = W.setCell ⟨w.heap.size + 1 + 1, 0, none⟩ (.int .i64 ((sumP pre : Int) + (x.1.2 : Int))) := ⟨_, rfl⟩
    have hv2 : Boxed W2 (w.heap.size + 1) 44 v := by rw [hW2]; exact hv.other (by omega) _
    have hrow2 : W2.ownsRow (w0.heap.size + 1) 5 1 v (cleanP s pre).size (Lib.strCells (cleanP s pre)) := by rw [hW2]; exact ownsRow_setBox hrow hn (by decide) _
    have hn2 : Boxed W2 (w.heap.size + 1 + 1) 3 (.int .i64 ((sumP pre : Int) + (x.1.2 : Int))) := by rw [hW2]; exact hn.set _
    have hst2 : Boxed W2 w.heap.size 9 (.string s) := by rw [hW2]; exact hst.other (by omega) _
    have hws2 : w0.heap.size + 1 ≤ W2.heap.size := by rw [hW2]; simp [World.setCell]; omega
    by_cases c1 : x.1.1 = 13
    · have e1 : ((x.1.1 : Int) == 13) = true := by simp; omega
      have hc2 := hv2.cell
      have hcn2 := hn2.cell
      have hcs2 := hst2.cell
      have hcv2 := (hv2.alloc (.cells #[.int .u8 10] 5)).cell
      cases c2 : tenAt s.data.toList (sumP pre + x.1.2) with
      | true =>
        have hlt2 : sumP pre + x.1.2 < s.size := by
          unfold tenAt at c2
          rw [Bool.and_eq_true] at c2
          have := of_decide_eq_true c2.1
          simpa using this
        have hb10 : (s[sumP pre + x.1.2].toNat : Int) = 10 := by
          unfold tenAt at c2
          rw [Bool.and_eq_true, beq_iff_eq] at c2
          rw [bt_at s _ hlt2]
          unfold bt
          rw [c2.2]
          rfl
        have q1 : ((s[sumP pre + x.1.2].toNat : Int) == 10) = true := by rw [hb10]; rfl
        have q2 : (sumP pre : Int) + (x.1.2 : Int) < (s.size : Int) := by omega
        have q3 : 0 ≤ (sumP pre : Int) + (x.1.2 : Int) := by omega
        have q4 : ((sumP pre : Int) + (x.1.2 : Int)).toNat = sumP pre + x.1.2 := by omega
        have HW2 := Lib.hid hW2
        rw [hW2] at hcn2 hcs2
        clear hb10 hc2 hcv2 hW2
        gi_wp2
        rw [← HW2.out]
        exact clean_next (y := ⟨#[]⟩) hz HI.out HW2.out (KeepsOthers.refl _) (Below.refl _ _) (fun _ _ _ => rfl) hv2 (by have := hrow2; rw [show (⟨#[]⟩ : ByteArray).size = 0 from rfl, Nat.add_zero, show Lib.strCells ⟨#[]⟩ = [] from rfl, List.append_nil]; exact this) (by unfold outR; rw [if_pos c1, c2]; rfl)
      | false =>
        have hten : (⟨#[10]⟩ : ByteArray) = ⟨((outR s.data.toList (sumP pre + x.1.2) x.1.1).flatMap encL).toArray⟩ := by unfold outR; rw [if_pos c1, c2]; rfl
        have Hten := Lib.hid hten
        have HW2 := Lib.hid hW2
        rw [hW2] at hcn2 hcs2 hc2 hcv2 hrow2 hv2 hws2
        have hszW : (W.setCell ⟨w.heap.size + 1 + 1, 0, none⟩ (.int .i64 ((sumP pre : Int) + (x.1.2 : Int)))).heap.size = W.heap.size := by simp [World.setCell]
        have hnew := cell_one_new (W.setCell ⟨w.heap.size + 1 + 1, 0, none⟩ (.int .i64 ((sumP pre : Int) + (x.1.2 : Int)))) (.int .u8 10) 5
        rw [hszW] at hnew
        clear hszW
        clear hten hW2
        by_cases hlt2 : sumP pre + x.1.2 < s.size
        · have q1 : ((s[sumP pre + x.1.2].toNat : Int) == 10) = false := by
            unfold tenAt at c2
            rw [decide_eq_true (by simpa using hlt2), Bool.true_and] at c2
            rw [bt_at s _ hlt2]
            have h10 : bt s (sumP pre + x.1.2) ≠ 10 := fun e => by unfold bt at e; rw [e] at c2; exact absurd c2 (by decide)
            simp; omega
          have q2 : (sumP pre : Int) + (x.1.2 : Int) < (s.size : Int) := by omega
          have q3 : 0 ≤ (sumP pre : Int) + (x.1.2 : Int) := by omega
          have q4 : ((sumP pre : Int) + (x.1.2 : Int)).toNat = sumP pre + x.1.2 := by omega
          clear c2
          gi_wp2_with (gi_at_builtin; refine wpListIn_append_own _ rfl _ _ 44 rfl (w0.heap.size + 1) 5 i0 (.int .u8 0) 1 1 Try.underlying44 hi hz0 hz1 hz2 rfl (by decide) _ _ _ rfl (hrow2.alloc _) ⟨W.heap.size, 0, none⟩ 1 1 [.int .u8 10] rfl rfl hnew (by simp [Value.oneCell']) (by unfold maxLen; omega) (by omega) (by simp; omega) ?_; intro v' w1 hown' hgrow _; obtain ⟨ao, sn, scap, rfl⟩ := owns_slice hown'; obtain ⟨hv3, hv4, hr4, hk4, hb4, hlo4⟩ := boxed_appended (m := w.heap.size) hv2 (by decide) hrow2 hws2 (by omega) (by omega) hown' hgrow; have hc3 := hv3.cell; have hf3 := hv3.frozen)
          exact clean_next (y := ⟨#[10]⟩) hz HI.out HW2.out (by rw [HW2.out]; exact hk4) (by rw [HW2.out]; exact hb4) (by rw [HW2.out]; exact hlo4) hv4 hr4 Hten.out
        · have q2 : (s.size : Int) ≤ (sumP pre : Int) + (x.1.2 : Int) := by omega
          clear c2
          gi_wp2_with (gi_at_builtin; refine wpListIn_append_own _ rfl _ _ 44 rfl (w0.heap.size + 1) 5 i0 (.int .u8 0) 1 1 Try.underlying44 hi hz0 hz1 hz2 rfl (by decide) _ _ _ rfl (hrow2.alloc _) ⟨W.heap.size, 0, none⟩ 1 1 [.int .u8 10] rfl rfl hnew (by simp [Value.oneCell']) (by unfold maxLen; omega) (by omega) (by simp; omega) ?_; intro v' w1 hown' hgrow _; obtain ⟨ao, sn, scap, rfl⟩ := owns_slice hown'; obtain ⟨hv3, hv4, hr4, hk4, hb4, hlo4⟩ := boxed_appended (m := w.heap.size) hv2 (by decide) hrow2 hws2 (by omega) (by omega) hown' hgrow; have hc3 := hv3.cell; have hf3 := hv3.frozen)
          exact clean_next (y := ⟨#[10]⟩) hz HI.out HW2.out (by rw [HW2.out]; exact hk4) (by rw [HW2.out]; exact hb4) (by rw [HW2.out]; exact hlo4) hv4 hr4 Hten.out
    · have e1 : ((x.1.1 : Int) == 13) = false := by simp; omega
      cases c2 : ctlN x.1.1 with
      | true =>
        have hct : ctlI (x.1.1 : Int) = true := by rw [ctlI_nat, c2]
        have Hct := Lib.hid hct
        have hes := encode_size 65533
        have hbd : Below w.heap.size W2 W2.drew := (below_drew_self W2).mono (by omega)
        have HW2 := Lib.hid hW2
        clear hct hW2
        gi_wp2_with (refine ⟨trivial, ?_⟩; gi_at_call 27; refine (CallsIn.inRound l (callsIn_wide.2 (control_any _ _))).mono ?_; rw [Hct.out]; rintro e W1 ⟨rfl, rfl⟩; rw [← HW2.out]; clear hcn hfn; have hv2d := boxed_below hv2 (below_drew_self W2); have hrow2d := ownsRow_below hrow2 (below_drew_self W2); have hc2d := hv2d.cell)
        refine wpIn_region_orders [[0, 1, 2, 3], [1, 0, 2, 3]] hmix (by kernel_rfl) ?_
        simp only [List.forall_mem_cons, pickOps, List.flatMap_cons, List.flatMap_nil, List.getElem?_toArray, List.getElem?_cons_zero, List.getElem?_cons_succ, Option.toList_some, List.cons_append, List.nil_append]
        refine ⟨?_, ?_, by simp⟩
        all_goals gi_wp2_with (first | (refine ⟨trivial, ?_⟩; gi_at_call 12; refine (CallsIn.inRound l (callsIn_wide.2 (utfBytes_any 65533 _))).mono ?_; rintro e W1 ⟨rfl, rfl⟩) | (gi_at_builtin; refine wpListIn_append_own_string _ rfl _ _ 44 9 rfl (w0.heap.size + 1) 5 i0 Try.underlying44 Try.underlying9 hi hz0 hz1 hz2 _ _ _ rfl hrow2d _ rfl (by unfold maxLen; omega) (by omega) hws2 ?_; intro v' w1 hown' hgrow _; obtain ⟨ao, sn, scap, rfl⟩ := owns_slice hown'; obtain ⟨hv3, hv4, hr4, hk4, hb4, hlo4⟩ := boxed_grown (m := w.heap.size) hv2d (by decide) hrow2d hws2 (by omega) (by omega) hown' hgrow; have hc3 := hv3.cell; have hf3 := hv3.frozen))
        all_goals exact clean_next hz HI.out HW2.out ((KeepsOthers.drew _).trans hk4) (hbd.trans hb4) hlo4 hv4 hr4 (by unfold outR; rw [if_neg c1, c2]; exact encode_rune 65533 (by decide))
      | false =>
        have hct : ctlI (x.1.1 : Int) = false := by rw [ctlI_nat, c2]
        have Hct := Lib.hid hct
        have hes := encode_size (x.1.1 : Int)
        have hbd : Below w.heap.size W2 W2.drew := (below_drew_self W2).mono (by omega)
        have HW2 := Lib.hid hW2
        clear hct hW2
        gi_wp2_with (refine ⟨trivial, ?_⟩; gi_at_call 27; refine (CallsIn.inRound l (callsIn_wide.2 (control_any _ _))).mono ?_; rw [Hct.out]; rintro e W1 ⟨rfl, rfl⟩; rw [← HW2.out]; clear hcn hfn; have hv2d := boxed_below hv2 (below_drew_self W2); have hrow2d := ownsRow_below hrow2 (below_drew_self W2); have hc2d := hv2d.cell)
        refine wpIn_region_orders [[0, 1, 2, 3, 4], [1, 0, 2, 3, 4], [1, 2, 0, 3, 4]] hmix (by kernel_rfl) ?_
        simp only [List.forall_mem_cons, pickOps, List.flatMap_cons, List.flatMap_nil, List.getElem?_toArray, List.getElem?_cons_zero, List.getElem?_cons_succ, Option.toList_some, List.cons_append, List.nil_append]
        refine ⟨?_, ?_, ?_, by simp⟩
        all_goals gi_wp2_with (first | (refine ⟨trivial, ?_⟩; gi_at_call 12; refine (CallsIn.inRound l (callsIn_wide.2 (utfBytes_any (x.1.1 : Int) _))).mono ?_; rintro e W1 ⟨rfl, rfl⟩) | (gi_at_builtin; refine wpListIn_append_own_string _ rfl _ _ 44 9 rfl (w0.heap.size + 1) 5 i0 Try.underlying44 Try.underlying9 hi hz0 hz1 hz2 _ _ _ rfl hrow2d _ rfl (by unfold maxLen; omega) (by omega) hws2 ?_; intro v' w1 hown' hgrow _; obtain ⟨ao, sn, scap, rfl⟩ := owns_slice hown'; obtain ⟨hv3, hv4, hr4, hk4, hb4, hlo4⟩ := boxed_grown (m := w.heap.size) hv2d (by decide) hrow2d hws2 (by omega) (by omega) hown' hgrow; have hc3 := hv3.cell; have hf3 := hv3.frozen))
        all_goals exact clean_next hz HI.out HW2.out ((KeepsOthers.drew _).trans hk4) (hbd.trans hb4) hlo4 hv4 hr4 (by unfold outR; rw [if_neg c1, c2]; rw [encode_rune x.1.1 x.2.1]; simp)
  case done =>
    rintro D ys W hD hys ⟨⟨⟨⟨v, hv, hrow, -⟩, hn⟩, hst⟩, hB, hws⟩ hK
    have hc := hv.cell
    have kc := conv_owns hrow
    gi_wp2
    refine ⟨by simp, .inl ⟨_, _, rfl, run_takeDeferred hK, ?_⟩⟩
    have e : R = cleanP s ys := by
      rw [HR.out]
      unfold cleanP runesS cleanL
      rw [hys.done]
    exact ⟨_, results_tmp rfl _ _ _, by rw [e]; rfl, hB.trans (belowK_b (w := w) (Nat.le_refl _) W D _ _ (by omega) hK rfl rfl)⟩
  case stop =>
    rintro D c pre W _ _ h _
    exact h.elim
end Go.Proofs.Ytpeplejpcdadgaa
