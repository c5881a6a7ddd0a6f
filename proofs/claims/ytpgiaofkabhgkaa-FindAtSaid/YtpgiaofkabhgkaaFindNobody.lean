/-
  (*find.Many).First of a Many that nobody made.
-/
import Derived.Laws.ResultCell
import Derived.Test.YtpgiaofkabhgkaaFindAwake
import Derived.Test.YtpgiaofkabhgkaaOrders
namespace Go.Proofs.Ytpgiaofkabhgkaa
set_option linter.unusedVariables false
set_option linter.unusedSimpArgs false
open Go.RowKit Go.Shelf
attribute [local go_sem] Oper.semAt_some

def Nobody (w : World) (mo : Option Addr) : Prop := mo = none ∨ ∃ mp, mo = some ⟨mp, 0, none⟩ ∧ w.heap[mp]? = some (.cells #[.int .i64 0, .map none, .slice none 0 0] 57 (0, 0))
theorem Nobody.src {w : World} {mo : Option Addr} (h : Nobody w mo) (s : ByteArray) : Src w (.pointer mo) s [] [] := by
  rcases h with rfl | ⟨mp, rfl, hb⟩
  · exact .inl ⟨rfl, rfl, .inl rfl⟩
  · exact .inl ⟨rfl, rfl, .inr ⟨mp, rfl, hb⟩⟩
theorem Nobody.below {w w' : World} {mo : Option Addr} (h : Nobody w mo) (hb : Below w.heap.size w w') : Nobody w' mo := by
  rcases h with rfl | ⟨mp, rfl, hm⟩
  · exact .inl rfl
  · exact .inr ⟨mp, rfl, (hb.block mp (Array.getElem?_eq_some_iff.1 hm).1).trans hm⟩

theorem results_hit {fn : Func} {p u : Tmp} (h : fn.results = #[.cell p 36, .tmp u]) (tmps : Array Value) (w : World) {g : Nat} {a b : Int} {fr : Nat × Nat}
    (hp : tmps.getD p undef = .pointer (some ⟨g, 0, none⟩)) (hb : w.heap[g]? = some (.cells #[.int .i64 a, .int .i64 b] 36 fr)) : (results fn tmps).run Try.prog w = .ok (.tuple #[.agg #[.int .i64 a, .int .i64 b], tmps.getD u undef]) w := by
  rw [results_cell_tmp h, hp]
  have c0 : w.cell? ⟨g, 0, none⟩ = some (.int .i64 a) := by simp [World.cell?, hb]
  have c1 : w.cell? ⟨g, 1, none⟩ = some (.int .i64 b) := by simp [World.cell?, hb]
  have aE := Try.isAgg36
  have zE := Try.sizeOf36
  clear hb h hp
  go_simp
set_option maxRecDepth 100000 in
set_option maxHeartbeats 4000000 in
theorem first_nobody (mo : Option Addr) (s : ByteArray) (fr : Int) (w : World) (hs : s.size ≤ 1000000000) (hf : -9223372036854775808 ≤ fr ∧ fr ≤ 9223372036854775807) (h : Nobody w mo) :
    Calls Try.prog 15 #[.pointer mo, .string s, .int .i64 fr] w fun e W' => e = .returned (.tuple #[.agg #[.int .i64 0, .int .i64 0], .bool false]) ∧ Below w.heap.size w W' := by
  refine (callsIn_wide (n := 5)).1 ?_
  have hmix : Try.prog.follows .mixedOrders = true := by kernel_rfl
  have hf1 := hf.1
  have hf2 := hf.2
  have HS := Lib.hid h
  clear h hf
  obtain ⟨f, hfm⟩ : ∃ f : Nat, max fr 0 = (f : Int) := ⟨(max fr 0).toNat, by omega⟩
  have hfb : (f : Int) ≤ 9223372036854775807 := by omega
  by_cases hn : s.size ≤ f
  · refine callsIn_of_wp_marks Try.func15 rfl trivial ?_ rfl
    simp only [Try.ntmps15, List.size_toArray, List.length_cons, List.length_nil, Nat.reduceAdd, Nat.reduceSub, Array.replicate_succ, Array.replicate_zero, List.push_toArray, List.append_toArray, List.nil_append, List.cons_append]
    gi_wp2
    refine ⟨_, results_hit rfl _ _ (g := w.heap.size + 1) rfl (by rw [show w.heap.size + 1 = (w.alloc (.cells #[.pointer mo] 25)).heap.size from (World.size_alloc _ _).symm]; exact World.alloc_heap_new _ _), rfl, ((Below.refl _ _).alloc (Nat.le_refl _) _).alloc (by simp) _⟩
  · have hlt : f < s.size := by omega
    refine callsIn_of_wp_marks Try.func15 rfl trivial ?_ rfl
    simp only [Try.ntmps15, List.size_toArray, List.length_cons, List.length_nil, Nat.reduceAdd, Nat.reduceSub, Array.replicate_succ, Array.replicate_zero, List.push_toArray, List.append_toArray, List.nil_append, List.cons_append]
    gi_wp2
    obtain ⟨W4, hW4⟩ : ∃ W4, W4 = ((((w.alloc (.cells #[.pointer mo] 25)).alloc (.cells #[.int .i64 0, .int .i64 0] 36)).alloc (.cells #[.int .i64 0, .int .i64 0] 36)).alloc (.cells #[.bool false] 4)) := ⟨_, rfl⟩
    rw [← hW4]
    have hz : W4.heap.size = w.heap.size + 4 := by rw [hW4]; simp
    have hB4 : Below w.heap.size w W4 := by rw [hW4]; exact ((((Below.refl _ _).alloc (Nat.le_refl _) _).alloc (by simp) _).alloc (by simp; omega) _).alloc (by simp; omega) _
    have bM : Boxed W4 w.heap.size 25 (.pointer mo) := by rw [hW4]; exact (((Boxed.new w _ _).alloc _).alloc _).alloc _
    have bR : W4.heap[w.heap.size + 1]? = some (.cells #[.int .i64 0, .int .i64 0] 36 (0, 0)) := by
      have h := World.alloc_heap_new (w.alloc (.cells #[.pointer mo] 25)) (.cells #[.int .i64 0, .int .i64 0] 36)
      rw [World.size_alloc] at h
      rw [hW4, Below.heap_alloc _ _ _ (by simp), Below.heap_alloc _ _ _ (by simp)]
      exact h
    have bF : Boxed W4 (w.heap.size + 3) 4 (.bool false) := by
      have h := Boxed.new (((w.alloc (.cells #[.pointer mo] 25)).alloc (.cells #[.int .i64 0, .int .i64 0] 36)).alloc (.cells #[.int .i64 0, .int .i64 0] 36)) 4 (.bool false)
      rw [World.size_alloc, World.size_alloc, World.size_alloc] at h
      rw [hW4]
      exact h
    have bH : W4.heap[w.heap.size + 2]? = some (.cells #[.int .i64 0, .int .i64 0] 36 (0, 0)) := by
      have h := World.alloc_heap_new ((w.alloc (.cells #[.pointer mo] 25)).alloc (.cells #[.int .i64 0, .int .i64 0] 36)) (.cells #[.int .i64 0, .int .i64 0] 36)
      rw [World.size_alloc, World.size_alloc] at h
      rw [hW4, Below.heap_alloc _ _ _ (by simp)]
      exact h
    have hN4 := HS.out.below (hB4.mono (Nat.le_refl _))
    clear hW4
    have hc := bM.cell
    obtain ⟨s', hs'⟩ : ∃ s', s' = s.extract f s.size := ⟨_, rfl⟩
    have hs'b : s'.size ≤ 1000000000 := by rw [hs']; simp; omega
    have Hs' := Lib.hid hs'
    have hflt : (f : Int) ≤ (s.size : Int) := by omega
    clear hs'
    refine wpIn_region_head 4 (fun _ => trivial) hmix (by kernel_rfl) (by kernel_rfl) ?_
    simp only [List.take_succ_cons, List.take_zero, List.drop_succ_cons, List.drop_zero]
    repeat (go_big_quiet_step (fail))
    refine wpQuiet_nil ?_
    gi_wp2_with (refine ⟨trivial, ?_⟩; gi_at_call 24; refine (walk_in _ _ _ _).mono ?_; rintro e w' ⟨rfl, rfl⟩)
    rw [← Hs'.out]
    have hzd : W4.drew.heap.size = w.heap.size + 4 := hz
    have hBd : Below (w.heap.size + 4) W4 W4.drew := ⟨rfl, rfl, rfl, Nat.le_refl _, fun _ _ => rfl⟩
    have hBd2 : Below (w.heap.size + 4) W4 ((W4.drew.alloc (.cells #[.pointer mo] 25)).alloc (.cells #[.string s'] 9)) := (hBd.alloc (by omega) _).alloc (by rw [World.size_alloc]; omega) _
    refine range_walk (.pointer mo) s' (by omega) [] [] W4 (hN4.src s') W4.drew (Nat.le_refl _) (fun _ _ => rfl) (by rw [hzd]; rfl)
      (fun _ W => Below (w.heap.size + 4) W4 W) (fun _ _ _ => False) (ownFrom_below (by omega) (by omega)) (fun _ _ _ _ _ hs _ _ => hs)
      hBd2
      (fun _ => { tmps := #[], defers := [] }) ?assign ?body ?done ?stop
    case assign =>
      intro l x W K hK
      exact absurd x.2 (List.not_mem_nil)
    case body =>
      intro l pre x W hI hlt
      exact absurd x.2 (List.not_mem_nil)
    case stop =>
      rintro D c k W _ hk h hK
      exact h.elim
    case done =>
      intro D W hD hI hK
      have hD' : w.heap.size + 6 ≤ D := by have : W4.drew.heap.size = w.heap.size + 4 := hz; omega
      have bF' : W.cell? ⟨w.heap.size + 3, 0, none⟩ = some (.bool false) := (World.cell?_of_block (hI.block (w.heap.size + 3) (by omega))).trans bF.cell
      have bH' := (hI.block (w.heap.size + 2) (by omega)).trans bH
      have bR' := (hI.block (w.heap.size + 1) (by omega)).trans bR
      have c0 : W.cell? ⟨w.heap.size + 2, 0, none⟩ = some (.int .i64 0) := by simp [World.cell?, bH']
      have c1 : W.cell? ⟨w.heap.size + 2, 1, none⟩ = some (.int .i64 0) := by simp [World.cell?, bH']
      have d0 : W.cell? ⟨w.heap.size + 1, 0, none⟩ = some (.int .i64 0) := by simp [World.cell?, bR']
      have d1 : W.cell? ⟨w.heap.size + 1, 1, none⟩ = some (.int .i64 0) := by simp [World.cell?, bR']
      have f0 : W.frozen? ⟨w.heap.size + 1, 0, none⟩ = false := by simp [World.frozen?, bR']
      have f1 : W.frozen? ⟨w.heap.size + 1, 1, none⟩ = false := by simp [World.frozen?, bR']
      gi_wp2
      obtain ⟨Wd, hWd⟩ : ∃ Wd, Wd = W.drew := ⟨_, rfl⟩
      have c0d : Wd.cell? ⟨w.heap.size + 2, 0, none⟩ = some (.int .i64 0) := by rw [hWd]; exact c0
      have c1d : Wd.cell? ⟨w.heap.size + 2, 1, none⟩ = some (.int .i64 0) := by rw [hWd]; exact c1
      have d0d : Wd.cell? ⟨w.heap.size + 1, 0, none⟩ = some (.int .i64 0) := by rw [hWd]; exact d0
      have d1d : Wd.cell? ⟨w.heap.size + 1, 1, none⟩ = some (.int .i64 0) := by rw [hWd]; exact d1
      have f0d : Wd.frozen? ⟨w.heap.size + 1, 0, none⟩ = false := by rw [hWd]; exact f0
      have f1d : Wd.frozen? ⟨w.heap.size + 1, 1, none⟩ = false := by rw [hWd]; exact f1
      have bFd : Wd.cell? ⟨w.heap.size + 3, 0, none⟩ = some (.bool false) := by rw [hWd]; exact bF'
      refine wpIn_region_orders [[0, 1, 2, 3], [0, 2, 1, 3], [1, 0, 2, 3]] hmix (by kernel_rfl) ?_
      rw [← hWd]
      simp only [List.forall_mem_cons, pickOps, List.flatMap_cons, List.flatMap_nil, List.getElem?_toArray, List.getElem?_cons_zero, List.getElem?_cons_succ, Option.toList_some, List.cons_append, List.nil_append]
      have HWd := Lib.hid hWd
      clear hWd
      refine ⟨?_, ?_, ?_, by simp⟩
      all_goals gi_wp2
      all_goals
        have hKd : Wd.heap[D]? = some (.deferred (some [])) := by rw [HWd.out]; exact hK
        have hRd : Wd.heap[w.heap.size + 1]? = some (.cells #[.int .i64 0, .int .i64 0] 36 (0, 0)) := by rw [HWd.out]; exact bR'
        have hBd3 : Below w.heap.size w Wd := by
          rw [HWd.out]
          exact (hB4.trans (hI.mono (by omega))).trans ⟨rfl, rfl, rfl, Nat.le_refl _, fun _ _ => rfl⟩
        obtain ⟨We, hWe⟩ : ∃ We, We = ((Wd.setCell ⟨w.heap.size + 1, 0, none⟩ (.int .i64 0)).setCell ⟨w.heap.size + 1, 1, none⟩ (.int .i64 0)) := ⟨_, rfl⟩
        rw [← hWe]
        have hKe : We.heap[D]? = some (.deferred (some [])) := by
          rw [hWe, Below.heap_setCell _ _ _ _ (by dsimp only; omega), Below.heap_setCell _ _ _ _ (by dsimp only; omega)]
          exact hKd
        have hRe : We.heap[w.heap.size + 1]? = some (.cells #[.int .i64 0, .int .i64 0] 36 (0, 0)) := by
          rw [hWe]
          simp [World.setCell, Array.getElem?_modify, hRd]
        have hBe : Below w.heap.size w We := by
          rw [hWe]
          exact (hBd3.setCell (by dsimp only; omega) _).setCell (by dsimp only; omega) _
        refine ⟨by simp, .inl ⟨_, _, rfl, run_takeDeferred hKe, ?_⟩⟩
        exact ⟨_, results_hit rfl _ _ (g := w.heap.size + 1) rfl ((World.putObj_heap_other (by omega)).trans hRe), rfl, hBe.trans (belowK_b (w := w) (Nat.le_refl _) _ D _ _ (by omega) hKe rfl rfl)⟩
end Go.Proofs.Ytpgiaofkabhgkaa
