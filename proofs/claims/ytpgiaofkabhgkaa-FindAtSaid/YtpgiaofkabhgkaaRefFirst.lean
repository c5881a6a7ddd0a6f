/-
  nuncio/nuncioref03's First.
-/
import Derived.Test.YtpgiaofkabhgkaaRefBlot
namespace Go.Proofs.Ytpgiaofkabhgkaa
set_option linter.unusedVariables false
set_option linter.unusedSimpArgs false
open Go.RowKit

/-- The first hit that begins at a place or behind it. -/
def firstFrom (l : List ByteArray) (s : ByteArray) (fr : Int) : Option (Nat × Nat) := (hitsL l s).find? fun x => decide (fr ≤ (x.1 : Int))
def firstV (o : Option (Nat × Nat)) : Value := match o with
  | some f => .tuple #[.agg #[.int .i64 (f.1 : Int), .int .i64 (f.2 : Int)], .bool true]
  | none => .tuple #[.agg #[.int .i64 0, .int .i64 0], .bool false]

theorem results_rhit {fn : Func} {p u : Tmp} (h : fn.results = #[.cell p 37, .tmp u]) (tmps : Array Value) (w : World) {g : Nat} {a b : Int} {fr : Nat × Nat}
    (hp : tmps.getD p undef = .pointer (some ⟨g, 0, none⟩)) (hb : w.heap[g]? = some (.cells #[.int .i64 a, .int .i64 b] 37 fr)) : (results fn tmps).run Try.prog w = .ok (.tuple #[.agg #[.int .i64 a, .int .i64 b], tmps.getD u undef]) w := by
  rw [results_cell_tmp h, hp]
  have c0 : w.cell? ⟨g, 0, none⟩ = some (.int .i64 a) := by simp [World.cell?, hb]
  have c1 : w.cell? ⟨g, 1, none⟩ = some (.int .i64 b) := by simp [World.cell?, hb]
  have aE := Try.isAgg37
  have zE := Try.sizeOf37
  clear hb h hp
  go_simp
theorem find_at (L : List (Nat × Nat)) (P : Nat × Nat → Bool) {j : Nat} {x : Nat × Nat} (hx : L[j]? = some x) (hn : ∀ y ∈ L.take j, P y = false) (hp : P x = true) : L.find? P = some x := by
  have h := List.take_append_drop j L
  rw [← h, List.find?_append, List.find?_eq_none.2 (fun y hy => by rw [hn y hy]; decide), Option.none_or]
  have hj := (List.getElem?_eq_some_iff.1 hx).1
  rw [List.drop_eq_getElem_cons hj]
  have : L[j] = x := by have := List.getElem?_eq_getElem hj; rw [hx] at this; exact (Option.some.inj this).symm
  rw [this, List.find?_cons, hp]
set_option maxRecDepth 100000 in
set_option maxHeartbeats 4000000 in
theorem refFirst_any (w : World) (l : List ByteArray) (s : ByteArray) (fr : Int) (lv : Value) (hv : IsStrs w lv l) (hs : s.size ≤ 1000000) (hl : l.length ≤ 1000000) (hb : ∀ x ∈ l, x.size ≤ 1000000) :
    Calls Try.prog 16 #[lv, .string s, .int .i64 fr] w fun e w' => e = .returned (firstV (firstFrom l s fr)) ∧ Below w.heap.size w w' := by
  have hBA : Below w.heap.size w (w.alloc (.cells #[.int .i64 0, .int .i64 0] 37)) := (Below.refl _ _).alloc (Nat.le_refl _) _
  have hnew := World.alloc_heap_new w (.cells #[.int .i64 0, .int .i64 0] 37)
  have kH := refHits_any (w.alloc (.cells #[.int .i64 0, .int .i64 0] 37)) l s _ (hv.below hBA) hs hl hb
  have hLb : (hitsL l s).length ≤ 2000000000000 := by
    have h1 := hitsTo_len l s s.size
    have h3 : s.size * l.length ≤ 1000000 * 1000000 := Nat.mul_le_mul hs hl
    show (hitsTo l s s.size).length ≤ _
    omega
  obtain ⟨R, hR⟩ : ∃ R, R = firstV (firstFrom l s fr) := ⟨_, rfl⟩
  rw [← hR]
  unfold firstFrom at hR
  generalize hitsL l s = L at kH hLb hR
  have HR := Lib.hid hR
  clear hR
  go_enter Try.func16, Try.ntmps16
  go_wp2_with fail
  refine kH.mono ?_
  rintro e w1 ⟨v, rfl, hrow, hB1⟩
  obtain ⟨hao, hcap, rfl⟩ := row_slice hrow
  have hB2 := hBA.trans (hB1.mono hBA.size)
  have hR1 := (hB1.block w.heap.size (by simp)).trans hnew
  have Hrow := Lib.hid hrow
  have HB2 := Lib.hid hB2
  have HR1 := Lib.hid hR1
  have hz1 := hB2.size
  have f0 : w1.frozen? ⟨w.heap.size, 0, none⟩ = false := by simp [World.frozen?, hR1]
  have f1 : w1.frozen? ⟨w.heap.size, 1, none⟩ = false := by simp [World.frozen?, hR1]
  have d0 : w1.cell? ⟨w.heap.size, 0, none⟩ = some (.int .i64 0) := by simp [World.cell?, hR1]
  have d1 : w1.cell? ⟨w.heap.size, 1, none⟩ = some (.int .i64 0) := by simp [World.cell?, hR1]
  have hEnd : ∀ (a b : Int), ((w1.setCell ⟨w.heap.size, 0, none⟩ (.int .i64 a)).setCell ⟨w.heap.size, 1, none⟩ (.int .i64 b)).heap[w.heap.size]? = some (.cells #[.int .i64 a, .int .i64 b] 37 (0, 0)) ∧ Below w.heap.size w ((w1.setCell ⟨w.heap.size, 0, none⟩ (.int .i64 a)).setCell ⟨w.heap.size, 1, none⟩ (.int .i64 b)) := fun a b => by
    refine ⟨?_, (HB2.out.setCell (by dsimp only; omega) _).setCell (by dsimp only; omega) _⟩
    simp [World.setCell, Array.getElem?_modify, HR1.out]
  have HEnd := Lib.hid hEnd
  clear hrow hB1 hB2 hR1 kH hnew hBA hEnd
  go_wp2
  go_loopw [9] (fun iv wr => ∃ j : Nat, j ≤ L.length ∧ iv = .int .i64 (j : Int) ∧ Hid (∀ y ∈ L.take j, decide (fr ≤ (y.1 : Int)) = false) ∧ wr = w1) (fun iv wr => L.length - (intOf iv).toNat)
  case atStart => exact ⟨0, Nat.zero_le _, rfl, Lib.hid (fun y hy => by simp at hy), rfl⟩
  case round =>
    obtain ⟨j, hj, rfl, Hno, rfl⟩ := hrel
    by_cases hjl : j < L.length
    · obtain ⟨x, hx⟩ : ∃ x, L[j]? = some x := ⟨_, List.getElem?_eq_getElem hjl⟩
      have hrow := Hrow.out
      obtain ⟨g, rfl⟩ : ∃ g, hao = some ⟨g, 0, none⟩ := by
        rcases hrow.2 with ⟨h, h'⟩ | ⟨g, cap', cur, h, _⟩
        · omega
        · cases h; exact ⟨g, rfl⟩
      have hcl := hitCells_at L j x hx
      have cx0 : wr.cell? ⟨g, j * 2, none⟩ = some (.int .i64 (x.1 : Int)) := by
        rw [World.ownsRow.cellAt hrow (j * 2) (by omega)]
        exact hcl 0 (by omega)
      have cx1 : wr.cell? ⟨g, j * 2 + 1, none⟩ = some (.int .i64 (x.2 : Int)) := by
        rw [World.ownsRow.cellAt hrow (j * 2 + 1) (by omega)]
        exact hcl 1 (by omega)
      by_cases hf : fr ≤ (x.1 : Int)
      · have hRx : R = firstV (some x) := by rw [HR.out, find_at L (fun x => decide (fr ≤ (x.1 : Int))) hx Hno.out (decide_eq_true hf)]
        have HRx := Lib.hid hRx
        clear hrow hcl hx hRx
        go_wp2
        obtain ⟨h1, h2⟩ := HEnd.out (x.1 : Int) (x.2 : Int)
        refine bodyPost_ret (results_rhit rfl _ _ (g := w.heap.size) rfl h1) rfl ?_
        exact ⟨by rw [HRx.out]; rfl, h2⟩
      · have hf' : (x.1 : Int) < fr := by omega
        have hno2 : ∀ y ∈ L.take (j + 1), decide (fr ≤ (y.1 : Int)) = false := fun y hy => by
          rw [take_snoc hx] at hy
          rcases List.mem_append.1 hy with hy | hy
          · exact Hno.out y hy
          · rw [List.mem_singleton.1 hy]; exact decide_eq_false hf
        have Hno2 := Lib.hid hno2
        clear hrow hcl hx hno2 hf
        go_wp2
        go_roundw
        case rel => exact ⟨j + 1, by omega, by go_num, Hno2, trivial⟩
        case measure => simp [intOf]; omega
    · obtain rfl : j = L.length := by omega
      have hRx : R = firstV none := by
        rw [HR.out]
        congr 1
        have h := Hno.out
        rw [List.take_length] at h
        exact List.find?_eq_none.2 (fun y hy => by rw [h y hy]; decide)
      have HRx := Lib.hid hRx
      clear hRx
      go_wp2
      obtain ⟨h1, h2⟩ := HEnd.out 0 0
      refine bodyPost_ret (results_rhit rfl _ _ (g := w.heap.size) rfl h1) rfl ?_
      exact ⟨by rw [HRx.out]; rfl, h2⟩
end Go.Proofs.Ytpgiaofkabhgkaa
