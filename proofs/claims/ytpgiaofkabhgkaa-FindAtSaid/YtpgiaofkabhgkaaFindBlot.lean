/-
  (*find.Many).Blot.
-/
import Derived.Laws.IdiomStrings
import Derived.Test.YtpgiaofkabhgkaaFindSpan
import Derived.Test.YtpgiaofkabhgkaaFindSort
namespace Go.Proofs.Ytpgiaofkabhgkaa
set_option linter.unusedVariables false
set_option linter.unusedSimpArgs false
open Go.RowKit Go.Shelf

/-- A block that '[]byte(s)' laid. -/
def BytesAt (W : World) (g n : Nat) (bs : List UInt8) : Prop := ∃ C : Array Value, W.heap[g]? = some (.cells C 5 (n, n + 1)) ∧ C.size = n ∧ bs.length ≤ n ∧ ∀ j (h : j < bs.length), C[j]? = some (.int .u8 (bs[j].toNat : Int))
theorem BytesAt.lt {W : World} {g n : Nat} {bs : List UInt8} (h : BytesAt W g n bs) : g < W.heap.size := by
  obtain ⟨C, hb, _⟩ := h
  exact (Array.getElem?_eq_some_iff.1 hb).1
theorem BytesAt.kept {W W' : World} {g n : Nat} {bs : List UInt8} (h : BytesAt W g n bs) (hk : W'.heap[g]? = W.heap[g]?) : BytesAt W' g n bs := by
  obtain ⟨C, hb, hr⟩ := h
  exact ⟨C, hk.trans hb, hr⟩
theorem BytesAt.cell {W : World} {g n : Nat} {bs : List UInt8} (h : BytesAt W g n bs) (j : Nat) (hj : j < bs.length) : W.cell? ⟨g, j, none⟩ = some (.int .u8 (bs[j].toNat : Int)) := by
  obtain ⟨C, hb, h1, h2, h3⟩ := h
  simp only [World.cell?, hb]
  exact h3 j hj
theorem BytesAt.frozen {W : World} {g n : Nat} {bs : List UInt8} (h : BytesAt W g n bs) (j : Nat) (hj : j < bs.length) : W.frozen? ⟨g, j, none⟩ = false := by
  obtain ⟨C, hb, h1, h2, h3⟩ := h
  simp only [World.frozen?, hb]
  simp
  omega
theorem BytesAt.set {W : World} {g n : Nat} {bs : List UInt8} (h : BytesAt W g n bs) (i : Nat) (u : UInt8) : BytesAt (W.setCell ⟨g, i, none⟩ (.int .u8 (u.toNat : Int))) g n (bs.set i u) := by
  obtain ⟨C, hb, h1, h2, h3⟩ := h
  refine ⟨C.setIfInBounds i (.int .u8 (u.toNat : Int)), ?_, by simpa using h1, by simpa using h2, fun j hj => ?_⟩
  · have hg := (Array.getElem?_eq_some_iff.1 hb).1
    simp only [World.setCell]
    simp [Array.getElem?_modify, hb]
  · rw [List.length_set] at hj
    rw [List.getElem_set]
    rw [Array.getElem?_setIfInBounds]
    by_cases hij : i = j
    · subst hij
      simp
      omega
    · simp only [hij, if_false]
      exact h3 j hj
theorem bytesRow_size (s : ByteArray) (cap : Nat) (h : s.size ≤ cap) : (bytesRow s cap).size = cap := by
  unfold bytesRow
  have : s.data.size = s.size := rfl
  simp
  omega
theorem bytes_of (w : World) (s : ByteArray) : ∃ n w1, (convert 9 51 (.string s)).run Try.prog w = .ok (.slice (some ⟨w.heap.size, 0, none⟩) s.size n) w1 ∧ BytesAt w1 w.heap.size n s.data.toList ∧ Below w.heap.size w w1 ∧ w1.heap.size = w.heap.size + 1 := by
  have hrun := run_bytes_of_string (P := Try.prog) w 9 51 5 s Try.underlying9 Try.underlying51 Try.underlying5
  have hle : s.size ≤ grownCap w s.size 0 5 := grownCap_ge _ _ _ _
  generalize grownCap w s.size 0 5 = cap at hrun hle
  have hC := bytesRow_size s cap hle
  have hat : ∀ j (h : j < s.data.toList.length), (bytesRow s cap)[j]? = some (.int .u8 (s.data.toList[j].toNat : Int)) := fun j hj => by
    have hj' : j < s.data.size := by simpa using hj
    unfold bytesRow
    rw [Array.getElem?_append_left (by simpa using hj')]
    simp
    exact ⟨_, Array.getElem?_eq_getElem hj', rfl⟩
  generalize bytesRow s cap = C at hrun hC hat
  refine ⟨_, _, hrun, ⟨C, ?_, hC, by simpa using hle, hat⟩, ⟨rfl, rfl, rfl, ?_, fun k hk => ?_⟩, ?_⟩
  · show (w.heap.push _)[w.heap.size]? = _
    rw [hC]
    simp
  · show w.heap.size ≤ (w.heap.push _).size
    simp
  · show (w.heap.push _)[k]? = _
    rw [Array.getElem?_push, if_neg (by omega)]
  · show (w.heap.push _).size = _
    simp
/-- 'string(b)'. -/
theorem bytes_back {W : World} {g n : Nat} {bs : List UInt8} (h : BytesAt W g n bs) : (convert 51 9 (.slice (some ⟨g, 0, none⟩) bs.length n)).run Try.prog W = .ok (.string ⟨bs.toArray⟩) W :=
  run_convert_bytes_back (P := Try.prog) W 51 9 5 ⟨g, 0, none⟩ n bs Try.underlying51 Try.underlying5 Try.underlying9 (fun j hj => by
    rw [show (Addr.add ⟨g, 0, none⟩ j) = ⟨g, j, none⟩ from by simp [Addr.add]; omega]
    exact h.cell j hj)

/-- The bytes of s, by where c holds. -/
def blB (s : ByteArray) (u : UInt8) (c : Nat → Bool) : List UInt8 := (List.range s.size).map fun p => if c p then u else s.data.getD p 0
theorem blB_len (s : ByteArray) (u : UInt8) (c : Nat → Bool) : (blB s u c).length = s.size := by simp [blB]
theorem blB_none (s : ByteArray) (u : UInt8) : blB s u (fun _ => false) = s.data.toList := by
  apply List.ext_getElem
  · simp [blB]
  · intro i h1 h2
    rw [blB_len] at h1
    unfold blB
    have : i < s.data.size := h1
    simp [Array.getD, h1]
theorem blB_set (s : ByteArray) (u : UInt8) (c : Nat → Bool) (i : Nat) : (blB s u c).set i u = blB s u (fun p => c p || p == i) := by
  apply List.ext_getElem
  · simp [blB]
  · intro j h1 h2
    rw [List.getElem_set]
    unfold blB
    simp
    by_cases h : i = j
    · simp [h]
    · simp [h, Ne.symm h]
theorem inRB_snoc (r : List (Nat × Nat)) (x : Nat × Nat) (p : Nat) : inRB (r ++ [x]) p = (inRB r p || decide (x.1 ≤ p ∧ p < x.2)) := by unfold inRB; simp
theorem spans_mem : ∀ {r : List (Nat × Nat)} {c : Nat}, SpansBelow r c → ∀ x ∈ r, x.1 < x.2 ∧ x.2 < c
  | [], _, _, x, hx => by simp at hx
  | y :: r, c, h, x, hx => by
    rcases List.mem_cons.1 hx with rfl | hx
    · exact ⟨h.1, h.2.1⟩
    · have := spans_mem h.2.2 x hx
      have h1 := h.1
      have h2 := h.2.1
      omega
theorem spanN_take_le (L : List (Nat × Nat)) (j : Nat) : spanN (L.take j) ≤ spanN L := by
  have := spanN_append (L.take j) (L.drop j)
  rw [List.take_append_drop] at this
  omega
theorem spanN_ge : ∀ (L : List (Nat × Nat)), (∀ x ∈ L, x.1 < x.2) → L.length ≤ spanN L
  | [], _ => Nat.le_refl _
  | x :: L, h => by
    have := spanN_ge L (fun y hy => h y (List.mem_cons_of_mem _ hy))
    have := h x List.mem_cons_self
    rw [List.length_cons, spanN]
    omega
theorem blotN_le (l : List ByteArray) (s : ByteArray) : blotN l s ≤ s.size := by
  unfold blotN
  have := List.countP_le_length (p := covB l s) (l := List.range s.size)
  simpa using this

theorem row_slice {W : World} {base : Nat} {e : TypeId} {size n : Nat} {v : Value} {xs : List Value} (h : W.ownsRow base e size v n xs) : ∃ ao cap, v = .slice ao n cap := by
  rcases h.2 with ⟨h1, h2⟩ | ⟨g, cap, cur, h1, _⟩
  · subst h2; exact ⟨_, _, h1⟩
  · exact ⟨_, _, h1⟩
/-- Within Blot. -/
structure BlotJ (w w2 : World) (n : Nat) (v : Value) (L : List (Nat × Nat)) (bs : List UInt8) (wr : World) : Prop where
  bytes : BytesAt wr w.heap.size n bs
  row : wr.ownsRow (w.heap.size + 1) 73 2 v L.length (hitCells L)
  bel : Below w.heap.size w wr
theorem blotJ_alloc {w w2 : World} {n : Nat} {v : Value} {L : List (Nat × Nat)} {bs : List UInt8} {wr : World} (h : BlotJ w w2 n v L bs wr) (o : Obj) : BlotJ w w2 n v L bs (wr.alloc o) :=
  ⟨h.bytes.kept (Below.heap_alloc _ _ _ h.bytes.lt), h.row.alloc _, h.bel.alloc (Nat.le_of_lt h.bytes.lt) _⟩
theorem blotJ_set {w w2 : World} {n : Nat} {v : Value} {L : List (Nat × Nat)} {bs : List UInt8} {wr : World} (h : BlotJ w w2 n v L bs wr) (i : Nat) (u : UInt8) : BlotJ w w2 n v L (bs.set i u) (wr.setCell ⟨w.heap.size, i, none⟩ (.int .u8 (u.toNat : Int))) := by
  refine ⟨h.bytes.set i u, ?_, h.bel.trans ⟨rfl, rfl, rfl, by simp [World.setCell], fun k hk => Below.heap_setCell _ _ _ _ (by dsimp only; omega)⟩⟩
  refine h.row.kept (row := some w.heap.size) ⟨rfl, rfl, rfl, by simp [World.setCell], fun k hk hne => Below.heap_setCell _ _ _ _ (fun e => hne (by rw [e]))⟩ (.inr (fun e => ?_))
  have := (h.row.lt _ e).1
  omega
theorem blB_step (s : ByteArray) (u : UInt8) (c : Nat → Bool) (a i : Nat) (h : a ≤ i) : (blB s u (fun p => c p || decide (a ≤ p ∧ p < i))).set i u = blB s u (fun p => c p || decide (a ≤ p ∧ p < i + 1)) := by
  rw [blB_set]
  congr 1
  funext p
  by_cases hp : p = i
  · subst hp
    simp [h]
  · have : decide (a ≤ p ∧ p < i + 1) = decide (a ≤ p ∧ p < i) := by rw [decide_eq_decide]; omega
    rw [this]
    simp [hp]
theorem blB_zero (s : ByteArray) (u : UInt8) (c : Nat → Bool) (a : Nat) : blB s u (fun p => c p || decide (a ≤ p ∧ p < a)) = blB s u c := by
  congr 1
  funext p
  have : decide (a ≤ p ∧ p < a) = false := decide_eq_false (by omega)
  rw [this, Bool.or_false]
theorem blB_next (s : ByteArray) (u : UInt8) {L : List (Nat × Nat)} {j : Nat} {x : Nat × Nat} (hx : L[j]? = some x) : blB s u (fun p => inRB (L.take j) p || decide (x.1 ≤ p ∧ p < x.2)) = blB s u (inRB (L.take (j + 1))) := by
  congr 1
  funext p
  rw [take_snoc hx, inRB_snoc]
set_option maxRecDepth 100000 in
set_option maxHeartbeats 4000000 in
theorem blot_any (mo : Option Addr) (s : ByteArray) (u : UInt8) (xs : List (Nat × Nat)) (l : List ByteArray) (w : World) (hs : s.size ≤ 1000000000) (hl : (s.size + 2) * (l.length + 1) ≤ 1000000000000) (h : Src w (.pointer mo) s xs l) :
    Calls Try.prog 18 #[.pointer mo, .string s, .int .u8 (u.toNat : Int)] w fun e W' => e = .returned (.tuple #[.string ⟨(blotBytes l s u).toArray⟩, .int .i64 (blotN l s : Int)]) ∧ Below w.heap.size w W' := by
  obtain ⟨n, w1, hconv, hb1, hB1, hs1⟩ := bytes_of w s
  have hS1 := h.agree (W := w1) hB1.block
  have hcov := covered_any mo s xs l w1 hs hl hS1
  obtain ⟨hsp, hsc⟩ := spansOf_spec l s
  have hN := blotN_spans l s
  have hfin : blB s u (inRB (spansOf l s)) = blotBytes l s u := by
    unfold blB blotBytes
    apply List.map_congr_left
    intro p _
    have : inRB (spansOf l s) p = covB l s p := by
      rw [Bool.eq_iff_iff, inRB_iff, hsc]
    rw [this]
  have hmem : ∀ x ∈ spansOf l s, x.1 < x.2 ∧ x.2 ≤ s.size := fun x hx => by
    have := spans_mem hsp x (List.mem_reverse.2 hx)
    omega
  have hNle := blotN_le l s
  generalize spansOf l s = L at hcov hN hfin hmem
  have hLb : L.length ≤ 1000000000 := by
    have := spanN_ge L (fun x hx => (hmem x hx).1)
    omega
  have Hfin := Lib.hid hfin
  have HN := Lib.hid hN
  have Hmem := Lib.hid hmem
  clear h hS1 hsp hsc hfin hN hmem
  have hb1' := Lib.hid hb1
  have HB1 := Lib.hid hB1
  clear hb1 hB1
  go_enter Try.func18, Try.ntmps18
  go_wp2_with (go_at_call 30; refine hcov.mono ?_; rintro e w2 ⟨v, rfl, hrow, hB2⟩; obtain ⟨ao, cap, rfl⟩ := row_slice hrow)
  have hJ0 : BlotJ w w2 n (.slice ao L.length cap) L (blB s u (inRB (L.take 0))) w2 := ⟨(hb1'.out.kept (hB2.block _ (by omega))) |> (fun h => by rw [show blB s u (inRB (L.take 0)) = s.data.toList from blB_none s u]; exact h), by rw [← hs1]; exact hrow, HB1.out.trans ⟨hB2.os, hB2.tape, hB2.output, hB2.size, fun k hk => hB2.block k (by omega)⟩⟩
  have HJ0 := Lib.hid hJ0
  clear hJ0 hrow hB2 hconv hcov
  go_loopw [9, 19] (fun nv iv wr => ∃ j : Nat, j ≤ L.length ∧ nv = .int .i64 (spanN (L.take j) : Int) ∧ iv = .int .i64 (j : Int) ∧ Hid (BlotJ w w2 n (.slice ao L.length cap) L (blB s u (inRB (L.take j))) wr)) (fun nv iv wr => L.length - (intOf iv).toNat)
  case atStart => exact ⟨0, Nat.zero_le _, rfl, rfl, HJ0⟩
  case round =>
    obtain ⟨j, hj, rfl, rfl, HJ⟩ := hrel
    by_cases hjl : j < L.length
    · obtain ⟨x, hx⟩ : ∃ x, L[j]? = some x := ⟨_, List.getElem?_eq_getElem hjl⟩
      have hrow := HJ.out.row
      obtain ⟨g, rfl⟩ : ∃ g, ao = some ⟨g, 0, none⟩ := by
        rcases hrow.2 with ⟨h, h'⟩ | ⟨g, cap', cur, h, _⟩
        · omega
        · cases h; exact ⟨g, rfl⟩
      have hcl := hitCells_at L j x hx
      have cx0 : wr.cell? ⟨g, j * 2, none⟩ = some (.int .i64 (x.1 : Int)) := by
        rw [World.ownsRow.cellAt hrow (j * 2) (by omega)]
        exact hcl 0 (by omega)
      have cx1 : wr.cell? ⟨g, j * 2 + 1, none⟩ = some (.int .i64 (x.2 : Int)) := by
        rw [World.ownsRow.cellAt hrow (j * 2 + 1) (by omega)]
        exact hcl 1 (by omega)
      obtain ⟨hx1, hx2⟩ := Hmem.out x (List.mem_of_getElem? hx)
      have Hx := Lib.hid hx
      have hsn : spanN (L.take (j + 1)) = spanN (L.take j) + (x.2 - x.1) := by rw [take_snoc hx, spanN_append]; simp [spanN]
      have hsb : spanN (L.take (j + 1)) ≤ 1000000000 := by
        have := spanN_take_le L (j + 1)
        have := HN.out
        omega
      have hsb' : spanN (L.take j) ≤ 1000000000 - (x.2 - x.1) := by omega
      have hadd : (spanN (L.take j) : Int) + ((x.2 : Int) - (x.1 : Int)) = (spanN (L.take (j + 1)) : Int) := by omega
      have Hadd := Lib.hid hadd
      have hx2b : x.2 ≤ 1000000000 := by omega
      clear hrow hcl hx hsn hadd hsb
      go_wp2
      rw [Hadd.out]
      have hJ1 := blotJ_alloc HJ.out (.cells #[.int .i64 (x.1 : Int), .int .i64 (x.2 : Int)] 73)
      have hnew := World.alloc_heap_new wr (.cells #[.int .i64 (x.1 : Int), .int .i64 (x.2 : Int)] 73)
      have hX : w.heap.size < wr.heap.size := HJ.out.bytes.lt
      generalize wr.alloc (.cells #[.int .i64 (x.1 : Int), .int .i64 (x.2 : Int)] 73) = W1 at hJ1 hnew ⊢
      have HJ1 := Lib.hid hJ1
      have Hnew := Lib.hid hnew
      clear hJ1 hnew cx0 cx1
      generalize wr.heap.size = X at hX Hnew ⊢
      go_loopw [12] (fun iv wi => ∃ i : Nat, x.1 ≤ i ∧ i ≤ x.2 ∧ iv = .int .i64 (i : Int) ∧ Hid (wi.heap[X]? = some (.cells #[.int .i64 (x.1 : Int), .int .i64 (x.2 : Int)] 73 (0, 0))) ∧ Hid (BlotJ w w2 n (.slice (some ⟨g, 0, none⟩) L.length cap) L (blB s u (fun p => inRB (L.take j) p || decide (x.1 ≤ p ∧ p < i))) wi)) (fun iv _ => x.2 - (intOf iv).toNat)
      case atStart => exact ⟨x.1, Nat.le_refl _, by omega, rfl, Hnew, Lib.hid (by rw [blB_zero]; exact HJ1.out)⟩
      case round =>
        obtain ⟨i, hi1, hi2, rfl, Hblk, HJ2⟩ := hrel
        have cX : wr.cell? ⟨X, 1, none⟩ = some (.int .i64 (x.2 : Int)) := by
          simp only [World.cell?, Hblk.out]
          rfl
        by_cases hlt : i < x.2
        · have hil : i < (blB s u (fun p => inRB (L.take j) p || decide (x.1 ≤ p ∧ p < i))).length := by rw [blB_len]; omega
          obtain ⟨cv, cb⟩ : ∃ cv, wr.cell? ⟨w.heap.size, i, none⟩ = some cv := ⟨_, HJ2.out.bytes.cell i hil⟩
          have fb := HJ2.out.bytes.frozen i hil
          have his : i < s.size := by omega
          clear hil
          have hJ3 := blotJ_set HJ2.out i u
          rw [blB_step _ _ _ _ _ hi1] at hJ3
          have hb3 : (wr.setCell ⟨w.heap.size, i, none⟩ (.int .u8 (u.toNat : Int))).heap[X]? = some (.cells #[.int .i64 (x.1 : Int), .int .i64 (x.2 : Int)] 73 (0, 0)) := (Below.heap_setCell _ _ _ _ (by dsimp only; omega)).trans Hblk.out
          have HJ3 := Lib.hid hJ3
          have Hb3 := Lib.hid hb3
          clear hJ3 hb3
          go_wp2
          go_roundw
          case rel => exact ⟨i + 1, by omega, by omega, by go_num, Hb3, HJ3⟩
          case measure => simp [intOf]; omega
        · obtain rfl : i = x.2 := by omega
          go_wp2
          go_roundw
          case rel => exact ⟨j + 1, by omega, rfl, by go_num, Lib.hid (by rw [← blB_next s u Hx.out]; exact HJ2.out)⟩
          case measure => simp [intOf]; omega
    · obtain rfl : j = L.length := by omega
      have kb := bytes_back HJ.out.bytes
      rw [blB_len] at kb
      go_wp2
      refine bodyPost_ret (results_tmp2 rfl _ _ _) rfl ?_
      refine ⟨?_, HJ.out.bel⟩
      rw [List.take_length, Hfin.out, HN.out]
      rfl
end Go.Proofs.Ytpgiaofkabhgkaa
