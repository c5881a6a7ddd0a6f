/-
  The walk of nunciolaw03.FindFits.
-/
import Derived.Test.YtpgiaofkabhgkaaRefFits
import Derived.OpenShut
namespace Go.Proofs.Ytpgiaofkabhgkaa
set_option linter.unusedVariables false
set_option linter.unusedSimpArgs false
open Go.RowKit Go.Shelf

theorem infoStr : (Try.prog.info? 9).map (fun i => (i.zero, i.size, i.bytes)) = some (some (.string ByteArray.empty), 1, 16) := by kernel_rfl

theorem cell_one_new' (w : World) (u : Value) (t : TypeId) : ∀ j v, [u][j]? = some v → (w.alloc (.cells #[u] t)).cell? (Addr.add ⟨w.heap.size, 0, none⟩ j) = some v := cell_one_new w u t
/-- A row of which one cell is written. -/
theorem row_set {W : World} {base : Nat} {e : TypeId} {n : Nat} {v : Value} {xs : List Value} (h : W.ownsRow base e 1 v n xs) (j : Nat) (hj : j < n) (u : Value) : ∃ g cap, v = .slice (some ⟨g, 0, none⟩) n cap ∧ (∃ c, W.cell? ⟨g, j, none⟩ = some c) ∧ W.frozen? ⟨g, j, none⟩ = false ∧ g < W.heap.size ∧ base ≤ g ∧ (W.setCell ⟨g, j, none⟩ u).ownsRow base e 1 v n (xs.set j u) := by
  have hx := h.1
  rcases h.2 with ⟨_, h0⟩ | ⟨g, cap, cur, rfl, hb, hg, h1, h2, h3, h4⟩
  · omega
  · refine ⟨g, cap, rfl, ⟨_, (World.ownsRow.cellAt h j (by omega)).trans (List.getElem?_eq_getElem (by omega))⟩, by simp [World.frozen?, hg], (Array.getElem?_eq_some_iff.1 hg).1, hb, by rw [List.length_set]; exact hx, .inr ⟨g, cap, cur.setIfInBounds j u, rfl, hb, ?_, h1, h2, by simpa using h3, ?_⟩⟩
    · simp only [World.setCell]
      simp [Array.getElem?_modify, hg]
    · rw [← h4, Nat.mul_one, Array.toList_setIfInBounds, List.take_set]
/-- 'string(make([]byte, n))'. -/
def zerosB (n : Nat) : ByteArray := ⟨Array.replicate n 0⟩
theorem infoByte : (Try.prog.info? 5).map (fun i => (i.zero, i.size, i.bytes)) = some (some (.int .u8 0), 1, 1) := by kernel_rfl
theorem make_bytes (w : World) (n : Nat) (hn : n ≤ 1000000) : (Instr.makeSlice 51 (.int .i64 (n : Int)) (.int .i64 (n : Int))).run Try.prog w = .ok (.slice (some ⟨w.heap.size, 0, none⟩) n n) (w.alloc (.cells (Array.replicate n (.int .u8 0)) 5)) := by
  obtain ⟨i0, hi, hz0, hz1, hz2⟩ := info_parts infoByte
  have h := run_make (P := Try.prog) w 51 5 i0 (.int .u8 0) Try.underlying51 hi hz0 .i64 .i64 (n : Int) (n : Int) (by omega) (by omega) (by rw [hz2]; omega) (by omega)
  simp only [Int.toNat_natCast] at h
  have e : madeCells (Value.int IntKind.u8 0).cells (n * i0.size) = Array.replicate n (Value.int .u8 0) := by
    rw [hz1, Nat.mul_one]
    apply Array.toList_inj.1
    rw [show (Value.int IntKind.u8 0).cells = #[Value.int .u8 0] from rfl, toList_madeCells_one]
    simp
  rw [h, e]
theorem conv_zeros (w : World) (n : Nat) : (convert 51 9 (.slice (some ⟨w.heap.size, 0, none⟩) n n)).run Try.prog (w.alloc (.cells (Array.replicate n (.int .u8 0)) 5)) = .ok (.string (zerosB n)) (w.alloc (.cells (Array.replicate n (.int .u8 0)) 5)) := by
  have hnew := World.alloc_heap_new w (.cells (Array.replicate n (Value.int .u8 0)) 5)
  have := run_convert_bytes_back (P := Try.prog) (w.alloc (.cells (Array.replicate n (.int .u8 0)) 5)) 51 9 5 ⟨w.heap.size, 0, none⟩ n (List.replicate n 0) Try.underlying51 Try.underlying5 Try.underlying9 (fun j hj => by
    rw [show (Addr.add ⟨w.heap.size, 0, none⟩ j) = ⟨w.heap.size, j, none⟩ from by simp [Addr.add]; omega]
    simp only [World.cell?, hnew]
    rw [List.length_replicate] at hj
    simp [hj])
  rw [List.length_replicate] at this
  rw [this]
  unfold zerosB
  simp

theorem new_fits (w : World) (l : List ByteArray) (lv : Value) (hv : IsStrs w lv l) (hl : l.length ≤ 1000000) (hb : ∀ x ∈ l, x.size ≤ 1000000000000) :
    Calls Try.prog 10 #[lv] w fun e w' => ∃ mo, e = .returned (.tuple #[.pointer mo, .int .i64 (fitsI l)]) ∧ (mo = none ∧ fitsI l ≠ 0 ∨ (∃ a, mo = some a) ∧ fitsI l = 0) ∧ Below w.heap.size w w' := by
  refine (new_any w l lv hv hl hb).mono ?_
  rintro e w' ⟨r, rfl, hB, h⟩
  unfold fitsI
  rcases h with ⟨h1, rfl⟩ | ⟨h1, h2, rfl⟩ | ⟨h1, h2, mp, rfl, _⟩
  · rw [if_pos h1]
    exact ⟨none, rfl, .inl ⟨rfl, by decide⟩, hB⟩
  · rw [if_neg (by omega), if_pos h2]
    exact ⟨none, rfl, .inl ⟨rfl, by decide⟩, hB⟩
  · rw [if_neg (by omega), if_neg (by omega)]
    exact ⟨some ⟨mp, 0, none⟩, rfl, .inr ⟨⟨_, rfl⟩, rfl⟩, hB⟩
set_option maxRecDepth 100000 in
set_option maxHeartbeats 4000000 in
theorem findFits_walk (many long more : Int) (w0 : (Lit.int .u16 many).wf = true) (w1 : (Lit.int .u16 long).wf = true) (w2 : (Lit.int .u8 more).wf = true) (w : World) :
    Calls Try.prog 6 #[.int .u16 many, .int .u16 long, .int .u8 more] w fun e w' => e = .returned (.bool true) ∧ Below w.heap.size w w' := by
  obtain ⟨i0, hi, hz0, hz1, hz2⟩ := info_parts infoStr
  have hm := bounds_u16 w0
  have hlo := bounds_u16 w1
  have hmo := bounds_u8 w2
  obtain ⟨n, hn⟩ : ∃ n : Nat, many % 300 = (n : Int) := ⟨(many % 300).toNat, by omega⟩
  obtain ⟨mr, rfl⟩ : ∃ k : Nat, more = (k : Int) := ⟨more.toNat, by omega⟩
  obtain ⟨each, heach⟩ : ∃ k : Nat, long % 70000 = (k : Int) := ⟨(long % 70000).toNat, by omega⟩
  have hnb : n < 300 := by omega
  have heb : each < 70000 := by omega
  have hm1 := hm.1
  have hm2 := hm.2
  have hlo1 := hlo.1
  have hlo2 := hlo.2
  have hmo1 := hmo.1
  have hmo2 := hmo.2
  clear hm hlo hmo w0 w1 w2
  have Hn := Lib.hid hn
  have Heach := Lib.hid heach
  clear hn heach
  go_enter Try.func6, Try.ntmps6
  go_wp2
  rw [Hn.out, Heach.out]
  go_loopw [9, 10] (fun lv iv wr => ∃ j : Nat, j ≤ n ∧ iv = .int .i64 (j : Int) ∧ wr.ownsRow w.heap.size 9 1 lv j (List.replicate j (.string ByteArray.empty)) ∧ Below w.heap.size w wr) (fun lv iv wr => n - (intOf iv).toNat)
  case atStart => exact ⟨0, Nat.zero_le _, rfl, World.ownsRow_made w #[] 0 (Nat.le_refl _) (by unfold maxLen; omega) rfl, (Below.refl _ _).alloc (Nat.le_refl _) _⟩
  case round =>
    obtain ⟨j, hj, rfl, hown, hB⟩ := hrel
    have hsB := hB.size
    by_cases hlt : j < n
    · go_wp2_with (at_builtin; refine wpList_append_own _ rfl _ _ 22 rfl w.heap.size 9 i0 _ 1 16 Try.underlying22 hi hz0 hz1 hz2 rfl (by decide) _ _ _ rfl (hown.alloc _) ⟨wr.heap.size, 0, none⟩ 1 1 [.string ⟨#[]⟩] rfl rfl (cell_one_new' _ _ _) (by simp [Value.oneCell']) (by unfold maxLen; omega) (by omega) (by simp; omega) ?_; intro v1 w1 hown1 hgrow1 _)
      have hB1 := (hB.alloc hsB _).grown hgrow1 (by simp; omega) (fun j ej => (hown.lt j ej).1)
      go_roundw
      case rel => exact ⟨j + 1, by omega, by go_num, by rw [List.replicate_succ']; exact hown1, hB1⟩
      case measure => simp [intOf]; omega
    · obtain rfl : j = n := by omega
      have hmk := fun (n : Nat) (h : n < 70000) (W : World) => make_bytes W n (by omega)
      have hcv := fun (n : Nat) (W : World) => conv_zeros W n
      by_cases h1 : 1 < j
      · have hs0 := row_set (hown.alloc (.cells (Array.replicate each (.int .u8 0)) 5)) 0 (by omega) (.string (zerosB each))
        obtain ⟨g, cap, rfl, ⟨c0, hc0⟩, hf0, hg0, hwg, hrow1⟩ := hs0
        have hrow2 := row_set (hrow1.alloc (.cells (Array.replicate mr (.int .u8 0)) 5)) (j - 1) (by omega) (.string (zerosB mr))
        obtain ⟨g', cap', hv', ⟨c1, hc1⟩, hf1, hg1, hwg', hrow3⟩ := hrow2
        cases hv'
        have hk1 := hmk each (by omega) wr
        have hk2 := hcv each wr
        have hk3 := hmk mr (by omega) ((wr.alloc (.cells (Array.replicate each (.int .u8 0)) 5)).setCell ⟨g, 0, none⟩ (.string (zerosB each)))
        have hk4 := hcv mr ((wr.alloc (.cells (Array.replicate each (.int .u8 0)) 5)).setCell ⟨g, 0, none⟩ (.string (zerosB each)))
        have hjm : ((j : Int) - 1) = ((j - 1 : Nat) : Int) := by omega
        have hj1 : j - 1 < j := by omega
        have hj1' : ((j - 1 : Nat) : Int) < (j : Int) := by omega
        clear hmk hcv
        have hszA : ((wr.alloc (.cells (Array.replicate each (.int .u8 0)) 5)).setCell ⟨g, 0, none⟩ (.string (zerosB each))).heap.size = wr.heap.size + 1 := by simp [World.setCell]
        rw [hszA] at hk3 hk4
        obtain ⟨l, hl⟩ : ∃ l : List ByteArray, l = ((List.replicate j ByteArray.empty).set 0 (zerosB each)).set (j - 1) (zerosB mr) := ⟨_, rfl⟩
        have hll : l.length = j := by rw [hl]; simp
        have hlb : ∀ x ∈ l, x.size ≤ 1000000 := fun x hx => by
          rw [hl] at hx
          rcases List.mem_or_eq_of_mem_set hx with hx | rfl
          · rcases List.mem_or_eq_of_mem_set hx with hx | rfl
            · rw [(List.mem_replicate.1 hx).2]; decide
            · show (Array.replicate each (0 : UInt8)).size ≤ 1000000
              simp; omega
          · show (Array.replicate mr (0 : UInt8)).size ≤ 1000000
            simp; omega
        have hmap : ((List.replicate j (Value.string ByteArray.empty)).set 0 (.string (zerosB each))).set (j - 1) (.string (zerosB mr)) = l.map Value.string := by
          rw [hl, List.map_set, List.map_set, List.map_replicate]
        rw [hmap] at hrow3
        obtain ⟨WL, hWL⟩ : ∃ WL, WL = ((((wr.alloc (.cells (Array.replicate each (.int .u8 0)) 5)).setCell ⟨g, 0, none⟩ (.string (zerosB each))).alloc (.cells (Array.replicate mr (.int .u8 0)) 5)).setCell ⟨g, j - 1, none⟩ (.string (zerosB mr))) := ⟨_, rfl⟩
        have hBL : Below w.heap.size w WL := by
          rw [hWL]
          exact (((hB.alloc (by omega) _).setCell (by dsimp only; omega) _).alloc (by simp [World.setCell]; omega) _).setCell (by dsimp only; omega) _
        have hrowL := hrow3
        rw [← hWL] at hrowL
        obtain ⟨vL, hvL⟩ : ∃ vL, vL = Value.slice (some ⟨g, 0, none⟩) j cap := ⟨_, rfl⟩
        rw [← hvL] at hrowL
        have HWL := Lib.hid hWL
        have HvL := Lib.hid hvL
        have Hlb := Lib.hid hlb
        clear hl hmap hrow1 hrow3 hWL hvL hown
        obtain ⟨fi, hfi⟩ : ∃ fi, fi = fitsI l := ⟨_, rfl⟩
        have hS5 := IsStrs.of_owns hrowL hll.symm
        have kN := new_fits WL l vL hS5 (by omega) (fun x hx => by have := hlb x hx; omega)
        have kF := fun (w5 : World) (hb : Below WL.heap.size WL w5) => fits_any w5 l vL (hS5.below hb) (by omega) (fun x hx => by have := hlb x hx; omega)
        rw [← hfi] at kN kF
        clear hlb
        rw [HvL.out, HWL.out] at kN
        go_wp2_with fail
        refine kN.mono ?_
        rintro e w5 ⟨mo, rfl, hmo, hb5⟩
        have hB5 := hBL.trans ((show Below WL.heap.size WL w5 from by rw [HWL.out]; exact hb5).mono (by have := hBL.size; omega))
        have kF5 := kF w5 (by rw [HWL.out]; exact hb5)
        rw [HvL.out] at kF5
        have Hfi := Lib.hid hfi
        clear kN kF hS5 hrowL hfi
        rcases hmo with ⟨rfl, hne⟩ | ⟨⟨a, rfl⟩, h0⟩
        · have ef : (fi == 0) = false := by rw [beq_eq_false_iff_ne]; omega
          go_wp2_with (first | (go_at_call 22; refine kF5.mono ?_; rintro e w6 ⟨rfl, rfl⟩) | (go_at_call 17; refine (awake_any _).mono ?_; rintro e w7 ⟨rfl, hb7⟩))
          go_ret
          exact ⟨rfl, hB5.trans (hb7.mono (by have := hB5.size; omega))⟩
        · subst h0
          go_wp2_with (first | (go_at_call 22; refine kF5.mono ?_; rintro e w6 ⟨rfl, rfl⟩) | (go_at_call 17; refine (awake_any _).mono ?_; rintro e w7 ⟨rfl, hb7⟩))
          go_ret
          exact ⟨rfl, hB5.trans (hb7.mono (by have := hB5.size; omega))⟩
      · clear hmk hcv
        obtain ⟨l, hl⟩ : ∃ l : List ByteArray, l = List.replicate j ByteArray.empty := ⟨_, rfl⟩
        have hll : l.length = j := by rw [hl]; simp
        have hlb : ∀ x ∈ l, x.size ≤ 1000000 := fun x hx => by
          rw [hl] at hx
          rw [(List.mem_replicate.1 hx).2]; decide
        have hmap : List.replicate j (Value.string ByteArray.empty) = l.map Value.string := by
          rw [hl, List.map_replicate]
        rw [hmap] at hown
        have hrowL := hown
        have hBL := hB
        obtain ⟨WL, hWL⟩ : ∃ WL, WL = wr := ⟨_, rfl⟩
        obtain ⟨vL, hvL⟩ : ∃ vL, vL = u9 := ⟨_, rfl⟩
        subst hWL
        subst hvL
        clear hl hmap hown
        obtain ⟨fi, hfi⟩ : ∃ fi, fi = fitsI l := ⟨_, rfl⟩
        have hS5 := IsStrs.of_owns hrowL hll.symm
        have kN := new_fits WL l vL hS5 (by omega) (fun x hx => by have := hlb x hx; omega)
        have kF := fun (w5 : World) (hb : Below WL.heap.size WL w5) => fits_any w5 l vL (hS5.below hb) (by omega) (fun x hx => by have := hlb x hx; omega)
        rw [← hfi] at kN kF
        clear hlb
        go_wp2_with fail
        refine kN.mono ?_
        rintro e w5 ⟨mo, rfl, hmo, hb5⟩
        have hB5 := hBL.trans (hb5.mono (by have := hBL.size; omega))
        have kF5 := kF w5 hb5
        have Hfi := Lib.hid hfi
        clear kN kF hS5 hrowL hfi
        rcases hmo with ⟨rfl, hne⟩ | ⟨⟨a, rfl⟩, h0⟩
        · have ef : (fi == 0) = false := by rw [beq_eq_false_iff_ne]; omega
          go_wp2_with (first | (go_at_call 22; refine kF5.mono ?_; rintro e w6 ⟨rfl, rfl⟩) | (go_at_call 17; refine (awake_any _).mono ?_; rintro e w7 ⟨rfl, hb7⟩))
          go_ret
          exact ⟨rfl, hB5.trans (hb7.mono (by have := hB5.size; omega))⟩
        · subst h0
          go_wp2_with (first | (go_at_call 22; refine kF5.mono ?_; rintro e w6 ⟨rfl, rfl⟩) | (go_at_call 17; refine (awake_any _).mono ?_; rintro e w7 ⟨rfl, hb7⟩))
          go_ret
          exact ⟨rfl, hB5.trans (hb7.mono (by have := hB5.size; omega))⟩
end Go.Proofs.Ytpgiaofkabhgkaa
