/-
  The contract of find.New.
-/
import Derived.Test.YtpgiaofkabhgkaaFindLay
import Derived.Laws.MakeOwn
import Derived.RegionIn
import Derived.BigRegionIn
namespace Go.Proofs.Ytpgiaofkabhgkaa
set_option linter.unusedVariables false
set_option linter.unusedSimpArgs false
open Go.RowKit
attribute [local go_sem] Oper.semAt_some

theorem rem_take (l : List ByteArray) (k : Nat) (h : k < l.length) : rem (l.take (k + 1)) 0 = rem (l.take k) 0 + l[k].size := by
  rw [take_snoc (List.getElem?_eq_getElem h)]
  unfold rem
  rw [List.map_append, List.sum_append]
  simp
theorem rem_bound (l : List ByteArray) (hb : ∀ x ∈ l, x.size ≤ 1000000000000) : rem l 0 ≤ 1000000000000 * l.length := by
  unfold rem
  induction l with
  | nil => simp
  | cons a l ih =>
    have h1 := ih (fun x hx => hb x (List.mem_cons_of_mem _ hx))
    have h2 := hb a (by simp)
    rw [List.map_cons, List.sum_cons, List.length_cons]
    omega

open Go.ChangeMaps Go.MapKept in
theorem ownsNext_empty {W : World} {b : Nat} (h : W.heap[b]? = some (.map #[] 0)) : OwnsNext W b 0 [[]] := by
  refine ⟨_, ⟨#[], 0, h, ⟨by simp, stamped_empty 0, by simp⟩, Nat.le_refl _, rfl⟩, fun q c kl _ => ⟨fun r hr => ?_, fun _ => rfl⟩⟩
  unfold nxt at hr
  cases q with
  | zero => simp [pos] at hr
  | succ q => simp at hr
theorem made_take (t : Nat) : (madeCells #[.int .i64 0, .int .i64 0, .int .i64 0, .slice none 0 0] ((t + 1) * 4)).toList.take 4 = [.int .i64 0, .int .i64 0, .int .i64 0, .slice none 0 0] := by
  unfold madeCells
  rw [Array.toList_map, Array.toList_range, ← List.map_take, List.take_range, Nat.min_eq_left (by omega)]
  rfl
theorem first_mem {W : World} {base mp c bm sg t : Nat} (ht : t ≤ 65536) (hm : W.heap[bm]? = some (.map #[] 0)) (hr : W.heap[sg]? = some (.cells (madeCells #[.int .i64 0, .int .i64 0, .int .i64 0, .slice none 0 0] ((t + 1) * 4)) 65 (0, 0)))
    (hb : W.heap[mp]? = some (.cells #[.int .i64 (c : Int), .map (some bm), .slice (some ⟨sg, 0, none⟩) 1 (t + 1)] 57 (0, 0))) (hs : base ≤ sg) : MemAt W base mp c bm 0 sg (t + 1) [.slice none 0 0] [[]] [⟨0, 0, 0, []⟩] := by
  refine ⟨hb, ownsNext_empty hm, ⟨rfl, .inr ⟨sg, t + 1, _, rfl, hs, hr, by simp, by unfold maxLen; omega, size_madeCells _ _, ?_⟩⟩, rfl, ?_, ?_⟩
  · exact made_take t
  · intro q s v hs hv
    cases q with
    | zero =>
      simp at hs hv
      subst hs hv
      exact World.ownsRow_nil _ _ _ _
    | succ q => simp at hs
  · intro q q' v v' hne hv hv'
    cases q with
    | zero => simp at hv; subst hv; exact .inl rfl
    | succ q => simp at hv
/-- A Many that New made of l. -/
def IsMany (w : World) (base mp : Nat) (l : List ByteArray) : Prop :=
  ∃ bm n sg scap vs lab ends sts, MemAt w base mp l.length bm n sg scap vs lab sts ∧ Made l lab ends sts ∧ sts.length < 1000000000000

set_option maxRecDepth 100000 in
set_option maxHeartbeats 4000000 in
theorem new_any (w : World) (l : List ByteArray) (lv : Value) (hv : IsStrs w lv l) (hl : l.length ≤ 1000000) (hb : ∀ x ∈ l, x.size ≤ 1000000000000) :
    Calls Try.prog 10 #[lv] w fun e w' => ∃ r, e = .returned r ∧ Below w.heap.size w w' ∧
      (256 < l.length ∧ r = .tuple #[.pointer none, .int .i64 5] ∨ l.length ≤ 256 ∧ 65536 < rem l 0 ∧ r = .tuple #[.pointer none, .int .i64 6] ∨
        l.length ≤ 256 ∧ rem l 0 ≤ 65536 ∧ ∃ mp, r = .tuple #[.pointer (some ⟨mp, 0, none⟩), .int .i64 0] ∧ IsMany w' w.heap.size mp l) := by
  refine (callsIn_wide (n := 5)).1 ?_
  have hmix : Try.prog.follows .mixedOrders = true := by kernel_rfl
  obtain ⟨i0, hi, hz0, hz1, hz2⟩ := info_parts infoState
  obtain ⟨ao, lcap, rfl⟩ := hv.form
  have Hv := Lib.hid hv
  have Hb := Lib.hid hb
  have hrb := rem_bound l hb
  have Hrb := Lib.hid hrb
  clear hv hb hrb
  refine callsIn_of_wp Try.func10 rfl trivial ?_ rfl
  simp only [Try.ntmps10, List.size_toArray, List.length_cons, List.length_nil, Nat.reduceAdd, Nat.reduceSub, Array.replicate_succ, Array.replicate_zero, List.push_toArray, List.append_toArray, List.nil_append, List.cons_append]
  by_cases h1 : 256 < l.length
  · gi_wp2
    go_ret2
    exact ⟨_, rfl, Below.refl _ _, .inl ⟨h1, rfl⟩⟩
  · have h1' : l.length ≤ 256 := by omega
    gi_wp2
    gi_loopw [4, 13] (fun tv i wr => ∃ (k : Nat), k ≤ l.length ∧ i = .int .i64 (k : Int) ∧ tv = .int .i64 (rem (l.take k) 0 : Int) ∧ wr = w) (fun tv i wr => l.length - (intOf i).toNat)
    case atStart => exact ⟨0, Nat.zero_le _, rfl, rfl, rfl⟩
    case round =>
      obtain ⟨k, hk, rfl, rfl, rfl⟩ := hrel
      by_cases hlt : k < l.length
      · rcases Hv.out with ⟨ao', cap', he, hl0⟩ | ⟨b, off, cap', he, hbl, hc⟩
        · rw [hl0] at hlt; simp at hlt
        · cases he
          have c1 := hc k hlt
          have hsum := rem_take l k hlt
          have hkb := rem_bound (l.take k) (fun x hx => Hb.out x (List.mem_of_mem_take hx))
          have hys := Hb.out l[k] (List.getElem_mem hlt)
          rw [List.length_take] at hkb
          obtain ⟨y, hy⟩ : ∃ y, y = l[k] := ⟨_, rfl⟩
          obtain ⟨t, ht⟩ : ∃ t, t = rem (l.take k) 0 := ⟨_, rfl⟩
          rw [← hy] at c1 hsum hys
          rw [← ht] at hsum hkb ⊢
          have htb : t ≤ 256000000000000 := by omega
          have Hsum := Lib.hid hsum
          clear hsum hkb hy ht hc
          gi_wp2
          go_roundw
          case rel => exact ⟨k + 1, by omega, by go_num, by rw [Hsum.out]; go_num, trivial⟩
          case measure => simp [intOf]; omega
      · obtain rfl : k = l.length := by omega
        rw [List.take_length]
        by_cases h2 : 65536 < rem l 0
        · gi_wp2
          go_ret2
          exact ⟨_, rfl, Below.refl _ _, .inr (.inl ⟨h1', h2, rfl⟩)⟩
        · have h2' : rem l 0 ≤ 65536 := by omega
          obtain ⟨t, ht⟩ : ∃ t, t = rem l 0 := ⟨_, rfl⟩
          rw [← ht] at h2 h2' ⊢
          have Ht := Lib.hid ht
          clear ht
          have hmm := fun (w : World) => run_makeMap_hint (t : Int) w
          have hms := fun (w : World) => run_makeSlice (w := w) (P := Try.prog) 55 65 i0 _ Try.underlying55 hi hz0 .i64 .i64 1 ((t : Int) + 1) (by decide) (by omega) (by rw [hz1]; omega) (by rw [hz2]; omega) (by omega)
          rw [hz1] at hms
          gi_wp2
          gi_region
          · obtain ⟨W1, hW1⟩ : ∃ W1, W1 = wr.alloc (.map #[] 0) := ⟨_, rfl⟩
            have g1 : W1.heap[wr.heap.size]? = some (.map #[] 0) := by rw [hW1]; exact World.alloc_heap_new wr _
            have z1 : W1.heap.size = wr.heap.size + 1 := by rw [hW1]; simp
            have b1 : Below wr.heap.size wr W1 := by rw [hW1]; exact (Below.refl _ wr).alloc (Nat.le_refl _) _
            rw [← hW1]
            obtain ⟨W2, hW2⟩ : ∃ W2, W2 = W1.alloc (.cells (madeCells #[.int .i64 0, .int .i64 0, .int .i64 0, .slice none 0 0] ((t + 1) * 4)) 65) := ⟨_, rfl⟩
            have g2 : W2.heap[wr.heap.size + 1]? = some (.cells (madeCells #[.int .i64 0, .int .i64 0, .int .i64 0, .slice none 0 0] ((t + 1) * 4)) 65) := by rw [hW2, ← z1]; exact World.alloc_heap_new W1 _
            have g12 : W2.heap[wr.heap.size]? = some (.map #[] 0) := by rw [hW2]; exact (Below.heap_alloc W1 _ _ (by omega)).trans g1
            have z2 : W2.heap.size = wr.heap.size + 1 + 1 := by rw [hW2]; simp [z1]
            have b2 : Below wr.heap.size wr W2 := by rw [hW2]; exact b1.alloc (by omega) _
            rw [← hW2]
            obtain ⟨W3, hW3⟩ : ∃ W3, W3 = (W2.alloc (.cells #[.int .i64 (l.length : Int), .map (some wr.heap.size), .slice (some ⟨wr.heap.size + 1, 0, none⟩) 1 (t + 1)] 57)).drew := ⟨_, rfl⟩
            have g3 : W3.heap[wr.heap.size + 1 + 1]? = some (.cells #[.int .i64 (l.length : Int), .map (some wr.heap.size), .slice (some ⟨wr.heap.size + 1, 0, none⟩) 1 (t + 1)] 57) := by rw [hW3, ← z2]; exact World.alloc_heap_new W2 _
            have g13 : W3.heap[wr.heap.size]? = some (.map #[] 0) := by rw [hW3]; exact (Below.heap_alloc W2 _ _ (by omega)).trans g12
            have g23 : W3.heap[wr.heap.size + 1]? = some (.cells (madeCells #[.int .i64 0, .int .i64 0, .int .i64 0, .slice none 0 0] ((t + 1) * 4)) 65) := by rw [hW3]; exact (Below.heap_alloc W2 _ _ (by omega)).trans g2
            have z3 : wr.heap.size ≤ W3.heap.size := by rw [hW3]; show wr.heap.size ≤ (W2.alloc _).heap.size; rw [World.size_alloc]; omega
            have b3 : Below wr.heap.size wr W3 := by rw [hW3]; exact (b2.alloc (by omega) _).drew
            rw [← hW3]
            have hM := first_mem (base := wr.heap.size) h2' g13 g23 g3 (by omega)
            have HM := Lib.hid hM
            have HB3 := Lib.hid b3
            have Hv3 := Lib.hid (Hv.out.below b3)
            have Hz3 := Lib.hid z3
            clear hW1 g1 z1 b1 hW2 g2 g12 z2 b2 hW3 g3 g13 g23 z3 b3 hM hmm hms
            gi_wp2_with (refine ⟨trivial, ?_⟩; gi_at_call 23; refine (lay_in 4 (by omega) HM.out rfl Hz3.out (by omega) (by omega) l _ Hv3.out (by omega) (by rw [← Ht.out]; omega)).mono ?_; rintro e w5 ⟨⟨ev, rfl⟩, hb5, hm5⟩; have Hb5 := Lib.hid hb5; have Hm5 := Lib.hid hm5; clear hb5 hm5)
            go_ret2
            obtain ⟨n5, sg5, scap5, vs5, lab5, ends5, sts5, hM5, hd5, hs5⟩ := Hm5.out
            exact ⟨_, rfl, HB3.out.trans Hb5.out, .inr (.inr ⟨h1', by rw [← Ht.out]; exact h2', wr.heap.size + 1 + 1, rfl, _, _, _, _, _, _, _, _, hM5, hd5, hs5⟩)⟩
          · obtain ⟨W1, hW1⟩ : ∃ W1, W1 = wr.alloc (.cells (madeCells #[.int .i64 0, .int .i64 0, .int .i64 0, .slice none 0 0] ((t + 1) * 4)) 65) := ⟨_, rfl⟩
            have g1 : W1.heap[wr.heap.size]? = some (.cells (madeCells #[.int .i64 0, .int .i64 0, .int .i64 0, .slice none 0 0] ((t + 1) * 4)) 65) := by rw [hW1]; exact World.alloc_heap_new wr _
            have z1 : W1.heap.size = wr.heap.size + 1 := by rw [hW1]; simp
            have b1 : Below wr.heap.size wr W1 := by rw [hW1]; exact (Below.refl _ wr).alloc (Nat.le_refl _) _
            rw [← hW1]
            obtain ⟨W2, hW2⟩ : ∃ W2, W2 = W1.alloc (.map #[] 0) := ⟨_, rfl⟩
            have g2 : W2.heap[wr.heap.size + 1]? = some (.map #[] 0) := by rw [hW2, ← z1]; exact World.alloc_heap_new W1 _
            have g12 : W2.heap[wr.heap.size]? = some (.cells (madeCells #[.int .i64 0, .int .i64 0, .int .i64 0, .slice none 0 0] ((t + 1) * 4)) 65) := by rw [hW2]; exact (Below.heap_alloc W1 _ _ (by omega)).trans g1
            have z2 : W2.heap.size = wr.heap.size + 1 + 1 := by rw [hW2]; simp [z1]
            have b2 : Below wr.heap.size wr W2 := by rw [hW2]; exact b1.alloc (by omega) _
            rw [← hW2]
            obtain ⟨W3, hW3⟩ : ∃ W3, W3 = (W2.alloc (.cells #[.int .i64 (l.length : Int), .map (some (wr.heap.size + 1)), .slice (some ⟨wr.heap.size, 0, none⟩) 1 (t + 1)] 57)).drew := ⟨_, rfl⟩
            have g3 : W3.heap[wr.heap.size + 1 + 1]? = some (.cells #[.int .i64 (l.length : Int), .map (some (wr.heap.size + 1)), .slice (some ⟨wr.heap.size, 0, none⟩) 1 (t + 1)] 57) := by rw [hW3, ← z2]; exact World.alloc_heap_new W2 _
            have g13 : W3.heap[wr.heap.size]? = some (.cells (madeCells #[.int .i64 0, .int .i64 0, .int .i64 0, .slice none 0 0] ((t + 1) * 4)) 65) := by rw [hW3]; exact (Below.heap_alloc W2 _ _ (by omega)).trans g12
            have g23 : W3.heap[wr.heap.size + 1]? = some (.map #[] 0) := by rw [hW3]; exact (Below.heap_alloc W2 _ _ (by omega)).trans g2
            have z3 : wr.heap.size ≤ W3.heap.size := by rw [hW3]; show wr.heap.size ≤ (W2.alloc _).heap.size; rw [World.size_alloc]; omega
            have b3 : Below wr.heap.size wr W3 := by rw [hW3]; exact (b2.alloc (by omega) _).drew
            rw [← hW3]
            have hM := first_mem (base := wr.heap.size) h2' g23 g13 g3 (by omega)
            have HM := Lib.hid hM
            have HB3 := Lib.hid b3
            have Hv3 := Lib.hid (Hv.out.below b3)
            have Hz3 := Lib.hid z3
            clear hW1 g1 z1 b1 hW2 g2 g12 z2 b2 hW3 g3 g13 g23 z3 b3 hM hmm hms
            gi_wp2_with (refine ⟨trivial, ?_⟩; gi_at_call 23; refine (lay_in 4 (by omega) HM.out rfl Hz3.out (by omega) (by omega) l _ Hv3.out (by omega) (by rw [← Ht.out]; omega)).mono ?_; rintro e w5 ⟨⟨ev, rfl⟩, hb5, hm5⟩; have Hb5 := Lib.hid hb5; have Hm5 := Lib.hid hm5; clear hb5 hm5)
            go_ret2
            obtain ⟨n5, sg5, scap5, vs5, lab5, ends5, sts5, hM5, hd5, hs5⟩ := Hm5.out
            exact ⟨_, rfl, HB3.out.trans Hb5.out, .inr (.inr ⟨h1', by rw [← Ht.out]; exact h2', wr.heap.size + 1 + 1, rfl, _, _, _, _, _, _, _, _, hM5, hd5, hs5⟩)⟩
end Go.Proofs.Ytpgiaofkabhgkaa
