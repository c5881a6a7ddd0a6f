/-
  The contract of nuncio/nuncioref01.Cut.
-/
import Derived.Test.YtjghnabepojddaaStrs
import Derived.WalkLawsBesides
namespace Go.Proofs.Ytjghnabepojddaa
open Go.RowKit

set_option maxHeartbeats 1000000 in
theorem refCut_any (s : ByteArray) (b : Int) (w : World) (hs : s.size ≤ 1000000000000) :
    Calls Try.prog 23 #[.string s, .int .u8 b] w fun e W' => ∃ v, e = .returned v ∧ W'.ownsRow w.heap.size 9 1 v (cutParts s b).length ((cutParts s b).map Value.string) ∧ Below w.heap.size w W' := by
  obtain ⟨i0, hi, hz0, hz1, hz2⟩ := info_parts infoStr
  go_enter Try.func23, Try.ntmps23
  go_wp2
  go_loopw [5, 6, 7] (fun out fr i wr => ∃ k : Nat, k ≤ s.size ∧ i = .int .i64 (k : Int) ∧ fr = .int .i64 ((cutTo s b k).2 : Int) ∧ wr.ownsRow w.heap.size 9 1 out (cutTo s b k).1.length ((cutTo s b k).1.map Value.string) ∧ Below w.heap.size w wr)
    (fun out fr i wr => s.size - (intOf i).toNat)
  case atStart =>
    exact ⟨0, Nat.zero_le _, rfl, rfl, World.ownsRow_made w #[] 0 (Nat.le_refl _) (by unfold maxLen; omega) rfl, (Below.refl _ _).alloc (Nat.le_refl _) _⟩
  case round =>
    obtain ⟨k, hk, rfl, rfl, hrow, hB⟩ := hrel
    have hle := cutTo_le s b k
    have hsz := hB.size
    by_cases hlt : k < s.size
    · by_cases he : (s[k].toNat : Int) = b
      · have he1 : ((s[k].toNat : Int) == b) = true := by simp [he]
        have hcut := cutTo_hit hlt he
        have hml : (cutTo s b k).1.length + 1 ≤ maxLen := by unfold maxLen; omega
        have Hcut := Lib.hid hcut
        clear hcut he
        go_wp2_with (at_builtin; refine wpList_append_own _ rfl _ _ 33 rfl w.heap.size 9 i0 (.string ⟨#[]⟩) 1 16 Try.underlying33 hi hz0 hz1 hz2 rfl (by decide) _ _ _ rfl (hrow.alloc _) ⟨wr.heap.size, 0, none⟩ 1 1 [.string (s.extract (cutTo s b k).2 k)] rfl rfl (cell_one_new _ _ _) (by simp [Value.oneCell']) (by omega) (by omega) (by simp; omega) ?_; intro v' w1 hown' hgrow _)
        have hb1 := (hB.alloc hsz _).grown hgrow (by simp; omega) (fun j ej => (hrow.lt j ej).1)
        go_roundw
        case rel => exact ⟨k + 1, by omega, by go_num, by rw [Hcut.out]; go_num, by rw [Hcut.out]; simpa using hown', hb1⟩
        case measure => simp [intOf]; omega
      · have he1 : ((s[k].toNat : Int) == b) = false := by simp [he]
        have hcut := cutTo_miss hlt he
        have Hcut := Lib.hid hcut
        clear hcut he
        go_wp2
        go_roundw
        case rel => exact ⟨k + 1, by omega, by go_num, by rw [Hcut.out], by rw [Hcut.out]; exact hrow, hB⟩
        case measure => simp [intOf]; omega
    · obtain rfl : k = s.size := by omega
      have hml : (cutTo s b s.size).1.length + 1 ≤ maxLen := by unfold maxLen; omega
      go_wp2_with (at_builtin; refine wpList_append_own _ rfl _ _ 33 rfl w.heap.size 9 i0 (.string ⟨#[]⟩) 1 16 Try.underlying33 hi hz0 hz1 hz2 rfl (by decide) _ _ _ rfl (hrow.alloc _) ⟨wr.heap.size, 0, none⟩ 1 1 [.string (s.extract (cutTo s b s.size).2 s.size)] rfl rfl (cell_one_new _ _ _) (by simp [Value.oneCell']) (by omega) (by omega) (by simp; omega) ?_; intro v' w1 hown' hgrow _)
      have hb1 := (hB.alloc hsz _).grown hgrow (by simp; omega) (fun j ej => (hrow.lt j ej).1)
      go_ret
      exact ⟨v', rfl, by simpa [cutParts] using hown', hb1⟩
end Go.Proofs.Ytjghnabepojddaa
