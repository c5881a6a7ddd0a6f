/-
  Contracts of nuncio/octet's Pair, Byte and of their references.
-/
import Derived.Test.YtahkfoaogcbecaaRows
import Derived.Test.YtahkfoaogcbecaaPlain
import Derived.WalkSpells
import Derived.WalkLawsBesides
import Derived.Handy
import Derived.BigRegion
import Derived.BigQuiet
import Derived.Deep.QuietTactic
import Derived.Laws.IdiomStrings
namespace Go.Proofs.Ytahkfoaogcbecaa
open Go.RowKit

theorem conv2 (w : World) (x y : UInt8) : (convert 33 9 (.slice (some ⟨w.heap.size, 0, none⟩) 2 2)).run Try.prog ((w.alloc (.cells #[.int .u8 ↑x.toNat, .int .u8 ↑y.toNat] 56)).drew) = .ok (.string ⟨#[x, y]⟩) ((w.alloc (.cells #[.int .u8 ↑x.toNat, .int .u8 ↑y.toNat] 56)).drew) := by
  have := run_convert_bytes_back (P := Try.prog) ((w.alloc (.cells #[.int .u8 ↑x.toNat, .int .u8 ↑y.toNat] 56)).drew) 33 9 5 ⟨w.heap.size, 0, none⟩ 2 [x, y] Try.underlying33 Try.underlying5 Try.underlying9 ?_
  · simpa using this
  · intro j hj
    match j, hj with
    | 0, _ => simp [Addr.add]
    | 1, _ => simp [Addr.add]

set_option maxHeartbeats 400000 in
theorem refPair_any (c : Int) (w : World) (h0 : 0 ≤ c) (h1 : c ≤ 255) :
    Calls Try.prog 38 #[.int .u8 c] w fun e w' => e = .returned (.string (pairOf c)) ∧ ∃ n, w' = w.drewN n := by
  have a1 : 0 ≤ c / 16 := by omega
  have a2 : c / 16 < 16 := by omega
  have a3 : 0 ≤ c % 16 := by omega
  have a4 : c % 16 < 16 := by omega
  go_enter Try.func38, Try.ntmps38
  go_wp2
  go_quiet (fail)
  go_wp2
  go_ret
  exact ⟨by rw [← pairOf_ex c h0 h1]; rfl, _, rfl⟩

set_option maxHeartbeats 400000 in
theorem octPair_any (c : Int) (w : World) (h0 : 0 ≤ c) (h1 : c ≤ 255) :
    Calls Try.prog 19 #[.int .u8 c] w fun e w' => e = .returned (.string (pairOf c)) ∧ Below w.heap.size w w' := by
  have a1 : 0 ≤ c / 16 := by omega
  have a2 : c / 16 < 16 := by omega
  have a3 : 0 ≤ c % 16 := by omega
  have a4 : c % 16 < 16 := by omega
  have kc := conv2 w
  go_enter Try.func19, Try.ntmps19
  go_wp2
  go_region
  all_goals go_wp2
  all_goals go_ret
  all_goals refine ⟨?_, ?_⟩
  · rw [← pairOf_at c h0 h1 (by show _ < 16; omega) (by show _ < 16; omega)]
    rfl
  · go_grown

set_option maxHeartbeats 400000 in
theorem hexValue_any (c : Int) (w : World) (h0 : 0 ≤ c) (h1 : c ≤ 255) :
    Calls Try.prog 43 #[.int .u8 c] w fun e w' => e = .returned (.tuple #[.int .u8 (hexV c), .bool (hexOk c)]) ∧ w = w' := by
  obtain ⟨v, hv⟩ : ∃ v, v = hexV c := ⟨_, rfl⟩
  obtain ⟨b, hb⟩ : ∃ b, b = hexOk c := ⟨_, rfl⟩
  rw [← hv, ← hb]
  have Hv := Lib.hid hv
  have Hb := Lib.hid hb
  clear hv hb
  go_enter Try.func43, Try.ntmps43
  go_wp2
  all_goals go_ret2
  all_goals
    refine ⟨?_, rfl⟩
    rw [Hv.out, Hb.out]
    unfold hexV hexOk hexI
    repeat (first | rw [if_pos (by omega)] | rw [if_neg (by omega)])
    try rfl
    try simp
    try omega

set_option maxHeartbeats 400000 in
theorem refDigit_any (c : Int) (w : World) (h0 : 0 ≤ c) (h1 : c ≤ 255) :
    Calls Try.prog 40 #[.int .u8 c] w fun e w' => e = .returned (.int .i64 (hexI c)) ∧ w = w' := by
  obtain ⟨v, hv⟩ : ∃ v, v = hexI c := ⟨_, rfl⟩
  rw [← hv]
  have Hv := Lib.hid hv
  clear hv
  go_enter Try.func40, Try.ntmps40
  go_wp2
  all_goals go_ret
  all_goals
    refine ⟨?_, rfl⟩
    rw [Hv.out]
    unfold hexI
    repeat (first | rw [if_pos (by omega)] | rw [if_neg (by omega)])
    try rfl
end Go.Proofs.Ytahkfoaogcbecaa


