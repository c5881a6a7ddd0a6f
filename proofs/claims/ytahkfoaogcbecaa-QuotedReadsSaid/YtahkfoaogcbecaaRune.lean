/-
  nuncio/nuncioref02.Rune and nuncio/utf.Bytes, without the rest of utf (as in XUtfSmall; for seats that reach only these).
-/
import Derived.WalkKit
import Derived.Below
import Derived.Lib.Hide
import Derived.WalkLawsBesides
import Derived.Test.YtahkfoaogcbecaaRows
import Derived.Test.YtahkfoaogcbecaaPlainUtf
namespace Go.Proofs.Ytahkfoaogcbecaa
open Go.RowKit

/-- Is n a rune? -/
def runeB (n : Int) : Bool := decide ((0 ≤ n ∧ n < 55296) ∨ (57343 < n ∧ n ≤ 1114111))
theorem runeB_valid (n : Int) : Utf8.valid n = runeB n := validRune_eq n

set_option maxHeartbeats 400000 in
theorem refRune_any (n : Int) (w : World) (h0 : -9223372036854775808 ≤ n) (h1 : n ≤ 9223372036854775807) :
    Calls Try.prog 30 #[.int .i64 n] w fun e w' => e = .returned (.bool (runeB n)) ∧ w = w' := by
  obtain ⟨r, hr⟩ : ∃ r, r = runeB n := ⟨_, rfl⟩
  rw [← hr]
  have Hr := Lib.hid hr
  clear hr
  by_cases a : 0 ≤ n
  · by_cases b : n ≤ 1114111
    · by_cases c : 55296 ≤ n
      · by_cases d : n ≤ 57343
        · go_enter Try.func30, Try.ntmps30
          go_wp2
          go_ret
          refine ⟨?_, rfl⟩
          rw [Hr.out, show runeB n = false from decide_eq_false (by omega)]; rfl
        · have d' : 57343 < n := by omega
          go_enter Try.func30, Try.ntmps30
          go_wp2
          go_ret
          refine ⟨?_, rfl⟩
          rw [Hr.out, show runeB n = true from decide_eq_true (by omega)]; rfl
      · have c' : n < 55296 := by omega
        go_enter Try.func30, Try.ntmps30
        go_wp2
        go_ret
        refine ⟨?_, rfl⟩
        rw [Hr.out, show runeB n = true from decide_eq_true (by omega)]; rfl
    · have b' : 1114111 < n := by omega
      go_enter Try.func30, Try.ntmps30
      go_wp2
      go_ret
      refine ⟨?_, rfl⟩
      rw [Hr.out, show runeB n = false from decide_eq_false (by omega)]; rfl
  · have a' : n < 0 := by omega
    go_enter Try.func30, Try.ntmps30
    go_wp2
    go_ret
    refine ⟨?_, rfl⟩
    rw [Hr.out, show runeB n = false from decide_eq_false (by omega)]; rfl

theorem utfBytes_any (n : Int) (w : World) :
    Calls Try.prog 20 #[.int .i32 n] w fun e w' => e = .returned (.string (Utf8.encode n)) ∧ w = w' := by
  go_enter Try.func20, Try.ntmps20
  go_wp2
  go_ret
  exact ⟨rfl, rfl⟩
end Go.Proofs.Ytahkfoaogcbecaa
