/-
  What the card's condition on the digits' table gives the walks.
-/
import Derived.Test.YtmghlbdhkjbejaaDoorRows
import Derived.Test.YtmghlbdhkjbejaaDoorBaseOwn
import Derived.ProofKit
import Derived.LaidMore
import Derived.OpenShut
import Derived.Stop.Joined
namespace Go.Proofs.YtmghlbdhkjbejaaDoor
open Go.ChangeShapes Go.WideShapes Go.ChangeAt Go.WideMaps Go.WideElems Go.RowKit
set_option linter.unusedVariables false

theorem gDigits : Tryd.prog.globalNamed "nuncio/b64.digits" = some 0 := by kernel_rfl
theorem tDigits : (Tryd.prog.globals[0]?).map (·.type) = some 34 := by kernel_rfl
def laidL : List (String × DataW Unit) := [("nuncio/b64.digits", Rows.laid_nuncio_b64_digits)]
def litD (v : Nat) : DataW Unit := .lit (.int .u8 ((dig v).toNat : Int))
theorem laid_lits : (Rows.laid_nuncio_b64_digits : DataW Unit) = .agg ((List.range 64).map litD) := by kernel_rfl
theorem of_laid {W : World} (h : laidMetH Tryd.prog laidL W) : Tab W := by
  rw [MakeChecks.laidMetH_plain _ _ _ (by kernel_rfl)] at h
  obtain ⟨ps, ⟨g0, t0, cs0, f0, p0, q0, hg0, ht0, hv0, hd0, _, _⟩, _, _⟩ := h
  obtain rfl := Option.some.inj (gDigits.symm.trans hg0)
  obtain rfl := Option.some.inj (tDigits.symm.trans ht0)
  obtain ⟨xs, m1, rfl, hx1, hlen, hn, hel⟩ := DataW.trod_array Tryd.underlying34 hd0
  have c5 : Tryd.prog.cellsOf 5 = 1 := by kernel_rfl
  rw [laid_lits] at hx1
  simp only [Prod.mk.injEq, DataW.agg.injEq] at hx1
  intro v hv
  have h1 := hel v hv
  have hxv : xs[v]? = some (xs[v]'(by omega)) := List.getElem?_eq_getElem (by omega)
  rw [c5, hxv, Nat.mul_one] at h1
  obtain ⟨k, e1, e2, _⟩ := DataW.trod_int Tryd.underlying5 h1
  have hL := congrArg (fun z : List (DataW Unit) => z[v]?) hx1.1
  simp only [List.getElem?_map, hxv, List.getElem?_range hv, Option.map_some, Option.some.injEq] at hL
  rw [e2] at hL
  have hk : k = ((dig v).toNat : Int) := by
    unfold litD at hL
    simpa using hL.symm
  subst hk
  rw [World.var?_cell hg0 hv0 v]
  have h2 : cs0.toList[v]? = some (.int .u8 ((dig v).toNat : Int)) := by
    have := congrArg (fun z : List Value => z[0]?) e1
    simp only [List.getElem?_take_of_lt (Nat.zero_lt_one), List.getElem?_drop, Nat.add_zero, List.getElem?_cons_zero] at this
    exact this
  simpa using h2
theorem door_met (os : Os) (args : Array Value) : laidMetH Tryd.prog laidL ((World.doorLaid Tryd.prog 400 os).forCall (fun _ _ => 0) ⟨#[], args, []⟩).memory := by
  rw [MakeChecks.laidMetH_plain _ _ _ (by kernel_rfl)]
  exact laidMet_of_run' 8 (by kernel_rfl) (by kernel_rfl)
end Go.Proofs.YtmghlbdhkjbejaaDoor
