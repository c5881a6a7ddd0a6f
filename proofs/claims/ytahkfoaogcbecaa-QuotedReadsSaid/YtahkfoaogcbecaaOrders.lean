/-
  A region that draws its order of evaluation, walked once in each order that its edges allow. Any program.
-/
import Derived.WalkKit
import Derived.OwnWalkIn
import Derived.OrdersIn
namespace Go.Proofs.Ytahkfoaogcbecaa
open Go.RowKit

/-- All orders that a region's edges allow, from those on that are not listed. -/
def linsGo (ops : Array Oper) : Nat → Array Bool → List (List Nat)
  | 0, _ => [[]]
  | f + 1, listed =>
    match Region.ready .any ops listed with
    | [] => [[]]
    | r :: rs => (r :: rs).flatMap fun i => (linsGo ops f (listed.setIfInBounds i true)).map (i :: ·)
def lins (ops : Array Oper) : List (List Nat) := linsGo ops ops.size (Array.replicate ops.size false)

theorem lins_mem (ops : Array Oper) : ∀ (f t : Nat) (listed : Array Bool), Region.linearise.go .any ops f t listed [] ∈ linsGo ops f listed := by
  intro f
  induction f with
  | zero => intro t listed; simp [Region.linearise.go, linsGo]
  | succ f ih =>
    intro t listed
    simp only [Region.linearise.go]
    change (match (Region.ready .any ops listed)[t % (Region.ready .any ops listed).length]? with
      | some i => Region.linearise.go .any ops f (t / (Region.ready .any ops listed).length) (listed.setIfInBounds i true) [i]
      | none => [].reverse) ∈ _
    unfold linsGo
    cases hr : Region.ready .any ops listed with
    | nil => simp
    | cons r rs =>
      have hlt : t % (r :: rs).length < (r :: rs).length := Nat.mod_lt _ (by simp)
      rw [List.getElem?_eq_getElem hlt]
      simp only []
      rw [linearise_go_acc, List.reverse_singleton, List.singleton_append]
      exact List.mem_flatMap.2 ⟨_, List.getElem_mem hlt, List.mem_map.2 ⟨_, ih _ _, rfl⟩⟩

/-- The operations of an order, written out. -/
def pickOps (ops : Array Oper) (l : List Nat) : List Oper := l.flatMap fun i => ops[i]?.toList

theorem wpOps_pick {P : Program} {ops : Array Oper} {Q : Exit → Act → World → Prop} : ∀ (l : List Nat), wpOps P ops Q l = wpList P ops Q (pickOps ops l) := by
  intro l
  induction l with
  | nil => rfl
  | cons i l ih =>
    funext a w
    unfold pickOps at *
    cases h : ops[i]? with
    | none => simp only [wpOps, h, List.flatMap_cons, Option.toList_none, List.nil_append, ih]
    | some o => simp only [wpOps, h, List.flatMap_cons, Option.toList_some, List.cons_append, List.nil_append, wpList, ih]

theorem wpOpsIn_pick {F : Fence} {n : Nat} {P : Program} {ops : Array Oper} {Q : Exit → Act → World → Prop} : ∀ (l : List Nat), wpOpsIn F n P ops Q l = wpListIn F n P ops Q (pickOps ops l) := by
  intro l
  induction l with
  | nil => rfl
  | cons i l ih =>
    funext a w
    unfold pickOps at *
    cases h : ops[i]? with
    | none => simp only [wpOpsIn, h, List.flatMap_cons, Option.toList_none, List.nil_append, ih]
    | some o => simp only [wpOpsIn, h, List.flatMap_cons, Option.toList_some, List.cons_append, List.nil_append, wpListIn, ih]

theorem wp_region_orders {P : Program} {id : Nat} {ops : Array Oper} {Q : Exit → Act → World → Prop} {a : Act} {w : World} (Ls : List (List Nat)) (hm : P.follows .mixedOrders = true) (hL : lins ops = Ls)
    (h : ∀ L ∈ Ls, wpList P ops Q (pickOps ops L) a w.drew) : (Code.region id ops true).wp P Q a w :=
  wp_region_draw fun t => by
    simp only [Region.schedule, hm, Bool.true_or, if_true]
    rw [wpOps_pick]
    exact h _ (hL ▸ lins_mem ops ops.size t _)

theorem wpIn_region_orders {F : Fence} {n : Nat} {P : Program} {id : Nat} {ops : Array Oper} {Q : Exit → Act → World → Prop} {a : Act} {w : World} (Ls : List (List Nat)) (hm : P.follows .mixedOrders = true) (hL : lins ops = Ls)
    (h : ∀ L ∈ Ls, wpListIn F n P ops Q (pickOps ops L) a w.drew) : (Code.region id ops true).wpIn F n P Q a w :=
  wpIn_region_draw fun t => by
    simp only [Region.schedule, hm, Bool.true_or, if_true]
    rw [wpOpsIn_pick]
    exact h _ (hL ▸ lins_mem ops ops.size t _)
end Go.Proofs.Ytahkfoaogcbecaa
