/-
  A region that draws its order, inside a round: every order that its edges allow, told one by one.
-/
import Derived.OrdersIn
import Derived.TacticsIn
namespace Go.Proofs.Ytjmclcjhimcehaa
open Go

/-- All orders that a region's edges allow. -/
def allO (md : Region.Mode) (ops : Array Oper) : Nat → Array Bool → List (List Nat)
  | 0, _ => [[]]
  | fuel + 1, listed =>
    if Region.ready md ops listed = [] then [[]] else (Region.ready md ops listed).flatMap fun i => (allO md ops fuel (listed.setIfInBounds i true)).map (i :: ·)
theorem go_allO (md : Region.Mode) (ops : Array Oper) : ∀ (fuel t : Nat) (listed : Array Bool), Region.linearise.go md ops fuel t listed [] ∈ allO md ops fuel listed := by
  intro fuel
  induction fuel with
  | zero => intro t listed; simp [Region.linearise.go, allO]
  | succ fuel ih =>
    intro t listed
    simp only [Region.linearise.go]
    change (match (Region.ready md ops listed)[t % (Region.ready md ops listed).length]? with
      | some i => Region.linearise.go md ops fuel (t / (Region.ready md ops listed).length) (listed.setIfInBounds i true) [i]
      | none => [].reverse) ∈ _
    unfold allO
    cases hi : (Region.ready md ops listed)[t % (Region.ready md ops listed).length]? with
    | none =>
      have hnil : Region.ready md ops listed = [] := by
        cases hr : Region.ready md ops listed with
        | nil => rfl
        | cons x xs =>
          rw [hr] at hi
          have hlt : t % (x :: xs).length < (x :: xs).length := Nat.mod_lt _ (by simp)
          simp at hi
          simp at hlt
          omega
      rw [if_pos hnil]
      simp
    | some i =>
      have hm := List.mem_of_getElem? hi
      rw [if_neg (fun e => by rw [e] at hm; cases hm)]
      simp only []
      rw [linearise_go_acc, List.reverse_singleton, List.singleton_append]
      exact List.mem_flatMap.2 ⟨i, hm, List.mem_map.2 ⟨_, ih _ _, rfl⟩⟩
variable {F : Fence} {n : Nat} {P : Program} {ops : Array Oper} {Q : Exit → Act → World → Prop} {a : Act} {w : World}
theorem wpOpsIn_list (l : List Nat) : wpOpsIn F n P ops Q l = wpListIn F n P ops Q (l.filterMap fun i => ops[i]?) := by
  induction l with
  | nil => funext a w; simp [wpOpsIn, wpListIn]
  | cons i l ih =>
    funext a w
    cases h : ops[i]? with
    | none => simp [wpOpsIn, h, ih]
    | some o => simp [wpOpsIn, wpListIn, h, ih]
theorem wpIn_region_orders {id : Nat} (hm : P.follows .mixedOrders = true) {os : List (List Nat)} (ho : allO .any ops ops.size (Array.replicate ops.size false) = os)
    (h : ∀ o ∈ os, wpListIn F n P ops Q (o.filterMap fun i => ops[i]?) a w.drew) : (Code.region id ops true).wpIn F n P Q a w :=
  wpIn_region_draw fun t => by
    simp only [Region.schedule, hm, Bool.true_or, if_true]
    rw [wpOpsIn_list]
    refine h _ ?_
    rw [← ho]
    exact go_allO .any ops _ t _
end Go.Proofs.Ytjmclcjhimcehaa
