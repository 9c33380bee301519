/-
  How much runs, as the program counts it: the walks.
-/
import Derived.Test.YtjmclcjhimcehaaTly
namespace Go.Proofs.Ytjmclcjhimcehaa
open Go Go.RowKit
set_option linter.unusedVariables false

theorem fld0 (x y : Value) (W : World) : (Instr.field 75 (.agg #[x, y]) 0).run Try.prog W = .ok x W := by kernel_rfl
theorem fld1 (x y : Value) (W : World) : (Instr.field 75 (.agg #[x, y]) 1).run Try.prog W = .ok y W := by kernel_rfl
set_option maxRecDepth 10000 in
set_option maxHeartbeats 1000000 in
theorem implActive_any (so po ro : Option Addr) (sn sc pn pc rn rc : Nat) (ck tk : Int) (ps : List Po) (rs : List Rr) (s : ByteArray) (w : World) (hp : DRow OnePl w (.slice po pn pc) ps) (hpn : pn ≤ 1048577) (hr : DRow OneRk w (.slice ro rn rc) rs) (hrn : rn ≤ 1048577) (hz : ∀ r ∈ rs, r.st.length ≤ 1048576 ∧ r.nm.size ≤ 1048577) (hzp : ∀ p ∈ ps, p.tasks.length ≤ 1048576 ∧ p.name.size ≤ 1048577 ∧ ∀ t ∈ p.tasks, t.pool.size ≤ maxLen) (hs : s.size ≤ 1048577) :
    Calls Try.prog 22 #[bdV (.slice so sn sc) (.slice po pn pc) (.slice ro rn rc) ck tk, .string s] w fun e w' => e = .returned (.int .i64 (actN rs s)) ∧ Below w.heap.size w w' := by
  have HT : Hid (∀ W, Below w.heap.size w W → Calls Try.prog 42 #[bdV (.slice so sn sc) (.slice po pn pc) (.slice ro rn rc) ck tk] W (TlyP ps rs W)) := fun W hb => tally_any so po ro sn sc pn pc rn rc ck tk ps rs W (hp.below onePl_below hb) hpn (hr.below oneRk_below hb) hrn hz hzp
  clear hp hr hz hzp
  simp only [bdV] at HT ⊢
  go_enter Try.func22, Try.ntmps22
  go_wp2_with fail
  refine (HT.out _ (ba (Below.refl _ _) _)).mono ?_
  rintro e w1 ⟨A, U, M, rfl, hA, hU, hb1⟩
  have hfl := fld0 (.map (some A)) (.map (some U)) w1
  have hl := cm_look hA (le_ml hs)
  have HE : Hid (actN rs s = ((cnt (actK rs s.data.toList) (rp rs) : Nat) : Int)) := by show _ = _; rw [actK_Q]; rfl
  have HB : Hid (Below w.heap.size w w1) := below_new hb1
  clear hA hU hb1
  go_wp2
  go_ret
  exact ⟨by rw [HE.out]; rfl, HB.out⟩
set_option maxRecDepth 10000 in
set_option maxHeartbeats 1000000 in
theorem implUsed_any (so po ro : Option Addr) (sn sc pn pc rn rc : Nat) (ck tk : Int) (ps : List Po) (rs : List Rr) (s : ByteArray) (w : World) (hp : DRow OnePl w (.slice po pn pc) ps) (hpn : pn ≤ 1048577) (hr : DRow OneRk w (.slice ro rn rc) rs) (hrn : rn ≤ 1048577) (hz : ∀ r ∈ rs, r.st.length ≤ 1048576 ∧ r.nm.size ≤ 1048577) (hzp : ∀ p ∈ ps, p.tasks.length ≤ 1048576 ∧ p.name.size ≤ 1048577 ∧ ∀ t ∈ p.tasks, t.pool.size ≤ maxLen) (hs : s.size ≤ 1048577) :
    Calls Try.prog 20 #[bdV (.slice so sn sc) (.slice po pn pc) (.slice ro rn rc) ck tk, .string s] w fun e w' => e = .returned (.int .i64 (useN ps rs s)) ∧ Below w.heap.size w w' := by
  have HT : Hid (∀ W, Below w.heap.size w W → Calls Try.prog 42 #[bdV (.slice so sn sc) (.slice po pn pc) (.slice ro rn rc) ck tk] W (TlyP ps rs W)) := fun W hb => tally_any so po ro sn sc pn pc rn rc ck tk ps rs W (hp.below onePl_below hb) hpn (hr.below oneRk_below hb) hrn hz hzp
  clear hp hr hz hzp
  simp only [bdV] at HT ⊢
  go_enter Try.func20, Try.ntmps20
  go_wp2_with fail
  refine (HT.out _ (ba (Below.refl _ _) _)).mono ?_
  rintro e w1 ⟨A, U, M, rfl, hA, hU, hb1⟩
  have hfl := fld1 (.map (some A)) (.map (some U)) w1
  have hl := cm_look hU (le_ml hs)
  have HE : Hid (useN ps rs s = ((cnt (useK ps rs s.data.toList) (rp rs) : Nat) : Int)) := by show _ = _; rw [useK_Q]; rfl
  have HB : Hid (Below w.heap.size w w1) := below_new hb1
  clear hA hU hb1
  go_wp2
  go_ret
  exact ⟨by rw [HE.out]; rfl, HB.out⟩
end Go.Proofs.Ytjmclcjhimcehaa
