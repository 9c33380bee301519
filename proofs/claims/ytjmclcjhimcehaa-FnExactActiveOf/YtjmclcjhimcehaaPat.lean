/-
  Where a plan stands on a board: PlanAt of the specification and of the program: the walks.
-/
import Derived.Test.YtjmclcjhimcehaaBdh

namespace Go.Proofs.Ytjmclcjhimcehaa
open Go Go.RowKit
set_option linter.unusedVariables false

/-- The first place from k on that is so, -1 without one. -/
def idxG {α : Type} (q : α → Bool) : Nat → List α → Int
  | _, [] => -1
  | k, t :: r => if q t then (k : Int) else idxG q (k + 1) r
theorem idxG_at {α : Type} {q : α → Bool} {l : List α} {k : Nat} {t : α} (h : l[k]? = some t) : idxG q k (l.drop k) = if q t then (k : Int) else idxG q (k + 1) (l.drop (k + 1)) := by
  obtain ⟨hk, rfl⟩ := List.getElem?_eq_some_iff.1 h
  rw [List.drop_eq_getElem_cons hk]
  rfl
theorem idxG_end {α : Type} {q : α → Bool} {l : List α} {k : Nat} (h : k = l.length) : idxG q k (l.drop k) = -1 := by
  subst h
  rw [List.drop_length]
  rfl
def planIx (l : List Po) (s : ByteArray) : Int := idxG (fun x : Po => decide (x.name = s)) 0 l
set_option maxRecDepth 10000 in
set_option maxHeartbeats 2000000 in
theorem specPlanAt_any (so po ro : Option Addr) (sn sc pn pc rn rc : Nat) (ck tk : Int) (ps : List Po) (s : ByteArray) (w : World) (hr : DRow OnePl w (.slice po pn pc) ps) (hn : pn ≤ 1048577) :
    Calls Try.prog 14 #[bdV (.slice so sn sc) (.slice po pn pc) (.slice ro rn rc) ck tk, .string s] w fun e w' => e = .returned (.int .i64 (planIx ps s)) ∧ Below w.heap.size w w' := by
  have HN : Hid (ps.length = pn) := hr.len
  have HR : Hid (∀ W, Below w.heap.size w W → DRow OnePl W (.slice po pn pc) ps) := fun W hb => hr.below onePl_below hb
  clear hr
  go_enter Try.func14, Try.ntmps14
  go_wp2
  go_loopw [5] (fun i wr => ∃ k : Nat, k ≤ pn ∧ i = .int .i64 k ∧ Hid (planIx ps s = idxG (fun x : Po => decide (x.name = s)) k (ps.drop k)) ∧ B5 26 wr w.heap.size (.slice so sn sc) (.slice po pn pc) (.slice ro rn rc) (.int .i64 ck) (.int .i64 tk) ∧ Below w.heap.size w wr) (fun i _ => pn - (intOf i).toNat)
  case atStart => exact ⟨0, Nat.zero_le _, rfl, (by show planIx ps s = idxG _ 0 (ps.drop 0); rw [List.drop_zero]; rfl), B5.new _ _ _ _ _ _ _, ba (Below.refl _ _) _⟩
  case round =>
    obtain ⟨k, hk, rfl, HE, K, hbel⟩ := hrel
    have kb := K.c1
    by_cases hlt : k < pn
    · obtain ⟨x, ht⟩ : ∃ x, ps[k]? = some x := ⟨_, List.getElem?_eq_getElem (by rw [HN.out]; exact hlt)⟩
      obtain ⟨b', o, av, rfl, hb, c0, c1, c2, c3, c4, c5, c6, c7, c8, -⟩ := pl_at (C := 0) (HR.out wr hbel) ht
      by_cases hq : x.name = s
      · have HF : Hid (planIx ps s = k) := HE.out.trans (by rw [idxG_at ht, decide_eq_true hq]; rfl)
        have hq2 := eq_list hq
        clear ht hq
        go_wp2
        go_ret
        exact ⟨by rw [HF.out]; rfl, hbel⟩
      · have HF : Hid (planIx ps s = idxG (fun x : Po => decide (x.name = s)) (k + 1) (ps.drop (k + 1))) := HE.out.trans (by rw [idxG_at ht, decide_eq_false hq]; rfl)
        have hq2 := ne_list hq
        clear ht hq
        go_wp2
        go_roundw
        case rel => exact ⟨k + 1, by omega, by go_num, HF, K, hbel⟩
        case measure => simp [intOf]; omega
    · have HF : Hid (planIx ps s = -1) := HE.out.trans (idxG_end (by rw [HN.out]; omega))
      go_wp2
      go_ret
      exact ⟨by rw [HF.out]; rfl, hbel⟩
set_option maxRecDepth 10000 in
set_option maxHeartbeats 2000000 in
theorem planatLit_any (x : Po) (av : Value) (b1 : Nat) (s : ByteArray) (w : World) (hc : w.cell? ⟨b1, 0, none⟩ = some (.string s)) :
    Calls Try.prog 39 #[.agg #[.string x.name, .string x.cron, .int .i64 x.fr, .int .i64 x.up, .bool x.cu, av, .bool x.paused, .int .i64 x.cursor, .int .i64 x.floor], .pointer (some ⟨b1, 0, none⟩)] w fun e w' => e = .returned (.bool (decide (x.name = s))) ∧ Below w.heap.size w w' := by
  have hb1 : b1 < w.heap.size := World.block_lt_of_cell? w _ hc
  by_cases hq : x.name = s
  · have hq2 := eq_list hq
    rw [decide_eq_true hq]
    clear hq
    go_enter Try.func39, Try.ntmps39
    go_wp2
    go_ret
    exact ⟨rfl, ba (Below.refl _ _) _⟩
  · have hq2 := ne_list hq
    rw [decide_eq_false hq]
    clear hq
    go_enter Try.func39, Try.ntmps39
    go_wp2
    go_ret
    exact ⟨rfl, ba (Below.refl _ _) _⟩
set_option maxRecDepth 10000 in
set_option maxHeartbeats 2000000 in
theorem idxPlan_any (ao : Option Addr) (n cap : Nat) (ps : List Po) (b1 : Nat) (s : ByteArray) (w : World) (hr : DRow OnePl w (.slice ao n cap) ps) (hn : n ≤ 1048577) (hc : w.cell? ⟨b1, 0, none⟩ = some (.string s)) :
    Calls Try.prog 38 #[.slice ao n cap, .func (.func 39) #[] #[.pointer (some ⟨b1, 0, none⟩)]] w fun e w' => e = .returned (.int .i64 (planIx ps s)) ∧ Below w.heap.size w w' := by
  have hb1 : b1 < w.heap.size := World.block_lt_of_cell? w _ hc
  have HN : Hid (ps.length = n) := hr.len
  have HR : Hid (∀ W, Below w.heap.size w W → DRow OnePl W (.slice ao n cap) ps) := fun W hb => hr.below onePl_below hb
  have HC : Hid (∀ W, Below w.heap.size w W → ∀ (x : Po) av, Calls Try.prog 39 #[.agg #[.string x.name, .string x.cron, .int .i64 x.fr, .int .i64 x.up, .bool x.cu, av, .bool x.paused, .int .i64 x.cursor, .int .i64 x.floor], .pointer (some ⟨b1, 0, none⟩)] W fun e w' => e = .returned (.bool (decide (x.name = s))) ∧ Below W.heap.size W w') :=
    fun W h x av => planatLit_any x av b1 s W ((h.cell (p := ⟨b1, 0, none⟩) hb1).trans hc)
  clear hr hc hb1
  go_enter Try.func38, Try.ntmps38
  go_wp2
  go_loopw [8] (fun i wr => ∃ k : Nat, k ≤ n ∧ i = .int .i64 k ∧ Hid (planIx ps s = idxG (fun x : Po => decide (x.name = s)) k (ps.drop k)) ∧ Below w.heap.size w wr) (fun i _ => n - (intOf i).toNat)
  case atStart => exact ⟨0, Nat.zero_le _, rfl, (by show planIx ps s = idxG _ 0 (ps.drop 0); rw [List.drop_zero]; rfl), Below.refl _ _⟩
  case round =>
    obtain ⟨k, hk, rfl, HE, hbel⟩ := hrel
    by_cases hlt : k < n
    · obtain ⟨x, ht⟩ : ∃ x, ps[k]? = some x := ⟨_, List.getElem?_eq_getElem (by rw [HN.out]; exact hlt)⟩
      obtain ⟨b', o, av, rfl, hb, c0, c1, c2, c3, c4, c5, c6, c7, c8, hav⟩ := pl_at (C := 0) (HR.out wr hbel) ht
      obtain ⟨fo, fc, rfl⟩ := hav.slice
      obtain ⟨m, HM⟩ : ∃ m, Hid (x.tasks.length = m) := ⟨_, rfl⟩
      rw [HM.out] at c5
      have HC2 := HC.out wr hbel x (.slice fo m fc)
      have HX : Hid (planIx ps s = if (decide (x.name = s)) then (k : Int) else idxG (fun x : Po => decide (x.name = s)) (k + 1) (ps.drop (k + 1))) := HE.out.trans (idxG_at ht)
      obtain ⟨z, HZ⟩ : ∃ z, Hid ((decide (x.name = s)) = z) := ⟨_, rfl⟩
      rw [HZ.out] at HC2 HX
      have HC3 : Hid _ := HC2
      clear ht HC HE HC2 hav
      go_wp2_with fail
      refine Calls.mono HC3.out ?_
      rintro e w1 ⟨rfl, hw1⟩
      have hbel2 := Below.on hbel hw1
      clear hbel hw1 HC3
      cases z with
      | true =>
        go_wp2
        go_ret
        exact ⟨by rw [HX.out]; rfl, hbel2⟩
      | false =>
        have HF : Hid (planIx ps s = idxG (fun x : Po => decide (x.name = s)) (k + 1) (ps.drop (k + 1))) := HX.out
        go_wp2
        go_roundw
        case rel => exact ⟨k + 1, by omega, by go_num, HF, hbel2⟩
        case measure => simp [intOf]; omega
    · have HF : Hid (planIx ps s = -1) := HE.out.trans (idxG_end (by rw [HN.out]; omega))
      go_wp2
      go_ret
      exact ⟨by rw [HF.out]; rfl, hbel⟩
set_option maxRecDepth 10000 in
set_option maxHeartbeats 2000000 in
theorem implPlanAt_any (so po ro : Option Addr) (sn sc pn pc rn rc : Nat) (ck tk : Int) (ps : List Po) (s : ByteArray) (w : World) (hr : DRow OnePl w (.slice po pn pc) ps) (hn : pn ≤ 1048577) :
    Calls Try.prog 16 #[bdV (.slice so sn sc) (.slice po pn pc) (.slice ro rn rc) ck tk, .string s] w fun e w' => e = .returned (.int .i64 (planIx ps s)) ∧ Below w.heap.size w w' := by
  have HC : Hid (∀ W b1, Below w.heap.size w W → W.cell? ⟨b1, 0, none⟩ = some (.string s) → Calls Try.prog 38 #[.slice po pn pc, .func (.func 39) #[] #[.pointer (some ⟨b1, 0, none⟩)]] W fun e w' => e = .returned (.int .i64 (planIx ps s)) ∧ Below W.heap.size W w') :=
    fun W b1 hb hc => idxPlan_any po pn pc ps b1 s W (hr.below onePl_below hb) hn hc
  clear hr
  obtain ⟨R, HRR⟩ : ∃ R, Hid (planIx ps s = R) := ⟨_, rfl⟩
  rw [HRR.out] at HC ⊢
  clear HRR
  go_enter Try.func16, Try.ntmps16
  go_wp2_with fail
  refine (HC.out _ _ (ba (ba (Below.refl _ _) _) _) ?_).mono ?_
  · simp [go_sem]

  rintro e w1 ⟨rfl, hb1⟩
  have B1 := Below.on (ba (ba (Below.refl _ _) _) _) hb1
  go_wp2
  go_ret
  exact ⟨rfl, B1⟩
end Go.Proofs.Ytjmclcjhimcehaa
