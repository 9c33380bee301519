/-
  Where a run stands on a board: RunAt of the specification and of the program: the walks.
-/
import Derived.Test.YtjmclcjhimcehaaBdh
import Derived.Test.YtjmclcjhimcehaaPat
namespace Go.Proofs.Ytjmclcjhimcehaa
open Go Go.RowKit
set_option linter.unusedVariables false
def runIx (l : List Rr) (s : ByteArray) (from_ : Int) : Int := idxG (fun x : Rr => decide (x.nm = s) && decide (x.fr = from_)) 0 l
set_option maxRecDepth 10000 in
set_option maxHeartbeats 2000000 in
theorem specRunAt_any (so po ro : Option Addr) (sn sc pn pc rn rc : Nat) (ck tk : Int) (ps : List Rr) (s : ByteArray) (from_ : Int) (w : World) (hr : DRow OneRk w (.slice ro rn rc) ps) (hn : rn ≤ 1048577) :
    Calls Try.prog 17 #[bdV (.slice so sn sc) (.slice po pn pc) (.slice ro rn rc) ck tk, .string s, .int .i64 from_] w fun e w' => e = .returned (.int .i64 (runIx ps s from_)) ∧ Below w.heap.size w w' := by
  have HN : Hid (ps.length = rn) := hr.len
  have HR : Hid (∀ W, Below w.heap.size w W → DRow OneRk W (.slice ro rn rc) ps) := fun W hb => hr.below oneRk_below hb
  clear hr
  go_enter Try.func17, Try.ntmps17
  go_wp2
  go_loopw [7] (fun i wr => ∃ k : Nat, k ≤ rn ∧ i = .int .i64 k ∧ Hid (runIx ps s from_ = idxG (fun x : Rr => decide (x.nm = s) && decide (x.fr = from_)) k (ps.drop k)) ∧ B5 26 wr w.heap.size (.slice so sn sc) (.slice po pn pc) (.slice ro rn rc) (.int .i64 ck) (.int .i64 tk) ∧ Below w.heap.size w wr) (fun i _ => rn - (intOf i).toNat)
  case atStart => exact ⟨0, Nat.zero_le _, rfl, (by show runIx ps s from_ = idxG _ 0 (ps.drop 0); rw [List.drop_zero]; rfl), B5.new _ _ _ _ _ _ _, ba (Below.refl _ _) _⟩
  case round =>
    obtain ⟨k, hk, rfl, HE, K, hbel⟩ := hrel
    have kb := K.c2
    by_cases hlt : k < rn
    · obtain ⟨x, ht⟩ : ∃ x, ps[k]? = some x := ⟨_, List.getElem?_eq_getElem (by rw [HN.out]; exact hlt)⟩
      obtain ⟨b', o, av, rfl, hb, c0, c1, c2, c3, c4, -⟩ := rk_at (C := 0) (HR.out wr hbel) ht
      by_cases hq : x.nm = s
      · by_cases hg : x.fr = from_
        · have HF : Hid (runIx ps s from_ = k) := HE.out.trans (by rw [idxG_at ht, decide_eq_true hq, decide_eq_true hg]; rfl)
          have hq2 := eq_list hq
          clear ht hq
          go_wp2
          go_ret
          exact ⟨by rw [HF.out]; rfl, hbel⟩
        · have HF : Hid (runIx ps s from_ = idxG (fun x : Rr => decide (x.nm = s) && decide (x.fr = from_)) (k + 1) (ps.drop (k + 1))) := HE.out.trans (by rw [idxG_at ht, decide_eq_true hq, decide_eq_false hg]; rfl)
          have hq2 := eq_list hq
          have hg2 : (x.fr == from_) = false := beq_eq_false_iff_ne.2 hg
          clear ht hq
          go_wp2
          go_roundw
          case rel => exact ⟨k + 1, by omega, by go_num, HF, K, hbel⟩
          case measure => simp [intOf]; omega
      · have HF : Hid (runIx ps s from_ = idxG (fun x : Rr => decide (x.nm = s) && decide (x.fr = from_)) (k + 1) (ps.drop (k + 1))) := HE.out.trans (by rw [idxG_at ht, decide_eq_false hq]; rfl)
        have hq2 := ne_list hq
        clear ht hq
        go_wp2
        go_roundw
        case rel => exact ⟨k + 1, by omega, by go_num, HF, K, hbel⟩
        case measure => simp [intOf]; omega
    · have HF : Hid (runIx ps s from_ = -1) := HE.out.trans (idxG_end (by rw [HN.out]; omega))
      go_wp2
      go_ret
      exact ⟨by rw [HF.out]; rfl, hbel⟩
set_option maxRecDepth 10000 in
set_option maxHeartbeats 2000000 in
theorem runatLit_any (x : Rr) (av : Value) (b1 b2 : Nat) (s : ByteArray) (from_ : Int) (w : World) (hc : w.cell? ⟨b1, 0, none⟩ = some (.string s)) (hc2 : w.cell? ⟨b2, 0, none⟩ = some (.int .i64 from_)) :
    Calls Try.prog 41 #[.agg #[.string x.nm, .int .i64 x.fr, .int .i64 x.up, .int .i64 x.ep, av], .pointer (some ⟨b1, 0, none⟩), .pointer (some ⟨b2, 0, none⟩)] w fun e w' => e = .returned (.bool (decide (x.nm = s) && decide (x.fr = from_))) ∧ Below w.heap.size w w' := by
  have hb1 : b1 < w.heap.size := World.block_lt_of_cell? w _ hc
  have hb2 : b2 < w.heap.size := World.block_lt_of_cell? w _ hc2
  by_cases hq : x.nm = s
  · have hq2 := eq_list hq
    rw [decide_eq_true hq]
    clear hq
    by_cases hg : x.fr = from_
    · rw [decide_eq_true hg]
      have hg2 : (x.fr == from_) = true := beq_iff_eq.2 hg
      clear hg
      go_enter Try.func41, Try.ntmps41
      go_wp2
      go_ret
      exact ⟨rfl, ba (Below.refl _ _) _⟩
    · rw [decide_eq_false hg]
      have hg2 : (x.fr == from_) = false := beq_eq_false_iff_ne.2 hg
      clear hg
      go_enter Try.func41, Try.ntmps41
      go_wp2
      go_ret
      exact ⟨rfl, ba (Below.refl _ _) _⟩
  · have hq2 := ne_list hq
    rw [decide_eq_false hq]
    clear hq
    go_enter Try.func41, Try.ntmps41
    go_wp2
    go_ret
    exact ⟨rfl, ba (Below.refl _ _) _⟩
set_option maxRecDepth 10000 in
set_option maxHeartbeats 2000000 in
theorem idxRun_any (ao : Option Addr) (n cap : Nat) (ps : List Rr) (b1 b2 : Nat) (s : ByteArray) (from_ : Int) (w : World) (hr : DRow OneRk w (.slice ao n cap) ps) (hn : n ≤ 1048577) (hc : w.cell? ⟨b1, 0, none⟩ = some (.string s)) (hc2 : w.cell? ⟨b2, 0, none⟩ = some (.int .i64 from_)) :
    Calls Try.prog 40 #[.slice ao n cap, .func (.func 41) #[] #[.pointer (some ⟨b1, 0, none⟩), .pointer (some ⟨b2, 0, none⟩)]] w fun e w' => e = .returned (.int .i64 (runIx ps s from_)) ∧ Below w.heap.size w w' := by
  have hb1 : b1 < w.heap.size := World.block_lt_of_cell? w _ hc
  have hb2 : b2 < w.heap.size := World.block_lt_of_cell? w _ hc2
  have HN : Hid (ps.length = n) := hr.len
  have HR : Hid (∀ W, Below w.heap.size w W → DRow OneRk W (.slice ao n cap) ps) := fun W hb => hr.below oneRk_below hb
  have HC : Hid (∀ W, Below w.heap.size w W → ∀ (x : Rr) av, Calls Try.prog 41 #[.agg #[.string x.nm, .int .i64 x.fr, .int .i64 x.up, .int .i64 x.ep, av], .pointer (some ⟨b1, 0, none⟩), .pointer (some ⟨b2, 0, none⟩)] W fun e w' => e = .returned (.bool (decide (x.nm = s) && decide (x.fr = from_))) ∧ Below W.heap.size W w') :=
    fun W h x av => runatLit_any x av b1 b2 s from_ W ((h.cell (p := ⟨b1, 0, none⟩) hb1).trans hc) ((h.cell (p := ⟨b2, 0, none⟩) hb2).trans hc2)
  clear hr hc hb1 hc2 hb2
  go_enter Try.func40, Try.ntmps40
  go_wp2
  go_loopw [8] (fun i wr => ∃ k : Nat, k ≤ n ∧ i = .int .i64 k ∧ Hid (runIx ps s from_ = idxG (fun x : Rr => decide (x.nm = s) && decide (x.fr = from_)) k (ps.drop k)) ∧ Below w.heap.size w wr) (fun i _ => n - (intOf i).toNat)
  case atStart => exact ⟨0, Nat.zero_le _, rfl, (by show runIx ps s from_ = idxG _ 0 (ps.drop 0); rw [List.drop_zero]; rfl), Below.refl _ _⟩
  case round =>
    obtain ⟨k, hk, rfl, HE, hbel⟩ := hrel
    by_cases hlt : k < n
    · obtain ⟨x, ht⟩ : ∃ x, ps[k]? = some x := ⟨_, List.getElem?_eq_getElem (by rw [HN.out]; exact hlt)⟩
      obtain ⟨b', o, av, rfl, hb, c0, c1, c2, c3, c4, hav⟩ := rk_at (C := 0) (HR.out wr hbel) ht
      obtain ⟨fo, fc, rfl⟩ := reads_slice hav
      obtain ⟨m, HM⟩ : ∃ m, Hid (x.st.length = m) := ⟨_, rfl⟩
      rw [HM.out] at c4
      have HC2 := HC.out wr hbel x (.slice fo m fc)
      have HX : Hid (runIx ps s from_ = if (decide (x.nm = s) && decide (x.fr = from_)) then (k : Int) else idxG (fun x : Rr => decide (x.nm = s) && decide (x.fr = from_)) (k + 1) (ps.drop (k + 1))) := HE.out.trans (idxG_at ht)
      obtain ⟨z, HZ⟩ : ∃ z, Hid ((decide (x.nm = s) && decide (x.fr = from_)) = z) := ⟨_, rfl⟩
      rw [HZ.out] at HC2 HX
      have HC3 : Hid _ := HC2
      clear ht HC HE HC2 hav
      go_wp2_with fail
      refine Calls.mono HC3.out ?_
      rintro e w1 ⟨rfl, hw1⟩
      have hbel2 := Below.on hbel hw1
      clear hbel hw1 HC3
      cases z with
      | true =>
        go_wp2
        go_ret
        exact ⟨by rw [HX.out]; rfl, hbel2⟩
      | false =>
        have HF : Hid (runIx ps s from_ = idxG (fun x : Rr => decide (x.nm = s) && decide (x.fr = from_)) (k + 1) (ps.drop (k + 1))) := HX.out
        go_wp2
        go_roundw
        case rel => exact ⟨k + 1, by omega, by go_num, HF, hbel2⟩
        case measure => simp [intOf]; omega
    · have HF : Hid (runIx ps s from_ = -1) := HE.out.trans (idxG_end (by rw [HN.out]; omega))
      go_wp2
      go_ret
      exact ⟨by rw [HF.out]; rfl, hbel⟩
set_option maxRecDepth 10000 in
set_option maxHeartbeats 2000000 in
theorem implRunAt_any (so po ro : Option Addr) (sn sc pn pc rn rc : Nat) (ck tk : Int) (ps : List Rr) (s : ByteArray) (from_ : Int) (w : World) (hr : DRow OneRk w (.slice ro rn rc) ps) (hn : rn ≤ 1048577) :
    Calls Try.prog 18 #[bdV (.slice so sn sc) (.slice po pn pc) (.slice ro rn rc) ck tk, .string s, .int .i64 from_] w fun e w' => e = .returned (.int .i64 (runIx ps s from_)) ∧ Below w.heap.size w w' := by
  have HC : Hid (∀ W b1 b2, Below w.heap.size w W → W.cell? ⟨b1, 0, none⟩ = some (.string s) → W.cell? ⟨b2, 0, none⟩ = some (.int .i64 from_) → Calls Try.prog 40 #[.slice ro rn rc, .func (.func 41) #[] #[.pointer (some ⟨b1, 0, none⟩), .pointer (some ⟨b2, 0, none⟩)]] W fun e w' => e = .returned (.int .i64 (runIx ps s from_)) ∧ Below W.heap.size W w') :=
    fun W b1 b2 hb hc hc2 => idxRun_any ro rn rc ps b1 b2 s from_ W (hr.below oneRk_below hb) hn hc hc2
  clear hr
  obtain ⟨R, HRR⟩ : ∃ R, Hid (runIx ps s from_ = R) := ⟨_, rfl⟩
  rw [HRR.out] at HC ⊢
  clear HRR
  go_enter Try.func18, Try.ntmps18
  go_wp2_with fail
  refine (HC.out _ _ _ (ba (ba (ba (Below.refl _ _) _) _) _) ?_ ?_).mono ?_
  · simp [go_sem]
  · simp [go_sem]
  rintro e w1 ⟨rfl, hb1⟩
  have B1 := Below.on (ba (ba (ba (Below.refl _ _) _) _) _) hb1
  go_wp2
  go_ret
  exact ⟨rfl, B1⟩
end Go.Proofs.Ytjmclcjhimcehaa
