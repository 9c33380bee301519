/-
  The text of a snapshot: the walks of SnapText on both sides.
-/
import Derived.Test.YtgpojfkdcdgloaaDoorSx
namespace Go.Proofs.YtgpojfkdcdgloaaDoor
open Go Go.RowKit

theorem blk_on {w w' : World} {o : Obj} (hb : Below (w.alloc o).heap.size (w.alloc o) w') : w'.heap[w.heap.size]? = some o :=
  (hb.block _ (by rw [World.size_alloc]; omega)).trans (heap_last w o)
theorem blk_up {w w' : World} {g : Nat} {o : Obj} (h : w.heap[g]? = some o) (hb : Below w.heap.size w w') : w'.heap[g]? = some o :=
  (hb.block _ (Array.getElem?_eq_some_iff.1 h).1).trans h
theorem snT_add (i t : Nat) (l : List Int) (b : ByteArray) : (bstr (varI i) ++ bstr (varI t) ++ shT (bstr l)) ++ shT b = snT i t l b := rfl

set_option maxRecDepth 10000 in
set_option maxHeartbeats 2000000 in
/-- One part of a snapshot has no text. -/
theorem snapText_no (i t : Int) (ao : Option Addr) (n cap : Nat) (l : List Int) (p u x b : ByteArray) (z k y : Bool) (w : World) (hr : Reads w (.slice ao n cap) l) (hn : l.length ≤ 1048577) (hi : ¬ 1000000 < i) (ht : ¬ 100000 < t)
    (CP : Hid (∀ w, Calls Tryd.prog 42 #[.string { data := #[] }, .int .i64 i, .int .i64 t] w fun e w' => e = .returned (.tuple #[.string p, .bool z]) ∧ Below w.heap.size w w'))
    (HT : Hid (textV l = .tuple #[.string u, .bool k]))
    (CN : Hid (∀ w, Calls Tryd.prog 44 #[.string u] w fun e w' => e = .returned (.tuple #[.string (shT u), .bool true]) ∧ Below w.heap.size w w'))
    (CB : Hid (∀ w, Calls Tryd.prog 44 #[.string b] w fun e w' => e = .returned (.tuple #[.string x, .bool y]) ∧ Below w.heap.size w w'))
    (hz : (z && k && y) = false) :
    Calls Tryd.prog 14 #[.agg #[.int .i64 i, .int .i64 t, .slice ao n cap, .string b]] w fun e w' => e = .returned (.tuple #[.string ByteArray.empty, .bool false]) ∧ Below w.heap.size w w' := by
  have HR : Hid (Reads w (.slice ao n cap) l) := hr
  have HL : Hid (l.length ≤ 1048577) := hn
  clear hr hn
  cases z with
  | false =>
    clear hz
    go_enter Tryd.func14, Tryd.ntmps14
    go_wp2_with fail
    refine Calls.mono (CP.out _) ?_
    rintro e w1 ⟨rfl, hb1⟩
    obtain ⟨c0, c1, c2, c3⟩ := sb_cells (blk_on hb1)
    go_wp2_with fail
    refine Calls.mono (confText_any (HR.out.below ((ba (Below.refl _ _) _).trans (hb1.mono (by simp)))) HL.out) ?_
    rintro e w2 ⟨rfl, hb2⟩
    have K2 := blk_up (blk_on hb1) hb2
    clear c0 c1 c2 c3
    obtain ⟨c0, c1, c2, c3⟩ := sb_cells K2
    rw [HT.out]
    go_wp2_with fail
    refine Calls.mono (CN.out _) ?_
    rintro e w3 ⟨rfl, hb3⟩
    have K3 := blk_up K2 hb3
    clear c0 c1 c2 c3
    obtain ⟨c0, c1, c2, c3⟩ := sb_cells K3
    go_wp2_with fail
    refine Calls.mono (CB.out _) ?_
    rintro e w4 ⟨rfl, hb4⟩
    have B4 := ((ba (Below.refl w.heap.size w) _).trans (hb1.mono (by simp))).trans ((Below.on (Below.on hb2 hb3) hb4).mono (by have := hb1.size; simp at this; omega))
    clear c0 c1 c2 c3 K2 K3
    go_wp2
    go_ret2
    exact ⟨rfl, B4⟩
  | true =>
    cases k with
    | false =>
      clear hz
      go_enter Tryd.func14, Tryd.ntmps14
      go_wp2_with fail
      refine Calls.mono (CP.out _) ?_
      rintro e w1 ⟨rfl, hb1⟩
      obtain ⟨c0, c1, c2, c3⟩ := sb_cells (blk_on hb1)
      go_wp2_with fail
      refine Calls.mono (confText_any (HR.out.below ((ba (Below.refl _ _) _).trans (hb1.mono (by simp)))) HL.out) ?_
      rintro e w2 ⟨rfl, hb2⟩
      have K2 := blk_up (blk_on hb1) hb2
      clear c0 c1 c2 c3
      obtain ⟨c0, c1, c2, c3⟩ := sb_cells K2
      rw [HT.out]
      go_wp2_with fail
      refine Calls.mono (CN.out _) ?_
      rintro e w3 ⟨rfl, hb3⟩
      have K3 := blk_up K2 hb3
      clear c0 c1 c2 c3
      obtain ⟨c0, c1, c2, c3⟩ := sb_cells K3
      go_wp2_with fail
      refine Calls.mono (CB.out _) ?_
      rintro e w4 ⟨rfl, hb4⟩
      have B4 := ((ba (Below.refl w.heap.size w) _).trans (hb1.mono (by simp))).trans ((Below.on (Below.on hb2 hb3) hb4).mono (by have := hb1.size; simp at this; omega))
      clear c0 c1 c2 c3 K2 K3
      go_wp2
      go_ret2
      exact ⟨rfl, B4⟩
    | true =>
      have hy : y = false := by simpa using hz
      subst hy
      clear hz
      go_enter Tryd.func14, Tryd.ntmps14
      go_wp2_with fail
      refine Calls.mono (CP.out _) ?_
      rintro e w1 ⟨rfl, hb1⟩
      obtain ⟨c0, c1, c2, c3⟩ := sb_cells (blk_on hb1)
      go_wp2_with fail
      refine Calls.mono (confText_any (HR.out.below ((ba (Below.refl _ _) _).trans (hb1.mono (by simp)))) HL.out) ?_
      rintro e w2 ⟨rfl, hb2⟩
      have K2 := blk_up (blk_on hb1) hb2
      clear c0 c1 c2 c3
      obtain ⟨c0, c1, c2, c3⟩ := sb_cells K2
      rw [HT.out]
      go_wp2_with fail
      refine Calls.mono (CN.out _) ?_
      rintro e w3 ⟨rfl, hb3⟩
      have K3 := blk_up K2 hb3
      clear c0 c1 c2 c3
      obtain ⟨c0, c1, c2, c3⟩ := sb_cells K3
      go_wp2_with fail
      refine Calls.mono (CB.out _) ?_
      rintro e w4 ⟨rfl, hb4⟩
      have B4 := ((ba (Below.refl w.heap.size w) _).trans (hb1.mono (by simp))).trans ((Below.on (Below.on hb2 hb3) hb4).mono (by have := hb1.size; simp at this; omega))
      clear c0 c1 c2 c3 K2 K3
      go_wp2
      go_ret2
      exact ⟨rfl, B4⟩

set_option maxRecDepth 10000 in
set_option maxHeartbeats 2000000 in
/-- All parts of a snapshot have their texts. -/
theorem snapText_go (i t : Int) (ao : Option Addr) (n cap : Nat) (l : List Int) (p u b r : ByteArray) (q : Bool) (w : World) (hr : Reads w (.slice ao n cap) l) (hn : l.length ≤ 1048577) (hi : ¬ 1000000 < i) (ht : ¬ 100000 < t) (htb : TableIs w)
    (CP : Hid (∀ w, Calls Tryd.prog 42 #[.string { data := #[] }, .int .i64 i, .int .i64 t] w fun e w' => e = .returned (.tuple #[.string p, .bool true]) ∧ Below w.heap.size w w'))
    (HT : Hid (textV l = .tuple #[.string u, .bool true]))
    (CN : Hid (∀ w, Calls Tryd.prog 44 #[.string u] w fun e w' => e = .returned (.tuple #[.string (shT u), .bool true]) ∧ Below w.heap.size w w'))
    (CB : Hid (∀ w, Calls Tryd.prog 44 #[.string b] w fun e w' => e = .returned (.tuple #[.string (shT b), .bool true]) ∧ Below w.heap.size w w'))
    (h1 : ∀ wx, (Op.stringOp .add p (shT u)).run Tryd.prog wx = .ok (.string (p ++ shT u)) wx)
    (h2 : ∀ wx, (Op.stringOp .add (p ++ shT u) (shT b)).run Tryd.prog wx = .ok (.string (p ++ shT u ++ shT b)) wx)
    (CS : Hid (∀ w, TableIs w → Calls Tryd.prog 45 #[.string (p ++ shT u ++ shT b)] w fun e w' => e = .returned (.tuple #[.string r, .bool q]) ∧ Below w.heap.size w w')) (hrs : r.size ≤ 1048576) :
    Calls Tryd.prog 14 #[.agg #[.int .i64 i, .int .i64 t, .slice ao n cap, .string b]] w fun e w' => e = .returned (if q = true ∧ r.size ≤ 20000 then .tuple #[.string r, .bool true] else .tuple #[.string ByteArray.empty, .bool false]) ∧ Below w.heap.size w w' := by
  have HR : Hid (Reads w (.slice ao n cap) l) := hr
  have HL : Hid (l.length ≤ 1048577) := hn
  have HTB : Hid (TableIs w) := htb
  clear hr hn htb
  obtain ⟨RR, HRR⟩ : ∃ RR, Hid ((if q = true ∧ r.size ≤ 20000 then Value.tuple #[.string r, .bool true] else .tuple #[.string ByteArray.empty, .bool false]) = RR) := ⟨_, rfl⟩
  rw [HRR.out]
  go_enter Tryd.func14, Tryd.ntmps14
  go_wp2_with fail
  refine Calls.mono (CP.out _) ?_
  rintro e w1 ⟨rfl, hb1⟩
  obtain ⟨c0, c1, c2, c3⟩ := sb_cells (blk_on hb1)
  go_wp2_with fail
  refine Calls.mono (confText_any (HR.out.below ((ba (Below.refl _ _) _).trans (hb1.mono (by simp)))) HL.out) ?_
  rintro e w2 ⟨rfl, hb2⟩
  have K2 := blk_up (blk_on hb1) hb2
  clear c0 c1 c2 c3
  obtain ⟨c0, c1, c2, c3⟩ := sb_cells K2
  rw [HT.out]
  go_wp2_with fail
  refine Calls.mono (CN.out _) ?_
  rintro e w3 ⟨rfl, hb3⟩
  have K3 := blk_up K2 hb3
  clear c0 c1 c2 c3
  obtain ⟨c0, c1, c2, c3⟩ := sb_cells K3
  go_wp2_with fail
  refine Calls.mono (CB.out _) ?_
  rintro e w4 ⟨rfl, hb4⟩
  have B4 := ((ba (Below.refl w.heap.size w) _).trans (hb1.mono (by simp))).trans ((Below.on (Below.on hb2 hb3) hb4).mono (by have := hb1.size; simp at this; omega))
  clear c0 c1 c2 c3 K2 K3
  go_wp2_with fail
  refine Calls.mono (CS.out w4 ?_) ?_
  · exact HTB.out.below (Below.mono B4 (Nat.le_refl _))
  rintro e w5 ⟨rfl, hb5⟩
  have B5 := B4.trans (hb5.mono B4.size)
  clear B4 hb1 hb2 hb3 hb4 hb5
  cases q with
  | false =>
    go_wp2
    go_ret2
    exact ⟨by rw [← HRR.out, if_neg (by simp)]; rfl, B5⟩
  | true =>
    by_cases h20 : r.size ≤ 20000
    · go_wp2
      go_ret2
      exact ⟨by rw [← HRR.out, if_pos (by simp [h20])]; rfl, B5⟩
    · go_wp2
      go_ret2
      exact ⟨by rw [← HRR.out, if_neg (by simp [h20])]; rfl, B5⟩

set_option maxRecDepth 10000 in
set_option maxHeartbeats 2000000 in
theorem snapText_far (i t : Int) (ao : Option Addr) (n cap : Nat) (b : ByteArray) (w : World) (h : 1000000 < i ∨ 100000 < t) :
    Calls Tryd.prog 14 #[.agg #[.int .i64 i, .int .i64 t, .slice ao n cap, .string b]] w fun e w' => e = .returned (.tuple #[.string ByteArray.empty, .bool false]) ∧ Below w.heap.size w w' := by
  by_cases hi : 1000000 < i
  · clear h
    go_enter Tryd.func14, Tryd.ntmps14
    go_wp2
    go_ret2
    exact ⟨rfl, ba (Below.refl _ _) _⟩
  · have ht : 100000 < t := by omega
    clear h
    go_enter Tryd.func14, Tryd.ntmps14
    go_wp2
    go_ret2
    exact ⟨rfl, ba (Below.refl _ _) _⟩

theorem textC_size (l : List Int) : (textC l).size ≤ 4 := by
  unfold textC
  split
  · rename_i h
    rw [bstr_size]
    exact okC_len h
  · exact Nat.zero_le _
/-- The program's SnapText. -/
theorem snapText_any {i t : Int} {v : Value} {l : List Int} {b : ByteArray} {w : World} (hr : Reads w v l) (hn : l.length ≤ 1048577) (hb : b.size ≤ 1048576) (ht : TableIs w) :
    Calls Tryd.prog 14 #[.agg #[.int .i64 i, .int .i64 t, v, .string b]] w fun e w' => e = .returned (textSV i t l b) ∧ Below w.heap.size w w' := by
  obtain ⟨ao, cap, rfl, _⟩ := id hr
  by_cases hfar : 1000000 < i ∨ 100000 < t
  · rw [textSV_no (okS_no (by
      rcases hfar with h | h
      · exact .inr (.inl (idxB_no (.inr h)))
      · exact .inr (.inr (.inl (by unfold trmB; rw [decide_eq_false (show ¬ t ≤ 100000 by omega), Bool.and_false])))))]
    exact snapText_far i t ao _ cap b w hfar
  have CN : Hid (∀ w, Calls Tryd.prog 44 #[.string (textC l)] w fun e w' => e = .returned (.tuple #[.string (shT (textC l)), .bool true]) ∧ Below w.heap.size w w') := fun w => short_ok _ w (by have := textC_size l; omega)
  have HT : Hid (textV l = .tuple #[.string (textC l), .bool (okC l)]) := rfl
  by_cases hneg : i < 0 ∨ t < 0
  · have hno : okS i t l b = false := okS_no (by
      rcases hneg with h | h
      · exact .inr (.inl (idxB_no (.inl h)))
      · exact .inr (.inr (.inl (by unfold trmB; rw [decide_eq_false (show ¬ 0 ≤ t by omega), Bool.false_and]))))
    rw [textSV_no hno]
    obtain ⟨x, hx, CA⟩ := varText_any i
    obtain ⟨y, hy, CB⟩ := varText_any t
    have CP : Hid (∀ w, Calls Tryd.prog 42 #[.string { data := #[] }, .int .i64 i, .int .i64 t] w fun e w' => e = .returned (.tuple #[.string (x ++ y), .bool false]) ∧ Below w.heap.size w w') := fun w => pair0_bad i t x y w hneg hx hy CA CB
    by_cases h20 : b.size ≤ 20000
    · exact snapText_no i t ao _ cap l _ _ (shT b) b false (okC l) true w hr hn (by omega) (by omega) CP HT CN (fun w => short_ok b w h20) rfl
    · exact snapText_no i t ao _ cap l _ _ ByteArray.empty b false (okC l) false w hr hn (by omega) (by omega) CP HT CN (fun w => short_bad b w (by omega) (by omega)) rfl
  obtain ⟨I, rfl⟩ := Int.eq_ofNat_of_zero_le (show 0 ≤ i by omega)
  obtain ⟨T, rfl⟩ := Int.eq_ofNat_of_zero_le (show 0 ≤ t by omega)
  have CP : Hid (∀ w, Calls Tryd.prog 42 #[.string { data := #[] }, .int .i64 (I : Int), .int .i64 (T : Int)] w fun e w' => e = .returned (.tuple #[.string (bstr (varI I) ++ bstr (varI T)), .bool true]) ∧ Below w.heap.size w w') := fun w => pair0_ok I T w (by omega) (by omega)
  by_cases h20 : b.size ≤ 20000
  · cases hk : okC l with
    | false =>
      rw [textSV_no (okS_no (.inl hk))]
      exact snapText_no _ _ ao _ cap l _ _ (shT b) b true (okC l) true w hr hn (by omega) (by omega) CP HT CN (fun w => short_ok b w h20) (by rw [hk]; rfl)
    | true =>
      obtain ⟨z1, z2, z3, z4⟩ := snT_size (i := I) (t := T) (l := l) (b := b) (by omega) (by omega) (okC_len hk) h20
      have et : textC l = bstr l := by simp [textC, hk]
      have HT2 : Hid (textV l = .tuple #[.string (bstr l), .bool true]) := textV_yes hk
      rw [et] at CN
      have h1 : ∀ wx, (Op.stringOp .add (bstr (varI I) ++ bstr (varI T)) (shT (bstr l))).run Tryd.prog wx = .ok (.string (bstr (varI I) ++ bstr (varI T) ++ shT (bstr l))) wx := fun wx => by
        rw [run_string_add_sum wx _ _ (by rw [ByteArray.size_append]; omega)]
      have h2 : ∀ wx, (Op.stringOp .add (bstr (varI I) ++ bstr (varI T) ++ shT (bstr l)) (shT b)).run Tryd.prog wx = .ok (.string (bstr (varI I) ++ bstr (varI T) ++ shT (bstr l) ++ shT b)) wx := fun wx => by
        rw [run_string_add_sum wx _ _ (by rw [ByteArray.size_append, ByteArray.size_append]; omega)]
      have hid : idxB (I : Int) = true := idxB_in (by omega) (by omega)
      have htr : trmB (T : Int) = true := by unfold trmB; rw [decide_eq_true (show 0 ≤ (T : Int) by omega), decide_eq_true (show (T : Int) ≤ 100000 by omega)]; rfl
      have esz : (snT I T l b).size ≤ 20024 := by
        unfold snT
        rw [ByteArray.size_append, ByteArray.size_append, ByteArray.size_append]
        omega
      by_cases hs : (snT I T l b).size ≤ 20000
      · have CS : Hid (∀ w, TableIs w → Calls Tryd.prog 45 #[.string (snT I T l b)] w fun e w' => e = .returned (.tuple #[.string (sealT (snT I T l b)), .bool true]) ∧ Below w.heap.size w w') := fun w h => sealed_ok _ w hs h
        have hsz : (sealT (snT I T l b)).size = (snT I T l b).size + 4 := by unfold sealT; rw [ByteArray.size_append, tail4_size]
        have := snapText_go I T ao _ cap l _ _ b _ true w hr hn (by omega) (by omega) ht CP HT2 CN (fun w => short_ok b w h20) h1 h2 CS (by omega)
        refine this.mono ?_
        rintro e w' ⟨rfl, hb'⟩
        refine ⟨?_, hb'⟩
        by_cases h4 : (snT I T l b).size + 4 ≤ 20000
        · rw [if_pos ⟨rfl, by omega⟩, textSV_yes (okS_in hk hid htr h20 (by simpa using h4))]
          rfl
        · rw [if_neg (fun h => h4 (by omega)), textSV_no (okS_no (.inr (.inr (.inr (.inr (by simp only [Int.toNat_natCast]; omega))))))]
      · have CS : Hid (∀ w, TableIs w → Calls Tryd.prog 45 #[.string (snT I T l b)] w fun e w' => e = .returned (.tuple #[.string ByteArray.empty, .bool false]) ∧ Below w.heap.size w w') := fun w _ => sealed_bad _ w (by omega) (by omega)
        have := snapText_go I T ao _ cap l _ _ b _ false w hr hn (by omega) (by omega) ht CP HT2 CN (fun w => short_ok b w h20) h1 h2 CS (by decide)
        refine this.mono ?_
        rintro e w' ⟨rfl, hb'⟩
        exact ⟨by rw [if_neg (by simp), textSV_no (okS_no (.inr (.inr (.inr (.inr (by simp only [Int.toNat_natCast]; omega))))))], hb'⟩
  · rw [textSV_no (okS_no (.inr (.inr (.inr (.inl (by omega))))))]
    exact snapText_no _ _ ao _ cap l _ _ ByteArray.empty b true (okC l) false w hr hn (by omega) (by omega) CP HT CN (fun w => short_bad b w (by omega) (by omega)) (by simp)
end Go.Proofs.YtgpojfkdcdgloaaDoor
