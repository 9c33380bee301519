/-
  The text of a snapshot, as the specification writes it: the walks.
-/
import Derived.Test.YtingfgbcinlflaaDoorSy
namespace Go.Proofs.YtingfgbcinlflaaDoor
open Go Go.RowKit

set_option maxHeartbeats 400000 in
theorem l05Short_any (s : ByteArray) (w : World) (hs : s.size ≤ 1048576) :
    Calls Tryd.prog 43 #[.string s] w fun e w' => e = .returned (.string (shT s)) ∧ Below w.heap.size w w' := by
  have hadd : ∀ wx, (Op.stringOp .add (bstr (varI s.size)) s).run Tryd.prog wx = .ok (.string (shT s)) wx := fun wx => run_string_add_sum wx _ s (by
    have hl := (varI_len5 (n := s.size) (by omega)).2
    have hb := bstr_size (varI s.size)
    omega)
  go_enter Tryd.func43, Tryd.ntmps43
  go_wp2_with (go_at_call 42; refine (l01Var_any _ _ (by omega)).mono ?_; rintro e w1 ⟨rfl, hb1⟩)
  go_ret
  exact ⟨rfl, hb1⟩

set_option maxRecDepth 10000 in
set_option maxHeartbeats 2000000 in
theorem specSnapText_no (i t : Int) (ao : Option Addr) (n cap : Nat) (l : List Int) (u b : ByteArray) (k p q : Bool) (w : World) (hr : Reads w (.slice ao n cap) l) (hn : l.length ≤ 1048577) (hb : b.size ≤ 1048576)
    (HT : Hid (textV l = .tuple #[.string u, .bool k]))
    (CI : Hid (∀ w, Calls Tryd.prog 41 #[.int .i64 i, .int .i64 0, .int .i64 1000000] w fun e w' => e = .returned (.bool p) ∧ w' = w))
    (CT : Hid (∀ w, Calls Tryd.prog 41 #[.int .i64 t, .int .i64 0, .int .i64 100000] w fun e w' => e = .returned (.bool q) ∧ w' = w))
    (hz : k = false ∨ p = false ∨ q = false ∨ 20000 < b.size) :
    Calls Tryd.prog 20 #[.agg #[.int .i64 i, .int .i64 t, .slice ao n cap, .string b]] w fun e w' => e = .returned (.tuple #[.string ByteArray.empty, .bool false]) ∧ Below w.heap.size w w' := by
  have HR : Hid (Reads w (.slice ao n cap) l) := hr
  have HL : Hid (l.length ≤ 1048577) := hn
  clear hr hn
  go_enter Tryd.func20, Tryd.ntmps20
  go_wp2_with fail
  refine Calls.mono (specConfText_any (HR.out.below (ba (Below.refl _ _) _)) HL.out) ?_
  rintro e w1 ⟨rfl, hb1⟩
  obtain ⟨c0, c1, c2, c3⟩ := sb_cells (blk_on hb1)
  have B1 := below_new hb1
  clear hb1
  rw [HT.out]
  cases k with
  | false =>
    clear hz
    go_wp2
    go_ret2
    exact ⟨rfl, B1⟩
  | true =>
    cases p with
    | false =>
      clear hz
      go_wp2_with (first | (go_at_call 41; with_reducible refine Calls.mono (CI.out _) ?_; rintro e w' ⟨rfl, hw⟩; have hw2 := hw.symm; subst hw2; clear hw) | (go_at_call 41; with_reducible refine Calls.mono (CT.out _) ?_; rintro e w' ⟨rfl, hw⟩; have hw2 := hw.symm; subst hw2; clear hw))
      go_ret2
      exact ⟨rfl, B1⟩
    | true =>
      cases q with
      | false =>
        clear hz
        go_wp2_with (first | (go_at_call 41; with_reducible refine Calls.mono (CI.out _) ?_; rintro e w' ⟨rfl, hw⟩; have hw2 := hw.symm; subst hw2; clear hw) | (go_at_call 41; with_reducible refine Calls.mono (CT.out _) ?_; rintro e w' ⟨rfl, hw⟩; have hw2 := hw.symm; subst hw2; clear hw))
        go_ret2
        exact ⟨rfl, B1⟩
      | true =>
        have hz2 : 20000 < b.size := by simpa using hz
        clear hz
        go_wp2_with (first | (go_at_call 41; with_reducible refine Calls.mono (CI.out _) ?_; rintro e w' ⟨rfl, hw⟩; have hw2 := hw.symm; subst hw2; clear hw) | (go_at_call 41; with_reducible refine Calls.mono (CT.out _) ?_; rintro e w' ⟨rfl, hw⟩; have hw2 := hw.symm; subst hw2; clear hw))
        go_ret2
        exact ⟨rfl, B1⟩

set_option maxRecDepth 10000 in
set_option maxHeartbeats 2000000 in
theorem specSnapText_go (I T : Nat) (ao : Option Addr) (n cap : Nat) (l : List Int) (b : ByteArray) (w : World) (hr : Reads w (.slice ao n cap) l) (hn : l.length ≤ 1048577) (hb : b.size ≤ 20000) (hI : I ≤ 1000000) (hT : T ≤ 100000)
    (hk : okC l = true) (hsz : (snT I T l b).size ≤ 20024) :
    Calls Tryd.prog 20 #[.agg #[.int .i64 I, .int .i64 T, .slice ao n cap, .string b]] w fun e w' => e = .returned (if (snT I T l b).size + 4 ≤ 20000 then .tuple #[.string (sealT (snT I T l b)), .bool true] else .tuple #[.string ByteArray.empty, .bool false]) ∧ Below w.heap.size w w' := by
  obtain ⟨z1, z2, z3, z4⟩ := snT_size (i := I) (t := T) (l := l) (b := b) (by omega) (by omega) (okC_len hk) hb
  have h0 : ∀ wx, (Op.stringOp .add (bstr (varI I)) (bstr (varI T))).run Tryd.prog wx = .ok (.string (bstr (varI I) ++ bstr (varI T))) wx := fun wx => by
    rw [run_string_add_sum wx _ _ (by omega)]
  have h1 : ∀ wx, (Op.stringOp .add (bstr (varI I) ++ bstr (varI T)) (shT (bstr l))).run Tryd.prog wx = .ok (.string (bstr (varI I) ++ bstr (varI T) ++ shT (bstr l))) wx := fun wx => by
    rw [run_string_add_sum wx _ _ (by rw [ByteArray.size_append]; omega)]
  have h2 : ∀ wx, (Op.stringOp .add (bstr (varI I) ++ bstr (varI T) ++ shT (bstr l)) (shT b)).run Tryd.prog wx = .ok (.string (snT I T l b)) wx := fun wx => by
    rw [run_string_add_sum wx _ _ (by rw [ByteArray.size_append, ByteArray.size_append]; omega)]
    rfl
  clear z1 z2 z3 z4
  have HT : Hid (textV l = .tuple #[.string (bstr l), .bool true]) := textV_yes hk
  have HR : Hid (Reads w (.slice ao n cap) l) := hr
  have HL : Hid (l.length ≤ 1048577) := hn
  have HC : Hid ((bstr l).size ≤ 1048576) := by show (bstr l).size ≤ _; rw [bstr_size]; have := okC_len hk; omega
  clear hr hn hk
  obtain ⟨RR, HRR⟩ : ∃ RR, Hid ((if (snT I T l b).size + 4 ≤ 20000 then Value.tuple #[.string (sealT (snT I T l b)), .bool true] else .tuple #[.string ByteArray.empty, .bool false]) = RR) := ⟨_, rfl⟩
  rw [HRR.out]
  obtain ⟨x, hx⟩ : ∃ x, snT I T l b = x := ⟨_, rfl⟩
  rw [hx] at h2 HRR hsz
  clear hx
  go_enter Tryd.func20, Tryd.ntmps20
  go_wp2_with fail
  refine Calls.mono (specConfText_any (HR.out.below (ba (Below.refl _ _) _)) HL.out) ?_
  rintro e w1 ⟨rfl, hb1⟩
  obtain ⟨c0, c1, c2, c3⟩ := sb_cells (blk_on hb1)
  have B1 := below_new hb1
  clear hb1
  rw [HT.out]
  have q0 := Wd.cell c0
  have q1 := Wd.cell c1
  have q3 := Wd.cell c3
  go_wp2_with (go_at_call 41; refine (l01In_yes _ _ _ _ (by omega) (by omega)).mono ?_; rintro e w' ⟨rfl, hw⟩; have hw2 := hw.symm; subst hw2; clear hw)
  refine wp_region_wd (by kernel_rfl) (by kernel_rfl) ?_
  repeat (go_big_quiet_step ((first | (go_at_call 42; refine calls_wd (v := .string (bstr (varI I))) ?_; with_reducible exact l01Var_any I _ (by omega)) | (go_at_call 42; refine calls_wd (v := .string (bstr (varI T))) ?_; with_reducible exact l01Var_any T _ (by omega)) | (go_at_call 43; refine calls_wd (v := .string (shT (bstr l))) ?_; with_reducible exact l05Short_any (bstr l) _ HC.out) | (go_at_call 43; refine calls_wd (v := .string (shT b)) ?_; with_reducible exact l05Short_any b _ (by omega)))))
  refine wpQuiet_nil ?_
  rintro _ ⟨v, rfl⟩
  have B2 := B1.trans (v.ok.mono B1.size)
  generalize v.at' = w2 at B2 ⊢
  clear q0 q1 q3 c0 c1 c2 c3 h0 h1 h2 B1
  by_cases h4 : x.size + 4 ≤ 20000
  · have HE := HRR.out
    rw [if_pos h4] at HE
    have HE : Hid (Value.tuple #[.string (sealT x), .bool true] = RR) := HE
    have CS : Hid (∀ w, Calls Tryd.prog 44 #[.string x] w fun e w' => e = .returned (.tuple #[.string (sealT x), .bool true]) ∧ Below w.heap.size w w') := fun w => specSealed_ok x w (by omega)
    have hx1 : ¬ 20000 < (x.size : Int) + 4 := by omega
    have hx2 : (x.size : Int) ≤ 20024 := by omega
    clear h4 hsz HRR
    generalize sealT x = r at HE CS
    go_wp2_with fail
    refine Calls.mono (CS.out _) ?_
    rintro e w3 ⟨rfl, hb3⟩
    go_wp2
    go_ret2
    exact ⟨by rw [← HE.out]; rfl, Below.on B2 hb3⟩
  · have HE := HRR.out
    rw [if_neg h4] at HE
    have HE : Hid (Value.tuple #[.string ByteArray.empty, .bool false] = RR) := HE
    have hx1 : 20000 < (x.size : Int) + 4 := by omega
    have hx2 : (x.size : Int) ≤ 20024 := by omega
    clear h4 hsz HRR
    go_wp2
    go_ret2
    exact ⟨by rw [← HE.out]; rfl, B2⟩

/-- The specification's SnapText. -/
theorem specSnapText_any {i t : Int} {v : Value} {l : List Int} {b : ByteArray} {w : World} (hr : Reads w v l) (hn : l.length ≤ 1048577) (hb : b.size ≤ 1048576) :
    Calls Tryd.prog 20 #[.agg #[.int .i64 i, .int .i64 t, v, .string b]] w fun e w' => e = .returned (textSV i t l b) ∧ Below w.heap.size w w' := by
  obtain ⟨ao, cap, rfl, _⟩ := id hr
  have HT : Hid (textV l = .tuple #[.string (textC l), .bool (okC l)]) := rfl
  have CI : Hid (∀ w, Calls Tryd.prog 41 #[.int .i64 i, .int .i64 0, .int .i64 1000000] w fun e w' => e = .returned (.bool (idxB i)) ∧ w' = w) := fun w => in_any i 0 1000000 w
  have CT : Hid (∀ w, Calls Tryd.prog 41 #[.int .i64 t, .int .i64 0, .int .i64 100000] w fun e w' => e = .returned (.bool (trmB t)) ∧ w' = w) := fun w => in_any t 0 100000 w
  by_cases hz : okC l = false ∨ idxB i = false ∨ trmB t = false ∨ 20000 < b.size
  · rw [textSV_no (okS_no (by rcases hz with h | h | h | h <;> simp [h]))]
    exact specSnapText_no i t ao _ cap l _ b _ _ _ w hr hn hb HT CI CT hz
  · have hk : okC l = true := by cases h : okC l <;> simp_all
    have hid : idxB i = true := by cases h : idxB i <;> simp_all
    have htr : trmB t = true := by cases h : trmB t <;> simp_all
    have h20 : b.size ≤ 20000 := by
      rcases Nat.lt_or_ge 20000 b.size with h | h
      · exact absurd (.inr (.inr (.inr h))) hz
      · exact h
    obtain ⟨I, rfl⟩ := Int.eq_ofNat_of_zero_le (idxB_out hid).1
    obtain ⟨T, rfl⟩ := Int.eq_ofNat_of_zero_le (trmB_out htr).1
    have a1 := (idxB_out hid).2
    have a2 := (trmB_out htr).2
    obtain ⟨z1, z2, z3, z4⟩ := snT_size (i := I) (t := T) (l := l) (b := b) (by omega) (by omega) (okC_len hk) h20
    have esz : (snT I T l b).size ≤ 20024 := by
      unfold snT
      rw [ByteArray.size_append, ByteArray.size_append, ByteArray.size_append]
      omega
    refine (specSnapText_go I T ao _ cap l b w hr hn h20 (by omega) (by omega) hk esz).mono ?_
    rintro e w' ⟨rfl, hb'⟩
    refine ⟨?_, hb'⟩
    by_cases h4 : (snT I T l b).size + 4 ≤ 20000
    · rw [if_pos h4, textSV_yes (okS_in hk hid htr h20 (by simpa using h4))]
      rfl
    · rw [if_neg h4, textSV_no (okS_no (.inr (.inr (.inr (.inr (by simp only [Int.toNat_natCast]; omega))))))]
end Go.Proofs.YtingfgbcinlflaaDoor
