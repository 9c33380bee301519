/-
  A message read back from its bytes, by the program: the walks. A number that is written is read back, whatever stands ahead of it and behind it; one that is torn is not. A message read from its bytes by the specification: plain facts; what it reads is what the program reads. A region that draws its order: its first operations only read (their callees turn nothing that lay there before), its last ones can come up in one order alone: one walk serves every order. Over any program. A region that draws its order: its first operations only read; the next ones come up one behind the other and keep what is read; its last ones wait for all: one walk serves every order. Over any program.
-/
import Derived.Test.YtgjamikmjknlfaaDoorMD4
import Derived.Test.YtgjamikmjknlfaaDoorRvs
import Derived.Test.YtgjamikmjknlfaaDoorWd
import Derived.OrdersHeld
namespace Go.Proofs.YtgjamikmjknlfaaDoor
open Go Go.RowKit
set_option linter.unusedVariables false

def okX8 (x : Mg8) : Bool := okM (x.kd : Int) (x.fr : Int) (x.up : Int) (x.tm : Int) (x.ix : Int) (x.lt : Int) (x.cm : Int) x.da x.la x.es (confT x.c)
def enX8 (x : Mg8) : ByteArray := encS (x.kd : Int) (x.fr : Int) (x.up : Int) (x.tm : Int) (x.ix : Int) (x.lt : Int) (x.cm : Int) x.ok x.da x.la x.es (confT x.c)
/-- What is read of a text, its writer having the last word. -/
def rcM (s : ByteArray) : Option Mg8 := match rwM s with
  | some x => if okX8 x = true ∧ enX8 x = s then some x else none
  | none => none
theorem entsP_fine {s : ByteArray} {a b : Nat} {l : List En} (h : entsP s a = some (l, b)) : l.length ≤ 4 ∧ ∀ f ∈ l, f.data.size ≤ 20000 := by
  unfold entsP at h
  split at h
  · rename_i n c e
    have h1 := entsG_len _ _ _ h
    have h2 := entsG_sz _ _ _ h (fun f hf => by cases hf)
    refine ⟨?_, h2⟩
    unfold numU at e
    split at e
    · split at e
      · rename_i hl
        simp only [Option.some.injEq, Prod.mk.injEq] at e
        simp at h1
        omega
      · cases e
    · cases e
  · cases h
theorem msgP_fine {s : ByteArray} {a b : Nat} {x : Mg8} (h : msgP s a = some (x, b)) : x.es.length ≤ 4 ∧ ∀ f ∈ x.es, f.data.size ≤ 20000 := by
  unfold msgP at h
  simp only [Option.bind_eq_some_iff] at h
  obtain ⟨r0, _, r1, _, r2, _, r3, _, r4, _, r5, _, r6, _, r7, _, r8, _, r9, h9, r10, _, r11, _, h⟩ := h
  simp only [Option.some.injEq, Prod.mk.injEq] at h
  obtain ⟨rfl, _⟩ := h
  exact entsP_fine (b := r9.2) h9
theorem rwM_fine (s : ByteArray) : (((rwM s).getD zeroM).es.length ≤ 4) ∧ ∀ f ∈ ((rwM s).getD zeroM).es, f.data.size ≤ 20000 := by
  cases h : rwM s with
  | none => exact ⟨Nat.zero_le _, fun f hf => by cases hf⟩
  | some x =>
    unfold rwM at h
    split at h
    · rename_i y b e
      split at h
      · injection h with h
        subst h
        exact msgP_fine e
      · cases h
    · cases h
theorem ret_msg2 {fn : Func} {p q : Tmp} {w : World} {g : Nat} {x0 x1 x2 x3 x4 x5 x6 x7 x8 x9 x10 x11 y : Value} {tmps : Array Value} (h : fn.results = #[.cell p 31, .tmp q]) (hp : tmps.getD p undef = .pointer (some ⟨g, 0, none⟩)) (hq : tmps.getD q undef = y) (hb : Kc12 31 w g x0 x1 x2 x3 x4 x5 x6 x7 x8 x9 x10 x11) :
    (results fn tmps).run Tryd.prog w = .ok (.tuple #[.agg #[x0, x1, x2, x3, x4, x5, x6, x7, x8, x9, x10, x11], y]) w := by
  have hp' : tmps[p]?.getD undef = .pointer (some ⟨g, 0, none⟩) := by simpa using hp
  have hq' : tmps[q]?.getD undef = y := by simpa using hq
  simp [results, h, hp', hq', hb.c0, hb.c1, hb.c2, hb.c3, hb.c4, hb.c5, hb.c6, hb.c7, hb.c8, hb.c9, hb.c10, hb.c11, asAddr, go_sem]

theorem implEncodeW_any (kd fr up tm ix lt cm : Int) (ok : Bool) (da : ByteArray) (la : Bool) (e c : Value) (es : List En) (cs : List Int) (w : World) (he : Reads w e es) (hc : Reads w c cs) (hn : es.length ≤ 1048577) (hm : cs.length ≤ 1048577) (hz : SizedE es) :
    Calls Tryd.prog 8 #[.agg #[.int .i64 kd, .int .i64 fr, .int .i64 up, .int .i64 tm, .int .i64 ix, .int .i64 lt, .int .i64 cm, .bool ok, e, c, .string da, .bool la]] w fun e' w' => e' = .returned (encV kd fr up tm ix lt cm ok da la es cs) ∧ Below w.heap.size w w' := by
  obtain ⟨ao, cap, rfl, _⟩ := id he
  obtain ⟨bo, cbp, rfl, _⟩ := id hc
  exact implEncode_any kd fr up tm ix lt cm ok da la ao bo _ cap _ cbp es cs w he hc hn hm hz
set_option maxRecDepth 10000 in
set_option maxHeartbeats 8000000 in
theorem readBack_any (s : ByteArray) (w : World) (hs : s.size ≤ 1048576) :
    Calls Tryd.prog 39 #[.string s, .func (.func 40) #[] #[], .func (.func 8) #[] #[]] w (RwM ((rcM s).getD zeroM) (rcM s).isSome w) := by
  have HS : Hid (s.size ≤ 1048576) := hs
  clear hs
  obtain ⟨W0, HW0⟩ : ∃ V, Hid (w.alloc (.cells #[.int .i64 0, .int .i64 0, .int .i64 0, .int .i64 0, .int .i64 0, .int .i64 0, .int .i64 0, .bool false, .slice none 0 0, .slice none 0 0, .string { data := #[] }, .bool false] 31) = V) := ⟨_, rfl⟩
  have K0 : Hid (Kc12 31 W0 w.heap.size (.int .i64 0) (.int .i64 0) (.int .i64 0) (.int .i64 0) (.int .i64 0) (.int .i64 0) (.int .i64 0) (.bool false) (.slice none 0 0) (.slice none 0 0) (.string { data := #[] }) (.bool false)) := by rw [← HW0.out]; exact Kc12.new _ _ _ _ _ _ _ _ _ _ _ _ _ _
  have B0 : Hid (Below w.heap.size w W0) := by rw [← HW0.out]; exact ba (Below.refl _ _) _
  have hw0 : w.heap.size < W0.heap.size := K0.out.lt
  obtain ⟨R, HR⟩ : ∃ R, Hid (rcM s = R) := ⟨_, rfl⟩
  rw [HR.out]
  obtain ⟨x, HX⟩ : ∃ x, Hid ((rwM s).getD zeroM = x) := ⟨_, rfl⟩
  obtain ⟨z, HZ⟩ : ∃ z, Hid ((rwM s).isSome = z) := ⟨_, rfl⟩
  have HF : Hid (x.es.length ≤ 4 ∧ ∀ f ∈ x.es, f.data.size ≤ 20000) := by show _ ∧ _; rw [← HX.out]; exact rwM_fine s
  obtain ⟨T, q, HV⟩ : ∃ (T : ByteArray) (q : Bool), Hid (encV (x.kd : Int) (x.fr : Int) (x.up : Int) (x.tm : Int) (x.ix : Int) (x.lt : Int) (x.cm : Int) x.ok x.da x.la x.es (confT x.c) = .tuple #[.string T, .bool q] ∧ q = okX8 x ∧ (q = true → T = enX8 x)) := by
    unfold encV
    cases hk : okX8 x with
    | true => exact ⟨enX8 x, true, by show _ ∧ _; rw [show okM (x.kd : Int) (x.fr : Int) (x.up : Int) (x.tm : Int) (x.ix : Int) (x.lt : Int) (x.cm : Int) x.da x.la x.es (confT x.c) = true from hk]; exact ⟨rfl, rfl, fun _ => rfl⟩⟩
    | false => exact ⟨_, false, by show _ ∧ _; rw [show okM (x.kd : Int) (x.fr : Int) (x.up : Int) (x.tm : Int) (x.ix : Int) (x.lt : Int) (x.cm : Int) x.da x.la x.es (confT x.c) = false from hk]; exact ⟨rfl, rfl, fun h => by cases h⟩⟩
  have HRV : Hid (R = if z = true ∧ q = true ∧ T = s then some x else none) := by
    show R = _
    rw [← HR.out]
    unfold rcM
    obtain ⟨-, h1, h2⟩ := HV.out
    cases hr : rwM s with
    | none =>
      have : z = false := by rw [← HZ.out, hr]; rfl
      rw [this]; simp
    | some y =>
      have hz : z = true := by rw [← HZ.out, hr]; rfl
      have hx : x = y := by rw [← HX.out, hr]; rfl
      subst hx
      show (if okX8 x = true ∧ enX8 x = s then some x else none) = _
      rw [hz, ← h1]
      cases q with
      | false => simp
      | true => rw [h2 rfl]; simp
  go_enter Tryd.func39, Tryd.ntmps39
  go_wp2_with fail
  rw [HW0.out]
  refine (readWhole_any s _ HS.out).mono ?_
  rw [HX.out, HZ.out]
  rintro e w1 ⟨ea, en, ec, oa, on, oc, rfl, hoe, hoc, hb⟩
  have K1 := K0.out.up hb
  have B1 := Below.on B0.out hb
  have hw1 : W0.heap.size ≤ w1.heap.size := hb.size
  have OE1 : Hid (ownsR w1 W0.heap.size 47 (.slice ea en ec) x.es) := hoe
  have OC1 : Hid (ownsR w1 W0.heap.size 3 (.slice oa on oc) (confT x.c)) := hoc
  clear hb hoe hoc
  obtain ⟨W2, HW2⟩ : ∃ V, Hid (w1.alloc (.cells #[.int .i64 (x.kd : Int), .int .i64 (x.fr : Int), .int .i64 (x.up : Int), .int .i64 (x.tm : Int), .int .i64 (x.ix : Int), .int .i64 (x.lt : Int), .int .i64 (x.cm : Int), .bool x.ok, .slice ea en ec, .slice oa on oc, .string x.da, .bool x.la] 31) = V) := ⟨_, rfl⟩
  have K2 : Kc12 31 W2 w.heap.size (.int .i64 0) (.int .i64 0) (.int .i64 0) (.int .i64 0) (.int .i64 0) (.int .i64 0) (.int .i64 0) (.bool false) (.slice none 0 0) (.slice none 0 0) (.string { data := #[] }) (.bool false) := by rw [← HW2.out]; exact K1.alloc _
  have L2 : Kc12 31 W2 w1.heap.size (.int .i64 (x.kd : Int)) (.int .i64 (x.fr : Int)) (.int .i64 (x.up : Int)) (.int .i64 (x.tm : Int)) (.int .i64 (x.ix : Int)) (.int .i64 (x.lt : Int)) (.int .i64 (x.cm : Int)) (.bool x.ok) (.slice ea en ec) (.slice oa on oc) (.string x.da) (.bool x.la) := by rw [← HW2.out]; exact Kc12.new _ _ _ _ _ _ _ _ _ _ _ _ _ _
  have B2 : Below w.heap.size w W2 := by rw [← HW2.out]; exact ba B1 _
  have OE2 : Hid (ownsR W2 W0.heap.size 47 (.slice ea en ec) x.es) := by rw [← HW2.out]; exact OE1.out.alloc _
  have OC2 : Hid (ownsR W2 W0.heap.size 3 (.slice oa on oc) (confT x.c)) := by rw [← HW2.out]; exact OC1.out.alloc _
  clear K1 B1 OE1 OC1
  go_wp2_with fail
  rw [HW2.out]
  refine (implEncodeW_any (x.kd : Int) (x.fr : Int) (x.up : Int) (x.tm : Int) (x.ix : Int) (x.lt : Int) (x.cm : Int) x.ok x.da x.la _ _ x.es (confT x.c) _ OE2.out.reads OC2.out.reads (by have := HF.out.1; omega) (by have := confT_len x.c; omega) (fun f hf => by have := HF.out.2 f hf; omega)).mono ?_
  rw [HV.out.1]
  rintro e w3 ⟨rfl, hb⟩
  have K3 := K2.up hb
  have L3 := L2.up hb
  have B3 := Below.on B2 hb
  have OE3 : Hid (ownsR w3 W0.heap.size 47 (.slice ea en ec) x.es) := OE2.out.all hb
  have OC3 : Hid (ownsR w3 W0.heap.size 3 (.slice oa on oc) (confT x.c)) := OC2.out.all hb
  clear K2 L2 B2 hb HW2 OE2 OC2
  by_cases hok : z = true ∧ q = true ∧ T = s
  · obtain ⟨rfl, rfl, rfl⟩ := hok
    obtain rfl : R = some x := by rw [HRV.out]; simp
    have hl3 := K3.lt
    have hl4 := L3.lt
    have c0 := K3.c0
    have c1 := K3.c1
    have c2 := K3.c2
    have c3 := K3.c3
    have c4 := K3.c4
    have c5 := K3.c5
    have c6 := K3.c6
    have c7 := K3.c7
    have c8 := K3.c8
    have c9 := K3.c9
    have c10 := K3.c10
    have c11 := K3.c11
    have f0 := K3.fz 0
    have f1 := K3.fz 1
    have f2 := K3.fz 2
    have f3 := K3.fz 3
    have f4 := K3.fz 4
    have f5 := K3.fz 5
    have f6 := K3.fz 6
    have f7 := K3.fz 7
    have f8 := K3.fz 8
    have f9 := K3.fz 9
    have f10 := K3.fz 10
    have f11 := K3.fz 11
    have n0 := L3.c0
    have n1 := L3.c1
    have n2 := L3.c2
    have n3 := L3.c3
    have n4 := L3.c4
    have n5 := L3.c5
    have n6 := L3.c6
    have n7 := L3.c7
    have n8 := L3.c8
    have n9 := L3.c9
    have n10 := L3.c10
    have n11 := L3.c11
    go_wp2
    have KE := K3.set (.int .i64 (x.kd : Int)) (.int .i64 (x.fr : Int)) (.int .i64 (x.up : Int)) (.int .i64 (x.tm : Int)) (.int .i64 (x.ix : Int)) (.int .i64 (x.lt : Int)) (.int .i64 (x.cm : Int)) (.bool x.ok) (.slice ea en ec) (.slice oa on oc) (.string x.da) (.bool x.la)
    refine bodyPost_ret (ret_msg2 rfl rfl rfl KE) rfl ?_
    exact ⟨ea, en, ec, oa, on, oc, rfl, (owns_set12 OE3.out hw0 _ _ _ _ _ _ _ _ _ _ _ _).mono (Nat.le_of_lt hw0), (owns_set12 OC3.out hw0 _ _ _ _ _ _ _ _ _ _ _ _).mono (Nat.le_of_lt hw0), below_set12 B3 (Nat.le_refl _) _ _ _ _ _ _ _ _ _ _ _ _⟩
  · obtain rfl : R = none := by rw [HRV.out, if_neg hok]
    obtain ⟨W4, HW4⟩ : ∃ V, w3.alloc (.cells #[.int .i64 0, .int .i64 0, .int .i64 0, .int .i64 0, .int .i64 0, .int .i64 0, .int .i64 0, .bool false, .slice none 0 0, .slice none 0 0, .string { data := #[] }, .bool false] 31) = V := ⟨_, rfl⟩
    have K4 : Kc12 31 W4 w.heap.size (.int .i64 0) (.int .i64 0) (.int .i64 0) (.int .i64 0) (.int .i64 0) (.int .i64 0) (.int .i64 0) (.bool false) (.slice none 0 0) (.slice none 0 0) (.string { data := #[] }) (.bool false) := by rw [← HW4]; exact K3.alloc _
    have L4 : Kc12 31 W4 w3.heap.size (.int .i64 0) (.int .i64 0) (.int .i64 0) (.int .i64 0) (.int .i64 0) (.int .i64 0) (.int .i64 0) (.bool false) (.slice none 0 0) (.slice none 0 0) (.string { data := #[] }) (.bool false) := by rw [← HW4]; exact Kc12.new _ _ _ _ _ _ _ _ _ _ _ _ _ _
    have B4 : Below w.heap.size w W4 := by rw [← HW4]; exact ba B3 _
    have hl3 := K3.lt
    have c0 := K4.c0
    have c1 := K4.c1
    have c2 := K4.c2
    have c3 := K4.c3
    have c4 := K4.c4
    have c5 := K4.c5
    have c6 := K4.c6
    have c7 := K4.c7
    have c8 := K4.c8
    have c9 := K4.c9
    have c10 := K4.c10
    have c11 := K4.c11
    have f0 := K4.fz 0
    have f1 := K4.fz 1
    have f2 := K4.fz 2
    have f3 := K4.fz 3
    have f4 := K4.fz 4
    have f5 := K4.fz 5
    have f6 := K4.fz 6
    have f7 := K4.fz 7
    have f8 := K4.fz 8
    have f9 := K4.fz 9
    have f10 := K4.fz 10
    have f11 := K4.fz 11
    have n0 := L4.c0
    have n1 := L4.c1
    have n2 := L4.c2
    have n3 := L4.c3
    have n4 := L4.c4
    have n5 := L4.c5
    have n6 := L4.c6
    have n7 := L4.c7
    have n8 := L4.c8
    have n9 := L4.c9
    have n10 := L4.c10
    have n11 := L4.c11
    have KE := K4.set (.int .i64 0) (.int .i64 0) (.int .i64 0) (.int .i64 0) (.int .i64 0) (.int .i64 0) (.int .i64 0) (.bool false) (.slice none 0 0) (.slice none 0 0) (.string { data := #[] }) (.bool false)
    have HEND : Hid (RwM (Option.getD none zeroM) (Option.isSome (none : Option Mg8)) w (.returned (.tuple #[.agg #[.int .i64 0, .int .i64 0, .int .i64 0, .int .i64 0, .int .i64 0, .int .i64 0, .int .i64 0, .bool false, .slice none 0 0, .slice none 0 0, .string { data := #[] }, .bool false], .bool false])) (set12 W4 w.heap.size (.int .i64 0) (.int .i64 0) (.int .i64 0) (.int .i64 0) (.int .i64 0) (.int .i64 0) (.int .i64 0) (.bool false) (.slice none 0 0) (.slice none 0 0) (.string { data := #[] }) (.bool false))) := ⟨none, 0, 0, none, 0, 0, rfl, ownsR_nil _ _ _, ownsC_nil _ _, below_set12 B4 (Nat.le_refl _) _ _ _ _ _ _ _ _ _ _ _ _⟩
    clear K3 B3 L3 B4 K4 L4
    cases z with
    | false =>
      go_wp2
      exact bodyPost_ret (ret_msg2 rfl rfl rfl KE) rfl HEND.out
    | true =>
    cases q with
    | false =>
      go_wp2
      exact bodyPost_ret (ret_msg2 rfl rfl rfl KE) rfl HEND.out
    | true =>
    have hne := ne_list (fun h : T = s => hok ⟨rfl, rfl, h⟩)
    go_wp2
    exact bodyPost_ret (ret_msg2 rfl rfl rfl KE) rfl HEND.out
set_option maxRecDepth 10000 in
set_option maxHeartbeats 2000000 in
theorem implDecode_any (s : ByteArray) (w : World) (hs : s.size ≤ 1048576) :
    Calls Tryd.prog 11 #[.string s] w (RwM ((rcM s).getD zeroM) (rcM s).isSome w) := by
  have HS : Hid (s.size ≤ 1048576) := hs
  clear hs
  obtain ⟨W0, HW0⟩ : ∃ V, Hid (w.alloc (.cells #[.int .i64 0, .int .i64 0, .int .i64 0, .int .i64 0, .int .i64 0, .int .i64 0, .int .i64 0, .bool false, .slice none 0 0, .slice none 0 0, .string { data := #[] }, .bool false] 31) = V) := ⟨_, rfl⟩
  have K0 : Hid (Kc12 31 W0 w.heap.size (.int .i64 0) (.int .i64 0) (.int .i64 0) (.int .i64 0) (.int .i64 0) (.int .i64 0) (.int .i64 0) (.bool false) (.slice none 0 0) (.slice none 0 0) (.string { data := #[] }) (.bool false)) := by rw [← HW0.out]; exact Kc12.new _ _ _ _ _ _ _ _ _ _ _ _ _ _
  have B0 : Hid (Below w.heap.size w W0) := by rw [← HW0.out]; exact ba (Below.refl _ _) _
  have hw0 : w.heap.size < W0.heap.size := K0.out.lt
  obtain ⟨x, HX⟩ : ∃ x, Hid ((rcM s).getD zeroM = x) := ⟨_, rfl⟩
  obtain ⟨z, HZ⟩ : ∃ z, Hid ((rcM s).isSome = z) := ⟨_, rfl⟩
  rw [HX.out, HZ.out]
  go_enter Tryd.func11, Tryd.ntmps11
  go_wp2_with fail
  rw [HW0.out]
  refine (readBack_any s _ HS.out).mono ?_
  rw [HX.out, HZ.out]
  rintro e w1 ⟨ea, en, ec, oa, on, oc, rfl, hoe, hoc, hb⟩
  have K1 := K0.out.up hb
  have B1 := Below.on B0.out hb
  have hl1 := K1.lt
  have OE1 : Hid (ownsR w1 W0.heap.size 47 (.slice ea en ec) x.es) := hoe
  have OC1 : Hid (ownsR w1 W0.heap.size 3 (.slice oa on oc) (confT x.c)) := hoc
  clear hb hoe hoc
  have c0 := K1.c0
  have c1 := K1.c1
  have c2 := K1.c2
  have c3 := K1.c3
  have c4 := K1.c4
  have c5 := K1.c5
  have c6 := K1.c6
  have c7 := K1.c7
  have c8 := K1.c8
  have c9 := K1.c9
  have c10 := K1.c10
  have c11 := K1.c11
  have f0 := K1.fz 0
  have f1 := K1.fz 1
  have f2 := K1.fz 2
  have f3 := K1.fz 3
  have f4 := K1.fz 4
  have f5 := K1.fz 5
  have f6 := K1.fz 6
  have f7 := K1.fz 7
  have f8 := K1.fz 8
  have f9 := K1.fz 9
  have f10 := K1.fz 10
  have f11 := K1.fz 11
  go_wp2
  have KE := K1.set (.int .i64 (x.kd : Int)) (.int .i64 (x.fr : Int)) (.int .i64 (x.up : Int)) (.int .i64 (x.tm : Int)) (.int .i64 (x.ix : Int)) (.int .i64 (x.lt : Int)) (.int .i64 (x.cm : Int)) (.bool x.ok) (.slice ea en ec) (.slice oa on oc) (.string x.da) (.bool x.la)
  refine bodyPost_ret (ret_msg2 rfl rfl rfl KE) rfl ?_
  exact ⟨ea, en, ec, oa, on, oc, rfl, (owns_set12 OE1.out hw0 _ _ _ _ _ _ _ _ _ _ _ _).mono (Nat.le_of_lt hw0), (owns_set12 OC1.out hw0 _ _ _ _ _ _ _ _ _ _ _ _).mono (Nat.le_of_lt hw0), below_set12 B1 (Nat.le_refl _) _ _ _ _ _ _ _ _ _ _ _ _⟩
end Go.Proofs.YtgjamikmjknlfaaDoor

namespace Go.Proofs.YtgjamikmjknlfaaDoor
open Go.RowKit

theorem bstr_sz (l : List Int) : (bstr l).size = l.length := by simp [bstr, ByteArray.size]
/-- From the place i on the text has these numbers. -/
def Fits (s : ByteArray) (i : Nat) (l : List Int) : Prop := ∀ j x, l[j]? = some x → ∃ h : i + j < s.size, (s[i + j].toNat : Int) = x
theorem Fits.tail {s : ByteArray} {i : Nat} {x : Int} {l : List Int} (h : Fits s i (x :: l)) : Fits s (i + 1) l := by
  intro j y hy
  have := h (j + 1) y (by simpa using hy)
  rw [show i + (j + 1) = i + 1 + j by omega] at this
  exact this
theorem rvGo_back (s : ByteArray) : ∀ (f m i k N : Nat), f + k = 5 → Fits s i (varI m) → N + m * 128 ^ k ≤ 1000000000 → (0 < m ∨ k = 0) →
    rvGo s f i k N = (((N + m * 128 ^ k : Nat) : Int), ((i + (varI m).length : Nat) : Int), true)
  | 0, m, i, k, N, hf, hb, hv, hk => by
    exfalso
    obtain rfl : k = 5 := by omega
    rcases hk with h | h
    · have : 1 * 128 ^ 5 ≤ m * 128 ^ 5 := Nat.mul_le_mul_right _ h
      omega
    · omega
  | f + 1, m, i, k, N, hf, hb, hv, hk => by
    by_cases hm : 127 < m
    · rw [varI_more hm] at hb ⊢
      obtain ⟨hi, hx⟩ := hb 0 _ rfl
      have hx2 : s[i].toNat = m % 128 + 128 := by have : (s[i].toNat : Int) = (m : Int) % 128 + 128 := hx; omega
      have hi2 : i < s.size := hi
      rw [rvGo_more hi2 (by omega), hx2, show (m % 128 + 128) % 128 = m % 128 by omega]
      have e : N + m % 128 * 128 ^ k + m / 128 * 128 ^ (k + 1) = N + m * 128 ^ k := by
        have h1 : m * 128 ^ k = (m % 128 + 128 * (m / 128)) * 128 ^ k := by rw [Nat.mod_add_div]
        rw [h1, Nat.pow_succ, Nat.add_mul, Nat.add_assoc]
        congr 2
        rw [Nat.mul_comm (128 ^ k) 128, ← Nat.mul_assoc, Nat.mul_comm (m / 128) 128]
      rw [rvGo_back s f (m / 128) (i + 1) (k + 1) _ (by omega) hb.tail (by rw [e]; exact hv) (Or.inl (by omega)), e]
      rw [List.length_cons, show i + 1 + (varI (m / 128)).length = i + ((varI (m / 128)).length + 1) by omega]
    · rw [varI_last hm] at hb ⊢
      obtain ⟨hi, hx⟩ := hb 0 _ rfl
      have hi2 : i < s.size := hi
      have hx2 : s[i].toNat = m := by have : (s[i].toNat : Int) = (m : Int) := hx; omega
      rw [rvGo_ok hi2 (by omega)]
      · rw [hx2, Nat.mod_eq_of_lt (by omega : m < 128)]
        rfl
      · rw [hx2, Nat.mod_eq_of_lt (by omega : m < 128)]
        omega
theorem fits_bstr (a b : ByteArray) (l : List Int) (hl : ∀ x ∈ l, 0 ≤ x ∧ x < 256) : Fits (a ++ bstr l ++ b) a.size l := by
  intro j x hx
  obtain ⟨hj, rfl⟩ := List.getElem?_eq_some_iff.1 hx
  have hs : (a ++ bstr l ++ b).size = a.size + l.length + b.size := by rw [ByteArray.size_append, ByteArray.size_append, bstr_sz]
  refine ⟨by omega, ?_⟩
  have hr := hl l[j] (List.getElem_mem hj)
  have e : (a ++ bstr l ++ b)[a.size + j]'(by omega) = UInt8.ofNat (l[j]).toNat := by
    show (a ++ bstr l ++ b).data[a.size + j]'(by show _ < (a ++ bstr l ++ b).size; omega) = _
    have h2 : (a ++ bstr l ++ b).data = a.data ++ (l.map fun n => UInt8.ofNat n.toNat).toArray ++ b.data := by
      rw [ByteArray.data_append, ByteArray.data_append]; rfl
    have h3 : ((a ++ bstr l ++ b).data)[a.size + j]? = some (UInt8.ofNat (l[j]).toNat) := by
      rw [h2, Array.getElem?_append_left (by simp; exact hj), Array.getElem?_append_right (by show a.size ≤ a.size + j; omega)]
      simp [hj]
    exact (Array.getElem?_eq_some_iff.1 h3).2
  rw [e]
  simp
  omega
/-- A number comes back, whatever stands ahead of it and behind it. -/
theorem rv_back (a b : ByteArray) (n : Nat) (hn : n ≤ 1000000000) : rv (a ++ bstr (varI n) ++ b) a.size = ((n : Int), ((a.size + (varI n).length : Nat) : Int), true) := by
  unfold rv
  have hs : (a ++ bstr (varI n) ++ b).size = a.size + (varI n).length + b.size := by rw [ByteArray.size_append, ByteArray.size_append, bstr_sz]
  rw [if_pos (by omega), Int.toNat_natCast, rvGo_back _ 5 n a.size 0 0 rfl (fits_bstr a b _ (varI_range n n (Nat.le_refl _))) (by omega) (Or.inr rfl)]
  simp

/-- Of a number that is torn nothing is read. -/
theorem rvGo_torn (s : ByteArray) : ∀ (f m i k N : Nat), i ≤ s.size → s.size < i + (varI m).length → (∀ j (h : i + j < s.size), ∃ x, (varI m)[j]? = some x ∧ (s[i + j].toNat : Int) = x) → rvGo s f i k N = (0, 0, false)
  | 0, m, i, k, N, _, _, _ => rfl
  | f + 1, m, i, k, N, hi, hl, hb => by
    by_cases hs : i < s.size
    · have hm : 127 < m := by
        refine Decidable.byContradiction fun hm => ?_
        rw [varI_last hm] at hl
        simp at hl
        omega
      rw [varI_more hm] at hl hb
      obtain ⟨x, hx, he⟩ := hb 0 hs
      have hx2 : s[i].toNat = m % 128 + 128 := by
        simp at hx
        have : (s[i].toNat : Int) = x := he
        omega
      rw [rvGo_more hs (by omega)]
      refine rvGo_torn s f (m / 128) (i + 1) (k + 1) _ (by omega) (by simp at hl; omega) fun j h => ?_
      obtain ⟨y, hy, hy2⟩ := hb (j + 1) (by omega)
      refine ⟨y, by simpa using hy, ?_⟩
      rw [← hy2]
      congr 3
      omega
    · exact rvGo_end hs
theorem rv_torn (a c : ByteArray) (n : Nat) (hc : c.size < (varI n).length) (he : c = (bstr (varI n)).extract 0 c.size) : rv (a ++ c) a.size = (0, 0, false) := by
  have hs : (a ++ c).size = a.size + c.size := ByteArray.size_append
  rw [rv_in_eq (by omega)]
  refine rvGo_torn _ 5 n a.size 0 0 (by omega) (by omega) fun j h => ?_
  have hj : j < c.size := by omega
  have hj2 : j < (varI n).length := by omega
  refine ⟨(varI n)[j], List.getElem?_eq_getElem hj2, ?_⟩
  have e : (a ++ c)[a.size + j] = UInt8.ofNat ((varI n)[j]).toNat := by
    rw [ByteArray.getElem_append_right (by omega)]
    have h1 : c[a.size + j - a.size]'(by omega) = c[j] := by congr 1; omega
    rw [h1]
    have h2 : ∀ (d : ByteArray) (hd : d = (bstr (varI n)).extract 0 c.size) (h : j < d.size), d[j] = UInt8.ofNat ((varI n)[j]).toNat := by
      intro d hd h
      subst hd
      rw [ByteArray.getElem_extract]
      simp only [Nat.zero_add]
      rw [ByteArray.getElem_eq_getElem_data]
      simp [bstr]
    exact h2 c he hj
  rw [e]
  have hr := varI_range n n (Nat.le_refl _) _ (List.getElem_mem hj2)
  simp
  omega
end Go.Proofs.YtgjamikmjknlfaaDoor

namespace Go.Proofs.YtgjamikmjknlfaaDoor
open Go Go.RowKit
set_option linter.unusedVariables false

theorem numP_back {s : ByteArray} (a b : ByteArray) (n : Nat) (hn : n ≤ 1000000000) (he : s = a ++ bstr (varI n) ++ b) {p q : Nat} (hp : p = a.size) (hq : q = a.size + (bstr (varI n)).size) : numP s p = some (n, q) := by
  subst he hp hq
  unfold numP
  rw [rv_back a b n hn, if_pos rfl, bstr_sz, Int.toNat_natCast, Int.toNat_natCast]
theorem extract_mid (a t b : ByteArray) : (a ++ t ++ b).extract a.size (a.size + t.size) = t := by
  apply ByteArray.ext
  apply Array.ext
  · simp only [ByteArray.data_extract, ByteArray.data_append, Array.size_extract, Array.size_append]
    show min (a.size + t.size) (a.size + t.size + b.size) - a.size = t.size
    omega
  · intro i h1 h2
    have hi : i < t.size := h2
    simp only [ByteArray.data_extract, ByteArray.data_append, Array.getElem_extract]
    rw [Array.getElem_append_left (by rw [Array.size_append]; show a.size + i < a.size + t.size; omega), Array.getElem_append_right (by show a.size ≤ a.size + i; omega)]
    congr 1
    show a.size + i - a.size = i
    omega
theorem shoP_back {s : ByteArray} (a t b : ByteArray) (ht : t.size ≤ 20000) (he : s = a ++ shortS t ++ b) {p q : Nat} (hp : p = a.size) (hq : q = a.size + (shortS t).size) : shoP s p = some (t, q) := by
  have e1 : s = a ++ bstr (varI t.size) ++ (t ++ b) := by rw [he]; simp [shortS, ByteArray.append_assoc]
  have e2 : s = (a ++ bstr (varI t.size)) ++ t ++ b := by rw [he]; simp [shortS, ByteArray.append_assoc]
  have hz : s.size = a.size + (bstr (varI t.size)).size + t.size + b.size := by rw [e2]; simp only [ByteArray.size_append]
  unfold shoP
  rw [numP_back a (t ++ b) t.size (by omega) e1 hp rfl]
  simp only []
  rw [if_pos ⟨ht, by omega⟩]
  have e3 : s.extract (a.size + (bstr (varI t.size)).size) (a.size + (bstr (varI t.size)).size + t.size) = t := by
    have := extract_mid (a ++ bstr (varI t.size)) t b
    rw [ByteArray.size_append, ← e2] at this
    exact this
  rw [e3]
  subst hq
  simp only [shortS, ByteArray.size_append, Nat.add_assoc]
theorem oneP_back {s : ByteArray} (a b : ByteArray) (n : Int) (h0 : 0 ≤ n) (h1 : n < 256) (he : s = a ++ bstr [n] ++ b) {p q : Nat} (hp : p = a.size) (hq : q = a.size + (bstr [n]).size) : oneP s p = some (n.toNat, q) := by
  have hz : s.size = a.size + 1 + b.size := by rw [he]; simp only [ByteArray.size_append, bstr_sz, List.length_singleton]
  unfold oneP
  rw [if_pos (by omega), kAt_in (by omega)]
  have hq2 : q = a.size + 1 := by rw [hq, bstr_sz]; rfl
  subst hp
  have hg : s[a.size]'(by omega) = n.toNat.toUInt8 := by
    have hx : (a ++ (bstr [n] ++ b))[a.size]'(by rw [← ByteArray.append_assoc, ← he]; omega) = n.toNat.toUInt8 := by
      rw [ByteArray.getElem_append_right (Nat.le_refl _), ByteArray.getElem_append_left (by rw [bstr_sz]; simp)]
      simp [bstr]
      rfl
    have e2 : s = a ++ (bstr [n] ++ b) := by rw [he, ByteArray.append_assoc]
    simp only [e2]
    exact hx
  refine congrArg some (Prod.ext ?_ hq2.symm)
  show (s[a.size]'(by omega)).toNat = n.toNat
  rw [hg]
  simp [Nat.toUInt8]
  omega
theorem flagS_one (f : Bool) : flagS f = bstr [if f then 1 else 0] := by cases f <;> rfl
theorem varS_of {s : ByteArray} {a X Y : Nat} (h : numP s a = some (X, Y)) : varS s a false = (X, Y, false) := varS_yes (numP_some h).1
/-- A short text is read. -/
def sho5P (s : ByteArray) (a : Nat) (b : Bool) : ByteArray × Nat × Bool := takeS s (varS s a b).2.1 (varS s a b).2.2 (varS s a b).1
/-- The entries that are read, in at most so many rounds. -/
def entC (s : ByteArray) : Nat → Nat → Bool → List En → List En × Nat × Bool
  | 0, a, b, l => (l, a, b)
  | k + 1, a, b, l => if b = true then (l, a, b) else entC s k (sho5P s a b).2.1 (sho5P s a b).2.2 (l ++ [entT (sho5P s a b).1])
theorem takeS_szM (s : ByteArray) (a n : Nat) (b : Bool) : (takeS s a b n).1.size ≤ s.size := by
  unfold takeS
  split
  · show (s.extract a (a + n)).size ≤ s.size
    rw [ByteArray.size_extract]
    omega
  · exact Nat.zero_le _
theorem sho5P_sz (s : ByteArray) (a : Nat) (b : Bool) : (sho5P s a b).1.size ≤ s.size := takeS_szM _ _ _ _
theorem entC_bad (s : ByteArray) (k a : Nat) (l : List En) : entC s k a true l = (l, a, true) := by cases k <;> simp [entC]
theorem entC_zero (s : ByteArray) (a : Nat) (b : Bool) (l : List En) : entC s 0 a b l = (l, a, b) := rfl
theorem entC_step (s : ByteArray) (k a : Nat) (l : List En) : entC s (k + 1) a false l = entC s k (sho5P s a false).2.1 (sho5P s a false).2.2 (l ++ [entT (sho5P s a false).1]) := by simp [entC]
theorem entC_len (s : ByteArray) : ∀ (k a : Nat) (b : Bool) (l : List En), (entC s k a b l).1.length ≤ l.length + k
  | 0, a, b, l => Nat.le_refl _
  | k + 1, a, b, l => by
    unfold entC
    split
    · exact Nat.le_add_right _ _
    · have := entC_len s k (sho5P s a b).2.1 (sho5P s a b).2.2 (l ++ [entT (sho5P s a b).1])
      rw [List.length_append, List.length_singleton] at this
      omega
theorem entC_sz (s : ByteArray) : ∀ (k a : Nat) (b : Bool) (l : List En), (∀ f ∈ l, f.data.size ≤ s.size) → ∀ f ∈ (entC s k a b l).1, f.data.size ≤ s.size
  | 0, a, b, l, h => h
  | k + 1, a, b, l, h => by
    unfold entC
    split
    · exact h
    · refine entC_sz s k _ _ _ fun f hf => ?_
      rcases List.mem_append.1 hf with hf | hf
      · exact h f hf
      · rw [List.mem_singleton.1 hf]
        exact Nat.le_trans (entT_size _) (sho5P_sz s a b)
/-- What the specification reads of a text: the message, and whether the text was not of its form. -/
def chS (s : ByteArray) : Mg8 × Bool :=
  let r3 := varS s 3 false
  let r4 := varS s r3.2.1 r3.2.2
  let r5 := varS s r4.2.1 r4.2.2
  let r6 := varS s r5.2.1 r5.2.2
  let r7 := takeS s r6.2.1 r6.2.2 1
  let r8 := takeS s r7.2.1 r7.2.2 1
  let r9 := varS s r8.2.1 r8.2.2
  let r10 := entC s (min r9.1 5) r9.2.1 r9.2.2 []
  let r11 := sho5P s r10.2.1 r10.2.2
  let r12 := sho5P s r11.2.1 r11.2.2
  (⟨kAt s 0, kAt s 1, kAt s 2, r3.1, r4.1, r5.1, r6.1, (r7.1.toList == ([1] : List UInt8)), (r8.1.toList == ([1] : List UInt8)), r10.1, r11.1, r12.1⟩, r12.2.2)
theorem chS_fine (s : ByteArray) : (chS s).1.es.length ≤ 5 ∧ ∀ f ∈ (chS s).1.es, f.data.size ≤ s.size := by
  refine ⟨?_, ?_⟩
  · refine Nat.le_trans (entC_len s _ _ _ _) ?_
    simp only [List.length_nil]
    omega
  · exact entC_sz s _ _ _ _ (fun f hf => by cases hf)
theorem take1_list {s : ByteArray} {a : Nat} (h : a < s.size) : (s.extract a (a + 1)).toList = [s[a]] := by
  have hz : (s.extract a (a + 1)).toList.length = 1 := by
    rw [ByteArray.toList_eq]
    show (s.extract a (a + 1)).size = 1
    rw [ByteArray.size_extract]
    omega
  apply List.ext_getElem
  · rw [hz]; rfl
  · intro i h1 h2
    have hi : i = 0 := by simp at h2; omega
    subst hi
    simp only [ByteArray.toList_eq, Array.getElem_toList, ByteArray.data_extract, Array.getElem_extract, Nat.add_zero, List.getElem_singleton]
    rfl
theorem sho5_of {s t : ByteArray} {a b : Nat} (h : shoP s a = some (t, b)) : sho5P s a false = (t, b, false) := by
  obtain ⟨X, Y, hr, h1, h2, rfl, rfl, h3⟩ := shoP_some h
  unfold sho5P
  rw [varS_yes hr]
  exact takeS_yes h2
theorem fla_of {s : ByteArray} {a c : Nat} {f : Bool} (h : flaP s a = some (f, c)) : ∃ t, takeS s a false 1 = (t, c, false) ∧ (t.toList == ([1] : List UInt8)) = f := by
  unfold flaP at h
  split at h
  · rename_i x d e
    unfold oneP at e
    split at e
    · rename_i hl
      simp only [Option.some.injEq, Prod.mk.injEq] at e h
      obtain ⟨rfl, rfl⟩ := e
      obtain ⟨rfl, rfl⟩ := h
      refine ⟨_, takeS_yes (by omega), ?_⟩
      rw [take1_list hl, kAt_in hl, Bool.eq_iff_iff]
      simp only [beq_iff_eq, List.cons.injEq, and_true, decide_eq_true_eq]
      constructor
      · intro h
        rw [h]; rfl
      · intro h
        apply UInt8.toNat_inj.1
        show s[a].toNat = 1
        omega
    · cases e
  · cases h
theorem entC_of {s : ByteArray} : ∀ (k a : Nat) (l : List En) {r : List En} {b : Nat}, entsG s k a l = some (r, b) → entC s k a false l = (r, b, false)
  | 0, a, l, r, b, h => by
    simp only [entsG, Option.some.injEq, Prod.mk.injEq] at h
    rw [← h.1, ← h.2]; rfl
  | k + 1, a, l, r, b, h => by
    unfold entsG at h
    split at h
    · rename_i t c e
      rw [entC_step, sho5_of e]
      exact entC_of k _ _ h
    · cases h
theorem ents_of {s : ByteArray} {a c : Nat} {l : List En} (h : entsP s a = some (l, c)) : ∃ n d, varS s a false = (n, d, false) ∧ entC s (min n 5) d false [] = (l, c, false) := by
  unfold entsP at h
  split at h
  · rename_i n d e
    unfold numU at e
    split at e
    · rename_i x y e2
      split at e
      · rename_i hl
        simp only [Option.some.injEq, Prod.mk.injEq] at e
        obtain ⟨rfl, rfl⟩ := e
        refine ⟨_, _, varS_of e2, ?_⟩
        rw [show min x 5 = x by omega]
        exact entC_of _ _ _ h
      · cases e
    · cases e
  · cases h
theorem oneP_out {s : ByteArray} {a x b : Nat} (h : oneP s a = some (x, b)) : x = kAt s a ∧ b = a + 1 := by
  unfold oneP at h
  split at h
  · simp only [Option.some.injEq, Prod.mk.injEq] at h
    exact ⟨h.1.symm, h.2.symm⟩
  · cases h
/-- What the program reads is what the specification reads. -/
theorem chS_of {s : ByteArray} {y : Mg8} {b : Nat} (h : msgP s 0 = some (y, b)) : chS s = (y, false) := by
  unfold msgP at h
  simp only [Option.bind_eq_some_iff] at h
  obtain ⟨⟨x0, a0⟩, h0, ⟨x1, a1⟩, h1, ⟨x2, a2⟩, h2, ⟨x3, a3⟩, h3, ⟨x4, a4⟩, h4, ⟨x5, a5⟩, h5, ⟨x6, a6⟩, h6, ⟨x7, a7⟩, h7, ⟨x8, a8⟩, h8, ⟨x9, a9⟩, h9, ⟨x10, a10⟩, h10, ⟨x11, a11⟩, h11, h⟩ := h
  simp only [Option.some.injEq, Prod.mk.injEq] at h
  obtain ⟨rfl, rfl⟩ := h
  obtain ⟨rfl, rfl⟩ := oneP_out h0
  obtain ⟨rfl, rfl⟩ := oneP_out h1
  obtain ⟨rfl, rfl⟩ := oneP_out h2
  obtain ⟨t7, e7, f7⟩ := fla_of h7
  obtain ⟨t8, e8, f8⟩ := fla_of h8
  obtain ⟨n, d, e9, e10⟩ := ents_of h9
  have e3 : varS s 3 false = (x3, a3, false) := varS_of h3
  simp only [chS, e3, varS_of h4, varS_of h5, varS_of h6, e7, e8, f7, f8, e9, e10, sho5_of h10, sho5_of h11]
theorem rcM_short {s : ByteArray} (h : s.size < 3) : rcM s = none := by
  have h1 : msgP s 0 = none := by
    cases e : msgP s 0 with
    | none => rfl
    | some r =>
      exfalso
      unfold msgP at e
      simp only [Option.bind_eq_some_iff] at e
      obtain ⟨⟨x0, a0⟩, h0, ⟨x1, a1⟩, h1, ⟨x2, a2⟩, h2, _⟩ := e
      obtain ⟨rfl, rfl⟩ := oneP_out h0
      obtain ⟨rfl, rfl⟩ := oneP_out h1
      unfold oneP at h2
      simp only [] at h2
      split at h2
      · omega
      · cases h2
  unfold rcM rwM
  rw [h1]
/-- An entry comes back from its text. -/
theorem entT_back (f : En) (h : okE f.term f.kind f.data = true) : entT (tx8 f) = f := by
  obtain ⟨t, k, d⟩ := f
  have hx : okX 1 t k d = true := by
    unfold okX
    rw [show okE t k d = true from h]
    rfl
  obtain ⟨h1, h2, h3, h4, h5, h6, h7⟩ := okX_out hx
  obtain ⟨T, rfl⟩ : ∃ T : Nat, t = (T : Int) := ⟨t.toNat, by omega⟩
  obtain ⟨K, rfl⟩ : ∃ K : Nat, k = (K : Int) := ⟨k.toNat, by omega⟩
  have he : tx8 ⟨T, K, d⟩ = textE 1 T K d := by
    unfold tx8 textX
    rw [hx]; rfl
  rw [he]
  obtain ⟨s, hs⟩ : ∃ s, textE 1 T K d = s := ⟨_, rfl⟩
  rw [hs]
  obtain ⟨Q, hQ⟩ : ∃ Q, bstr (varI T) = Q := ⟨_, rfl⟩
  have hs1 : s = (⟨#[69]⟩ : ByteArray) ++ bstr (varI 1) ++ (Q ++ bstr [(K : Int)] ++ d) := by
    rw [← hs, ← hQ]
    unfold textE rawE
    simp [ByteArray.append_assoc]
  have v1 : (varI 1).length = 1 := by rw [varI_last (by omega)]; rfl
  have r1 : rv s 1 = (((1 : Nat) : Int), ((2 : Nat) : Int), true) := by
    have := rv_back ⟨#[69]⟩ (Q ++ bstr [(K : Int)] ++ d) 1 (by omega)
    rw [← hs1, v1] at this
    exact this
  obtain ⟨P, hP⟩ : ∃ P, (⟨#[69]⟩ : ByteArray) ++ bstr (varI 1) = P := ⟨_, rfl⟩
  have hPz : P.size = 2 := by
    rw [← hP, ByteArray.size_append, bstr_sz, v1]; rfl
  have hs2 : s = P ++ bstr (varI T) ++ (bstr [(K : Int)] ++ d) := by
    rw [hs1, hP, hQ]
    simp [ByteArray.append_assoc]
  have hs3 : s = (P ++ Q) ++ bstr [(K : Int)] ++ d := by
    rw [hs1, hP]
    simp [ByteArray.append_assoc]
  obtain ⟨A, hA⟩ : ∃ A : Nat, A = (P ++ Q).size := ⟨_, rfl⟩
  have hAQ : A = 2 + (varI T).length := by
    rw [hA, ByteArray.size_append, hPz, ← hQ, bstr_sz]
  have r2 : rv s 2 = ((T : Int), (A : Int), true) := by
    have := rv_back P (bstr [(K : Int)] ++ d) T (by omega)
    rw [← hs2, hPz] at this
    rw [hAQ]
    exact this
  have hz : s.size = A + 1 + d.size := by
    rw [hs3, ByteArray.size_append, ByteArray.size_append, ← hA, bstr_sz]; rfl
  have hk : kAt s A = K := by
    have := oneP_back (s := s) (P ++ Q) d (K : Int) (by omega) (by omega) hs3 hA rfl
    have := (oneP_out this).1
    rw [← this]
    omega
  have hd : dAt s A = d := by
    unfold dAt
    have := extract_mid ((P ++ Q) ++ bstr [(K : Int)]) d ByteArray.empty
    rw [show (P ++ Q) ++ bstr [(K : Int)] ++ d ++ ByteArray.empty = s by rw [hs3]; simp, ByteArray.size_append, ← hA, bstr_sz] at this
    rw [show s.size = A + 1 + d.size from hz]
    exact this
  have hf : okF s 1 T A = true := by
    unfold okF
    rw [hk, hd]
    unfold textX
    rw [show okX ((1 : Nat) : Int) (T : Int) (K : Int) d = true from hx]
    simp only [Bool.true_and, if_true]
    rw [show textE ((1 : Nat) : Int) (T : Int) (K : Int) d = s from hs]
    exact beq_self_eq_true _
  have r1' : rv s 1 = (1, 2, true) := r1
  unfold entT
  rw [r1']
  simp only []
  rw [r2]
  simp only []
  rw [if_pos ⟨trivial, trivial, by omega⟩]
  unfold finE
  rw [show (1 : Int).toNat = 1 from rfl, Int.toNat_natCast, Int.toNat_natCast, hf, if_pos rfl, hk, hd]
theorem ents_back {s : ByteArray} : ∀ (es : List En) (A B : ByteArray) (l : List En), (∀ f ∈ es, okE f.term f.kind f.data = true) → s = A ++ shoS (es.map tx8) ++ B → entsG s es.length A.size l = some (l ++ es, A.size + (shoS (es.map tx8)).size)
  | [], A, B, l, h, e => by
    simp [entsG, shoS]
  | f :: r, A, B, l, h, e => by
    have hf := h f List.mem_cons_self
    have hx : okX 1 f.term f.kind f.data = true := by
      unfold okX
      rw [hf]
      rfl
    have hz := tx8_size f (by have := (okX_out hx).2.2.2.2.2.1; omega)
    have e2 : s = A ++ shortS (tx8 f) ++ (shoS (r.map tx8) ++ B) := by
      rw [e]
      simp [shoS, ByteArray.append_assoc]
    have h1 := shoP_back A (tx8 f) (shoS (r.map tx8) ++ B) (by omega) e2 rfl rfl
    rw [List.length_cons, entsG_some h1, entT_back f hf]
    have e3 : s = (A ++ shortS (tx8 f)) ++ shoS (r.map tx8) ++ B := by
      rw [e2]
      simp [ByteArray.append_assoc]
    have := ents_back r (A ++ shortS (tx8 f)) B (l ++ [f]) (fun g hg => h g (List.mem_cons_of_mem _ hg)) e3
    rw [ByteArray.size_append] at this
    rw [this]
    simp only [List.append_assoc, List.singleton_append, List.map_cons, shoS, ByteArray.size_append, Nat.add_assoc]
theorem risesU_ok (tm : Int) : ∀ (l : List En) (a : Int), risesU tm a l = true → ∀ f ∈ l, okE f.term f.kind f.data = true
  | [], a, _, f, hf => by cases hf
  | e :: r, a, h, f, hf => by
    simp only [risesU, Bool.and_eq_true] at h
    rcases List.mem_cons.1 hf with rfl | hf
    · exact h.1
    · exact risesU_ok tm r _ h.2.2.2 f hf
theorem okM_ents {kd fr up tm ix lt cm : Int} {da : ByteArray} {la : Bool} {es : List En} {cs : List Int} (h : okM kd fr up tm ix lt cm da la es cs = true) : ∀ f ∈ es, okE f.term f.kind f.data = true := by
  rw [okM_eq] at h
  unfold okMs sendS at h
  simp only [Bool.and_eq_true] at h
  exact risesU_ok _ _ _ h.2.1.2.2
theorem flaP_back {s : ByteArray} (a b : ByteArray) (f : Bool) (he : s = a ++ bstr [if f then 1 else 0] ++ b) {p q : Nat} (hp : p = a.size) (hq : q = a.size + (bstr [if f then (1 : Int) else 0]).size) : flaP s p = some (f, q) := by
  unfold flaP
  rw [oneP_back a b (if f then 1 else 0) (by split <;> omega) (by split <;> omega) he hp hq]
  cases f <;> simp
/-- What is written of a right message is read as it, its conf as it is written. -/
theorem rwM_back (x : Mg8) (hx : okX8 x = true) : rwM (enX8 x) = some { x with c := textC (confT x.c) } := by
  obtain ⟨kd, fr, up, tm, ix, lt, cm, ok, la, es, c, da⟩ := x
  have hf := okM_fine (show okM (kd : Int) (fr : Int) (up : Int) (tm : Int) (ix : Int) (lt : Int) (cm : Int) da la es (confT c) = true from hx)
  have hes := okM_ents (show okM (kd : Int) (fr : Int) (up : Int) (tm : Int) (ix : Int) (lt : Int) (cm : Int) da la es (confT c) = true from hx)
  obtain ⟨k0, k1, f0, f1, u0, u1, t0, t1, l0, l1, i0, i1, c0, c1, e1, d1⟩ := hf
  obtain ⟨s, hs⟩ : ∃ s, enX8 ⟨kd, fr, up, tm, ix, lt, cm, ok, la, es, c, da⟩ = s := ⟨_, rfl⟩
  rw [hs]
  have hs2 : s = bstr [(kd : Int)] ++ bstr [(fr : Int)] ++ bstr [(up : Int)] ++ bstr (varI tm) ++ bstr (varI ix) ++ bstr (varI lt) ++ bstr (varI cm) ++ bstr [if ok then (1 : Int) else 0] ++ bstr [if la then (1 : Int) else 0] ++ bstr (varI es.length) ++ shoS (es.map tx8) ++ shortS (textC (confT c)) ++ shortS da := by
    rw [← hs]
    unfold enX8 encS
    rw [bstr_three, flagS_one, flagS_one]
    simp only [Int.toNat_natCast]
  obtain ⟨A0, h0⟩ : ∃ A, bstr [(kd : Int)] = A := ⟨_, rfl⟩
  obtain ⟨A1, h1⟩ : ∃ A, bstr [(fr : Int)] = A := ⟨_, rfl⟩
  obtain ⟨A2, h2⟩ : ∃ A, bstr [(up : Int)] = A := ⟨_, rfl⟩
  obtain ⟨A3, h3⟩ : ∃ A, bstr (varI tm) = A := ⟨_, rfl⟩
  obtain ⟨A4, h4⟩ : ∃ A, bstr (varI ix) = A := ⟨_, rfl⟩
  obtain ⟨A5, h5⟩ : ∃ A, bstr (varI lt) = A := ⟨_, rfl⟩
  obtain ⟨A6, h6⟩ : ∃ A, bstr (varI cm) = A := ⟨_, rfl⟩
  obtain ⟨A7, h7⟩ : ∃ A, bstr [if ok then (1 : Int) else 0] = A := ⟨_, rfl⟩
  obtain ⟨A8, h8⟩ : ∃ A, bstr [if la then (1 : Int) else 0] = A := ⟨_, rfl⟩
  obtain ⟨A9, h9⟩ : ∃ A, bstr (varI es.length) = A := ⟨_, rfl⟩
  obtain ⟨A10, h10⟩ : ∃ A, shoS (es.map tx8) = A := ⟨_, rfl⟩
  obtain ⟨A11, h11⟩ : ∃ A, shortS (textC (confT c)) = A := ⟨_, rfl⟩
  obtain ⟨A12, h12⟩ : ∃ A, shortS da = A := ⟨_, rfl⟩
  rw [h0, h1, h2, h3, h4, h5, h6, h7, h8, h9, h10, h11, h12] at hs2
  have hz : s.size = A0.size + A1.size + A2.size + A3.size + A4.size + A5.size + A6.size + A7.size + A8.size + A9.size + A10.size + A11.size + A12.size := by rw [hs2]; simp only [ByteArray.size_append]
  have r0 : oneP s 0 = some (kd, A0.size) := by
    have := oneP_back (s := s) ByteArray.empty (A1 ++ A2 ++ A3 ++ A4 ++ A5 ++ A6 ++ A7 ++ A8 ++ A9 ++ A10 ++ A11 ++ A12) (kd : Int) (by omega) (by omega) (by rw [h0, hs2]; simp [ByteArray.append_assoc]) (p := 0) rfl rfl
    rw [h0] at this
    simpa using this
  have r1 : oneP s (A0.size) = some (fr, A0.size + A1.size) := by
    have := oneP_back (s := s) (A0) (A2 ++ A3 ++ A4 ++ A5 ++ A6 ++ A7 ++ A8 ++ A9 ++ A10 ++ A11 ++ A12) (fr : Int) (by omega) (by omega) (by rw [h1, hs2]; simp [ByteArray.append_assoc]) (p := A0.size) rfl rfl
    rw [h1] at this
    simpa [ByteArray.size_append] using this
  have r2 : oneP s (A0.size + A1.size) = some (up, A0.size + A1.size + A2.size) := by
    have := oneP_back (s := s) (A0 ++ A1) (A3 ++ A4 ++ A5 ++ A6 ++ A7 ++ A8 ++ A9 ++ A10 ++ A11 ++ A12) (up : Int) (by omega) (by omega) (by rw [h2, hs2]; simp [ByteArray.append_assoc]) (p := A0.size + A1.size) (by simp only [ByteArray.size_append]) rfl
    rw [h2] at this
    simpa [ByteArray.size_append] using this
  have r3 : numP s (A0.size + A1.size + A2.size) = some (tm, A0.size + A1.size + A2.size + A3.size) := numP_back (A0 ++ A1 ++ A2) (A4 ++ A5 ++ A6 ++ A7 ++ A8 ++ A9 ++ A10 ++ A11 ++ A12) tm (by omega) (by rw [h3, hs2]; simp [ByteArray.append_assoc]) (by simp only [ByteArray.size_append]) (by rw [h3]; simp only [ByteArray.size_append])
  have r4 : numP s (A0.size + A1.size + A2.size + A3.size) = some (ix, A0.size + A1.size + A2.size + A3.size + A4.size) := numP_back (A0 ++ A1 ++ A2 ++ A3) (A5 ++ A6 ++ A7 ++ A8 ++ A9 ++ A10 ++ A11 ++ A12) ix (by omega) (by rw [h4, hs2]; simp [ByteArray.append_assoc]) (by simp only [ByteArray.size_append]) (by rw [h4]; simp only [ByteArray.size_append])
  have r5 : numP s (A0.size + A1.size + A2.size + A3.size + A4.size) = some (lt, A0.size + A1.size + A2.size + A3.size + A4.size + A5.size) := numP_back (A0 ++ A1 ++ A2 ++ A3 ++ A4) (A6 ++ A7 ++ A8 ++ A9 ++ A10 ++ A11 ++ A12) lt (by omega) (by rw [h5, hs2]; simp [ByteArray.append_assoc]) (by simp only [ByteArray.size_append]) (by rw [h5]; simp only [ByteArray.size_append])
  have r6 : numP s (A0.size + A1.size + A2.size + A3.size + A4.size + A5.size) = some (cm, A0.size + A1.size + A2.size + A3.size + A4.size + A5.size + A6.size) := numP_back (A0 ++ A1 ++ A2 ++ A3 ++ A4 ++ A5) (A7 ++ A8 ++ A9 ++ A10 ++ A11 ++ A12) cm (by omega) (by rw [h6, hs2]; simp [ByteArray.append_assoc]) (by simp only [ByteArray.size_append]) (by rw [h6]; simp only [ByteArray.size_append])
  have r7 : flaP s (A0.size + A1.size + A2.size + A3.size + A4.size + A5.size + A6.size) = some (ok, A0.size + A1.size + A2.size + A3.size + A4.size + A5.size + A6.size + A7.size) := flaP_back (A0 ++ A1 ++ A2 ++ A3 ++ A4 ++ A5 ++ A6) (A8 ++ A9 ++ A10 ++ A11 ++ A12) ok (by rw [h7, hs2]; simp [ByteArray.append_assoc]) (by simp only [ByteArray.size_append]) (by rw [h7]; simp only [ByteArray.size_append])
  have r8 : flaP s (A0.size + A1.size + A2.size + A3.size + A4.size + A5.size + A6.size + A7.size) = some (la, A0.size + A1.size + A2.size + A3.size + A4.size + A5.size + A6.size + A7.size + A8.size) := flaP_back (A0 ++ A1 ++ A2 ++ A3 ++ A4 ++ A5 ++ A6 ++ A7) (A9 ++ A10 ++ A11 ++ A12) la (by rw [h8, hs2]; simp [ByteArray.append_assoc]) (by simp only [ByteArray.size_append]) (by rw [h8]; simp only [ByteArray.size_append])
  have r9 : numP s (A0.size + A1.size + A2.size + A3.size + A4.size + A5.size + A6.size + A7.size + A8.size) = some (es.length, A0.size + A1.size + A2.size + A3.size + A4.size + A5.size + A6.size + A7.size + A8.size + A9.size) := numP_back (A0 ++ A1 ++ A2 ++ A3 ++ A4 ++ A5 ++ A6 ++ A7 ++ A8) (A10 ++ A11 ++ A12) es.length (by omega) (by rw [h9, hs2]; simp [ByteArray.append_assoc]) (by simp only [ByteArray.size_append]) (by rw [h9]; simp only [ByteArray.size_append])
  have r10 : entsP s (A0.size + A1.size + A2.size + A3.size + A4.size + A5.size + A6.size + A7.size + A8.size) = some (es, A0.size + A1.size + A2.size + A3.size + A4.size + A5.size + A6.size + A7.size + A8.size + A9.size + A10.size) := by
    unfold entsP numU
    rw [r9]
    simp only []
    rw [if_pos e1]
    have := ents_back (s := s) es (A0 ++ A1 ++ A2 ++ A3 ++ A4 ++ A5 ++ A6 ++ A7 ++ A8 ++ A9) (A11 ++ A12) [] hes (by rw [h10, hs2]; simp [ByteArray.append_assoc])
    rw [h10] at this
    simpa [ByteArray.size_append] using this
  have r11 : shoP s (A0.size + A1.size + A2.size + A3.size + A4.size + A5.size + A6.size + A7.size + A8.size + A9.size + A10.size) = some ((textC (confT c)), A0.size + A1.size + A2.size + A3.size + A4.size + A5.size + A6.size + A7.size + A8.size + A9.size + A10.size + A11.size) := shoP_back (A0 ++ A1 ++ A2 ++ A3 ++ A4 ++ A5 ++ A6 ++ A7 ++ A8 ++ A9 ++ A10) (textC (confT c)) (A12) (by have := textC_size (confT c); omega) (by rw [h11, hs2]) (by simp only [ByteArray.size_append]) (by rw [h11]; simp only [ByteArray.size_append])
  have r12 : shoP s (A0.size + A1.size + A2.size + A3.size + A4.size + A5.size + A6.size + A7.size + A8.size + A9.size + A10.size + A11.size) = some (da, A0.size + A1.size + A2.size + A3.size + A4.size + A5.size + A6.size + A7.size + A8.size + A9.size + A10.size + A11.size + A12.size) := shoP_back (A0 ++ A1 ++ A2 ++ A3 ++ A4 ++ A5 ++ A6 ++ A7 ++ A8 ++ A9 ++ A10 ++ A11) da (ByteArray.empty) (by omega) (by rw [h12, hs2]; simp [ByteArray.append_assoc]) (by simp only [ByteArray.size_append]) (by rw [h12]; simp only [ByteArray.size_append])
  unfold rwM msgP
  simp [r0, r1, r2, r3, r4, r5, r6, r7, r8, r10, r11, r12, hz]
/-- What the specification reads of a text and holds right is what the program does. -/
theorem rcM_chS (s : ByteArray) : rcM s = if (chS s).2 = false ∧ okX8 (chS s).1 = true ∧ enX8 (chS s).1 = s then some (chS s).1 else none := by
  split
  · rename_i h
    obtain ⟨h1, h2, h3⟩ := h
    have hb := rwM_back _ h2
    rw [h3] at hb
    have hy : ({ (chS s).1 with c := textC (confT (chS s).1.c) } : Mg8) = (chS s).1 := by
      have hb2 := hb
      unfold rwM at hb2
      split at hb2
      · rename_i y b hy
        split at hb2
        · injection hb2 with hb2
          subst hb2
          exact (congrArg Prod.fst (chS_of hy)).symm
        · cases hb2
      · cases hb2
    unfold rcM
    rw [hb, hy]
    simp only []
    rw [if_pos ⟨h2, h3⟩]
  · rename_i h
    symm
    unfold rcM
    split
    · rename_i x hx
      split
      · rename_i hc
        exfalso
        unfold rwM at hx
        split at hx
        · rename_i y b hy
          split at hx
          · injection hx with hx
            subst hx
            rw [chS_of hy] at h
            exact h ⟨rfl, hc.1, hc.2⟩
          · cases hx
        · cases hx
      · rfl
    · rfl
/-- What writing it comes to. -/
theorem encX_forms (x : Mg8) : ∃ (T : ByteArray) (q : Bool), encV (x.kd : Int) (x.fr : Int) (x.up : Int) (x.tm : Int) (x.ix : Int) (x.lt : Int) (x.cm : Int) x.ok x.da x.la x.es (confT x.c) = .tuple #[.string T, .bool q] ∧ q = okX8 x ∧ (q = true → T = enX8 x) := by
  unfold encV
  cases h : okM (x.kd : Int) (x.fr : Int) (x.up : Int) (x.tm : Int) (x.ix : Int) (x.lt : Int) (x.cm : Int) x.da x.la x.es (confT x.c) with
  | true => exact ⟨_, true, rfl, h.symm, fun _ => rfl⟩
  | false => exact ⟨_, false, rfl, h.symm, fun h => by cases h⟩
end Go.Proofs.YtgjamikmjknlfaaDoor

namespace Go.Proofs.YtgjamikmjknlfaaDoor
open Go Go.RowKit

section
variable {P : Program} {ops : Array Oper} {md : Region.Mode} {C : World → Prop}

/-- Whatever order is picked, as long as 'fuel' operations come up; then all that are listed are L, and R. -/
def wpAnyT (P : Program) (md : Region.Mode) (ops : Array Oper) (C : World → Prop) (L : Array Bool) (R : Act → Prop) : Nat → Array Bool → Act → Prop
  | 0, listed, a => listed = L ∧ R a
  | fuel + 1, listed, a => Region.ready md ops listed ≠ [] ∧ ∀ i ∈ Region.ready md ops listed, qOp P ops C i (wpAnyT P md ops C L R fuel (listed.setIfInBounds i true)) a

theorem wpAnyT_first {R : Act → Prop} {L : Array Bool} {m i : Nat} {oi : Oper} {v : Value} (hi : ops[i]? = some oi) (hsel : ∀ (j : Nat) (o : Oper) cs b, ops[j]? = some o → o.op ≠ .select cs b)
    (hL : ∀ j ∈ Region.ready md ops L, j = m) (hwait : ∀ om, ops[m]? = some om → ∃ e ∈ om.after, Region.binds md e = true ∧ e.on = i) :
    ∀ (fuel : Nat) (listed : Array Bool) (a : Act),
      (∀ j oj, ops[j]? = some oj → j ≠ i → listed.getD j true = false → (∀ e ∈ oj.after, Region.binds md e = true → e.on ≠ i) → oi.apart ops oj = true) →
      i ∈ Region.ready md ops listed → YieldsIn P ops C oi v a →
      wpAnyT P md ops C L R fuel (listed.setIfInBounds i true) (a.put oi.dst v) → wpAnyT P md ops C L R (fuel + 1) listed a := by
  intro fuel
  induction fuel with
  | zero =>
    intro listed a _ hr hy H
    refine ⟨fun h => (by rw [h] at hr; cases hr), fun j hj => ?_⟩
    by_cases hji : j = i
    · subst hji; exact hy.qOp hi H
    · have h1 := ready_mono hj hji
      rw [H.1] at h1
      have hjm := hL j h1
      subst hjm
      obtain ⟨hjun, oj, hoj, hall⟩ := mem_ready.1 hj
      obtain ⟨e, he, hb, heq⟩ := hwait oj hoj
      have h2 := hall e he hb
      have h0 := (mem_ready.1 hr).1
      rw [heq] at h2
      rcases Nat.lt_or_ge i listed.size with h' | h'
      · simp [h'] at h0 h2; rw [h0] at h2; cases h2
      · simp [Array.getElem?_eq_none h'] at h2
  | succ fuel ih =>
    intro listed a hfree hr hy H
    refine ⟨fun h => (by rw [h] at hr; cases hr), fun j hj => ?_⟩
    by_cases hji : j = i
    · subst hji; exact hy.qOp hi H
    · have h1 := H.2 j (ready_mono hj hji)
      obtain ⟨hjun, oj, hoj, hall⟩ := mem_ready.1 hj
      have hnot : ∀ e ∈ oj.after, Region.binds md e = true → e.on ≠ i := fun e he hb heq => by
        have h1 := hall e he hb
        have h0 := (mem_ready.1 hr).1
        rw [heq] at h1
        rcases Nat.lt_or_ge i listed.size with h' | h'
        · simp [h'] at h0 h1; rw [h0] at h1; cases h1
        · simp [Array.getElem?_eq_none h'] at h1
      have h2 := qOp_put hoj (hfree j oj hoj hji hjun hnot) (fun cs b => hsel i oi cs b hi) (fun cs b => hsel j oj cs b hoj) hy h1
      have hfree' : ∀ k ok, ops[k]? = some ok → k ≠ i → (listed.setIfInBounds j true).getD k true = false →
          (∀ e ∈ ok.after, Region.binds md e = true → e.on ≠ i) → oi.apart ops ok = true := fun k ok hk hki hun hno => by
        refine hfree k ok hk hki ?_ hno
        by_cases hjk : j = k
        · subst hjk; exact hjun
        · rw [getD_set_ne true hjk] at hun; exact hun
      refine qOp_mono (fun a' h3 => ih (listed.setIfInBounds j true) a' hfree' (ready_mono hr (Ne.symm hji)) h3.1 ?_) h2
      rw [Array.setIfInBounds_comm _ _ hji]
      exact h3.2

/-- The first operations in the order of the text: each may come up, and is free; behind them the listing is L. -/
def lexTo (md : Region.Mode) (ops : Array Oper) (L : Array Bool) : Nat → Nat → Array Bool → Bool
  | 0, _, listed => decide (listed = L)
  | fuel + 1, k, listed => (Region.ready md ops listed).contains k && Region.free md ops listed k && lexTo md ops L fuel (k + 1) (listed.setIfInBounds k true)
/-- Operation m waits for each of the first ones. -/
def waitsAll (md : Region.Mode) (ops : Array Oper) (m : Nat) : Bool :=
  (List.range m).all fun i => match ops[m]? with
    | none => true
    | some om => om.after.any fun e => Region.binds md e && e.on == i

theorem wpAnyT_lex {R : Act → Prop} {L : Array Bool} {m : Nat} (hs : Region.noSelect ops = true) (hL : ∀ j ∈ Region.ready md ops L, j = m) (hw : waitsAll md ops m = true) : ∀ (l : List Oper) (k : Nat) (listed : Array Bool) (a : Act), k + l.length = m → (∀ j, j < l.length → l[j]? = ops[k + j]?) →
    lexTo md ops L l.length k listed = true → wpQuiet P ops C R l a → wpAnyT P md ops C L R l.length listed a
  | [], _, _, _, _, _, hB, h => ⟨by simpa [lexTo] using hB, h⟩
  | o :: l, k, listed, a, hk, hl, hB, h => by
    have h0 : ops[k]? = some o := by simpa using (hl 0 (by simp)).symm
    simp only [List.length_cons, lexTo, Bool.and_eq_true] at hB
    obtain ⟨⟨hr, hf⟩, hB'⟩ := hB
    have hst : qOp P ops C k (wpQuiet P ops C R l) a := by unfold qOp; simp only [h0]; exact h
    obtain ⟨v, hy, hK⟩ := yieldsIn_of_qOp h0 hst
    refine wpAnyT_first h0 (Region.noSelect_spec hs) hL (fun om hom => ?_) l.length listed a (Region.free_spec h0 hf) (by simpa using hr) hy
      (wpAnyT_lex hs hL hw l (k + 1) _ _ (by simp at hk; omega) (fun j hj => by have := hl (j + 1) (by simpa using hj); simpa [Nat.add_assoc, Nat.add_comm 1 j] using this) hB' hK)
    unfold waitsAll at hw
    rw [List.all_eq_true] at hw
    have := hw k (List.mem_range.2 (by simp at hk; omega))
    rw [hom] at this
    simp only [Array.any_eq_true', Bool.and_eq_true, beq_iff_eq] at this
    obtain ⟨e, he, hb, heq⟩ := this
    exact ⟨e, he, hb, heq⟩

theorem wpAny_of_T {R : Act → Prop} {L : Array Bool} {Q' : Exit → Act → World → Prop} {f : Nat} (hR : ∀ a w, C w → R a → wpAny P md ops Q' f L a w) : ∀ (fuel : Nat) (listed : Array Bool) (a : Act) (w : World), C w →
    wpAnyT P md ops C L R fuel listed a → wpAny P md ops Q' (f + fuel) listed a w
  | 0, _, _, _, hw, h => by obtain ⟨rfl, h⟩ := h; exact hR _ _ hw h
  | fuel + 1, _, _, _, hw, h => ⟨fun h0 => absurd h0 h.1, fun i hi => wpOp_of_qOp hw (fun a' w' hw' => wpAny_of_T hR fuel _ a' w' hw') (h.2 i hi)⟩

/-- The last operations can come up in one order alone. -/
def forcedB (md : Region.Mode) (ops : Array Oper) : Nat → Nat → Array Bool → Bool
  | 0, _, listed => decide (Region.ready md ops listed = [])
  | fuel + 1, k, listed => decide (Region.ready md ops listed = [k]) && forcedB md ops fuel (k + 1) (listed.setIfInBounds k true)

theorem wpAny_forced {Q : Exit → Act → World → Prop} : ∀ (l : List Oper) (k : Nat) (listed : Array Bool) (a : Act) (w : World), (∀ j, j < l.length → l[j]? = ops[k + j]?) →
    forcedB md ops l.length k listed = true → wpList P ops Q l a w → wpAny P md ops Q l.length listed a w
  | [], _, _, _, _, _, hB, h => ⟨by simpa [forcedB] using hB, h⟩
  | o :: l, k, listed, a, w, hl, hB, h => by
    have h0 : ops[k]? = some o := by simpa using (hl 0 (by simp)).symm
    simp only [List.length_cons, forcedB, Bool.and_eq_true, decide_eq_true_eq] at hB
    refine wpAny_all hB.1 (by simp) fun i hi => ?_
    simp only [List.mem_singleton] at hi
    subst hi
    have h1 : wpOp P ops Q i (wpList P ops Q l) a w := by unfold wpOp; simp only [h0]; exact h
    exact wpOp_mono (fun a' w' h' => wpAny_forced l (i + 1) _ a' w' (fun j hj => by have := hl (j + 1) (by simpa using hj); simpa [Nat.add_assoc, Nat.add_comm 1 j] using this) hB.2 h') h1

/-- The kernel's look at a region that is parted behind its first m operations. -/
def tailB (md : Region.Mode) (ops : Array Oper) (m : Nat) : Bool :=
  let L := (Array.range ops.size).map fun i => decide (i < m)
  Region.noSelect ops && (Region.ready md ops L).all (· == m) && waitsAll md ops m && lexTo md ops L m 0 (Array.replicate ops.size false) && forcedB md ops (ops.size - m) m L

theorem wp_region_tail {id : Nat} {Q : Exit → Act → World → Prop} {a : Act} {w : World} {l : List Oper} (m : Nat) (hm : P.follows .mixedOrders = true) (hml : m ≤ l.length) (hB : tailB .any l.toArray m = true)
    (h : wpQuiet P l.toArray (fun w' => ∃ x : Wd w, w' = x.at') (fun a' => ∀ w', (∃ x : Wd w, w' = x.at') → wpList P l.toArray Q (l.drop m) a' w') (l.take m) a) : (Code.region id l.toArray true).wp P Q a w := by
  simp only [tailB, Bool.and_eq_true] at hB
  obtain ⟨⟨⟨⟨h1, h2⟩, h3⟩, h4⟩, h5⟩ := hB
  refine wp_region_any hm ?_
  have hlen : (l.take m).length = m := by simp; omega
  have hdrop : (l.drop m).length = l.length - m := by simp
  have hT := wpAnyT_lex (P := P) (C := fun w' => ∃ x : Wd w, w' = x.at') (md := .any) h1 (fun j hj => by
    rw [List.all_eq_true] at h2
    simpa using h2 j hj) h3 (l.take m) 0 (Array.replicate l.toArray.size false) a (by omega) (fun j hj => by
      rw [List.getElem?_take]
      have : j < m := by omega
      simp [this]) (by rw [hlen]; exact h4) h
  have := wpAny_of_T (Q' := Q) (f := (l.drop m).length) (fun a' w' hw' hR => wpAny_forced (md := .any) (l.drop m) m _ a' w' (fun j hj => by simp) (by rw [hdrop]; simpa using h5) (hR w' hw')) (l.take m).length _ a { w with drawn := w.drawn + 1 } ⟨⟨_, (Below.refl _ w).drew⟩, rfl⟩ hT
  have e : (l.drop m).length + (l.take m).length = l.toArray.size := by simp; omega
  rw [e] at this
  exact this
end
end Go.Proofs.YtgjamikmjknlfaaDoor

namespace Go.Proofs.YtgjamikmjknlfaaDoor
open Go Go.RowKit

/-- Operations that yield a value, or halt. -/
def valueOp : Op → Bool
  | .move _ | .assign _ | .pick .. | .build .. | .load .. | .binOp .. | .unOp .. | .convert .. | .slice .. | .fieldAddr .. | .field .. | .indexAddr .. | .index .. | .lookup .. | .extract .. => true
  | _ => false

theorem andThen_value {s : Result Value} {n : Next} {w' : World} (h : (s.andThen fun a w => Result.ok (Next.value a) w) = .ok n w') : ∃ v, n = .value v := by
  cases s with
  | ok v w => simp only [Result.andThen, Result.ok.injEq] at h; exact ⟨v, h.1.symm⟩
  | halt x w => simp [Result.andThen] at h

theorem value_only {P : Program} {o : Oper} (h : valueOp o.op = true) {ρ : Operand → Value} {w w' : World} {n : Next} (hr : (execOp ρ o).run P w = .ok n w') : ∃ v, n = .value v := by
  unfold execOp at hr
  cases ho : o.op <;> rw [ho] at h hr <;> first
    | (simp [valueOp] at h; done)
    | (simp only [Sem.run_pure, Result.ok.injEq] at hr; exact ⟨_, hr.1.symm⟩)
    | (simp only [Sem.run_bind, Sem.run_pure] at hr; exact andThen_value hr)
    | (simp only [Sem.run_bind, Sem.run_pure] at hr
       generalize hs : (asBool _).run P w = s at hr
       cases s with
       | ok v w => simp only [Result.andThen, Result.ok.injEq] at hr; exact ⟨_, hr.1.symm⟩
       | halt x w => simp [Result.andThen] at hr)

section
variable {P : Program} {ops : Array Oper} {md : Region.Mode} {C : World → Prop} {Q : Exit → Act → World → Prop}

theorem yieldsIf_of_in {o : Oper} {v : Value} {a : Act} (h : valueOp o.op = true) (hy : YieldsIn P ops C o v a) : YieldsIf P ops C o v a := by
  rcases hy with ⟨hw, hq⟩ | h2
  · refine .inl ⟨hw, fun w hC => ?_⟩
    have h3 := hq w hC
    unfold Oper.quietAt at h3
    cases hr : (execOp a.eval o).run P w with
    | ok n w' =>
      obtain ⟨u, rfl⟩ := value_only h hr
      rw [hr] at h3
      simp only [Oper.quietUpon] at h3
      rw [h3.1, h3.2]
    | halt x w' => rw [hr] at h3; simp only [Oper.quietUpon] at h3
  · exact .inr h2

/-- Whatever order is picked, as long as 'fuel' operations come up, C holding behind each; then all that are listed are L, and R. -/
def wpAnyU (P : Program) (md : Region.Mode) (ops : Array Oper) (Q : Exit → Act → World → Prop) (C : World → Prop) (L : Array Bool) (R : Act → World → Prop) : Nat → Array Bool → Act → World → Prop
  | 0, listed, a, w => listed = L ∧ R a w
  | fuel + 1, listed, a, w => Region.ready md ops listed ≠ [] ∧ ∀ i ∈ Region.ready md ops listed, wpOp P ops Q i (fun a' w' => C w' ∧ wpAnyU P md ops Q C L R fuel (listed.setIfInBounds i true) a' w') a w

theorem wpAny_of_U {R : Act → World → Prop} {L : Array Bool} {f : Nat} (hR : ∀ a w, R a w → wpAny P md ops Q f L a w) : ∀ (fuel : Nat) (listed : Array Bool) (a : Act) (w : World),
    wpAnyU P md ops Q C L R fuel listed a w → wpAny P md ops Q (f + fuel) listed a w
  | 0, _, _, _, h => by obtain ⟨rfl, h⟩ := h; exact hR _ _ h
  | fuel + 1, _, _, _, h => ⟨fun h0 => absurd h0 h.1, fun i hi => wpOp_mono (fun a' w' h' => wpAny_of_U hR fuel _ a' w' h'.2) (h.2 i hi)⟩

theorem wpAnyU_first {R : Act → World → Prop} {L : Array Bool} {m i : Nat} {oi : Oper} {v : Value} (hi : ops[i]? = some oi) (hsel : ∀ (j : Nat) (o : Oper) cs b, ops[j]? = some o → o.op ≠ .select cs b)
    (hQ : ∀ c a w, Q (.panic c) (a.put oi.dst v) w → Q (.panic c) a w)
    (hL : ∀ j ∈ Region.ready md ops L, j = m) (hwait : ∀ om, ops[m]? = some om → ∃ e ∈ om.after, Region.binds md e = true ∧ e.on = i) :
    ∀ (fuel : Nat) (listed : Array Bool) (a : Act) (w : World),
      (∀ j oj, ops[j]? = some oj → j ≠ i → listed.getD j true = false → (∀ e ∈ oj.after, Region.binds md e = true → e.on ≠ i) → oi.apart ops oj = true) →
      i ∈ Region.ready md ops listed → YieldsIf P ops C oi v a → C w →
      wpAnyU P md ops Q C L R fuel (listed.setIfInBounds i true) (a.put oi.dst v) w → wpAnyU P md ops Q C L R (fuel + 1) listed a w := by
  intro fuel
  induction fuel with
  | zero =>
    intro listed a w _ hr hy hS H
    refine ⟨fun h => (by rw [h] at hr; cases hr), fun j hj => ?_⟩
    by_cases hji : j = i
    · subst hji; exact hy.wpOp hi hS ⟨hS, H⟩
    · have h1 := ready_mono hj hji
      rw [H.1] at h1
      have hjm := hL j h1
      subst hjm
      obtain ⟨hjun, oj, hoj, hall⟩ := mem_ready.1 hj
      obtain ⟨e, he, hb, heq⟩ := hwait oj hoj
      have h2 := hall e he hb
      have h0 := (mem_ready.1 hr).1
      rw [heq] at h2
      rcases Nat.lt_or_ge i listed.size with h' | h'
      · simp [h'] at h0 h2; rw [h0] at h2; cases h2
      · simp [Array.getElem?_eq_none h'] at h2
  | succ fuel ih =>
    intro listed a w hfree hr hy hS H
    refine ⟨fun h => (by rw [h] at hr; cases hr), fun j hj => ?_⟩
    by_cases hji : j = i
    · subst hji; exact hy.wpOp hi hS ⟨hS, H⟩
    · have h1 := H.2 j (ready_mono hj hji)
      obtain ⟨hjun, oj, hoj, hall⟩ := mem_ready.1 hj
      have hnot : ∀ e ∈ oj.after, Region.binds md e = true → e.on ≠ i := fun e he hb heq => by
        have h1 := hall e he hb
        have h0 := (mem_ready.1 hr).1
        rw [heq] at h1
        rcases Nat.lt_or_ge i listed.size with h' | h'
        · simp [h'] at h0 h1; rw [h0] at h1; cases h1
        · simp [Array.getElem?_eq_none h'] at h1
      have h2 := wpOp_putIf hoj (hfree j oj hoj hji hjun hnot) (fun cs b => hsel i oi cs b hi) (fun cs b => hsel j oj cs b hoj) hQ hy h1
      have hfree' : ∀ k ok, ops[k]? = some ok → k ≠ i → (listed.setIfInBounds j true).getD k true = false →
          (∀ e ∈ ok.after, Region.binds md e = true → e.on ≠ i) → oi.apart ops ok = true := fun k ok hk hki hun hno => by
        refine hfree k ok hk hki ?_ hno
        by_cases hjk : j = k
        · subst hjk; exact hjun
        · rw [getD_set_ne true hjk] at hun; exact hun
      refine wpOp_mono (fun a' w' h3 => ⟨h3.2.1, ih (listed.setIfInBounds j true) a' w' hfree' (ready_mono hr (Ne.symm hji)) h3.1 h3.2.1 ?_⟩) h2
      rw [Array.setIfInBounds_comm _ _ hji]
      exact h3.2.2

/-- Operations one behind the other, C holding behind each. -/
def wpForced (P : Program) (ops : Array Oper) (Q : Exit → Act → World → Prop) (C : World → Prop) (R : Act → World → Prop) : List Oper → Act → World → Prop
  | [], a, w => R a w
  | o :: l, a, w => if Region.wanted o (yielded ops a.tmps) then o.wp P a w (fun a' w' => C w' ∧ wpForced P ops Q C R l a' w') Q ∨ (o.asks P a w ∧ LetsOut Q) else C w ∧ wpForced P ops Q C R l (a.put o.dst undef) w

theorem wpForced_nil {R : Act → World → Prop} {a : Act} {w : World} (h : R a w) : wpForced P ops Q C R [] a w := h
theorem wpForced_cons {R : Act → World → Prop} {o : Oper} {l : List Oper} {a : Act} {w : World} (hg : o.guard = none)
    (h : ∀ K : Act → World → Prop, Hid (∀ a' w', C w' → wpForced P ops Q C R l a' w' → K a' w') → wpList P ops (Exit.then K Q) [o] a w) : wpForced P ops Q C R (o :: l) a w := by
  have h1 := h (fun a' w' => C w' ∧ wpForced P ops Q C R l a' w') (fun a' w' h1 h2 => ⟨h1, h2⟩)
  have hw : Region.wanted o (yielded ops a.tmps) = true := by simp [Region.wanted, hg]
  unfold wpForced
  unfold wpList at h1
  rw [if_pos hw] at h1 ⊢
  exact h1

def forcedTo (md : Region.Mode) (ops : Array Oper) (L : Array Bool) : Nat → Nat → Array Bool → Bool
  | 0, _, listed => decide (listed = L)
  | fuel + 1, k, listed => decide (Region.ready md ops listed = [k]) && forcedTo md ops L fuel (k + 1) (listed.setIfInBounds k true)
def lexMix (md : Region.Mode) (ops : Array Oper) (L : Array Bool) (m2 : Nat) : Nat → Nat → Array Bool → Bool
  | 0, k, listed => forcedTo md ops L (m2 - k) k listed
  | fuel + 1, k, listed => (Region.ready md ops listed).contains k && Region.free md ops listed k && ((ops[k]?).map fun o => valueOp o.op).getD false && lexMix md ops L m2 fuel (k + 1) (listed.setIfInBounds k true)

theorem wpAnyU_forced {R : Act → World → Prop} {L : Array Bool} : ∀ (l : List Oper) (k : Nat) (listed : Array Bool) (a : Act) (w : World), (∀ j, j < l.length → l[j]? = ops[k + j]?) →
    forcedTo md ops L l.length k listed = true → wpForced P ops Q C R l a w → wpAnyU P md ops Q C L R l.length listed a w
  | [], _, _, _, _, _, hB, h => ⟨by simpa [forcedTo] using hB, h⟩
  | o :: l, k, listed, a, w, hl, hB, h => by
    have h0 : ops[k]? = some o := by simpa using (hl 0 (by simp)).symm
    simp only [List.length_cons, forcedTo, Bool.and_eq_true, decide_eq_true_eq] at hB
    refine ⟨by rw [hB.1]; simp, fun i hi => ?_⟩
    rw [hB.1] at hi
    simp only [List.mem_singleton] at hi
    subst hi
    have h1 : wpOp P ops Q i (fun a' w' => C w' ∧ wpForced P ops Q C R l a' w') a w := by unfold wpOp; simp only [h0]; exact h
    exact wpOp_mono (fun a' w' h' => ⟨h'.1, wpAnyU_forced l (i + 1) _ a' w' (fun j hj => by have := hl (j + 1) (by simpa using hj); simpa [Nat.add_assoc, Nat.add_comm 1 j] using this) hB.2 h'.2⟩) h1

theorem wpAnyU_lex {R : Act → World → Prop} {L : Array Bool} {m m2 : Nat} {w : World} (hw : C w) (hs : Region.noSelect ops = true) (hQ : ∀ c a d v w, Q (.panic c) (Act.put a d v) w → Q (.panic c) a w) (hL : ∀ j ∈ Region.ready md ops L, j = m) (hwt : waitsAll md ops m = true)
    (l2 : List Oper) (hm2 : m2 ≤ m) (k2 : Nat) (hk2 : ∀ j, j < l2.length → l2[j]? = ops[k2 + j]?) (hl2 : l2.length = m2 - k2) : ∀ (l : List Oper) (k : Nat) (listed : Array Bool) (a : Act), k + l.length = k2 → k2 ≤ m2 → (∀ j, j < l.length → l[j]? = ops[k + j]?) →
    lexMix md ops L m2 l.length k listed = true → wpQuiet P ops C (fun a' => wpForced P ops Q C R l2 a' w) l a → wpAnyU P md ops Q C L R (l2.length + l.length) listed a w
  | [], k, listed, a, hk, _, _, hB, h => by
    simp only [List.length_nil, Nat.add_zero] at hk ⊢
    subst hk
    simp only [List.length_nil, lexMix] at hB
    rw [← hl2] at hB
    exact wpAnyU_forced l2 k listed a w hk2 hB h
  | o :: l, k, listed, a, hk, hkm, hl, hB, h => by
    have h0 : ops[k]? = some o := by simpa using (hl 0 (by simp)).symm
    simp only [List.length_cons, lexMix, Bool.and_eq_true] at hB
    obtain ⟨⟨⟨hr, hf⟩, hv⟩, hB'⟩ := hB
    rw [h0] at hv
    simp only [Option.map_some, Option.getD_some] at hv
    have hst : qOp P ops C k (wpQuiet P ops C (fun a' => wpForced P ops Q C R l2 a' w) l) a := by unfold qOp; simp only [h0]; exact h
    obtain ⟨v, hy, hK⟩ := yieldsIn_of_qOp h0 hst
    refine wpAnyU_first h0 (Region.noSelect_spec hs) (fun c a w => hQ c a _ _ w) hL (fun om hom => ?_) (l2.length + l.length) listed a w (Region.free_spec h0 hf) (by simpa using hr) (yieldsIf_of_in hv hy) hw
      (wpAnyU_lex hw hs hQ hL hwt l2 hm2 k2 hk2 hl2 l (k + 1) _ _ (by simp at hk; omega) hkm (fun j hj => by have := hl (j + 1) (by simpa using hj); simpa [Nat.add_assoc, Nat.add_comm 1 j] using this) hB' hK)
    unfold waitsAll at hwt
    rw [List.all_eq_true] at hwt
    have := hwt k (List.mem_range.2 (by simp at hk; omega))
    rw [hom] at this
    simp only [Array.any_eq_true', Bool.and_eq_true, beq_iff_eq] at this
    obtain ⟨e, he, hb, heq⟩ := this
    exact ⟨e, he, hb, heq⟩

/-- The kernel's look at a region that is parted behind its first m1 and its first m2 operations. -/
def mixB (md : Region.Mode) (ops : Array Oper) (m1 m2 : Nat) : Bool :=
  let L := (Array.range ops.size).map fun i => decide (i < m2)
  Region.noSelect ops && (Region.ready md ops L).all (· == m2) && waitsAll md ops m2 && lexMix md ops L m2 m1 0 (Array.replicate ops.size false) && forcedB md ops (ops.size - m2) m2 L

theorem wp_region_mix {id : Nat} {a : Act} {w : World} {l : List Oper} (C : World → Prop) (m1 m2 : Nat) (hm : P.follows .mixedOrders = true) (h12 : m1 ≤ m2) (hml : m2 ≤ l.length) (hB : mixB .any l.toArray m1 m2 = true) (hQ : ∀ c a d v w, Q (.panic c) (Act.put a d v) w → Q (.panic c) a w) (hC : C w.drew)
    (h : wpQuiet P l.toArray C (fun a' => wpForced P l.toArray Q C (fun a'' w'' => wpList P l.toArray Q (l.drop m2) a'' w'') ((l.drop m1).take (m2 - m1)) a' w.drew) (l.take m1) a) : (Code.region id l.toArray true).wp P Q a w := by
  simp only [mixB, Bool.and_eq_true] at hB
  obtain ⟨⟨⟨⟨h1, h2⟩, h3⟩, h4⟩, h5⟩ := hB
  refine wp_region_any hm ?_
  have hlen : (l.take m1).length = m1 := by simp; omega
  have hmid : ((l.drop m1).take (m2 - m1)).length = m2 - m1 := by simp; omega
  have hdrop : (l.drop m2).length = l.length - m2 := by simp
  have hT := wpAnyU_lex (P := P) (Q := Q) (C := C) (md := .any) hC h1 hQ (fun j hj => by
    rw [List.all_eq_true] at h2
    simpa using h2 j hj) h3 ((l.drop m1).take (m2 - m1)) (Nat.le_refl _) m1 (fun j hj => by
      rw [List.getElem?_take]
      have : j < m2 - m1 := by omega
      simp [this]) hmid (l.take m1) 0 (Array.replicate l.toArray.size false) a (by omega) h12 (fun j hj => by
      rw [List.getElem?_take]
      have : j < m1 := by omega
      simp [this]) (by rw [hlen]; exact h4) h
  have := wpAny_of_U (Q := Q) (f := (l.drop m2).length) (fun a' w' hR => wpAny_forced (md := .any) (l.drop m2) m2 _ a' w' (fun j hj => by simp) (by rw [hdrop]; simpa using h5) hR) _ _ a _ hT
  have e : (l.drop m2).length + (((l.drop m1).take (m2 - m1)).length + (l.take m1).length) = l.toArray.size := by simp; omega
  rw [e] at this
  exact this
end

/-- A world that meets S. -/
structure Sw (S : World → Prop) where
  at' : World
  ok : S at'
theorem wp_region_sw {P : Program} {Q : Exit → Act → World → Prop} {id : Nat} {a : Act} {w : World} {l : List Oper} (S : World → Prop) (m1 m2 : Nat) (hm : P.follows .mixedOrders = true) (h12 : m1 ≤ m2) (hml : m2 ≤ l.length) (hB : mixB .any l.toArray m1 m2 = true) (hQ : ∀ c a d v w, Q (.panic c) (Act.put a d v) w → Q (.panic c) a w) (hS : S w.drew)
    (h : wpQuiet P l.toArray (fun w' => ∃ x : Sw S, w' = x.at') (fun a' => wpForced P l.toArray Q (fun w' => ∃ x : Sw S, w' = x.at') (fun a'' w'' => wpList P l.toArray Q (l.drop m2) a'' w'') ((l.drop m1).take (m2 - m1)) a' w.drew) (l.take m1) a) : (Code.region id l.toArray true).wp P Q a w :=
  wp_region_mix (fun w' => ∃ x : Sw S, w' = x.at') m1 m2 hm h12 hml hB hQ ⟨⟨w.drew, hS⟩, rfl⟩ h
theorem sw_ok {S : World → Prop} {w : World} (h : S w) : ∃ x : Sw S, w = x.at' := ⟨⟨w, h⟩, rfl⟩
end Go.Proofs.YtgjamikmjknlfaaDoor
