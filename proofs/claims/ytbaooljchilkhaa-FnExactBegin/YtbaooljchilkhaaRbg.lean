/-
  A task begins, on both sides: the walks.
-/
import Derived.Test.YtbaooljchilkhaaRcl
import Derived.Test.YtbaooljchilkhaaCrl
import Derived.BigRegion
namespace Go.Proofs.Ytbaooljchilkhaa
open Go Go.RowKit
set_option linter.unusedVariables false

def noneR : Rr := ⟨⟨#[]⟩, 0, 0, 0, []⟩
def begR (r : Rr) (i tok til : Int) : Rr := if isN r.st i 0 = true then ⟨r.nm, r.fr, r.up, r.ep, beginS r.st i tok til⟩ else noneR
theorem begR_len (r : Rr) (i tok til : Int) : (begR r i tok til).st.length ≤ r.st.length := by
  unfold begR
  split
  · show (beginS r.st i tok til).length ≤ _
    unfold beginS
    rw [List.length_set]
    exact Nat.le_refl _
  · exact Nat.zero_le _
theorem own_lt {α : Type} [Rec α] {W : World} {B : Nat} {e : TypeId} {v : Value} {l : List α} (h : ownsR W B e v l) {k : Nat} (hk : v.ownBlock = some k) : B ≤ k ∧ k < W.heap.size := h.lt k hk
/-- A row of states that is not empty lies in a block of its own. -/
theorem own_some {W : World} {B : Nat} {v : Value} {l : List Sa} {k : Nat} {x : Sa} (ho : ownsR W B 44 v l) (hx : l[k]? = some x) : ∃ g c, v = .slice (some ⟨g, 0, none⟩) l.length c ∧ B ≤ g ∧ g < W.heap.size ∧ l.length ≤ c := by
  have hlt := ho.lt
  rcases ho.2 with ⟨_, h0⟩ | ⟨g, cap, cur, rfl, h1, _, h2, _⟩
  · have := (List.getElem?_eq_some_iff.1 hx).1
    omega
  · exact ⟨g, cap, rfl, h1, (hlt g rfl).2, h2⟩
set_option maxRecDepth 10000 in
set_option maxHeartbeats 4000000 in
theorem implBegin_any (ao : Option Addr) (n cap : Nat) (nm : ByteArray) (fr up ep : Int) (st : List Sa) (i tok til : Int) (w : World) (hr : Reads w (.slice ao n cap) st) (hn : n ≤ 1048577) (hz : nm.size ≤ 1048576) (R : Rr) (HRR : Hid (begR ⟨nm, fr, up, ep, st⟩ i tok til = R)) :
    Calls Try.prog 12 #[.agg #[.string nm, .int .i64 fr, .int .i64 up, .int .i64 ep, .slice ao n cap], .int .i64 i, .int .i64 tok, .int .i64 til] w fun e w' => ∃ v, e = .returned (.tuple #[.agg #[.string R.nm, .int .i64 R.fr, .int .i64 R.up, .int .i64 R.ep, v], .bool (isN st i 0)]) ∧ ownsR w' w.heap.size 44 v R.st ∧ Below w.heap.size w w' := by
  have HN : Hid (n = st.length) := hr.len
  have H0 : Hid (∀ W : World, Below w.heap.size w W → Calls Try.prog 20 #[.agg #[.string nm, .int .i64 fr, .int .i64 up, .int .i64 ep, .slice ao n cap], .int .i64 i] W fun e w' => e = .returned (.bool (isN st i 0)) ∧ Below W.heap.size W w') := fun W hb => isWaiting_any ao n cap nm fr up ep st i W (hr.below hb) hn
  have HC : Hid (∀ W : World, Below w.heap.size w W → Calls Try.prog 26 #[.agg #[.string nm, .int .i64 fr, .int .i64 up, .int .i64 ep, .slice ao n cap]] W fun e w' => ∃ v, e = .returned (.agg #[.string nm, .int .i64 fr, .int .i64 up, .int .i64 ep, v]) ∧ ownsR w' W.heap.size 44 v st ∧ Below W.heap.size W w') := fun W hb => cloned_any ao n cap nm fr up ep st W (hr.below hb) hn hz
  clear hr
  obtain ⟨W0, hW⟩ : ∃ W, (w.alloc (.cells #[.string nm, .int .i64 fr, .int .i64 up, .int .i64 ep, .slice ao n cap] 32)).alloc (.cells #[.string ⟨#[]⟩, .int .i64 0, .int .i64 0, .int .i64 0, .slice none 0 0] 32) = W := ⟨_, rfl⟩
  have J0 : R5 W0 w.heap.size nm fr up ep (.slice ao n cap) := by rw [← hW]; exact (R5.new w nm fr up ep (.slice ao n cap)).on (ba (Below.refl _ _) _)
  have Z0 : R5 W0 (w.heap.size + 1) ⟨#[]⟩ 0 0 0 (.slice none 0 0) := by
    rw [← hW]
    have := R5.new (w.alloc (.cells #[.string nm, .int .i64 fr, .int .i64 up, .int .i64 ep, .slice ao n cap] 32)) ⟨#[]⟩ 0 0 0 (.slice none 0 0)
    simpa using this
  have B0 : Below w.heap.size w W0 := by rw [← hW]; exact ba (ba (Below.refl _ _) _) _
  have c0 := J0.c0
  have c1 := J0.c1
  have c2 := J0.c2
  have c3 := J0.c3
  have c4 := J0.c4
  go_enter Try.func12, Try.ntmps12
  go_wp2_with fail
  refine (H0.out _ B0).mono ?_
  rintro e w1 ⟨rfl, hb1⟩
  have J1 := J0.on hb1
  have Z1 := Z0.on hb1
  have B1 := Below.on B0 hb1
  clear c0 c1 c2 c3 c4 J0 Z0 B0 hb1 hW H0
  cases hq : isN st i 0 with
  | false =>
    have HR0 : Hid (R = noneR) := HRR.out.symm.trans (if_neg (by show ¬ isN st i 0 = true; rw [hq]; decide))
    have HQ : Hid (isN st i 0 = false) := hq
    clear hq
    have z0 := Z1.c0
    have z1 := Z1.c1
    have z2 := Z1.c2
    have z3 := Z1.c3
    have z4 := Z1.c4
    have zf := Z1.fz
    go_wp2
    have Z2 := Z1.set ⟨#[]⟩ 0 0 0 (.slice none 0 0)
    have B2 := below_putR5 (g := w.heap.size + 1) B1 (by omega) ⟨#[]⟩ 0 0 0 (.slice none 0 0)
    refine bodyPost_ret (ret_r2 rfl rfl rfl Z2) rfl ⟨.slice none 0 0, ?_, ?_, B2⟩
    · rw [HR0.out, HQ.out]; rfl
    · rw [HR0.out]; exact ownsR_nil _ _ _
  | true =>
    obtain ⟨k, x, ei, hx, -⟩ := isN_true hq
    subst ei
    have HR0 : Hid (R = ⟨nm, fr, up, ep, st.set k ⟨1, x.tries, tok, til⟩⟩) := by
      have := HRR.out.symm.trans (if_pos hq)
      show R = _
      rw [this]
      show Rr.mk nm fr up ep (beginS st (k : Int) tok til) = _
      unfold beginS
      rw [Int.toNat_natCast, sAt_at hx]
    have HQ : Hid (isN st (k : Int) 0 = true) := hq
    clear hq
    have hkn : k < n := by have := HN.out; have := (List.getElem?_eq_some_iff.1 hx).1; omega
    have HX : Hid (st[k]? = some x) := hx
    clear hx
    have c0 := J1.c0
    have c1 := J1.c1
    have c2 := J1.c2
    have c3 := J1.c3
    have c4 := J1.c4
    go_wp2_with fail
    refine (HC.out _ B1).mono ?_
    rintro e w2 ⟨v2, rfl, ho2, hb2⟩
    have J2 := J1.on hb2
    have Z2 := Z1.on hb2
    have B2 := Below.on B1 hb2
    obtain ⟨g, vc, ev, hg1, hg2, hvc⟩ := own_some ho2 HX.out
    have hgl : w.heap.size + 1 < g := Nat.lt_of_lt_of_le Z1.lt hg1
    have HO2 : Hid (ownsR w2 w.heap.size 44 v2 st) := ho2.mono B1.size
    clear c0 c1 c2 c3 c4 J1 Z1 B1 hb2 HC ho2 hg1
    subst ev
    rw [← HN.out] at HO2 hvc
    rw [← HN.out]
    have J3 := J2.set nm fr up ep (.slice (some ⟨g, 0, none⟩) n vc)
    have Z3 := Z2.farPut (g' := w.heap.size) (nm' := nm) (fr' := fr) (up' := up) (ep' := ep) (tv' := .slice (some ⟨g, 0, none⟩) n vc) (by omega)
    have B3 := below_putR5 (g := w.heap.size) B2 (Nat.le_refl _) nm fr up ep (.slice (some ⟨g, 0, none⟩) n vc)
    have O3 := own_putR5 (b := w.heap.size) HO2.out (not_rowR5 J2 HO2.out) nm fr up ep (.slice (some ⟨g, 0, none⟩) n vc)
    obtain ⟨W3, hW3⟩ : ∃ W, putR5 w2 w.heap.size nm fr up ep (.slice (some ⟨g, 0, none⟩) n vc) = W := ⟨_, rfl⟩
    have HW3 : Hid (((((w2.setCell ⟨w.heap.size, 0, none⟩ (.string nm)).setCell ⟨w.heap.size, 1, none⟩ (.int .i64 fr)).setCell ⟨w.heap.size, 2, none⟩ (.int .i64 up)).setCell ⟨w.heap.size, 3, none⟩ (.int .i64 ep)).setCell ⟨w.heap.size, 4, none⟩ (.slice (some ⟨g, 0, none⟩) n vc) = W3) := hW3
    rw [hW3] at J3 Z3 B3 O3
    have HO3 : Hid (ownsR W3 w.heap.size 44 (.slice (some ⟨g, 0, none⟩) n vc) st) := O3
    have j0 := J2.c0
    have j1 := J2.c1
    have j2 := J2.c2
    have j3 := J2.c3
    have j4 := J2.c4
    have jf := J2.fz
    clear hW3 O3
    go_wp2_with fail
    rw [HW3.out]
    clear HW3 j0 j1 j2 j3 j4 jf J2 Z2 B2 HO2
    obtain ⟨hg3, ⟨a0, a1, a2, a3⟩, af0, af1, af2, af3⟩ := sa_own HO3.out HX.out
    have k4 := J3.c4
    go_region
    have O4 := sa_put HO3.out ⟨1, x.tries, tok, til⟩ HX.out
    have J4 := (((J3.far (a := ⟨g, k * 4, none⟩) (by show g ≠ w.heap.size; omega) (.int .i64 1)).far (a := ⟨g, k * 4 + 1, none⟩) (by show g ≠ w.heap.size; omega) (.int .i64 x.tries)).far (a := ⟨g, k * 4 + 2, none⟩) (by show g ≠ w.heap.size; omega) (.int .i64 tok)).far (a := ⟨g, k * 4 + 3, none⟩) (by show g ≠ w.heap.size; omega) (.int .i64 til)
    have Z4 := (((Z3.far (a := ⟨g, k * 4, none⟩) (by show g ≠ w.heap.size + 1; omega) (.int .i64 1)).far (a := ⟨g, k * 4 + 1, none⟩) (by show g ≠ w.heap.size + 1; omega) (.int .i64 x.tries)).far (a := ⟨g, k * 4 + 2, none⟩) (by show g ≠ w.heap.size + 1; omega) (.int .i64 tok)).far (a := ⟨g, k * 4 + 3, none⟩) (by show g ≠ w.heap.size + 1; omega) (.int .i64 til)
    have B4 := (((B3.setCell (p := ⟨g, k * 4, none⟩) (by show w.heap.size ≤ g; omega) (.int .i64 1)).setCell (p := ⟨g, k * 4 + 1, none⟩) (by show w.heap.size ≤ g; omega) (.int .i64 x.tries)).setCell (p := ⟨g, k * 4 + 2, none⟩) (by show w.heap.size ≤ g; omega) (.int .i64 tok)).setCell (p := ⟨g, k * 4 + 3, none⟩) (by show w.heap.size ≤ g; omega) (.int .i64 til)
    obtain ⟨W4, hW4⟩ : ∃ W, ((((W3.setCell ⟨g, k * 4, none⟩ (.int .i64 1)).setCell ⟨g, k * 4 + 1, none⟩ (.int .i64 x.tries)).setCell ⟨g, k * 4 + 2, none⟩ (.int .i64 tok)).setCell ⟨g, k * 4 + 3, none⟩ (.int .i64 til)).drew = W := ⟨_, rfl⟩
    have J5 := J4.on (Below.refl _ _).drew
    have Z5 := Z4.on (Below.refl _ _).drew
    have B5 := B4.drew
    have O5 := O4.drew
    rw [hW4] at J5 Z5 B5 O5
    rw [hW4]
    have HO5 : Hid (ownsR W4 w.heap.size 44 (.slice (some ⟨g, 0, none⟩) n vc) (st.set k ⟨1, x.tries, tok, til⟩)) := O5
    clear hW4 O4 J4 Z4 B4 O5 J3 Z3 B3 HO3 a0 a1 a2 a3 af0 af1 af2 af3 k4
    have j0 := J5.c0
    have j1 := J5.c1
    have j2 := J5.c2
    have j3 := J5.c3
    have j4 := J5.c4
    have z0 := Z5.c0
    have z1 := Z5.c1
    have z2 := Z5.c2
    have z3 := Z5.c3
    have z4 := Z5.c4
    have zf := Z5.fz
    go_wp2
    have Z6 := Z5.set nm fr up ep (.slice (some ⟨g, 0, none⟩) n vc)
    have B6 := below_putR5 (g := w.heap.size + 1) B5 (by omega) nm fr up ep (.slice (some ⟨g, 0, none⟩) n vc)
    have O6 := own_putR5 (b := w.heap.size + 1) HO5.out (not_rowR5 Z5 HO5.out) nm fr up ep (.slice (some ⟨g, 0, none⟩) n vc)
    refine bodyPost_ret (ret_r2 rfl rfl rfl Z6) rfl ⟨.slice (some ⟨g, 0, none⟩) n vc, ?_, ?_, B6⟩
    · rw [HR0.out, HQ.out]; rfl
    · rw [HR0.out]; exact O6
set_option maxRecDepth 10000 in
set_option maxHeartbeats 4000000 in
theorem specBegin_any (ao : Option Addr) (n cap : Nat) (nm : ByteArray) (fr up ep : Int) (st : List Sa) (i tok til : Int) (w : World) (hr : Reads w (.slice ao n cap) st) (hn : n ≤ 1048577) (R : Rr) (HRR : Hid (begR ⟨nm, fr, up, ep, st⟩ i tok til = R)) :
    Calls Try.prog 11 #[.agg #[.string nm, .int .i64 fr, .int .i64 up, .int .i64 ep, .slice ao n cap], .int .i64 i, .int .i64 tok, .int .i64 til] w fun e w' => ∃ v, e = .returned (.tuple #[.agg #[.string R.nm, .int .i64 R.fr, .int .i64 R.up, .int .i64 R.ep, v], .bool (isN st i 0)]) ∧ ownsR w' w.heap.size 44 v R.st ∧ Below w.heap.size w w' := by
  have HN : Hid (n = st.length) := hr.len
  have HIN : Hid (∀ W, Calls Try.prog 24 #[.int .i64 i, .int .i64 0, .int .i64 ((n : Int) - 1)] W fun e w' => e = .returned (.bool (decide (0 ≤ i ∧ i < (n : Int)))) ∧ w' = W) := fun W => by
    have := in_any i 0 ((n : Int) - 1) W
    have e : (decide (0 ≤ i) && decide (i ≤ (n : Int) - 1)) = decide (0 ≤ i ∧ i < (n : Int)) := by
      rw [← Bool.decide_and]
      exact decide_eq_decide.2 ⟨fun h => ⟨h.1, by omega⟩, fun h => ⟨h.1, by omega⟩⟩
    rw [e] at this
    exact this
  have HRD : Hid (∀ W : World, Below w.heap.size w W → Reads W (.slice ao n cap) st) := fun W hb => hr.below hb
  have HC : Hid (∀ W : World, Below w.heap.size w W → Calls Try.prog 25 #[.agg #[.string nm, .int .i64 fr, .int .i64 up, .int .i64 ep, .slice ao n cap]] W fun e w' => ∃ v, e = .returned (.agg #[.string nm, .int .i64 fr, .int .i64 up, .int .i64 ep, v]) ∧ ownsR w' W.heap.size 44 v st ∧ Below W.heap.size W w') := fun W hb => l14Copy_any ao n cap nm fr up ep st W (hr.below hb) hn
  clear hr
  obtain ⟨W0, hW⟩ : ∃ W, (w.alloc (.cells #[.string nm, .int .i64 fr, .int .i64 up, .int .i64 ep, .slice ao n cap] 32)).alloc (.cells #[.string ⟨#[]⟩, .int .i64 0, .int .i64 0, .int .i64 0, .slice none 0 0] 32) = W := ⟨_, rfl⟩
  have J0 : R5 W0 w.heap.size nm fr up ep (.slice ao n cap) := by rw [← hW]; exact (R5.new w nm fr up ep (.slice ao n cap)).on (ba (Below.refl _ _) _)
  have Z0 : R5 W0 (w.heap.size + 1) ⟨#[]⟩ 0 0 0 (.slice none 0 0) := by
    rw [← hW]
    have := R5.new (w.alloc (.cells #[.string nm, .int .i64 fr, .int .i64 up, .int .i64 ep, .slice ao n cap] 32)) ⟨#[]⟩ 0 0 0 (.slice none 0 0)
    simpa using this
  have B0 : Below w.heap.size w W0 := by rw [← hW]; exact ba (ba (Below.refl _ _) _) _
  have c0 := J0.c0
  have c1 := J0.c1
  have c2 := J0.c2
  have c3 := J0.c3
  have c4 := J0.c4
  have z0 := Z0.c0
  have z1 := Z0.c1
  have z2 := Z0.c2
  have z3 := Z0.c3
  have z4 := Z0.c4
  have zf := Z0.fz
  cases hq : isN st i 0 with
  | false =>
    have HR0 : Hid (R = noneR) := HRR.out.symm.trans (if_neg (by show ¬ isN st i 0 = true; rw [hq]; decide))
    rw [HR0.out]
    by_cases hi : 0 ≤ i ∧ i < (n : Int)
    · obtain ⟨k, rfl⟩ : ∃ k : Nat, i = (k : Int) := ⟨i.toNat, by omega⟩
      obtain ⟨x, hx⟩ : ∃ x, st[k]? = some x := ⟨_, List.getElem?_eq_getElem (by have := HN.out; omega)⟩
      have hx0 : (x.is == 0) = false := by
        rw [isN_in hx] at hq
        exact beq_eq_false_iff_ne.2 (of_decide_eq_false hq)
      obtain ⟨b, o, rfl, hb, d0, -, -, -⟩ := sa_at (HRD.out _ B0) hx
      have hkn : k < n := by omega
      rw [decide_eq_true hi] at HIN
      clear hx hq hi
      go_enter Try.func11, Try.ntmps11
      go_wp2_with fail
      refine (HIN.out _).mono ?_
      rintro e w1 ⟨rfl, hw⟩
      have hw2 := hw.symm
      subst hw2
      go_wp2
      have Z2 := Z0.set ⟨#[]⟩ 0 0 0 (.slice none 0 0)
      have B2 := below_putR5 (g := w.heap.size + 1) B0 (by omega) ⟨#[]⟩ 0 0 0 (.slice none 0 0)
      exact bodyPost_ret (ret_r2 rfl rfl rfl Z2) rfl ⟨.slice none 0 0, rfl, ownsR_nil _ _ _, B2⟩
    · rw [decide_eq_false hi] at HIN
      clear hq hi
      go_enter Try.func11, Try.ntmps11
      go_wp2_with fail
      refine (HIN.out _).mono ?_
      rintro e w1 ⟨rfl, hw⟩
      have hw2 := hw.symm
      subst hw2
      go_wp2
      have Z2 := Z0.set ⟨#[]⟩ 0 0 0 (.slice none 0 0)
      have B2 := below_putR5 (g := w.heap.size + 1) B0 (by omega) ⟨#[]⟩ 0 0 0 (.slice none 0 0)
      exact bodyPost_ret (ret_r2 rfl rfl rfl Z2) rfl ⟨.slice none 0 0, rfl, ownsR_nil _ _ _, B2⟩
  | true =>
    obtain ⟨k, x, ei, hx, hx1⟩ := isN_true hq
    subst ei
    have HR0 : Hid (R = ⟨nm, fr, up, ep, st.set k ⟨1, x.tries, tok, til⟩⟩) := by
      have := HRR.out.symm.trans (if_pos hq)
      show R = _
      rw [this]
      show Rr.mk nm fr up ep (beginS st (k : Int) tok til) = _
      unfold beginS
      rw [Int.toNat_natCast, sAt_at hx]
    rw [HR0.out]
    clear hq
    have hkn : k < n := by have := HN.out; have := (List.getElem?_eq_some_iff.1 hx).1; omega
    rw [decide_eq_true (show 0 ≤ (k : Int) ∧ (k : Int) < (n : Int) by omega)] at HIN
    have HX : Hid (st[k]? = some x) := hx
    have hx0 : (x.is == 0) = true := beq_iff_eq.2 hx1
    obtain ⟨b, o, rfl, hb, d0, -, -, -⟩ := sa_at (HRD.out _ B0) hx
    clear hx hx1 z0 z1 z2 z3 z4 zf
    go_enter Try.func11, Try.ntmps11
    go_wp2_with fail
    refine (HIN.out _).mono ?_
    rintro e w1 ⟨rfl, hw⟩
    have hw2 := hw.symm
    subst hw2
    go_wp2_with fail
    refine (HC.out _ B0).mono ?_
    rintro e w2 ⟨v2, rfl, ho2, hb2⟩
    have Z2 := Z0.on hb2
    have B2 := Below.on B0 hb2
    obtain ⟨g, vc, ev, hg1, hg2, hvc⟩ := own_some ho2 HX.out
    have hgl : w.heap.size + 1 < g := Nat.lt_of_lt_of_le Z0.lt hg1
    have HO2 : Hid (ownsR w2 w.heap.size 44 v2 st) := ho2.mono B0.size
    clear c0 c1 c2 c3 c4 d0 hb J0 Z0 B0 hb2 HC ho2 hg1 HIN hW
    subst ev
    rw [← HN.out] at HO2 hvc
    rw [← HN.out]
    obtain ⟨W3, hW3⟩ : ∃ W, w2.alloc (.cells #[.string nm, .int .i64 fr, .int .i64 up, .int .i64 ep, .slice (some ⟨g, 0, none⟩) n vc] 32) = W := ⟨_, rfl⟩
    have J3 : R5 W3 w2.heap.size nm fr up ep (.slice (some ⟨g, 0, none⟩) n vc) := by rw [← hW3]; exact R5.new _ _ _ _ _ _
    have Z3 : R5 W3 (w.heap.size + 1) ⟨#[]⟩ 0 0 0 (.slice none 0 0) := by rw [← hW3]; exact Z2.on (ba (Below.refl _ _) _)
    have B3 : Below w.heap.size w W3 := by rw [← hW3]; exact ba B2 _
    have HO3 : Hid (ownsR W3 w.heap.size 44 (.slice (some ⟨g, 0, none⟩) n vc) st) := by show ownsR _ _ _ _ _; rw [← hW3]; exact HO2.out.all (ba (Below.refl _ _) _)
    obtain ⟨hg3, ⟨a0, a1, a2, a3⟩, af0, af1, af2, af3⟩ := sa_own HO3.out HX.out
    have hl1 := Z2.lt
    have P1 := HO3.out.put (i := k) (j := 0) (u := .int .i64 1) ⟨1, x.tries, x.tok, x.til⟩ HX.out (by decide) rfl
    have hlen : k < st.length := by rw [← HN.out]; exact hkn
    have P2 := P1.put (i := k) (j := 2) (u := .int .i64 tok) ⟨1, x.tries, tok, x.til⟩ (List.getElem?_set_self hlen) (by decide) rfl
    have P3 := P2.put (i := k) (j := 3) (u := .int .i64 til) ⟨1, x.tries, tok, til⟩ (List.getElem?_set_self (by rw [List.length_set]; exact hlen)) (by decide) rfl
    simp only [sa_width, Nat.add_zero, List.set_set] at P3
    have J4 := ((J3.far (a := ⟨g, k * 4, none⟩) (by show g ≠ w2.heap.size; omega) (.int .i64 1)).far (a := ⟨g, k * 4 + 2, none⟩) (by show g ≠ w2.heap.size; omega) (.int .i64 tok)).far (a := ⟨g, k * 4 + 3, none⟩) (by show g ≠ w2.heap.size; omega) (.int .i64 til)
    have Z4 := ((Z3.far (a := ⟨g, k * 4, none⟩) (by show g ≠ w.heap.size + 1; omega) (.int .i64 1)).far (a := ⟨g, k * 4 + 2, none⟩) (by show g ≠ w.heap.size + 1; omega) (.int .i64 tok)).far (a := ⟨g, k * 4 + 3, none⟩) (by show g ≠ w.heap.size + 1; omega) (.int .i64 til)
    have B4 := ((B3.setCell (p := ⟨g, k * 4, none⟩) (by show w.heap.size ≤ g; omega) (.int .i64 1)).setCell (p := ⟨g, k * 4 + 2, none⟩) (by show w.heap.size ≤ g; omega) (.int .i64 tok)).setCell (p := ⟨g, k * 4 + 3, none⟩) (by show w.heap.size ≤ g; omega) (.int .i64 til)
    have e0 := J3.c0
    have e1 := J3.c1
    have e2 := J3.c2
    have e3 := J3.c3
    have e4 := J3.c4
    have y0 := Z3.c0
    have y1 := Z3.c1
    have y2 := Z3.c2
    have y3 := Z3.c3
    have y4 := Z3.c4
    have yf := Z3.fz
    have HPP : Hid (ownsR (((W3.setCell ⟨g, k * 4, none⟩ (.int .i64 1)).setCell ⟨g, k * 4 + 2, none⟩ (.int .i64 tok)).setCell ⟨g, k * 4 + 3, none⟩ (.int .i64 til)) w.heap.size 44 (.slice (some ⟨g, 0, none⟩) n vc) (st.set k ⟨1, x.tries, tok, til⟩)) := P3
    have HZ4 : Hid (R5 (((W3.setCell ⟨g, k * 4, none⟩ (.int .i64 1)).setCell ⟨g, k * 4 + 2, none⟩ (.int .i64 tok)).setCell ⟨g, k * 4 + 3, none⟩ (.int .i64 til)) (w.heap.size + 1) ⟨#[]⟩ 0 0 0 (.slice none 0 0)) := Z4
    have HB4 : Hid (Below w.heap.size w (((W3.setCell ⟨g, k * 4, none⟩ (.int .i64 1)).setCell ⟨g, k * 4 + 2, none⟩ (.int .i64 tok)).setCell ⟨g, k * 4 + 3, none⟩ (.int .i64 til))) := B4
    clear P1 P2 P3 J3 Z2 Z3 Z4 B4 J4 B2 B3 HO2 HO3
    go_wp2
    have Z6 := HZ4.out.set nm fr up ep (.slice (some ⟨g, 0, none⟩) n vc)
    have B6 := below_putR5 (g := w.heap.size + 1) HB4.out (by omega) nm fr up ep (.slice (some ⟨g, 0, none⟩) n vc)
    have O6 := own_putR5 (b := w.heap.size + 1) HPP.out (not_rowR5 HZ4.out HPP.out) nm fr up ep (.slice (some ⟨g, 0, none⟩) n vc)
    exact bodyPost_ret (ret_r2 rfl rfl rfl Z6) rfl ⟨_, rfl, O6, B6⟩
end Go.Proofs.Ytbaooljchilkhaa
