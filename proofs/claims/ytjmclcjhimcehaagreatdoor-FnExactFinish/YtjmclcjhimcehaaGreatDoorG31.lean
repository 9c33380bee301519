/-
  A run's block of five cells. The law's helpers on runs: sizes, copies, held against each other, marked: the walks.
-/
import Derived.Test.YtjmclcjhimcehaaGreatDoorGn
import Derived.Test.YtjmclcjhimcehaaGreatDoorG1
namespace Go.Proofs.YtjmclcjhimcehaaGreatDoor
open Go Go.RowKit

def K5 (w : World) (g : Nat) (nm : ByteArray) (fr up ep : Int) (tv : Value) : Prop := w.heap[g]? = some (.cells #[.string nm, .int .i64 fr, .int .i64 up, .int .i64 ep, tv] 46)
section
variable {w w' : World} {g : Nat} {nm : ByteArray} {fr up ep : Int} {tv : Value}
theorem K5.lt (h : K5 w g nm fr up ep tv) : g < w.heap.size := (Array.getElem?_eq_some_iff.1 h).1
theorem K5.c0 (h : K5 w g nm fr up ep tv) : w.cell? ⟨g, 0, none⟩ = some (.string nm) := by simp [World.cell?, show w.heap[g]? = _ from h]
theorem K5.s0 (h : K5 w g nm fr up ep tv) (u : ByteArray) : K5 (w.setCell ⟨g, 0, none⟩ (.string u)) g u fr up ep tv := by simp [K5, World.setCell, Array.getElem?_modify, show w.heap[g]? = _ from h]
theorem K5.c1 (h : K5 w g nm fr up ep tv) : w.cell? ⟨g, 1, none⟩ = some (.int .i64 fr) := by simp [World.cell?, show w.heap[g]? = _ from h]
theorem K5.s1 (h : K5 w g nm fr up ep tv) (u : Int) : K5 (w.setCell ⟨g, 1, none⟩ (.int .i64 u)) g nm u up ep tv := by simp [K5, World.setCell, Array.getElem?_modify, show w.heap[g]? = _ from h]
theorem K5.c2 (h : K5 w g nm fr up ep tv) : w.cell? ⟨g, 2, none⟩ = some (.int .i64 up) := by simp [World.cell?, show w.heap[g]? = _ from h]
theorem K5.s2 (h : K5 w g nm fr up ep tv) (u : Int) : K5 (w.setCell ⟨g, 2, none⟩ (.int .i64 u)) g nm fr u ep tv := by simp [K5, World.setCell, Array.getElem?_modify, show w.heap[g]? = _ from h]
theorem K5.c3 (h : K5 w g nm fr up ep tv) : w.cell? ⟨g, 3, none⟩ = some (.int .i64 ep) := by simp [World.cell?, show w.heap[g]? = _ from h]
theorem K5.s3 (h : K5 w g nm fr up ep tv) (u : Int) : K5 (w.setCell ⟨g, 3, none⟩ (.int .i64 u)) g nm fr up u tv := by simp [K5, World.setCell, Array.getElem?_modify, show w.heap[g]? = _ from h]
theorem K5.c4 (h : K5 w g nm fr up ep tv) : w.cell? ⟨g, 4, none⟩ = some (tv) := by simp [World.cell?, show w.heap[g]? = _ from h]
theorem K5.s4 (h : K5 w g nm fr up ep tv) (u : Value) : K5 (w.setCell ⟨g, 4, none⟩ u) g nm fr up ep u := by simp [K5, World.setCell, Array.getElem?_modify, show w.heap[g]? = _ from h]
theorem K5.fz (h : K5 w g nm fr up ep tv) (k : Nat) : w.frozen? ⟨g, k, none⟩ = false := by simp [World.frozen?, show w.heap[g]? = _ from h]
theorem K5.on (h : K5 w g nm fr up ep tv) (hb : Below w.heap.size w w') : K5 w' g nm fr up ep tv := (hb.block _ h.lt).trans h
theorem K5.grown {r : Option Nat} (h : K5 w g nm fr up ep tv) (hg : w.grownBy w' r) (hr : some g ≠ r) : K5 w' g nm fr up ep tv := (hg.block g h.lt hr).trans h
theorem K5.far (h : K5 w g nm fr up ep tv) {a : Addr} (ha : a.block ≠ g) (u : Value) : K5 (w.setCell a u) g nm fr up ep tv := (heap_setCell_other w a g u (fun e => ha e.symm)).trans h
theorem K5.new (w : World) (nm : ByteArray) (fr up ep : Int) (tv : Value) : K5 (w.alloc (.cells #[.string nm, .int .i64 fr, .int .i64 up, .int .i64 ep, tv] 46)) w.heap.size nm fr up ep tv := by
  show (w.heap.push _)[w.heap.size]? = _; simp
/-- The five stores of a whole run. -/
abbrev putK5 (w : World) (g : Nat) (nm : ByteArray) (fr up ep : Int) (tv : Value) : World := ((((w.setCell ⟨g, 0, none⟩ (.string nm)).setCell ⟨g, 1, none⟩ (.int .i64 fr)).setCell ⟨g, 2, none⟩ (.int .i64 up)).setCell ⟨g, 3, none⟩ (.int .i64 ep)).setCell ⟨g, 4, none⟩ tv
theorem K5.set (h : K5 w g nm fr up ep tv) (nm' : ByteArray) (fr' up' ep' : Int) (tv' : Value) : K5 (putK5 w g nm' fr' up' ep' tv') g nm' fr' up' ep' tv' := ((((h.s0 nm').s1 fr').s2 up').s3 ep').s4 tv'
theorem below_putK5 {B : Nat} {V : World} (h : Below B V w) (hb : B ≤ g) (nm : ByteArray) (fr up ep : Int) (tv : Value) : Below B V (putK5 w g nm fr up ep tv) :=
  Below.setCell (Below.setCell (Below.setCell (Below.setCell (Below.setCell h hb _) hb _) hb _) hb _) hb _
theorem K5.farPut {g' : Nat} {nm' : ByteArray} {fr' up' ep' : Int} {tv' : Value} (h : K5 w g nm fr up ep tv) (hg : g' ≠ g) : K5 (putK5 w g' nm' fr' up' ep' tv') g nm fr up ep tv := ((((h.far hg _).far hg _).far hg _).far hg _).far hg _
theorem own_putK5 {α : Type} [Rec α] {B b : Nat} {e : TypeId} {v : Value} {l : List α} (h : ownsR w B e v l) (hb : v.ownBlock ≠ some b) (nm : ByteArray) (fr up ep : Int) (tv : Value) : ownsR (putK5 w b nm fr up ep tv) B e v l := by
  have f : ∀ (W : World) (a : Addr) (u : Value), a.block = b → ownsR W B e v l → ownsR (W.setCell a u) B e v l := fun W a u ha h => by
    refine ⟨h.1, ?_⟩
    rcases h.2 with hn | ⟨g, cap, cur, rfl, hb2, hgg, rest⟩
    · exact .inl hn
    · refine .inr ⟨g, cap, cur, rfl, hb2, ?_, rest⟩
      rw [heap_setCell_other W a g u (fun e => hb (by rw [← ha, ← e]; rfl))]
      exact hgg
  exact f _ _ _ rfl (f _ _ _ rfl (f _ _ _ rfl (f _ _ _ rfl (f _ _ _ rfl h))))
end
end Go.Proofs.YtjmclcjhimcehaaGreatDoor

namespace Go.Proofs.YtjmclcjhimcehaaGreatDoor
open Go Go.RowKit
set_option linter.unusedVariables false

set_option maxHeartbeats 400000 in
theorem toSpn_any (fr up : Int) (w : World) :
    Calls Tryz.prog 12 #[.agg #[.int .i64 fr, .int .i64 up]] w fun e w' => e = .returned (.agg #[.int .i64 fr, .int .i64 up]) ∧ Below w.heap.size w w' := by
  go_enter Tryz.func12, Tryz.ntmps12
  go_wp2
  go_returns
  exact ⟨rfl, ba (ba (ba (Below.refl _ _) _) _) _⟩
set_option maxHeartbeats 400000 in
theorem eqSpn_any (fr up : Int) (w : World) :
    Calls Tryz.prog 41 #[.agg #[.int .i64 fr, .int .i64 up], .agg #[.int .i64 fr, .int .i64 up]] w fun e w' => e = .returned (.bool true) ∧ Below w.heap.size w w' := by
  go_enter Tryz.func41, Tryz.ntmps41
  go_wp2
  go_ret
  exact ⟨rfl, ba (ba (Below.refl _ _) _) _⟩
set_option maxHeartbeats 400000 in
theorem szStateS_any (ao : Option Addr) (n cap : Nat) (left : Int) (w : World) (hl : left ≤ 1048576) (h0 : 0 ≤ left) (hn : n ≤ 9223372036854775807) :
    Calls Tryz.prog 47 #[.slice ao n cap, .int .i64 left] w fun e w' => ∃ r : Int, e = .returned (.int .i64 r) ∧ (r = -1 ∨ 0 ≤ r ∧ r = left - n) ∧ w' = w := by
  by_cases h1 : left - n < 0
  · go_enter Tryz.func47, Tryz.ntmps47
    go_wp2
    go_ret
    exact ⟨_, rfl, .inl rfl, rfl⟩
  · go_enter Tryz.func47, Tryz.ntmps47
    go_wp2
    go_ret
    exact ⟨_, rfl, .inr ⟨by omega, rfl⟩, rfl⟩
set_option maxRecDepth 10000 in
set_option maxHeartbeats 2000000 in
theorem szRun_any (ao : Option Addr) (n cap : Nat) (nm : ByteArray) (fr up ep left : Int) (w : World) (hl : left ≤ 1048576) (h0 : 0 ≤ left) (hn : n ≤ 9223372036854775807) (hz : nm.size ≤ 9223372036854775807) :
    Calls Tryz.prog 19 #[.agg #[.string nm, .int .i64 fr, .int .i64 up, .int .i64 ep, .slice ao n cap], .int .i64 left] w fun e w' => ∃ r : Int, e = .returned (.int .i64 r) ∧ r ≤ 1048576 ∧ -1 ≤ r ∧ (0 ≤ r → (nm.size : Int) ≤ 1048576 ∧ (n : Int) ≤ 1048576) ∧ Below w.heap.size w w' := by
  obtain ⟨W1, hW1⟩ : ∃ W1, w.alloc (.cells #[.string nm, .int .i64 fr, .int .i64 up, .int .i64 ep, .slice ao n cap] 46) = W1 := ⟨_, rfl⟩
  have Z1 : K5 W1 w.heap.size nm fr up ep (.slice ao n cap) := by rw [← hW1]; exact K5.new _ _ _ _ _ _
  have B1 : Below w.heap.size w W1 := by rw [← hW1]; exact ba (Below.refl _ _) _
  have c0 := Z1.c0
  have c4 := Z1.c4
  by_cases h1 : left - nm.size < 0
  · go_enter Tryz.func19, Tryz.ntmps19
    go_wp2
    go_ret
    exact ⟨_, rfl, by decide, by decide, fun h => absurd h (by decide), B1⟩
  · have HS : Hid (∀ W, Calls Tryz.prog 47 #[.slice ao n cap, .int .i64 (left - nm.size)] W fun e w' => ∃ r : Int, e = .returned (.int .i64 r) ∧ (r = -1 ∨ 0 ≤ r ∧ r = left - nm.size - n) ∧ w' = W) := fun W => szStateS_any ao n cap _ W (by omega) (by omega) hn
    go_enter Tryz.func19, Tryz.ntmps19
    go_wp2_with fail
    refine (HS.out _).mono ?_
    rintro e w2 ⟨r, rfl, hr, hw⟩
    have hw2 := hw.symm
    subst hw2
    have HR : Hid (r = -1 ∨ 0 ≤ r ∧ r = left - nm.size - n) := hr
    clear hr
    by_cases hneg : r < 0
    · go_wp2
      go_ret
      exact ⟨_, rfl, by decide, by decide, fun h => absurd h (by decide), B1⟩
    · go_wp2
      go_ret
      exact ⟨r, rfl, by have := HR.out; omega, by omega, fun h => by have := HR.out; omega, B1⟩
set_option maxRecDepth 10000 in
set_option maxHeartbeats 4000000 in
theorem toRun_any (ao : Option Addr) (n cap : Nat) (nm : ByteArray) (fr up ep : Int) (st : List Sa) (w : World) (hr : Reads w (.slice ao n cap) st) (hn : n ≤ 1048576) :
    Calls Tryz.prog 21 #[.agg #[.string nm, .int .i64 fr, .int .i64 up, .int .i64 ep, .slice ao n cap]] w fun e w' => ∃ v, e = .returned (.agg #[.string nm, .int .i64 fr, .int .i64 up, .int .i64 ep, v]) ∧ ownsR w' w.heap.size 85 v st ∧ Below w.heap.size w w' := by
  have HS : Hid (∀ W, Below w.heap.size w W → Calls Tryz.prog 49 #[.slice ao n cap] W fun e w' => ∃ v, e = .returned v ∧ ownsR w' W.heap.size 85 v st ∧ Below W.heap.size W w') := fun W hb => toStateS_any ao n cap st W (hr.below hb) hn
  clear hr
  go_enter Tryz.func21, Tryz.ntmps21
  go_wp2_with fail
  obtain ⟨W0, hW⟩ : ∃ W, ((w.alloc (.cells #[.string nm, .int .i64 fr, .int .i64 up, .int .i64 ep, .slice ao n cap] 46)).alloc (.cells #[.string ⟨#[]⟩, .int .i64 0, .int .i64 0, .int .i64 0, .slice none 0 0] 31)).alloc (.cells #[.string nm, .int .i64 0, .int .i64 0, .int .i64 0, .slice none 0 0] 31) = W := ⟨_, rfl⟩
  have Z0 : K5 W0 w.heap.size nm fr up ep (.slice ao n cap) := by
    rw [← hW]
    exact (K5.new w nm fr up ep (.slice ao n cap)).on (ba (ba (Below.refl _ _) _) _)
  have Z1 : R5 W0 (w.heap.size + 1) ⟨#[]⟩ 0 0 0 (.slice none 0 0) := by
    rw [← hW]
    have := (R5.new (w.alloc (.cells #[.string nm, .int .i64 fr, .int .i64 up, .int .i64 ep, .slice ao n cap] 46)) ⟨#[]⟩ 0 0 0 (.slice none 0 0)).on (ba (Below.refl _ _) (.cells #[.string nm, .int .i64 0, .int .i64 0, .int .i64 0, .slice none 0 0] 31))
    simpa using this
  have Z2 : R5 W0 (w.heap.size + 1 + 1) nm 0 0 0 (.slice none 0 0) := by
    rw [← hW]
    have := R5.new ((w.alloc (.cells #[.string nm, .int .i64 fr, .int .i64 up, .int .i64 ep, .slice ao n cap] 46)).alloc (.cells #[.string ⟨#[]⟩, .int .i64 0, .int .i64 0, .int .i64 0, .slice none 0 0] 31)) nm 0 0 0 (.slice none 0 0)
    simpa using this
  have B0 : Below w.heap.size w W0 := by rw [← hW]; exact ba (ba (ba (Below.refl _ _) _) _) _
  rw [hW]
  clear hW
  refine (toSpn_any fr up W0).mono ?_
  rintro x W1 ⟨rfl, hb1⟩
  have Y0 := Z0.on hb1
  have Y1 := Z1.on hb1
  have Y2 := Z2.on hb1
  have B1 := Below.on B0 hb1
  clear Z0 Z1 Z2 B0 hb1
  have X2 := ((Y2.s1 fr).s2 up).s3 ep
  have X1 := ((Y1.far (a := ⟨w.heap.size + 1 + 1, 1, none⟩) (by show w.heap.size + 1 + 1 ≠ w.heap.size + 1; omega) (.int .i64 fr)).far (a := ⟨w.heap.size + 1 + 1, 2, none⟩) (by show w.heap.size + 1 + 1 ≠ w.heap.size + 1; omega) (.int .i64 up)).far (a := ⟨w.heap.size + 1 + 1, 3, none⟩) (by show w.heap.size + 1 + 1 ≠ w.heap.size + 1; omega) (.int .i64 ep)
  have BX : Below w.heap.size w (((W1.setCell ⟨w.heap.size + 1 + 1, 1, none⟩ (.int .i64 fr)).setCell ⟨w.heap.size + 1 + 1, 2, none⟩ (.int .i64 up)).setCell ⟨w.heap.size + 1 + 1, 3, none⟩ (.int .i64 ep)) :=
    ((B1.setCell (p := ⟨w.heap.size + 1 + 1, 1, none⟩) (by show w.heap.size ≤ w.heap.size + 1 + 1; omega) _).setCell (p := ⟨w.heap.size + 1 + 1, 2, none⟩) (by show w.heap.size ≤ w.heap.size + 1 + 1; omega) _).setCell (p := ⟨w.heap.size + 1 + 1, 3, none⟩) (by show w.heap.size ≤ w.heap.size + 1 + 1; omega) _
  obtain ⟨W2, hW2⟩ : ∃ W, ((W1.setCell ⟨w.heap.size + 1 + 1, 1, none⟩ (.int .i64 fr)).setCell ⟨w.heap.size + 1 + 1, 2, none⟩ (.int .i64 up)).setCell ⟨w.heap.size + 1 + 1, 3, none⟩ (.int .i64 ep) = W := ⟨_, rfl⟩
  rw [hW2] at X1 X2 BX
  have HW2 : Hid (((W1.setCell ⟨w.heap.size + 1 + 1, 1, none⟩ (.int .i64 fr)).setCell ⟨w.heap.size + 1 + 1, 2, none⟩ (.int .i64 up)).setCell ⟨w.heap.size + 1 + 1, 3, none⟩ (.int .i64 ep) = W2) := hW2
  have k2 := Y0.c3
  have k4 := Y0.c4
  have e1 := Y2.c1
  have e2 := Y2.c2
  have e3 := Y2.c3
  have f1 := Y2.fz 1
  have f2 := Y2.fz 2
  have f3 := Y2.fz 3
  clear hW2
  go_wp2_with fail
  rw [HW2.out]
  refine (HS.out W2 BX).mono ?_
  rintro x W3 ⟨v3, rfl, ho3, hb3⟩
  have U1 := X1.on hb3
  have U2 := X2.on hb3
  have B3 := Below.on BX hb3
  have hlow : w.heap.size + 1 + 1 < W2.heap.size := X2.lt
  have HB : Hid (∀ k, v3.ownBlock = some k → w.heap.size + 1 + 1 < k) := fun k hk => Nat.lt_of_lt_of_le hlow (ho3.lt k hk).1
  have HO : Hid (ownsR W3 w.heap.size 85 v3 st) := ho3.mono (by omega)
  obtain ⟨va, vc, ev⟩ := ho3.slice
  subst ev
  clear X1 X2 BX hb3 HS ho3 HW2 k2 k4 e1 e2 e3 f1 f2 f3 Y0 Y1 Y2 B1
  obtain ⟨m, HM⟩ : ∃ m, Hid (st.length = m) := ⟨_, rfl⟩
  rw [HM.out] at HB HO
  rw [HM.out]
  have X2 := U2.s4 (.slice va m vc)
  have X1 := U1.far (a := ⟨w.heap.size + 1 + 1, 4, none⟩) (by show w.heap.size + 1 + 1 ≠ w.heap.size + 1; omega) (.slice va m vc)
  have BX : Below w.heap.size w (W3.setCell ⟨w.heap.size + 1 + 1, 4, none⟩ (.slice va m vc)) := B3.setCell (p := ⟨w.heap.size + 1 + 1, 4, none⟩) (by show w.heap.size ≤ w.heap.size + 1 + 1; omega) _
  have HX : Hid (ownsR (W3.setCell ⟨w.heap.size + 1 + 1, 4, none⟩ (.slice va m vc)) w.heap.size 85 (.slice va m vc) st) := own_keep HO.out fun k hk => heap_setCell_other W3 ⟨w.heap.size + 1 + 1, 4, none⟩ k _ (fun e => by have e' : k = w.heap.size + 1 + 1 := e; have := HB.out k hk; omega)
  have c4 := U2.c4
  have f4 := U2.fz 4
  obtain ⟨W4, hW4⟩ : ∃ W, W3.setCell ⟨w.heap.size + 1 + 1, 4, none⟩ (.slice va m vc) = W := ⟨_, rfl⟩
  rw [hW4] at X1 X2 HX BX
  have e0 := X2.c0
  have e1 := X2.c1
  have e2 := X2.c2
  have e3 := X2.c3
  have e4 := X2.c4
  have h0 := X1.c0
  have h1 := X1.c1
  have h2 := X1.c2
  have h3 := X1.c3
  have h4 := X1.c4
  have k0 := X1.fz 0
  have k1 := X1.fz 1
  have k2 := X1.fz 2
  have k3 := X1.fz 3
  have k4 := X1.fz 4
  go_wp2
  have HE := X1.set nm fr up ep (.slice va m vc)
  refine bodyPost_ret (ret_run1 rfl rfl HE) rfl ?_
  refine ⟨_, rfl, own_putR5 HX.out (fun e => by have := HB.out _ e; omega) nm fr up ep _, below_putR5 BX (Nat.le_succ _) nm fr up ep _⟩
set_option maxRecDepth 10000 in
set_option maxHeartbeats 2000000 in
theorem eqRun_any (ao bo : Option Addr) (n c d : Nat) (nm : ByteArray) (fr up ep : Int) (st : List Sa) (w : World) (ha : Reads w (.slice ao n c) st) (hb : Reads w (.slice bo n d) st) (hn : n ≤ 1048577) :
    Calls Tryz.prog 14 #[.agg #[.string nm, .int .i64 fr, .int .i64 up, .int .i64 ep, .slice ao n c], .agg #[.string nm, .int .i64 fr, .int .i64 up, .int .i64 ep, .slice bo n d]] w fun e w' => e = .returned (.bool true) ∧ Below w.heap.size w w' := by
  obtain ⟨W1, hW1⟩ : ∃ W1, (w.alloc (.cells #[.string nm, .int .i64 fr, .int .i64 up, .int .i64 ep, .slice ao n c] 31)).alloc (.cells #[.string nm, .int .i64 fr, .int .i64 up, .int .i64 ep, .slice bo n d] 31) = W1 := ⟨_, rfl⟩
  have Z1 : R5 W1 w.heap.size nm fr up ep (.slice ao n c) := by rw [← hW1]; exact (R5.new _ _ _ _ _ _).on (ba (Below.refl _ _) _)
  have Z2 : R5 W1 (w.heap.size + 1) nm fr up ep (.slice bo n d) := by
    rw [← hW1]
    have := R5.new (w.alloc (.cells #[.string nm, .int .i64 fr, .int .i64 up, .int .i64 ep, .slice ao n c] 31)) nm fr up ep (.slice bo n d)
    simpa using this
  have B1 : Below w.heap.size w W1 := by rw [← hW1]; exact ba (ba (Below.refl _ _) _) _
  have HE : Hid (∀ W, Below w.heap.size w W → Calls Tryz.prog 42 #[.slice ao n c, .slice bo n d] W fun e w' => e = .returned (.bool true) ∧ Below W.heap.size W w') := fun W h => eqStateS_any ao bo n c d st W (ha.below h) (hb.below h) hn
  clear ha hb
  have c0 := Z1.c0
  have c1 := Z1.c1
  have c2 := Z1.c2
  have d0 := Z2.c0
  have d1 := Z2.c1
  have d2 := Z2.c2
  go_enter Tryz.func14, Tryz.ntmps14
  go_wp2_with fail
  refine (eqSpn_any fr up W1).mono ?_
  rintro e w2 ⟨rfl, hb2⟩
  have Y1 := Z1.on hb2
  have Y2 := Z2.on hb2
  have B2 := Below.on B1 hb2
  clear c0 c1 c2 d0 d1 d2 Z1 Z2 B1 hb2 hW1
  have c3 := Y1.c3
  have c4 := Y1.c4
  have d3 := Y2.c3
  have d4 := Y2.c4
  go_wp2_with fail
  refine (HE.out w2 B2).mono ?_
  rintro e w3 ⟨rfl, hb3⟩
  have B3 := Below.on B2 hb3
  go_wp2
  go_ret
  exact ⟨rfl, B3⟩
set_option maxRecDepth 10000 in
set_option maxHeartbeats 2000000 in
theorem markRun_any {w : World} {B : Nat} {x : Int} {v : Value} {l : List Sa} (nm : ByteArray) (fr up ep : Int) (ho : ownsR w B 85 v l) (hn : l.length ≤ 1048577) (hx0 : 0 < x) (hx : x ≤ 5000000000000000) :
    Calls Tryz.prog 17 #[.agg #[.string nm, .int .i64 fr, .int .i64 up, .int .i64 ep, v], .int .i64 x] w fun e w' => e = .returned (.int .i64 (x + 4 * (l.length : Int))) ∧ ownsR w' B 85 v (marksSa x l.length) ∧ w.grownBy w' v.ownBlock := by
  obtain ⟨ao, cap, rfl⟩ := ho.slice
  obtain ⟨m, HM⟩ : ∃ m, Hid (l.length = m) := ⟨_, rfl⟩
  have H1 : Hid (∀ o : Obj, Calls Tryz.prog 45 #[.slice ao l.length cap, .int .i64 x] (w.alloc o) fun e w' => e = .returned (.int .i64 (x + 4 * (l.length : Int))) ∧ ownsR w' B 85 (.slice ao l.length cap) (marksSa x l.length) ∧ (w.alloc o).grownBy w' (Value.slice ao l.length cap).ownBlock) := fun o => markStateS_any (ho.all (ba (Below.refl _ _) _)) hn hx0 hx
  rw [HM.out] at H1
  rw [HM.out] at hn ⊢
  clear ho
  go_enter Tryz.func17, Tryz.ntmps17
  go_wp2_with fail
  refine (H1.out _).mono ?_
  rintro e w1 ⟨rfl, ho1, hg1⟩
  have HO : Hid (ownsR w1 B 85 (.slice ao m cap) (marksSa x m) ∧ w.grownBy w1 (Value.slice ao m cap).ownBlock) := ⟨ho1, grown_trans (grown_of_below (ba (Below.refl _ _) _) _) hg1⟩
  clear ho1 hg1
  go_wp2
  go_ret
  exact ⟨rfl, HO.out⟩
set_option maxRecDepth 10000 in
set_option maxHeartbeats 2000000 in
theorem heldRun_any (ao : Option Addr) (n c : Nat) (nm : ByteArray) (fr up ep : Int) (x : Int) (w : World) (hr : Reads w (.slice ao n c) (marksSa x n)) (hn : n ≤ 1048577) (hx0 : 0 < x) (hx : x ≤ 5000000000000000) :
    Calls Tryz.prog 18 #[.agg #[.string nm, .int .i64 fr, .int .i64 up, .int .i64 ep, .slice ao n c], .int .i64 x] w fun e w' => e = .returned (.int .i64 (x + 4 * (n : Int))) ∧ Below w.heap.size w w' := by
  have H1 : Hid (∀ W, Below w.heap.size w W → Calls Tryz.prog 46 #[.slice ao n c, .int .i64 x] W fun e w' => e = .returned (.int .i64 (x + 4 * (n : Int))) ∧ Below W.heap.size W w') := fun W h => heldStateS_any ao n c x W (hr.below h) hn hx0 hx
  clear hr
  have hq : decide (x + 4 * (n : Int) < 0) = false := decide_eq_false (by omega)
  go_enter Tryz.func18, Tryz.ntmps18
  go_wp2_with fail
  refine (H1.out _ (ba (Below.refl _ _) _)).mono ?_
  rintro e w1 ⟨rfl, hb1⟩
  go_wp2
  go_ret
  exact ⟨rfl, below_new hb1⟩
end Go.Proofs.YtjmclcjhimcehaaGreatDoor
