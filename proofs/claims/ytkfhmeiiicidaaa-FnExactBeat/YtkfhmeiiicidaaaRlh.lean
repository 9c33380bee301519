/-
  The law's helpers on runs: sizes, copies, held against each other, marked: the walks.
-/
import Derived.Test.YtkfhmeiiicidaaaSts
import Derived.Test.YtkfhmeiiicidaaaR5s
import Derived.Test.YtkfhmeiiicidaaaK5s
namespace Go.Proofs.Ytkfhmeiiicidaaa
open Go Go.RowKit
set_option linter.unusedVariables false

set_option maxHeartbeats 400000 in
theorem toSpn_any (fr up : Int) (w : World) :
    Calls Try.prog 66 #[.agg #[.int .i64 fr, .int .i64 up]] w fun e w' => e = .returned (.agg #[.int .i64 fr, .int .i64 up]) ∧ Below w.heap.size w w' := by
  go_enter Try.func66, Try.ntmps66
  go_wp2
  go_returns
  exact ⟨rfl, ba (ba (ba (Below.refl _ _) _) _) _⟩
set_option maxHeartbeats 400000 in
theorem eqSpn_any (fr up : Int) (w : World) :
    Calls Try.prog 73 #[.agg #[.int .i64 fr, .int .i64 up], .agg #[.int .i64 fr, .int .i64 up]] w fun e w' => e = .returned (.bool true) ∧ Below w.heap.size w w' := by
  go_enter Try.func73, Try.ntmps73
  go_wp2
  go_ret
  exact ⟨rfl, ba (ba (Below.refl _ _) _) _⟩
set_option maxHeartbeats 400000 in
theorem szStateS_any (ao : Option Addr) (n cap : Nat) (left : Int) (w : World) (hl : left ≤ 1048576) (h0 : 0 ≤ left) (hn : n ≤ 9223372036854775807) :
    Calls Try.prog 64 #[.slice ao n cap, .int .i64 left] w fun e w' => ∃ r : Int, e = .returned (.int .i64 r) ∧ (r = -1 ∨ 0 ≤ r ∧ r = left - n) ∧ w' = w := by
  by_cases h1 : left - n < 0
  · go_enter Try.func64, Try.ntmps64
    go_wp2
    go_ret
    exact ⟨_, rfl, .inl rfl, rfl⟩
  · go_enter Try.func64, Try.ntmps64
    go_wp2
    go_ret
    exact ⟨_, rfl, .inr ⟨by omega, rfl⟩, rfl⟩
set_option maxRecDepth 10000 in
set_option maxHeartbeats 2000000 in
theorem szRun_any (ao : Option Addr) (n cap : Nat) (nm : ByteArray) (fr up ep left : Int) (w : World) (hl : left ≤ 1048576) (h0 : 0 ≤ left) (hn : n ≤ 9223372036854775807) (hz : nm.size ≤ 9223372036854775807) :
    Calls Try.prog 42 #[.agg #[.string nm, .int .i64 fr, .int .i64 up, .int .i64 ep, .slice ao n cap], .int .i64 left] w fun e w' => ∃ r : Int, e = .returned (.int .i64 r) ∧ r ≤ 1048576 ∧ -1 ≤ r ∧ (0 ≤ r → (nm.size : Int) ≤ 1048576 ∧ (n : Int) ≤ 1048576) ∧ Below w.heap.size w w' := by
  obtain ⟨W1, hW1⟩ : ∃ W1, w.alloc (.cells #[.string nm, .int .i64 fr, .int .i64 up, .int .i64 ep, .slice ao n cap] 90) = W1 := ⟨_, rfl⟩
  have Z1 : K5 W1 w.heap.size nm fr up ep (.slice ao n cap) := by rw [← hW1]; exact K5.new _ _ _ _ _ _
  have B1 : Below w.heap.size w W1 := by rw [← hW1]; exact ba (Below.refl _ _) _
  have c0 := Z1.c0
  have c4 := Z1.c4
  by_cases h1 : left - nm.size < 0
  · go_enter Try.func42, Try.ntmps42
    go_wp2
    go_ret
    exact ⟨_, rfl, by decide, by decide, fun h => absurd h (by decide), B1⟩
  · have HS : Hid (∀ W, Calls Try.prog 64 #[.slice ao n cap, .int .i64 (left - nm.size)] W fun e w' => ∃ r : Int, e = .returned (.int .i64 r) ∧ (r = -1 ∨ 0 ≤ r ∧ r = left - nm.size - n) ∧ w' = W) := fun W => szStateS_any ao n cap _ W (by omega) (by omega) hn
    go_enter Try.func42, Try.ntmps42
    go_wp2_with fail
    refine (HS.out _).mono ?_
    rintro e w2 ⟨r, rfl, hr, hw⟩
    have hw2 := hw.symm
    subst hw2
    have HR : Hid (r = -1 ∨ 0 ≤ r ∧ r = left - nm.size - n) := hr
    clear hr
    by_cases hneg : r < 0
    · go_wp2
      go_ret
      exact ⟨_, rfl, by decide, by decide, fun h => absurd h (by decide), B1⟩
    · go_wp2
      go_ret
      exact ⟨r, rfl, by have := HR.out; omega, by omega, fun h => by have := HR.out; omega, B1⟩
set_option maxRecDepth 10000 in
set_option maxHeartbeats 4000000 in
theorem toRun_any (ao : Option Addr) (n cap : Nat) (nm : ByteArray) (fr up ep : Int) (st : List Sa) (w : World) (hr : Reads w (.slice ao n cap) st) (hn : n ≤ 1048576) :
    Calls Try.prog 47 #[.agg #[.string nm, .int .i64 fr, .int .i64 up, .int .i64 ep, .slice ao n cap]] w fun e w' => ∃ v, e = .returned (.agg #[.string nm, .int .i64 fr, .int .i64 up, .int .i64 ep, v]) ∧ ownsR w' w.heap.size 47 v st ∧ Below w.heap.size w w' := by
  have HS : Hid (∀ W, Below w.heap.size w W → Calls Try.prog 67 #[.slice ao n cap] W fun e w' => ∃ v, e = .returned v ∧ ownsR w' W.heap.size 47 v st ∧ Below W.heap.size W w') := fun W hb => toStateS_any ao n cap st W (hr.below hb) hn
  clear hr
  go_enter Try.func47, Try.ntmps47
  go_wp2_with fail
  obtain ⟨W0, hW⟩ : ∃ W, ((w.alloc (.cells #[.string nm, .int .i64 fr, .int .i64 up, .int .i64 ep, .slice ao n cap] 90)).alloc (.cells #[.string ⟨#[]⟩, .int .i64 0, .int .i64 0, .int .i64 0, .slice none 0 0] 52)).alloc (.cells #[.string nm, .int .i64 0, .int .i64 0, .int .i64 0, .slice none 0 0] 52) = W := ⟨_, rfl⟩
  have Z0 : K5 W0 w.heap.size nm fr up ep (.slice ao n cap) := by
    rw [← hW]
    exact (K5.new w nm fr up ep (.slice ao n cap)).on (ba (ba (Below.refl _ _) _) _)
  have Z1 : R5 W0 (w.heap.size + 1) ⟨#[]⟩ 0 0 0 (.slice none 0 0) := by
    rw [← hW]
    have := (R5.new (w.alloc (.cells #[.string nm, .int .i64 fr, .int .i64 up, .int .i64 ep, .slice ao n cap] 90)) ⟨#[]⟩ 0 0 0 (.slice none 0 0)).on (ba (Below.refl _ _) (.cells #[.string nm, .int .i64 0, .int .i64 0, .int .i64 0, .slice none 0 0] 52))
    simpa using this
  have Z2 : R5 W0 (w.heap.size + 1 + 1) nm 0 0 0 (.slice none 0 0) := by
    rw [← hW]
    have := R5.new ((w.alloc (.cells #[.string nm, .int .i64 fr, .int .i64 up, .int .i64 ep, .slice ao n cap] 90)).alloc (.cells #[.string ⟨#[]⟩, .int .i64 0, .int .i64 0, .int .i64 0, .slice none 0 0] 52)) nm 0 0 0 (.slice none 0 0)
    simpa using this
  have B0 : Below w.heap.size w W0 := by rw [← hW]; exact ba (ba (ba (Below.refl _ _) _) _) _
  rw [hW]
  clear hW
  refine (toSpn_any fr up W0).mono ?_
  rintro x W1 ⟨rfl, hb1⟩
  have Y0 := Z0.on hb1
  have Y1 := Z1.on hb1
  have Y2 := Z2.on hb1
  have B1 := Below.on B0 hb1
  clear Z0 Z1 Z2 B0 hb1
  have X2 := ((Y2.s1 fr).s2 up).s3 ep
  have X1 := ((Y1.far (a := ⟨w.heap.size + 1 + 1, 1, none⟩) (by show w.heap.size + 1 + 1 ≠ w.heap.size + 1; omega) (.int .i64 fr)).far (a := ⟨w.heap.size + 1 + 1, 2, none⟩) (by show w.heap.size + 1 + 1 ≠ w.heap.size + 1; omega) (.int .i64 up)).far (a := ⟨w.heap.size + 1 + 1, 3, none⟩) (by show w.heap.size + 1 + 1 ≠ w.heap.size + 1; omega) (.int .i64 ep)
  have BX : Below w.heap.size w (((W1.setCell ⟨w.heap.size + 1 + 1, 1, none⟩ (.int .i64 fr)).setCell ⟨w.heap.size + 1 + 1, 2, none⟩ (.int .i64 up)).setCell ⟨w.heap.size + 1 + 1, 3, none⟩ (.int .i64 ep)) :=
    ((B1.setCell (p := ⟨w.heap.size + 1 + 1, 1, none⟩) (by show w.heap.size ≤ w.heap.size + 1 + 1; omega) _).setCell (p := ⟨w.heap.size + 1 + 1, 2, none⟩) (by show w.heap.size ≤ w.heap.size + 1 + 1; omega) _).setCell (p := ⟨w.heap.size + 1 + 1, 3, none⟩) (by show w.heap.size ≤ w.heap.size + 1 + 1; omega) _
  obtain ⟨W2, hW2⟩ : ∃ W, ((W1.setCell ⟨w.heap.size + 1 + 1, 1, none⟩ (.int .i64 fr)).setCell ⟨w.heap.size + 1 + 1, 2, none⟩ (.int .i64 up)).setCell ⟨w.heap.size + 1 + 1, 3, none⟩ (.int .i64 ep) = W := ⟨_, rfl⟩
  rw [hW2] at X1 X2 BX
  have HW2 : Hid (((W1.setCell ⟨w.heap.size + 1 + 1, 1, none⟩ (.int .i64 fr)).setCell ⟨w.heap.size + 1 + 1, 2, none⟩ (.int .i64 up)).setCell ⟨w.heap.size + 1 + 1, 3, none⟩ (.int .i64 ep) = W2) := hW2
  have k2 := Y0.c3
  have k4 := Y0.c4
  have e1 := Y2.c1
  have e2 := Y2.c2
  have e3 := Y2.c3
  have f1 := Y2.fz 1
  have f2 := Y2.fz 2
  have f3 := Y2.fz 3
  clear hW2
  go_wp2_with fail
  rw [HW2.out]
  refine (HS.out W2 BX).mono ?_
  rintro x W3 ⟨v3, rfl, ho3, hb3⟩
  have U1 := X1.on hb3
  have U2 := X2.on hb3
  have B3 := Below.on BX hb3
  have hlow : w.heap.size + 1 + 1 < W2.heap.size := X2.lt
  have HB : Hid (∀ k, v3.ownBlock = some k → w.heap.size + 1 + 1 < k) := fun k hk => Nat.lt_of_lt_of_le hlow (ho3.lt k hk).1
  have HO : Hid (ownsR W3 w.heap.size 47 v3 st) := ho3.mono (by omega)
  obtain ⟨va, vc, ev⟩ := ho3.slice
  subst ev
  clear X1 X2 BX hb3 HS ho3 HW2 k2 k4 e1 e2 e3 f1 f2 f3 Y0 Y1 Y2 B1
  obtain ⟨m, HM⟩ : ∃ m, Hid (st.length = m) := ⟨_, rfl⟩
  rw [HM.out] at HB HO
  rw [HM.out]
  have X2 := U2.s4 (.slice va m vc)
  have X1 := U1.far (a := ⟨w.heap.size + 1 + 1, 4, none⟩) (by show w.heap.size + 1 + 1 ≠ w.heap.size + 1; omega) (.slice va m vc)
  have BX : Below w.heap.size w (W3.setCell ⟨w.heap.size + 1 + 1, 4, none⟩ (.slice va m vc)) := B3.setCell (p := ⟨w.heap.size + 1 + 1, 4, none⟩) (by show w.heap.size ≤ w.heap.size + 1 + 1; omega) _
  have HX : Hid (ownsR (W3.setCell ⟨w.heap.size + 1 + 1, 4, none⟩ (.slice va m vc)) w.heap.size 47 (.slice va m vc) st) := own_keep HO.out fun k hk => heap_setCell_other W3 ⟨w.heap.size + 1 + 1, 4, none⟩ k _ (fun e => by have e' : k = w.heap.size + 1 + 1 := e; have := HB.out k hk; omega)
  have c4 := U2.c4
  have f4 := U2.fz 4
  obtain ⟨W4, hW4⟩ : ∃ W, W3.setCell ⟨w.heap.size + 1 + 1, 4, none⟩ (.slice va m vc) = W := ⟨_, rfl⟩
  rw [hW4] at X1 X2 HX BX
  have e0 := X2.c0
  have e1 := X2.c1
  have e2 := X2.c2
  have e3 := X2.c3
  have e4 := X2.c4
  have h0 := X1.c0
  have h1 := X1.c1
  have h2 := X1.c2
  have h3 := X1.c3
  have h4 := X1.c4
  have k0 := X1.fz 0
  have k1 := X1.fz 1
  have k2 := X1.fz 2
  have k3 := X1.fz 3
  have k4 := X1.fz 4
  go_wp2
  have HE := X1.set nm fr up ep (.slice va m vc)
  refine bodyPost_ret (ret_run1 rfl rfl HE) rfl ?_
  refine ⟨_, rfl, own_putR5 HX.out (fun e => by have := HB.out _ e; omega) nm fr up ep _, below_putR5 BX (Nat.le_succ _) nm fr up ep _⟩
set_option maxRecDepth 10000 in
set_option maxHeartbeats 2000000 in
theorem eqRun_any (ao bo : Option Addr) (n c d : Nat) (nm : ByteArray) (fr up ep : Int) (st : List Sa) (w : World) (ha : Reads w (.slice ao n c) st) (hb : Reads w (.slice bo n d) st) (hn : n ≤ 1048577) :
    Calls Try.prog 54 #[.agg #[.string nm, .int .i64 fr, .int .i64 up, .int .i64 ep, .slice ao n c], .agg #[.string nm, .int .i64 fr, .int .i64 up, .int .i64 ep, .slice bo n d]] w fun e w' => e = .returned (.bool true) ∧ Below w.heap.size w w' := by
  obtain ⟨W1, hW1⟩ : ∃ W1, (w.alloc (.cells #[.string nm, .int .i64 fr, .int .i64 up, .int .i64 ep, .slice ao n c] 52)).alloc (.cells #[.string nm, .int .i64 fr, .int .i64 up, .int .i64 ep, .slice bo n d] 52) = W1 := ⟨_, rfl⟩
  have Z1 : R5 W1 w.heap.size nm fr up ep (.slice ao n c) := by rw [← hW1]; exact (R5.new _ _ _ _ _ _).on (ba (Below.refl _ _) _)
  have Z2 : R5 W1 (w.heap.size + 1) nm fr up ep (.slice bo n d) := by
    rw [← hW1]
    have := R5.new (w.alloc (.cells #[.string nm, .int .i64 fr, .int .i64 up, .int .i64 ep, .slice ao n c] 52)) nm fr up ep (.slice bo n d)
    simpa using this
  have B1 : Below w.heap.size w W1 := by rw [← hW1]; exact ba (ba (Below.refl _ _) _) _
  have HE : Hid (∀ W, Below w.heap.size w W → Calls Try.prog 74 #[.slice ao n c, .slice bo n d] W fun e w' => e = .returned (.bool true) ∧ Below W.heap.size W w') := fun W h => eqStateS_any ao bo n c d st W (ha.below h) (hb.below h) hn
  clear ha hb
  have c0 := Z1.c0
  have c1 := Z1.c1
  have c2 := Z1.c2
  have d0 := Z2.c0
  have d1 := Z2.c1
  have d2 := Z2.c2
  go_enter Try.func54, Try.ntmps54
  go_wp2_with fail
  refine (eqSpn_any fr up W1).mono ?_
  rintro e w2 ⟨rfl, hb2⟩
  have Y1 := Z1.on hb2
  have Y2 := Z2.on hb2
  have B2 := Below.on B1 hb2
  clear c0 c1 c2 d0 d1 d2 Z1 Z2 B1 hb2 hW1
  have c3 := Y1.c3
  have c4 := Y1.c4
  have d3 := Y2.c3
  have d4 := Y2.c4
  go_wp2_with fail
  refine (HE.out w2 B2).mono ?_
  rintro e w3 ⟨rfl, hb3⟩
  have B3 := Below.on B2 hb3
  go_wp2
  go_ret
  exact ⟨rfl, B3⟩
end Go.Proofs.Ytkfhmeiiicidaaa
