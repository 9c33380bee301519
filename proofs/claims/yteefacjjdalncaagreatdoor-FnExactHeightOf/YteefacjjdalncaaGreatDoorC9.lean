/-
  The law on how high a plan is: the walk.
-/
import Derived.Test.YteefacjjdalncaaGreatDoorC2
import Derived.Test.YteefacjjdalncaaGreatDoorC8
namespace Go.Proofs.YteefacjjdalncaaGreatDoor
open Go Go.RowKit
set_option linter.unusedVariables false

theorem ord_or (d : Dg) : ordC d = [] ∨ (Rg4 d.tasks ∧ ordC d = orderL d.tasks) := by
  unfold ordC
  by_cases hq : dagB d = true
  · rw [if_pos hq]; exact .inr ⟨rg_of hq, rfl⟩
  · rw [if_neg hq]; exact .inl rfl
set_option maxRecDepth 10000 in
set_option maxHeartbeats 4000000 in
theorem law_HeightOf (ao : Option Addr) (n cap : Nat) (nm cr : ByteArray) (fr up : Int) (cu : Bool) (ts : List Ta) (w : World) (hr : Tasks w (.slice ao n cap) ts) (hf : FitD ⟨nm, cr, fr, up, cu, ts⟩ n) (hg : Gl w) :
    Calls Tryz.prog 10 #[.agg #[.string nm, .string cr, .int .i64 fr, .int .i64 up, .bool cu, .slice ao n cap]] w fun x w' => x = .returned (.bool true) ∧ Below w.heap.size w w' := by
  have HN : Hid (ts.length = n) := by
    obtain ⟨ao', cap', e⟩ := hr.slice
    injection e with _ e2 _
    exact e2.symm
  have HZ : Hid (∀ W, Below w.heap.size w W → Calls Tryz.prog 39 #[.agg #[.string nm, .string cr, .int .i64 fr, .int .i64 up, .bool cu, .slice ao n cap], .int .i64 1048576] W fun e w' => ∃ r : Int, e = .returned (.int .i64 r) ∧ r ≤ 1048576 ∧ -1 ≤ r ∧ (0 ≤ r → (nm.size : Int) ≤ 1048576 ∧ (cr.size : Int) ≤ 1048576 ∧ (ts.length : Int) ≤ 1048576 ∧ ∀ t ∈ ts, Wei t 1048576) ∧ Below W.heap.size W w') := fun W hb => szD_any ao n cap nm cr fr up cu ts 1048576 W (hr.below hb) hf (by decide) (by decide)
  have HR : Hid (∀ W, Below w.heap.size w W → Tasks W (.slice ao n cap) ts) := fun W hb => hr.below hb
  have HG : Hid (∀ W, Below w.heap.size w W → Gl W) := fun W hb => hg.up hb
  clear hr hf hg
  obtain ⟨z, HQ⟩ : ∃ z, Hid (hpL ts (ordC ⟨nm, cr, fr, up, cu, ts⟩) = z) := ⟨_, rfl⟩
  go_enter Tryz.func10, Tryz.ntmps10
  go_wp2_with fail
  refine (HZ.out _ (ba (Below.refl _ _) _)).mono ?_
  rintro x w0 ⟨r, rfl, hr1, hr2, hr3, hb0⟩
  have Z0 := (L6.new w nm cr fr up cu (.slice ao n cap)).on hb0
  have B0 := below_new hb0
  have HR3 : Hid (0 ≤ r → (nm.size : Int) ≤ 1048576 ∧ (cr.size : Int) ≤ 1048576 ∧ (ts.length : Int) ≤ 1048576 ∧ ∀ t ∈ ts, Wei t 1048576) := hr3
  clear hb0 hr3 HZ
  by_cases hneg : r < 0
  · go_wp2
    go_ret
    exact ⟨rfl, B0⟩
  have HK := HR3.out (by omega)
  have HK1 : Hid (∀ t ∈ ts, t.after.length ≤ 1048576) := fun t ht => by have := (HK.2.2.2 t ht).2.1; omega
  have hn : n ≤ 1048576 := by have h1 := HK.2.2.1; have h2 := HN.out; omega
  have HSm : Hid (∀ t ∈ ts, Sm t) := fun t ht => by
    obtain ⟨y1, y2, y3⟩ := HK.2.2.2 t ht
    exact ⟨by omega, by omega, fun s hs => by have := y3 s hs; omega⟩
  have HA : Hid (∀ (go : Option Addr) W, Below w.heap.size w W → Tasks W (.slice go n n) ts → Calls Tryz.prog 34 #[.agg #[.string nm, .string cr, .int .i64 fr, .int .i64 up, .bool cu, .slice go n n]] W fun x w' => x = .returned (.int .i64 z) ∧ Below W.heap.size W w') := fun go W hb ht => by
    rw [← HQ.out]; exact implHeight_any go n n nm cr fr up cu ts W ⟨ht, Nat.le_refl _, Nat.le_succ_of_le hn, HSm.out, by have := HK.2.1; show cr.size ≤ 1048576; omega, by have := HK.1; show nm.size ≤ 9223372036854775807; omega⟩ (HG.out W hb)
  have HS : Hid (∀ (go : Option Addr) W, Below w.heap.size w W → Tasks W (.slice go n n) ts → Calls Tryz.prog 35 #[.agg #[.string nm, .string cr, .int .i64 fr, .int .i64 up, .bool cu, .slice go n n]] W fun x w' => x = .returned (.int .i64 z) ∧ Below W.heap.size W w') := fun go W hb ht => by
    rw [← HQ.out, ht_same (ord_or ⟨nm, cr, fr, up, cu, ts⟩)]; exact specHeight_any go n n nm cr fr up cu ts W ⟨ht, by show ts.length ≤ 1048577; rw [HN.out]; exact Nat.le_succ_of_le hn, fun t ht => ⟨(HSm.out t ht).few, (HSm.out t ht).name⟩, by have := HK.2.1; show cr.size ≤ 1048576; omega, by have := HK.1; show nm.size ≤ 9223372036854775807; omega⟩
  clear HK HR3
  have HT : Hid (∀ W, Below w.heap.size w W → Calls Tryz.prog 40 #[.agg #[.string nm, .string cr, .int .i64 fr, .int .i64 up, .bool cu, .slice ao n cap]] W fun e w' => ∃ g, e = .returned (.agg #[.string nm, .string cr, .int .i64 fr, .int .i64 up, .bool cu, .slice (some ⟨g, 0, none⟩) n n]) ∧ TasksB W.heap.size w' (.slice (some ⟨g, 0, none⟩) n n) ts ∧ Below W.heap.size W w') := fun W hb => toD_any ao n cap nm cr fr up cu ts W (HR.out W hb) hn HK1.out
  have c0 := Z0.c0
  have c1 := Z0.c1
  have c2 := Z0.c2
  have c3 := Z0.c3
  have c4 := Z0.c4
  have c5 := Z0.c5
  go_wp2_with fail
  refine (HT.out _ B0).mono ?_
  rintro x w1 ⟨g1, rfl, ht1, hb1⟩
  have Z1 := Z0.on hb1
  have B1 := Below.on B0 hb1
  have HT1 : Hid (Tasks w1 (.slice (some ⟨g1, 0, none⟩) n n) ts) := ht1.tasks
  clear c0 c1 c2 c3 c4 c5 Z0 B0 hb1 ht1
  go_wp2_with fail
  refine (HS.out _ _ B1 HT1.out).mono ?_
  rintro x w2 ⟨rfl, hb2⟩
  have Z2 := Z1.on hb2
  have B2 := Below.on B1 hb2
  clear Z1 B1 hb2 HT1 HS
  have c0 := Z2.c0
  have c1 := Z2.c1
  have c2 := Z2.c2
  have c3 := Z2.c3
  have c4 := Z2.c4
  have c5 := Z2.c5
  go_wp2_with fail
  refine (HT.out _ B2).mono ?_
  rintro x w3 ⟨g3, rfl, ht3, hb3⟩
  have Z3 := Z2.on hb3
  have B3 := Below.on B2 hb3
  have B4 : Below w.heap.size w (w3.alloc (.cells #[.string nm, .string cr, .int .i64 fr, .int .i64 up, .bool cu, .slice (some ⟨g3, 0, none⟩) n n] 26)) := ba B3 _
  have HT4 : Hid (Tasks (w3.alloc (.cells #[.string nm, .string cr, .int .i64 fr, .int .i64 up, .bool cu, .slice (some ⟨g3, 0, none⟩) n n] 26)) (.slice (some ⟨g3, 0, none⟩) n n) ts) := ht3.tasks.below (ba (Below.refl _ _) _)
  have Z4 := Z3.on (ba (Below.refl _ _) (.cells #[.string nm, .string cr, .int .i64 fr, .int .i64 up, .bool cu, .slice (some ⟨g3, 0, none⟩) n n] 26))
  have X4 := P6.new w3 nm cr fr up cu (.slice (some ⟨g3, 0, none⟩) n n)
  clear c0 c1 c2 c3 c4 c5 Z2 Z3 B2 B3 hb3 ht3
  go_wp2_with fail
  refine (HA.out _ _ B4 HT4.out).mono ?_
  rintro x w5 ⟨rfl, hb5⟩
  have Z5 := Z4.on hb5
  have X5 := X4.on hb5
  have B5' := Below.on B4 hb5
  have HT5 : Hid (Tasks w5 (.slice (some ⟨g3, 0, none⟩) n n) ts) := HT4.out.below hb5
  clear Z4 X4 B4 hb5 HT4 HA
  have K0 := Below.cellOf (B := w5.heap.size) (W := w5) (p := ⟨w.heap.size, 0, none⟩) Z5.lt Z5.c0
  have J0 := Below.cellOf (B := w5.heap.size) (W := w5) (p := ⟨w3.heap.size, 0, none⟩) X5.lt X5.c0
  have K1 := Below.cellOf (B := w5.heap.size) (W := w5) (p := ⟨w.heap.size, 1, none⟩) Z5.lt Z5.c1
  have J1 := Below.cellOf (B := w5.heap.size) (W := w5) (p := ⟨w3.heap.size, 1, none⟩) X5.lt X5.c1
  have K2 := Below.cellOf (B := w5.heap.size) (W := w5) (p := ⟨w.heap.size, 2, none⟩) Z5.lt Z5.c2
  have J2 := Below.cellOf (B := w5.heap.size) (W := w5) (p := ⟨w3.heap.size, 2, none⟩) X5.lt X5.c2
  have K3 := Below.cellOf (B := w5.heap.size) (W := w5) (p := ⟨w.heap.size, 3, none⟩) Z5.lt Z5.c3
  have J3 := Below.cellOf (B := w5.heap.size) (W := w5) (p := ⟨w3.heap.size, 3, none⟩) X5.lt X5.c3
  have K4 := Below.cellOf (B := w5.heap.size) (W := w5) (p := ⟨w.heap.size, 4, none⟩) Z5.lt Z5.c4
  have J4 := Below.cellOf (B := w5.heap.size) (W := w5) (p := ⟨w3.heap.size, 4, none⟩) X5.lt X5.c4
  have K5 := Below.cellOf (B := w5.heap.size) (W := w5) (p := ⟨w.heap.size, 5, none⟩) Z5.lt Z5.c5
  have J5 := Below.cellOf (B := w5.heap.size) (W := w5) (p := ⟨w3.heap.size, 5, none⟩) X5.lt X5.c5
  clear Z5 X5
  go_wp2_with fail
  go_region_held3 (fun w' => Below w5.heap.size w5 w') ((first | exact (Below.refl _ _).drew | exact hS6 | exact hS7)) ((first | (go_at_call 40; refine (HT.out _ (Below.on B5' (by assumption))).mono ?_; rintro x w6 ⟨g6, rfl, ht6, hb6⟩; have hS6 := keep_on (B := w5.heap.size) (W := w5) hb6 (by assumption) (Nat.le_refl _)) | (go_at_call 36; refine (eqD_any _ _ _ _ _ _ _ _ _ _ ts _ (HT5.out.below hS6) ht6.tasks (Nat.le_succ_of_le hn) (fun t ht => Nat.le_succ_of_le (HK1.out t ht))).mono ?_; rintro x w7 ⟨rfl, hb7⟩; have hS7 := keep_on (B := w5.heap.size) (W := w5) hb7 hS6 (Nat.le_refl _))))
  clear ht6 hb6 hb7 hS6 K0 K1 K2 K3 K4 K5 J0 J1 J2 J3 J4 J5
  have B7 := Below.on B5' hS7
  go_wp2
  go_ret
  exact ⟨rfl, B7⟩
end Go.Proofs.YteefacjjdalncaaGreatDoor

