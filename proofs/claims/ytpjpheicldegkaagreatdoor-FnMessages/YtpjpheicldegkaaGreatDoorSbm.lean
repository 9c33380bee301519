/- Sbm -/
import Derived.Test.YtpjpheicldegkaaGreatDoorGM17
import Derived.Test.YtpjpheicldegkaaGreatDoorPd
namespace Go.Proofs.YtpjpheicldegkaaGreatDoor
open Go Go.RowKit
set_option linter.unusedVariables false

def annT : ByteArray := ⟨#[100, 97, 103, 32, 97, 110, 110, 10, 99, 114, 111, 110, 32, 42, 32, 42, 32, 42, 32, 42, 32, 42, 10, 102, 114, 111, 109, 32, 48, 10, 116, 111, 32, 57, 48, 10, 99, 97, 116, 99, 104, 117, 112, 10, 116, 97, 115, 107, 32, 97, 32, 111, 110, 101, 32, 49, 32, 102, 114, 101, 101, 10]⟩
theorem ann_fault : (dagO annT).2 = 0 := by decide +kernel
theorem ann_name : (dagO annT).1.name = ⟨#[97, 110, 110]⟩ := by decide +kernel
theorem ann_cron : (dagO annT).1.cron = ⟨#[42, 32, 42, 32, 42, 32, 42, 32, 42]⟩ := by decide +kernel
theorem ann_fr : (dagO annT).1.fr = 0 := by decide +kernel
theorem ann_up : (dagO annT).1.up = 90 := by decide +kernel
theorem ann_cu : (dagO annT).1.cu = true := by decide +kernel

theorem D6.grownB {W W' : World} {b : Nat} {nm cr : ByteArray} {fr up : Int} {cu : Bool} {tv : Value} {r : Option Nat} (h : D6 W b nm cr fr up cu tv) (hg : W.grownBy W' r) (hr : some b ≠ r) : D6 W' b nm cr fr up cu tv := (hg.block b h.lt hr).trans h
abbrev annN : ByteArray := ⟨#[97, 110, 110]⟩
abbrev annC : ByteArray := ⟨#[42, 32, 42, 32, 42, 32, 42, 32, 42]⟩
abbrev annP (tv : Value) : Pl := ⟨annN, annC, 0, 90, true, tv, false, 0, 0⟩
structure SbS (w : World) (bo bd : Nat) (sv pv rv tv : Value) (ck tk : Int) (l : List Se) (W : World) : Prop where
  res : B5 151 W (w.heap.size + 1) (.slice none 0 0) (.slice none 0 0) (.slice none 0 0) (.int .i64 0) (.int .i64 0)
  out : B5 151 W bo sv pv rv (.int .i64 ck) (.int .i64 tk)
  dag : D6 W bd annN annC 0 90 true tv
  own : ownsR W w.heap.size 154 sv l
  bl : Below w.heap.size w W
  lo : w.heap.size ≤ bo
  ne : bo ≠ w.heap.size + 1
theorem SbS.up {w W W' : World} {bo bd : Nat} {sv pv rv tv : Value} {ck tk : Int} {l : List Se} (h : SbS w bo bd sv pv rv tv ck tk l W) (hb : Below W.heap.size W W') : SbS w bo bd sv pv rv tv ck tk l W' :=
  ⟨h.res.up hb, h.out.up hb, (hb.block _ h.dag.lt).trans h.dag, h.own.all hb, h.bl.trans (hb.mono h.bl.size), h.lo, h.ne⟩
theorem SbS.alloc {w W : World} {bo bd : Nat} {sv pv rv tv : Value} {ck tk : Int} {l : List Se} (h : SbS w bo bd sv pv rv tv ck tk l W) (o : Obj) : SbS w bo bd sv pv rv tv ck tk l (W.alloc o) := h.up (ba (Below.refl _ _) _)
theorem SbS.grown {w W W' : World} {bo bd r : Nat} {sv pv rv tv : Value} {ck tk : Int} {l : List Se} (h : SbS w bo bd sv pv rv tv ck tk l W) (hg : W.grownBy W' (some r)) (ht : TyB W r 168) (hr : w.heap.size ≤ r) : SbS w bo bd sv pv rv tv ck tk l W' :=
  ⟨h.res.grown hg (by rintro e; cases e; exact h.res.ty.ne ht (by decide) rfl), h.out.grown hg (by rintro e; cases e; exact h.out.ty.ne ht (by decide) rfl), h.dag.grownB hg (by rintro e; cases e; exact TyB.ne ⟨_, h.dag⟩ ht (t := 163) (by decide) rfl),
   h.own.same' fun k hk => hg.block k (h.own.lt k hk).2 (by rintro e; cases e; exact (h.own.ty hk).ne ht (by decide) rfl), h.bl.grown hg h.bl.size (fun k hk => by cases hk; exact hr), h.lo, h.ne⟩
theorem pl_one (tv : Value) (ao : Option Addr) (n c : Nat) (h : tv = .slice ao n c) : ∀ x ∈ [annP tv], ∀ u ∈ Rec.cells x, u.oneCell' = true := by
  intro x hx u hu
  rw [List.mem_singleton.1 hx] at hu
  subst h
  simp only [Rec.cells, List.mem_cons, List.not_mem_nil, or_false] at hu
  rcases hu with rfl | rfl | rfl | rfl | rfl | rfl | rfl | rfl | rfl <;> rfl
theorem pl_built (w : World) (tv : Value) : Reads (w.alloc (.cells #[.string annN, .string annC, .int .i64 0, .int .i64 90, .bool true, tv, .bool false, .int .i64 0, .int .i64 0] 168)) (.slice (some ⟨w.heap.size, 0, none⟩) 1 1) [annP tv] := by
  refine ⟨some ⟨w.heap.size, 0, none⟩, 1, rfl, fun _ => ⟨w.heap.size, 0, rfl, by simp, fun i x hx j u hu => ?_⟩⟩
  match i, hx with
  | 0, hx =>
    simp only [List.getElem?_cons_zero, Option.some.injEq] at hx
    subst hx
    have hc : ∀ j, (w.alloc (.cells #[.string annN, .string annC, .int .i64 0, .int .i64 90, .bool true, tv, .bool false, .int .i64 0, .int .i64 0] 168)).cell? ⟨w.heap.size, j, none⟩ = (#[.string annN, .string annC, .int .i64 0, .int .i64 90, .bool true, tv, .bool false, .int .i64 0, .int .i64 0] : Array Value)[j]? := fun j => by
      have hb : (w.alloc (.cells #[.string annN, .string annC, .int .i64 0, .int .i64 90, .bool true, tv, .bool false, .int .i64 0, .int .i64 0] 168)).heap[w.heap.size]? = some (.cells #[.string annN, .string annC, .int .i64 0, .int .i64 90, .bool true, tv, .bool false, .int .i64 0, .int .i64 0] 168) := by show (w.heap.push _)[w.heap.size]? = _; simp
      unfold World.cell?
      rw [hb]
      simp
    simp only [Nat.zero_mul, Nat.zero_add]
    rw [hc j, ← hu]
    simp [Rec.cells]
  | i + 1, hx => simp at hx

set_option maxRecDepth 10000 in
set_option maxHeartbeats 4000000 in
theorem submit_ann (sv : Value) (ap ar : Option Addr) (cp cr : Nat) (ck tk : Int) (l : List Se) (w : World) (hr : Reads w sv l) (hl : l.length ≤ 1000) :
    Calls Tryz.prog 97 #[bdV sv (.slice ap 0 cp) (.slice ar 0 cr) ck tk, .string annT] w fun e w' => ∃ (sv' pv x : Value) (xr : Addr) (tv : Value), e = .returned (.tuple #[bdV sv' pv (.slice (some xr) 0 0) ck tk, x]) ∧ ownsR w' w.heap.size 154 sv' l ∧ ownsR w' w.heap.size 168 pv [annP tv] ∧ Below w.heap.size w w' := by
  have HPD : Hid (∀ W, Calls Tryz.prog 104 #[.string annT] W fun e w' => ∃ a n c, e = .returned (.tuple #[.agg #[.string annN, .string annC, .int .i64 0, .int .i64 90, .bool true, .slice a n c], .int .i64 0]) ∧ Below W.heap.size W w') := fun W => (parseDag_any annT W (by decide)).mono fun e w' ⟨tv, h1, h2, h3⟩ => by
    obtain ⟨a, c, rfl⟩ := h2.slice
    rw [ann_fault, ann_name, ann_cron, ann_fr, ann_up, ann_cu] at h1
    exact ⟨a, _, c, h1, h3⟩
  obtain ⟨T, HT⟩ : ∃ T, Hid (annT = T) := ⟨_, rfl⟩
  rw [HT.out] at HPD
  rw [HT.out]
  clear HT
  obtain ⟨ao, c, rfl, _⟩ := id hr
  obtain ⟨n, hn⟩ : ∃ n, l.length = n := ⟨_, rfl⟩
  rw [hn] at hr
  rw [hn]
  have HL : Hid (l.length ≤ 1000) := hl
  clear hn hl
  obtain ⟨W0, HW0⟩ : ∃ W0, Hid ((w.alloc (.cells #[.slice ao n c, .slice ap 0 cp, .slice ar 0 cr, .int .i64 ck, .int .i64 tk] 151)).alloc (.cells z5 151) = W0) := ⟨_, rfl⟩
  have X0 : Hid (B5 151 W0 w.heap.size (.slice ao n c) (.slice ap 0 cp) (.slice ar 0 cr) (.int .i64 ck) (.int .i64 tk)) := by show B5 _ _ _ _ _ _ _ _; rw [← HW0.out]; exact (B5.new _ _ _ _ _ _ _).alloc _
  have Z0 : Hid (B5 151 W0 (w.heap.size + 1) (.slice none 0 0) (.slice none 0 0) (.slice none 0 0) (.int .i64 0) (.int .i64 0)) := by
    show B5 _ _ _ _ _ _ _ _
    rw [← HW0.out]
    have := B5.new 151 (w.alloc (.cells #[.slice ao n c, .slice ap 0 cp, .slice ar 0 cr, .int .i64 ck, .int .i64 tk] 151)) (.slice none 0 0) (.slice none 0 0) (.slice none 0 0) (.int .i64 0) (.int .i64 0)
    simpa using this
  have B0 : Hid (Below w.heap.size w W0) := by show Below _ _ _; rw [← HW0.out]; exact ba (ba (Below.refl _ _) _) _
  have R0 : Hid (Reads W0 (.slice ao n c) l) := hr.below B0.out
  have hs0 : W0.heap.size = w.heap.size + 2 := by rw [← HW0.out]; simp
  clear hr
  go_enter Tryz.func97, Tryz.ntmps97
  go_wp2_with fail
  rw [HW0.out]
  refine (l15Copy_none _ ap ar cp cr ck tk l W0 R0.out HL.out).mono ?_
  rintro x W1 ⟨sv', xp, xr, rfl, ho1, hb1⟩
  obtain ⟨a1, c1, rfl⟩ := ho1.slice
  obtain ⟨m, hm⟩ : ∃ m, l.length = m := ⟨_, rfl⟩
  rw [hm] at ho1
  rw [hm]
  obtain ⟨W2, HW2⟩ : ∃ W2, Hid (W1.alloc (.cells #[.slice a1 m c1, .slice (some xp) 0 0, .slice (some xr) 0 0, .int .i64 ck, .int .i64 tk] 151) = W2) := ⟨_, rfl⟩
  have hs1 := hb1.size
  have b2 : Below W0.heap.size W0 W2 := by rw [← HW2.out]; exact ba hb1 _
  have Y2 : Hid (B5 151 W2 W1.heap.size (.slice a1 m c1) (.slice (some xp) 0 0) (.slice (some xr) 0 0) (.int .i64 ck) (.int .i64 tk)) := by show B5 _ _ _ _ _ _ _ _; rw [← HW2.out]; exact B5.new _ _ _ _ _ _ _
  have X2 : Hid (B5 151 W2 w.heap.size (.slice ao n c) (.slice ap 0 cp) (.slice ar 0 cr) (.int .i64 ck) (.int .i64 tk)) := X0.out.up b2
  have Z2 : Hid (B5 151 W2 (w.heap.size + 1) (.slice none 0 0) (.slice none 0 0) (.slice none 0 0) (.int .i64 0) (.int .i64 0)) := Z0.out.up b2
  have B2 : Hid (Below w.heap.size w W2) := B0.out.trans (b2.mono B0.out.size)
  have O2 : Hid (ownsR W2 w.heap.size 154 (.slice a1 m c1) l) := by show ownsR _ _ _ _ _; rw [← HW2.out]; exact (ho1.alloc _).mono B0.out.size
  obtain ⟨bo, hbo⟩ : ∃ bo, W1.heap.size = bo := ⟨_, rfl⟩
  have hlo : w.heap.size + 2 ≤ bo := by omega
  clear b2 ho1 hb1 X0 Z0 B0 R0 HW0
  go_wp2_with fail
  try rw [hbo]
  rw [HW2.out]
  rw [hbo] at Y2
  refine (HPD.out W2).mono ?_
  rintro x W3 ⟨a3, n3, c3, rfl, hb3⟩
  obtain ⟨W4, HW4⟩ : ∃ W4, Hid (W3.alloc (.cells #[.string annN, .string annC, .int .i64 0, .int .i64 90, .bool true, .slice a3 n3 c3] 163) = W4) := ⟨_, rfl⟩
  have b4 : Below W2.heap.size W2 W4 := by rw [← HW4.out]; exact ba hb3 _
  have X4 : Hid (B5 151 W4 w.heap.size (.slice ao n c) (.slice ap 0 cp) (.slice ar 0 cr) (.int .i64 ck) (.int .i64 tk)) := X2.out.up b4
  have HS4 : Hid (SbS w bo W3.heap.size (.slice a1 m c1) (.slice (some xp) 0 0) (.slice (some xr) 0 0) (.slice a3 n3 c3) ck tk l W4) := ⟨Z2.out.up b4, Y2.out.up b4, by rw [← HW4.out]; exact d6_new _ _ _ _ _ _ _, O2.out.all b4, B2.out.trans (b4.mono B2.out.size), by omega, by omega⟩
  have X3 := X2.out.up hb3
  have x0 := X3.c0
  have x1 := X3.c1
  have x2 := X3.c2
  have x3 := X3.c3
  have x4 := X3.c4
  have hq := X3.lt
  have hq2 : ¬ w.heap.size = W3.heap.size := by omega
  clear b4 hb3 X2 Z2 B2 O2 Y2 HPD HW2 X3
  go_wp2_with fail
  rw [HW4.out]
  refine (planAt_none _ _ ap cp ck tk _ W4).mono ?_
  rintro x W5 ⟨rfl, hb5⟩
  have HS5 : Hid (SbS w bo W3.heap.size (.slice a1 m c1) (.slice (some xp) 0 0) (.slice (some xr) 0 0) (.slice a3 n3 c3) ck tk l W5) := HS4.out.up hb5
  have X5 := (X4.out.up hb5).c1
  obtain ⟨bd, hbd⟩ : ∃ bd, W3.heap.size = bd := ⟨_, rfl⟩
  rw [hbd] at HS5
  rw [hbd]
  clear X4 HS4 hb5 x0 x1 x2 x3 x4 HW4 hq hq2 hbd
  go_wp2
  go_loopw [9, 10] (fun lv iv wr => ∃ (L lc : Nat), lv = .slice (some ⟨L, 0, none⟩) 0 lc ∧ iv = .int .i64 0 ∧ Hid (SbS w bo bd (.slice a1 m c1) (.slice (some xp) 0 0) (.slice (some xr) 0 0) (.slice a3 n3 c3) ck tk l wr) ∧ Hid (ownsR wr w.heap.size 168 (.slice (some ⟨L, 0, none⟩) 0 lc) ([] : List Pl))) (fun _ _ _ => 0)
  case atStart => exact ⟨_, _, rfl, rfl, HS5.out.alloc _, qoe _ _ _ HS5.out.bl.size⟩
  case round =>
    obtain ⟨L, lc, rfl, rfl, HSR, HOR⟩ := hrel
    clear HS5 X5
    have o1 := HSR.out.out.c1
    have d0 := HSR.out.dag.c0
    have d1 := HSR.out.dag.c1
    have d2 := HSR.out.dag.c2
    have d3 := HSR.out.dag.c3
    have d4 := HSR.out.dag.c4
    have d5 := HSR.out.dag.c5
    have HB : Hid (Reads (wr.alloc (.cells #[.string annN, .string annC, .int .i64 0, .int .i64 90, .bool true, .slice a3 n3 c3, .bool false, .int .i64 0, .int .i64 0] 168)) (.slice (some ⟨wr.heap.size, 0, none⟩) 1 1) [annP (.slice a3 n3 c3)]) := pl_built wr _
    have HO1 : Hid (∀ x ∈ [annP (.slice a3 n3 c3)], ∀ u ∈ Rec.cells x, u.oneCell' = true) := pl_one _ a3 n3 c3 rfl
    go_wp2_with (at_builtin; refine qca rfl (.tmp 62) (.tmp 69) 148 rfl w.heap.size 168 _ 104 underPl infoPl rfl _ _ [] [annP (.slice a3 n3 c3)] rfl rfl (HOR.out.alloc _) HB.out HO1.out (by simp) (by decide) (by have := HSR.out.bl.size; simp; omega) ?_)
    intro v6 w6 ho6 hg6
    have HS6 : Hid (SbS w bo bd (.slice a1 m c1) (.slice (some xp) 0 0) (.slice (some xr) 0 0) (.slice a3 n3 c3) ck tk l w6) := (HSR.out.alloc _).grown hg6 ((HOR.out.alloc _).ty rfl) (HOR.out.lt L rfl).1
    obtain ⟨a6, c6, rfl⟩ := ho6.slice
    have HO6 : Hid (ownsR w6 w.heap.size 168 (.slice a6 1 c6) [annP (.slice a3 n3 c3)]) := ho6
    show wpList _ _ _ _ _ _
    simp only [List.length_nil, List.length_cons] at *
    clear hg6 HB HO1 HSR HOR ho6 o1 d0 d1 d2 d3 d4 d5
    go_wp2
    go_loopw [9, 11] (fun lv iv wr => lv = .slice a6 1 c6 ∧ iv = .int .i64 0 ∧ Hid (SbS w bo bd (.slice a1 m c1) (.slice (some xp) 0 0) (.slice (some xr) 0 0) (.slice a3 n3 c3) ck tk l wr) ∧ Hid (ownsR wr w.heap.size 168 (.slice a6 1 c6) [annP (.slice a3 n3 c3)])) (fun _ _ _ => 0)
    case atStart => exact ⟨rfl, rfl, HS6, HO6⟩
    case round =>
      clear HS6 HO6
      obtain ⟨rfl, rfl, HS, HO⟩ := hrel
      have Y := HS.out.out.s1 (.slice a6 1 c6)
      have Z := HS.out.res.far (p := ⟨bo, 1, none⟩) HS.out.ne (.slice a6 1 c6)
      have HZ : Hid (B5 151 (wr.setCell ⟨bo, 1, none⟩ (.slice a6 1 c6)) (w.heap.size + 1) (.slice none 0 0) (.slice none 0 0) (.slice none 0 0) (.int .i64 0) (.int .i64 0)) := Z
      have HO1 : Hid (ownsR (wr.setCell ⟨bo, 1, none⟩ (.slice a6 1 c6)) w.heap.size 168 (.slice a6 1 c6) [annP (.slice a3 n3 c3)]) := HO.out.setTy (p := ⟨bo, 1, none⟩) HS.out.out.ty (by decide) _
      have HO2 : Hid (ownsR (wr.setCell ⟨bo, 1, none⟩ (.slice a6 1 c6)) w.heap.size 154 (.slice a1 m c1) l) := HS.out.own.setTy (p := ⟨bo, 1, none⟩) HS.out.out.ty (by decide) _
      have HB : Hid (Below w.heap.size w (wr.setCell ⟨bo, 1, none⟩ (.slice a6 1 c6))) := Below.setCell HS.out.bl HS.out.lo _
      have y0 := HS.out.out.c0
      have y1 := HS.out.out.c1
      have y2 := HS.out.out.c2
      have y3 := HS.out.out.c3
      have y4 := HS.out.out.c4
      have yf := HS.out.out.fr 1
      have z0 := HS.out.res.c0
      have z1 := HS.out.res.c1
      have z2 := HS.out.res.c2
      have z3 := HS.out.res.c3
      have z4 := HS.out.res.c4
      have f0 := HS.out.res.fr 0
      have f1 := HS.out.res.fr 1
      have f2 := HS.out.res.fr 2
      have f3 := HS.out.res.fr 3
      have f4 := HS.out.res.fr 4
      have hne := HS.out.ne
      have hne2 := HS.out.ne.symm
      clear HS HO Y Z
      go_wp2
      refine bodyPost_ret (ret_b2 (p := 4) (u := 5) (x := .string ⟨#[112, 108, 97, 110]⟩) (by kernel_rfl) (by kernel_rfl) (by kernel_rfl) (HZ.out.set (.slice a1 m c1) (.slice a6 1 c6) (.slice (some xr) 0 0) (.int .i64 ck) (.int .i64 tk))) rfl ?_
      exact ⟨_, _, _, xr, _, rfl, ownsR_set5b HO2.out HZ.out (by decide) _ _ _ _ _, ownsR_set5b HO1.out HZ.out (by decide) _ _ _ _ _, qrc HB.out (Nat.le_succ _) _ _ _ _ _⟩
end Go.Proofs.YtpjpheicldegkaaGreatDoor
