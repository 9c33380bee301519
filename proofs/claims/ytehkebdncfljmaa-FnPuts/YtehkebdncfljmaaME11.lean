/-
  A plan put on a board without plans and runs, as the specification does it: the walk of Submit. Numbers of entries and lists of servers that are drawn, as the specification draws them: the walks of l05Index, l05Conf, l05AnyConf. One of a row of numbers with what it is, a place, twelve places, a list of servers that are drawn; the last number of a log: the walks.
-/
import Derived.Test.YtehkebdncfljmaaME5
import Derived.Test.YtehkebdncfljmaaME10
import Derived.Test.YtehkebdncfljmaaDraw2
import Derived.Test.YtehkebdncfljmaaME4
import Derived.Test.YtehkebdncfljmaaRi
namespace Go.Proofs.Ytehkebdncfljmaa
open Go Go.RowKit
set_option linter.unusedVariables false

/-- The text that l17Right submits. -/
def annT : ByteArray := ⟨#[100, 97, 103, 32, 97, 110, 110, 10, 99, 114, 111, 110, 32, 42, 32, 42, 32, 42, 32, 42, 32, 42, 10, 102, 114, 111, 109, 32, 48, 10, 116, 111, 32, 57, 48, 10, 99, 97, 116, 99, 104, 117, 112, 10, 116, 97, 115, 107, 32, 97, 32, 111, 110, 101, 32, 49, 32, 102, 114, 101, 101, 10]⟩
theorem ann_fault : (dagO annT).2 = 0 := by decide +kernel
theorem ann_name : (dagO annT).1.name = ⟨#[97, 110, 110]⟩ := by decide +kernel
theorem ann_cron : (dagO annT).1.cron = ⟨#[42, 32, 42, 32, 42, 32, 42, 32, 42]⟩ := by decide +kernel
theorem ann_fr : (dagO annT).1.fr = 0 := by decide +kernel
theorem ann_up : (dagO annT).1.up = 90 := by decide +kernel
theorem ann_cu : (dagO annT).1.cu = true := by decide +kernel

theorem D6.grownB {W W' : World} {b : Nat} {nm cr : ByteArray} {fr up : Int} {cu : Bool} {tv : Value} {r : Option Nat} (h : D6 W b nm cr fr up cu tv) (hg : W.grownBy W' r) (hr : some b ≠ r) : D6 W' b nm cr fr up cu tv := (hg.block b h.lt hr).trans h
abbrev annN : ByteArray := ⟨#[97, 110, 110]⟩
abbrev annC : ByteArray := ⟨#[42, 32, 42, 32, 42, 32, 42, 32, 42]⟩
/-- The plan of that text on a board. -/
abbrev annP (tv : Value) : Pl := ⟨annN, annC, 0, 90, true, tv, false, 0, 0⟩
/-- What lies there while the plan is put on the board. -/
structure SbS (w : World) (bo bd : Nat) (sv pv rv tv : Value) (ck tk : Int) (l : List Se) (W : World) : Prop where
  res : B5 103 W (w.heap.size + 1) (.slice none 0 0) (.slice none 0 0) (.slice none 0 0) (.int .i64 0) (.int .i64 0)
  out : B5 103 W bo sv pv rv (.int .i64 ck) (.int .i64 tk)
  dag : D6 W bd annN annC 0 90 true tv
  own : ownsR W w.heap.size 106 sv l
  bl : Below w.heap.size w W
  lo : w.heap.size ≤ bo
  ne : bo ≠ w.heap.size + 1
theorem SbS.up {w W W' : World} {bo bd : Nat} {sv pv rv tv : Value} {ck tk : Int} {l : List Se} (h : SbS w bo bd sv pv rv tv ck tk l W) (hb : Below W.heap.size W W') : SbS w bo bd sv pv rv tv ck tk l W' :=
  ⟨h.res.up hb, h.out.up hb, (hb.block _ h.dag.lt).trans h.dag, h.own.all hb, h.bl.trans (hb.mono h.bl.size), h.lo, h.ne⟩
theorem SbS.alloc {w W : World} {bo bd : Nat} {sv pv rv tv : Value} {ck tk : Int} {l : List Se} (h : SbS w bo bd sv pv rv tv ck tk l W) (o : Obj) : SbS w bo bd sv pv rv tv ck tk l (W.alloc o) := h.up (ba (Below.refl _ _) _)
theorem SbS.grown {w W W' : World} {bo bd r : Nat} {sv pv rv tv : Value} {ck tk : Int} {l : List Se} (h : SbS w bo bd sv pv rv tv ck tk l W) (hg : W.grownBy W' (some r)) (ht : TyB W r 120) (hr : w.heap.size ≤ r) : SbS w bo bd sv pv rv tv ck tk l W' :=
  ⟨h.res.grown hg (by rintro e; cases e; exact h.res.ty.ne ht (by decide) rfl), h.out.grown hg (by rintro e; cases e; exact h.out.ty.ne ht (by decide) rfl), h.dag.grownB hg (by rintro e; cases e; exact TyB.ne ⟨_, h.dag⟩ ht (t := 115) (by decide) rfl),
   h.own.same' fun k hk => hg.block k (h.own.lt k hk).2 (by rintro e; cases e; exact (h.own.ty hk).ne ht (by decide) rfl), h.bl.grown hg h.bl.size (fun k hk => by cases hk; exact hr), h.lo, h.ne⟩
theorem pl_one (tv : Value) (ao : Option Addr) (n c : Nat) (h : tv = .slice ao n c) : ∀ x ∈ [annP tv], ∀ u ∈ Rec.cells x, u.oneCell' = true := by
  intro x hx u hu
  rw [List.mem_singleton.1 hx] at hu
  subst h
  simp only [Rec.cells, List.mem_cons, List.not_mem_nil, or_false] at hu
  rcases hu with rfl | rfl | rfl | rfl | rfl | rfl | rfl | rfl | rfl <;> rfl
theorem pl_built (w : World) (tv : Value) : Reads (w.alloc (.cells #[.string annN, .string annC, .int .i64 0, .int .i64 90, .bool true, tv, .bool false, .int .i64 0, .int .i64 0] 120)) (.slice (some ⟨w.heap.size, 0, none⟩) 1 1) [annP tv] := by
  refine ⟨some ⟨w.heap.size, 0, none⟩, 1, rfl, fun _ => ⟨w.heap.size, 0, rfl, by simp, fun i x hx j u hu => ?_⟩⟩
  match i, hx with
  | 0, hx =>
    simp only [List.getElem?_cons_zero, Option.some.injEq] at hx
    subst hx
    have hc : ∀ j, (w.alloc (.cells #[.string annN, .string annC, .int .i64 0, .int .i64 90, .bool true, tv, .bool false, .int .i64 0, .int .i64 0] 120)).cell? ⟨w.heap.size, j, none⟩ = (#[.string annN, .string annC, .int .i64 0, .int .i64 90, .bool true, tv, .bool false, .int .i64 0, .int .i64 0] : Array Value)[j]? := fun j => by
      have hb : (w.alloc (.cells #[.string annN, .string annC, .int .i64 0, .int .i64 90, .bool true, tv, .bool false, .int .i64 0, .int .i64 0] 120)).heap[w.heap.size]? = some (.cells #[.string annN, .string annC, .int .i64 0, .int .i64 90, .bool true, tv, .bool false, .int .i64 0, .int .i64 0] 120) := by show (w.heap.push _)[w.heap.size]? = _; simp
      unfold World.cell?
      rw [hb]
      simp
    simp only [Nat.zero_mul, Nat.zero_add]
    rw [hc j, ← hu]
    simp [Rec.cells]
  | i + 1, hx => simp at hx

set_option maxRecDepth 10000 in
set_option maxHeartbeats 4000000 in
theorem submit_ann (sv : Value) (ap ar : Option Addr) (cp cr : Nat) (ck tk : Int) (l : List Se) (w : World) (hr : Reads w sv l) (hl : l.length ≤ 1000) :
    Calls Try.prog 76 #[bdV sv (.slice ap 0 cp) (.slice ar 0 cr) ck tk, .string annT] w fun e w' => ∃ (sv' pv x : Value) (xr : Addr) (tv : Value), e = .returned (.tuple #[bdV sv' pv (.slice (some xr) 0 0) ck tk, x]) ∧ ownsR w' w.heap.size 106 sv' l ∧ ownsR w' w.heap.size 120 pv [annP tv] ∧ Below w.heap.size w w' := by
  have HPD : Hid (∀ W, Calls Try.prog 81 #[.string annT] W fun e w' => ∃ a n c, e = .returned (.tuple #[.agg #[.string annN, .string annC, .int .i64 0, .int .i64 90, .bool true, .slice a n c], .int .i64 0]) ∧ Below W.heap.size W w') := fun W => (parseDag_any annT W (by decide)).mono fun e w' ⟨tv, h1, h2, h3⟩ => by
    obtain ⟨a, c, rfl⟩ := h2.slice
    rw [ann_fault, ann_name, ann_cron, ann_fr, ann_up, ann_cu] at h1
    exact ⟨a, _, c, h1, h3⟩
  obtain ⟨T, HT⟩ : ∃ T, Hid (annT = T) := ⟨_, rfl⟩
  rw [HT.out] at HPD
  rw [HT.out]
  clear HT
  obtain ⟨ao, c, rfl, _⟩ := id hr
  obtain ⟨n, hn⟩ : ∃ n, l.length = n := ⟨_, rfl⟩
  rw [hn] at hr
  rw [hn]
  have HL : Hid (l.length ≤ 1000) := hl
  clear hn hl
  obtain ⟨W0, HW0⟩ : ∃ W0, Hid ((w.alloc (.cells #[.slice ao n c, .slice ap 0 cp, .slice ar 0 cr, .int .i64 ck, .int .i64 tk] 103)).alloc (.cells z5 103) = W0) := ⟨_, rfl⟩
  have X0 : Hid (B5 103 W0 w.heap.size (.slice ao n c) (.slice ap 0 cp) (.slice ar 0 cr) (.int .i64 ck) (.int .i64 tk)) := by show B5 _ _ _ _ _ _ _ _; rw [← HW0.out]; exact (B5.new _ _ _ _ _ _ _).alloc _
  have Z0 : Hid (B5 103 W0 (w.heap.size + 1) (.slice none 0 0) (.slice none 0 0) (.slice none 0 0) (.int .i64 0) (.int .i64 0)) := by
    show B5 _ _ _ _ _ _ _ _
    rw [← HW0.out]
    have := B5.new 103 (w.alloc (.cells #[.slice ao n c, .slice ap 0 cp, .slice ar 0 cr, .int .i64 ck, .int .i64 tk] 103)) (.slice none 0 0) (.slice none 0 0) (.slice none 0 0) (.int .i64 0) (.int .i64 0)
    simpa using this
  have B0 : Hid (Below w.heap.size w W0) := by show Below _ _ _; rw [← HW0.out]; exact ba (ba (Below.refl _ _) _) _
  have R0 : Hid (Reads W0 (.slice ao n c) l) := hr.below B0.out
  have hs0 : W0.heap.size = w.heap.size + 2 := by rw [← HW0.out]; simp
  clear hr
  go_enter Try.func76, Try.ntmps76
  go_wp2_with fail
  rw [HW0.out]
  refine (l15Copy_none _ ap ar cp cr ck tk l W0 R0.out HL.out).mono ?_
  rintro x W1 ⟨sv', xp, xr, rfl, ho1, hb1⟩
  obtain ⟨a1, c1, rfl⟩ := ho1.slice
  obtain ⟨m, hm⟩ : ∃ m, l.length = m := ⟨_, rfl⟩
  rw [hm] at ho1
  rw [hm]
  obtain ⟨W2, HW2⟩ : ∃ W2, Hid (W1.alloc (.cells #[.slice a1 m c1, .slice (some xp) 0 0, .slice (some xr) 0 0, .int .i64 ck, .int .i64 tk] 103) = W2) := ⟨_, rfl⟩
  have hs1 := hb1.size
  have b2 : Below W0.heap.size W0 W2 := by rw [← HW2.out]; exact ba hb1 _
  have Y2 : Hid (B5 103 W2 W1.heap.size (.slice a1 m c1) (.slice (some xp) 0 0) (.slice (some xr) 0 0) (.int .i64 ck) (.int .i64 tk)) := by show B5 _ _ _ _ _ _ _ _; rw [← HW2.out]; exact B5.new _ _ _ _ _ _ _
  have X2 : Hid (B5 103 W2 w.heap.size (.slice ao n c) (.slice ap 0 cp) (.slice ar 0 cr) (.int .i64 ck) (.int .i64 tk)) := X0.out.up b2
  have Z2 : Hid (B5 103 W2 (w.heap.size + 1) (.slice none 0 0) (.slice none 0 0) (.slice none 0 0) (.int .i64 0) (.int .i64 0)) := Z0.out.up b2
  have B2 : Hid (Below w.heap.size w W2) := B0.out.trans (b2.mono B0.out.size)
  have O2 : Hid (ownsR W2 w.heap.size 106 (.slice a1 m c1) l) := by show ownsR _ _ _ _ _; rw [← HW2.out]; exact (ho1.alloc _).mono B0.out.size
  obtain ⟨bo, hbo⟩ : ∃ bo, W1.heap.size = bo := ⟨_, rfl⟩
  have hlo : w.heap.size + 2 ≤ bo := by omega
  clear b2 ho1 hb1 X0 Z0 B0 R0 HW0
  go_wp2_with fail
  try rw [hbo]
  rw [HW2.out]
  rw [hbo] at Y2
  refine (HPD.out W2).mono ?_
  rintro x W3 ⟨a3, n3, c3, rfl, hb3⟩
  obtain ⟨W4, HW4⟩ : ∃ W4, Hid (W3.alloc (.cells #[.string annN, .string annC, .int .i64 0, .int .i64 90, .bool true, .slice a3 n3 c3] 115) = W4) := ⟨_, rfl⟩
  have b4 : Below W2.heap.size W2 W4 := by rw [← HW4.out]; exact ba hb3 _
  have X4 : Hid (B5 103 W4 w.heap.size (.slice ao n c) (.slice ap 0 cp) (.slice ar 0 cr) (.int .i64 ck) (.int .i64 tk)) := X2.out.up b4
  have HS4 : Hid (SbS w bo W3.heap.size (.slice a1 m c1) (.slice (some xp) 0 0) (.slice (some xr) 0 0) (.slice a3 n3 c3) ck tk l W4) := ⟨Z2.out.up b4, Y2.out.up b4, by rw [← HW4.out]; exact d6_new _ _ _ _ _ _ _, O2.out.all b4, B2.out.trans (b4.mono B2.out.size), by omega, by omega⟩
  have X3 := X2.out.up hb3
  have x0 := X3.c0
  have x1 := X3.c1
  have x2 := X3.c2
  have x3 := X3.c3
  have x4 := X3.c4
  have hq := X3.lt
  have hq2 : ¬ w.heap.size = W3.heap.size := by omega
  clear b4 hb3 X2 Z2 B2 O2 Y2 HPD HW2 X3
  go_wp2_with fail
  rw [HW4.out]
  refine (planAt_none _ _ ap cp ck tk _ W4).mono ?_
  rintro x W5 ⟨rfl, hb5⟩
  have HS5 : Hid (SbS w bo W3.heap.size (.slice a1 m c1) (.slice (some xp) 0 0) (.slice (some xr) 0 0) (.slice a3 n3 c3) ck tk l W5) := HS4.out.up hb5
  have X5 := (X4.out.up hb5).c1
  obtain ⟨bd, hbd⟩ : ∃ bd, W3.heap.size = bd := ⟨_, rfl⟩
  rw [hbd] at HS5
  rw [hbd]
  clear X4 HS4 hb5 x0 x1 x2 x3 x4 HW4 hq hq2 hbd
  go_wp2
  go_loopw [9, 10] (fun lv iv wr => ∃ (L lc : Nat), lv = .slice (some ⟨L, 0, none⟩) 0 lc ∧ iv = .int .i64 0 ∧ Hid (SbS w bo bd (.slice a1 m c1) (.slice (some xp) 0 0) (.slice (some xr) 0 0) (.slice a3 n3 c3) ck tk l wr) ∧ Hid (ownsR wr w.heap.size 120 (.slice (some ⟨L, 0, none⟩) 0 lc) ([] : List Pl))) (fun _ _ _ => 0)
  case atStart => exact ⟨_, _, rfl, rfl, HS5.out.alloc _, ownsR_made0 _ _ _ HS5.out.bl.size⟩
  case round =>
    obtain ⟨L, lc, rfl, rfl, HSR, HOR⟩ := hrel
    clear HS5 X5
    have o1 := HSR.out.out.c1
    have d0 := HSR.out.dag.c0
    have d1 := HSR.out.dag.c1
    have d2 := HSR.out.dag.c2
    have d3 := HSR.out.dag.c3
    have d4 := HSR.out.dag.c4
    have d5 := HSR.out.dag.c5
    have HB : Hid (Reads (wr.alloc (.cells #[.string annN, .string annC, .int .i64 0, .int .i64 90, .bool true, .slice a3 n3 c3, .bool false, .int .i64 0, .int .i64 0] 120)) (.slice (some ⟨wr.heap.size, 0, none⟩) 1 1) [annP (.slice a3 n3 c3)]) := pl_built wr _
    have HO1 : Hid (∀ x ∈ [annP (.slice a3 n3 c3)], ∀ u ∈ Rec.cells x, u.oneCell' = true) := pl_one _ a3 n3 c3 rfl
    go_wp2_with (at_builtin; refine wpList_append_recs rfl (.tmp 62) (.tmp 69) 100 rfl w.heap.size 120 _ 104 underPl infoPl rfl _ _ [] [annP (.slice a3 n3 c3)] rfl rfl (HOR.out.alloc _) HB.out HO1.out (by simp) (by decide) (by have := HSR.out.bl.size; simp; omega) ?_)
    intro v6 w6 ho6 hg6
    have HS6 : Hid (SbS w bo bd (.slice a1 m c1) (.slice (some xp) 0 0) (.slice (some xr) 0 0) (.slice a3 n3 c3) ck tk l w6) := (HSR.out.alloc _).grown hg6 ((HOR.out.alloc _).ty rfl) (HOR.out.lt L rfl).1
    obtain ⟨a6, c6, rfl⟩ := ho6.slice
    have HO6 : Hid (ownsR w6 w.heap.size 120 (.slice a6 1 c6) [annP (.slice a3 n3 c3)]) := ho6
    show wpList _ _ _ _ _ _
    simp only [List.length_nil, List.length_cons] at *
    clear hg6 HB HO1 HSR HOR ho6 o1 d0 d1 d2 d3 d4 d5
    go_wp2
    go_loopw [9, 11] (fun lv iv wr => lv = .slice a6 1 c6 ∧ iv = .int .i64 0 ∧ Hid (SbS w bo bd (.slice a1 m c1) (.slice (some xp) 0 0) (.slice (some xr) 0 0) (.slice a3 n3 c3) ck tk l wr) ∧ Hid (ownsR wr w.heap.size 120 (.slice a6 1 c6) [annP (.slice a3 n3 c3)])) (fun _ _ _ => 0)
    case atStart => exact ⟨rfl, rfl, HS6, HO6⟩
    case round =>
      clear HS6 HO6
      obtain ⟨rfl, rfl, HS, HO⟩ := hrel
      have Y := HS.out.out.s1 (.slice a6 1 c6)
      have Z := HS.out.res.far (p := ⟨bo, 1, none⟩) HS.out.ne (.slice a6 1 c6)
      have HZ : Hid (B5 103 (wr.setCell ⟨bo, 1, none⟩ (.slice a6 1 c6)) (w.heap.size + 1) (.slice none 0 0) (.slice none 0 0) (.slice none 0 0) (.int .i64 0) (.int .i64 0)) := Z
      have HO1 : Hid (ownsR (wr.setCell ⟨bo, 1, none⟩ (.slice a6 1 c6)) w.heap.size 120 (.slice a6 1 c6) [annP (.slice a3 n3 c3)]) := HO.out.setTy (p := ⟨bo, 1, none⟩) HS.out.out.ty (by decide) _
      have HO2 : Hid (ownsR (wr.setCell ⟨bo, 1, none⟩ (.slice a6 1 c6)) w.heap.size 106 (.slice a1 m c1) l) := HS.out.own.setTy (p := ⟨bo, 1, none⟩) HS.out.out.ty (by decide) _
      have HB : Hid (Below w.heap.size w (wr.setCell ⟨bo, 1, none⟩ (.slice a6 1 c6))) := Below.setCell HS.out.bl HS.out.lo _
      have y0 := HS.out.out.c0
      have y1 := HS.out.out.c1
      have y2 := HS.out.out.c2
      have y3 := HS.out.out.c3
      have y4 := HS.out.out.c4
      have yf := HS.out.out.fr 1
      have z0 := HS.out.res.c0
      have z1 := HS.out.res.c1
      have z2 := HS.out.res.c2
      have z3 := HS.out.res.c3
      have z4 := HS.out.res.c4
      have f0 := HS.out.res.fr 0
      have f1 := HS.out.res.fr 1
      have f2 := HS.out.res.fr 2
      have f3 := HS.out.res.fr 3
      have f4 := HS.out.res.fr 4
      have hne := HS.out.ne
      have hne2 := HS.out.ne.symm
      clear HS HO Y Z
      go_wp2
      refine bodyPost_ret (ret_b2 (p := 4) (u := 5) (x := .string ⟨#[112, 108, 97, 110]⟩) (by kernel_rfl) (by kernel_rfl) (by kernel_rfl) (HZ.out.set (.slice a1 m c1) (.slice a6 1 c6) (.slice (some xr) 0 0) (.int .i64 ck) (.int .i64 tk))) rfl ?_
      exact ⟨_, _, _, xr, _, rfl, ownsR_set5b HO2.out HZ.out (by decide) _ _ _ _ _, ownsR_set5b HO1.out HZ.out (by decide) _ _ _ _ _, below_set5 HB.out (Nat.le_succ _) _ _ _ _ _⟩
end Go.Proofs.Ytehkebdncfljmaa

namespace Go.Proofs.Ytehkebdncfljmaa
open Go Go.RowKit
set_option linter.unusedVariables false

set_option maxHeartbeats 1000000 in
theorem l05Index_any (g : Nat) (w : World) (hd : Drw w g) : Calls Try.prog 32 #[.pointer (some ⟨g, 0, none⟩)] w fun e w' => ∃ z : Int, e = .returned (.int .i64 z) ∧ -9223372036854775808 ≤ z ∧ z ≤ 9223372036854775807 ∧ Drw w' g ∧ Save g w w' := by
  go_enter Try.func32, Try.ntmps32
  go_wp2_with fail
  refine (once_any g 12 _ hd (by decide) (by decide)).mono ?_
  rintro x W1 ⟨b, rfl, hd1, hs1⟩
  have HD1 : Hid (Drw W1 g) := hd1
  have HS1 : Hid (Save g w W1) := hs1
  clear hd1 hs1 hd
  cases b with
  | true =>
    go_wp2_with fail
    refine (pickLit_from g [0, -1, 1000000, 1000001] w W1 HD1.out HS1.out (by decide) (by decide) (by decide) #[.int .i64 0, .int .i64 (-1), .int .i64 1000000, .int .i64 1000001] rfl 4 rfl).mono ?_
    rintro x W2 ⟨z, rfl, z0, z1, hd2, hs2⟩
    go_wp2
    go_ret
    exact ⟨z, rfl, z0, z1, hd2, hs2⟩
  | false =>
    go_wp2_with fail
    refine (below_any g 200 _ HD1.out (by decide) (by decide)).mono ?_
    rintro x W2 ⟨z, rfl, z0, z1, hd2, hs2⟩
    go_wp2
    go_ret
    exact ⟨1 + z, by go_num, by omega, by omega, hd2, HS1.out.trans hs2⟩
theorem num_built (w : World) (n : Int) : Reads (w.alloc (.cells #[.int .i64 n] 3)) (.slice (some ⟨w.heap.size, 0, none⟩) 1 1) [n] := by
  refine ⟨some ⟨w.heap.size, 0, none⟩, 1, rfl, fun _ => ⟨w.heap.size, 0, rfl, by simp, fun i x hx j u hu => ?_⟩⟩
  match i, hx with
  | 0, hx =>
    simp only [List.getElem?_cons_zero, Option.some.injEq] at hx
    subst hx
    match j, hu with
    | 0, hu => cases hu; simp [go_sem]
    | j + 1, hu => simp [Rec.cells] at hu
  | i + 1, hx => simp at hx
theorem num_one (l : List Int) : ∀ x ∈ l, ∀ u ∈ Rec.cells x, u.oneCell' = true := by
  intro x _ u hu
  simp only [Rec.cells, List.mem_singleton] at hu
  subst hu
  rfl
/-- What lies there while a list of servers is drawn. -/
structure CfS (g : Nat) (w : World) (v : Value) (l : List Int) (W : World) : Prop where
  own : ownsR W w.heap.size 3 v l
  drw : Drw W g
  sv : Save g w W
  gl : g < w.heap.size
theorem CfS.save {g : Nat} {w W W' : World} {v : Value} {l : List Int} (h : CfS g w v l W) (hs : Save g W W') (hd : Drw W' g) : CfS g w v l W' := ⟨h.own.save hs h.gl, hd, h.sv.trans hs, h.gl⟩
theorem CfS.alloc {g : Nat} {w W : World} {v : Value} {l : List Int} (h : CfS g w v l W) (o : Obj) : CfS g w v l (W.alloc o) := h.save (Save.of_below (ba (Below.refl _ _) _)) (h.drw.keep ((ba (Below.refl _ _) _).mono h.drw.lt))
theorem CfS.more {g : Nat} {w W W' : World} {v v' : Value} {l l' : List Int} (h : CfS g w v l W) (hg : W.grownBy W' v.ownBlock) (ho : ownsR W' w.heap.size 3 v' l') : CfS g w v' l' W' :=
  have hb : Below w.heap.size W W' := (Below.refl w.heap.size W).grown hg h.sv.size fun k hk => (h.own.lt k hk).1
  ⟨ho, h.drw.keep (hb.mono h.gl), h.sv.below_on hb (Nat.le_refl _), h.gl⟩
/-- A right list of servers. -/
structure CfR (l : List Int) : Prop where
  len : l.length ≤ 4
  rng : ∀ x ∈ l, 1 ≤ x ∧ x ≤ 4
  up : l.Pairwise (· < ·)
set_option maxRecDepth 10000 in
set_option maxHeartbeats 2000000 in
theorem l05Conf_any (g : Nat) (w : World) (hd : Drw w g) : Calls Try.prog 65 #[.pointer (some ⟨g, 0, none⟩)] w fun e w' => ∃ (v : Value) (l : List Int), e = .returned v ∧ 0 < l.length ∧ CfR l ∧ CfS g w v l w' := by
  have HC0 : Hid (CfS g w (.slice (some ⟨w.heap.size, 0, none⟩) 0 0) [] (w.alloc (.cells #[] 3))) := ⟨ownsR_made0 _ _ _ (Nat.le_refl _), hd.keep ((ba (Below.refl _ _) _).mono hd.lt), Save.of_below (ba (Below.refl _ _) _), hd.lt⟩
  clear hd
  go_enter Try.func65, Try.ntmps65
  go_wp2
  go_loopw [3, 4] (fun lv iv wr => ∃ (k : Nat) (l1 : Option Addr) (l2 l3 : Nat) (l : List Int), lv = .slice l1 l2 l3 ∧ iv = .int .i64 k ∧ 1 ≤ k ∧ k ≤ 5 ∧ l.length + 1 ≤ k ∧ Hid ((∀ x ∈ l, 1 ≤ x ∧ x < (k : Int)) ∧ l.Pairwise (· < ·)) ∧ Hid (CfS g w (.slice l1 l2 l3) l wr)) (fun _ iv _ => 5 - (intOf iv).toNat)
  case atStart => exact ⟨1, _, _, _, [], rfl, rfl, Nat.le_refl _, by decide, by decide, ⟨fun x h => absurd h (by simp), List.Pairwise.nil⟩, HC0⟩
  case round =>
    clear HC0
    obtain ⟨k, l1, l2, l3, l, rfl, rfl, hk1, hk5, hll, HR, HC⟩ := hrel
    by_cases hlt : k ≤ 4
    · have hlt2 : (k : Int) ≤ 4 := by omega
      go_wp2_with fail
      refine (once_any g 2 _ HC.out.drw (by decide) (by decide)).mono ?_
      rintro x W1 ⟨b, rfl, hd1, hs1⟩
      have HC1 : Hid (CfS g w (.slice l1 l2 l3) l W1) := HC.out.save hs1 hd1
      clear HC hd1 hs1
      cases b with
      | false =>
        go_wp2
        go_roundw
        case rel => exact ⟨k + 1, _, _, _, l, rfl, by go_num, by omega, by omega, by omega, ⟨fun x h => by have := HR.out.1 x h; omega, HR.out.2⟩, HC1⟩
        case measure => simp [intOf]; omega
      | true =>
        have HB : Hid (Reads (W1.alloc (.cells #[.int .i64 (k : Int)] 3)) (.slice (some ⟨W1.heap.size, 0, none⟩) 1 1) [(k : Int)]) := num_built W1 _
        have HL : Hid (l.length + [(k : Int)].length ≤ 1048577) := by show _ ≤ _; simp; omega
        have HC2 : Hid (CfS g w (.slice l1 l2 l3) l (W1.alloc (.cells #[.int .i64 (k : Int)] 3))) := HC1.out.alloc _
        go_wp2_with (at_builtin; refine wpList_append_recs rfl (.tmp 12) (.tmp 14) 32 rfl w.heap.size 3 _ 8 underI info3 rfl _ _ l [(k : Int)] rfl rfl HC2.out.own HB.out (num_one _) HL.out (by decide) HC2.out.sv.size ?_)
        intro v2 W2 ho2 hg2
        have HC3 : Hid (CfS g w v2 (l ++ [(k : Int)]) W2) := HC2.out.more hg2 ho2
        obtain ⟨y0, y1, rfl⟩ := ho2.slice
        clear ho2 hg2 HC2 HC1 HB HL
        go_wp2
        go_roundw
        case rel => exact ⟨k + 1, _, _, _, l ++ [(k : Int)], rfl, by go_num, by omega, by omega, by simp; omega, (by
          refine ⟨fun x h => ?_, ?_⟩
          · rcases List.mem_append.1 h with h | h
            · have := HR.out.1 x h; omega
            · rw [List.mem_singleton.1 h]; omega
          · rw [List.pairwise_append]
            exact ⟨HR.out.2, List.pairwise_singleton _ _, fun a ha b hb => by rw [List.mem_singleton.1 hb]; exact (HR.out.1 a ha).2⟩), HC3⟩
        case measure => simp [intOf]; omega
    · have hk : k = 5 := by omega
      subst hk
      have hl2 : l2 = l.length := HC.out.own.reads.len
      have hrng : ∀ x ∈ l, 1 ≤ x ∧ x ≤ 4 := fun x h => by have := HR.out.1 x h; omega
      have HU : Hid (CfR l) := ⟨by omega, hrng, HR.out.2⟩
      by_cases h0 : l2 = 0
      · have hl0 : l = [] := List.eq_nil_of_length_eq_zero (by omega)
        subst hl0
        subst h0
        have HB : Hid (Reads (wr.alloc (.cells #[.int .i64 1] 3)) (.slice (some ⟨wr.heap.size, 0, none⟩) 1 1) [(1 : Int)]) := num_built wr _
        have HC2 : Hid (CfS g w (.slice l1 0 l3) [] (wr.alloc (.cells #[.int .i64 1] 3))) := HC.out.alloc _
        clear hl2 hrng HU HR HC hll
        go_wp2_with (at_builtin; refine wpList_append_recs rfl (.tmp 19) (.tmp 20) 32 rfl w.heap.size 3 _ 8 underI info3 rfl _ _ [] [(1 : Int)] rfl rfl HC2.out.own HB.out (num_one _) (by decide) (by decide) HC2.out.sv.size ?_)
        intro v2 W2 ho2 hg2
        have HC3 : Hid (CfS g w v2 [(1 : Int)] W2) := HC2.out.more hg2 ho2
        clear ho2 hg2 HC2 HB
        go_wp2
        go_ret
        exact ⟨_, [1], rfl, by decide, ⟨by decide, by decide, by decide⟩, HC3.out⟩
      · have hq : ((l2 : Int) == 0) = false := beq_eq_false_iff_ne.2 (by omega)
        have hp : 0 < l.length := by omega
        clear hl2 hrng HR
        go_wp2
        go_ret
        exact ⟨_, l, rfl, hp, HU.out, HC.out⟩

set_option maxRecDepth 10000 in
set_option maxHeartbeats 2000000 in
theorem l05AnyConf_any (g : Nat) (w : World) (hd : Drw w g) : Calls Try.prog 42 #[.pointer (some ⟨g, 0, none⟩)] w fun e w' => ∃ (v : Value) (l : List Int), e = .returned v ∧ l.length ≤ 5 ∧ (∀ x ∈ l, -9223372036854775808 ≤ x ∧ x ≤ 9223372036854775807) ∧ CfS g w v l w' := by
  go_enter Try.func42, Try.ntmps42
  go_wp2_with fail
  refine (l05Conf_any g w hd).mono ?_
  rintro x W1 ⟨v, l, rfl, hp, hr, hc⟩
  obtain ⟨l1, l3, rfl⟩ := hc.own.slice
  obtain ⟨l2, hl2⟩ : ∃ n, l.length = n := ⟨_, rfl⟩
  rw [hl2] at hc
  rw [hl2]
  have HC1 : Hid (CfS g w (.slice l1 l2 l3) l W1) := hc
  have HR : Hid (CfR l) := hr
  have HG : Hid (∀ x ∈ l, -9223372036854775808 ≤ x ∧ x ≤ 9223372036854775807) := fun x h => by have := hr.rng x h; omega
  have hl4 : l.length ≤ 4 := hr.len
  clear hc hr hd hp
  go_wp2_with fail
  refine (below_any g 12 _ HC1.out.drw (by decide) (by decide)).mono ?_
  rintro x W2 ⟨q, rfl, q0, q1, hd2, hs2⟩
  have HC2 : Hid (CfS g w (.slice l1 l2 l3) l W2) := HC1.out.save hs2 hd2
  clear HC1 hd2 hs2
  by_cases h0 : q = 0
  · subst h0
    go_wp2_with fail
    refine (pickLit_from g [0, 4, 5, 1] W2 W2 HC2.out.drw (Save.refl _ _) (by decide) (by decide) (by decide) #[.int .i64 0, .int .i64 4, .int .i64 5, .int .i64 1] rfl 4 rfl).mono ?_
    rintro x W3 ⟨z, rfl, z0, z1, hd3, hs3⟩
    have HC3 : Hid (CfS g w (.slice l1 l2 l3) l W3) := HC2.out.save hs3 hd3
    clear HC2 hd3 hs3
    have HB : Hid (Reads (W3.alloc (.cells #[.int .i64 z] 3)) (.slice (some ⟨W3.heap.size, 0, none⟩) 1 1) [z]) := num_built W3 _
    have HL : Hid (l.length + [z].length ≤ 1048577) := by show _ ≤ _; simp; omega
    have HC4 : Hid (CfS g w (.slice l1 l2 l3) l (W3.alloc (.cells #[.int .i64 z] 3))) := HC3.out.alloc _
    go_wp2_with (at_builtin; refine wpList_append_recs rfl (.tmp 10) (.tmp 14) 32 rfl w.heap.size 3 _ 8 underI info3 rfl _ _ l [z] rfl rfl HC4.out.own HB.out (num_one _) HL.out (by decide) HC4.out.sv.size ?_)
    intro v2 W4 ho2 hg2
    have HC5 : Hid (CfS g w v2 (l ++ [z]) W4) := HC4.out.more hg2 ho2
    clear ho2 hg2 HC4 HC3 HB HL
    go_wp2
    go_ret
    exact ⟨_, l ++ [z], rfl, by simp; omega, fun x h => by
      rcases List.mem_append.1 h with h | h
      · exact HG.out x h
      · rw [List.mem_singleton.1 h]; omega, HC5.out⟩
  · have e0 : (q == 0) = false := beq_eq_false_iff_ne.2 h0
    by_cases h1 : q = 1
    · subst h1
      have HC3 : Hid (CfS g w (.slice (some ⟨W2.heap.size, 0, none⟩) 0 0) [] (W2.alloc (.cells #[] 3))) := ⟨ownsR_made0 _ _ _ HC2.out.sv.size, (HC2.out.alloc _).drw, (HC2.out.alloc _).sv, HC2.out.gl⟩
      go_wp2
      go_ret
      exact ⟨_, [], rfl, by decide, fun x h => absurd h (by simp), HC3.out⟩
    · have e1 : (q == 1) = false := beq_eq_false_iff_ne.2 h1
      go_wp2
      go_ret
      exact ⟨_, l, rfl, by omega, HG.out, HC2.out⟩
end Go.Proofs.Ytehkebdncfljmaa

namespace Go.Proofs.Ytehkebdncfljmaa
open Go Go.RowKit
set_option linter.unusedVariables false

/-- A row of numbers that lies apart from the cursor. -/
def NumsAt (w : World) (g r : Nat) (l : List Int) : Prop := r ≠ g ∧ ∀ j (h : j < l.length), w.cell? ⟨r, j, none⟩ = some (.int .i64 l[j])
set_option maxHeartbeats 400000 in
theorem pickIn_any (g r n cap : Nat) (l : List Int) (w : World) (hd : Drw w g) (h0 : 0 < n) (h1 : n ≤ 1000000) (hl : l.length = n) (hr : NumsAt w g r l) :
    Calls Try.prog 60 #[.pointer (some ⟨g, 0, none⟩), .slice (some ⟨r, 0, none⟩) n cap] w fun e w' => ∃ x ∈ l, e = .returned (.int .i64 x) ∧ Drw w' g ∧ Save g w w' := by
  go_enter Try.func60, Try.ntmps60
  go_wp2_with (go_at_call 48; refine (below_any g n _ hd (by omega) (by omega)).mono ?_; rintro e w1 ⟨x, rfl, hx0, hx1, hd1, hs1⟩; obtain ⟨k, rfl⟩ := Int.eq_ofNat_of_zero_le hx0; have hkl : k < l.length := (by omega); have hz2 : w1.cell? ⟨r, k, none⟩ = some (.int .i64 l[k]) := hs1.cell hr.1 (hr.2 k hkl))
  go_ret
  exact ⟨l[k], List.getElem_mem hkl, rfl, hd1, hs1⟩
/-- One of a row just written out, with what it is. -/
theorem pickIn_from (g : Nat) (l : List Int) (w0 w : World) (hd : Drw w g) (hs : Save g w0 w) (h0 : 0 < l.length) (h1 : l.length ≤ 1000000) (cs : Array Value) (hcs : cs = (l.map (Value.int .i64)).toArray) (n : Nat) (hn : n = l.length) :
    Calls Try.prog 60 #[.pointer (some ⟨g, 0, none⟩), .slice (some ⟨w.heap.size, 0, none⟩) n n] (w.alloc (.cells cs 3)) fun e w' => ∃ x ∈ l, e = .returned (.int .i64 x) ∧ Drw w' g ∧ Save g w0 w' := by
  have hg := hd.lt
  subst hn hcs
  refine (pickIn_any g w.heap.size l.length l.length l _ (hd.keep ((Below.refl _ _).alloc (by omega) _)) h0 h1 rfl ⟨by omega, fun j hj => by simp [hj]⟩).mono fun _ _ ⟨x, h1, h2, h3, h4⟩ => ⟨x, h1, h2, h3, (hs.alloc _).trans h4⟩
set_option maxHeartbeats 1000000 in
theorem l01Place_any (g n : Nat) (w : World) (hd : Drw w g) (h0 : 0 < n) (h1 : n ≤ 1000000) : Calls Try.prog 58 #[.pointer (some ⟨g, 0, none⟩), .int .i64 (n : Int)] w fun e w' => ∃ z : Int, e = .returned (.int .i64 z) ∧ -9223372036854775808 ≤ z ∧ z ≤ 9223372036854775807 ∧ Drw w' g ∧ Save g w w' := by
  go_enter Try.func58, Try.ntmps58
  go_wp2_with fail
  refine (once_any g 15 _ hd (by decide) (by decide)).mono ?_
  rintro x W1 ⟨b, rfl, hd1, hs1⟩
  have HD1 : Hid (Drw W1 g) := hd1
  have HS1 : Hid (Save g w W1) := hs1
  clear hd1 hs1 hd
  cases b with
  | true =>
    go_wp2_with fail
    refine (pickLit_from g [-1, (n : Int), (n : Int) + 1, 9223372036854775807, -9223372036854775808] w W1 HD1.out HS1.out (by simp) (by simp) (fun z hz => by simp only [List.mem_cons, List.not_mem_nil, or_false] at hz; omega) #[.int .i64 (-1), .int .i64 (n : Int), .int .i64 ((n : Int) + 1), .int .i64 9223372036854775807, .int .i64 (-9223372036854775808)] rfl 5 rfl).mono ?_
    rintro x W2 ⟨z, rfl, z0, z1, hd2, hs2⟩
    go_wp2
    go_ret
    exact ⟨z, rfl, z0, z1, hd2, hs2⟩
  | false =>
    go_wp2_with fail
    refine (below_any g n _ HD1.out (by omega) (by omega)).mono ?_
    rintro x W2 ⟨z, rfl, z0, z1, hd2, hs2⟩
    go_wp2
    go_ret
    exact ⟨z, rfl, by omega, by omega, hd2, HS1.out.trans hs2⟩
set_option maxHeartbeats 1000000 in
theorem last_any (sv : Value) (s st : Int) (ao : Option Addr) (k c : Nat) (w : World) (h0 : -9223372036854775808 ≤ s) (h1 : s + k ≤ 9223372036854775807) (hk : k ≤ 1048577) : Calls Try.prog 24 #[.agg #[.int .i64 s, .int .i64 st, .slice ao k c]] w fun e w' => e = .returned (.int .i64 (s + k)) ∧ Below w.heap.size w w' := by
  go_enter Try.func24, Try.ntmps24
  go_wp2
  go_ret
  exact ⟨by go_num, ba (Below.refl _ _) _⟩
set_option maxHeartbeats 1000000 in
theorem drawConf_any (v : Value) (n : Nat) (w : World) (hn : n ≤ 1048576) (hc : CodeAt w w.heap.size v n) : Calls Try.prog 11 #[v] w fun e w' => ∃ (u : Value) (l : List Int), e = .returned u ∧ l.length ≤ 5 ∧ (∀ x ∈ l, -9223372036854775808 ≤ x ∧ x ≤ 9223372036854775807) ∧ ownsR w' w.heap.size 3 u l ∧ Below w.heap.size w w' := by
  go_enter Try.func11, Try.ntmps11
  go_wp2_with fail
  refine (new_any v n _ hn hc).mono ?_
  rintro x W1 ⟨g, rfl, hg, hd1, hb1⟩
  go_wp2_with fail
  refine (l05AnyConf_any g W1 hd1).mono ?_
  rintro x W2 ⟨u, l, rfl, hl, hr, hcf⟩
  go_wp2
  go_ret
  exact ⟨u, l, rfl, hl, hr, hcf.own.mono hb1.size, hb1.trans (hcf.sv.below hg hb1.size)⟩
end Go.Proofs.Ytehkebdncfljmaa
