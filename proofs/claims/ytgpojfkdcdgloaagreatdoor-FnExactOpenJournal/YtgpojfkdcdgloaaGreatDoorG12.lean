/-
  Journals: a record that is read, as the program does it: the walks. Journals: their boxes, as blocks; a first record and a head that are read, as the program does it: the walks.
-/
import Derived.Test.YtgpojfkdcdgloaaGreatDoorG9
import Derived.Test.YtgpojfkdcdgloaaGreatDoorG10
import Derived.Test.YtgpojfkdcdgloaaGreatDoorG11
import Derived.BigRegion
import Derived.Deep.RegionWith
namespace Go.Proofs.YtgpojfkdcdgloaaGreatDoor
open Go Go.RowKit

set_option maxRecDepth 10000 in
set_option maxHeartbeats 2000000 in
theorem readPair_any (m : UInt8) (r : ByteArray) (w : World) (hr : r.size ≤ 20000) :
    Calls Tryz.prog 112 #[.string ⟨#[m]⟩, .string r] w fun e w' => ∃ x y : Int, e = .returned (.tuple #[.int .i64 x, .int .i64 y, .bool (twoB m r)]) ∧ Below w.heap.size w w' ∧ (twoB m r = true → x = twoX r ∧ y = twoY r) := by
  have hz1 : ((⟨#[m]⟩ : ByteArray).size : Int) = 1 := rfl
  rcases h1 : rv r 1 with ⟨x, y, z⟩
  have H1 : Hid (rv r 1 = (x, y, z)) := h1
  have C1 : Hid (∀ w, Calls Tryz.prog 110 #[.string r, .int .i64 1] w fun e w' => e = .returned (.tuple #[.int .i64 x, .int .i64 y, .bool z]) ∧ Below w.heap.size w w') := fun w => (readVar_any r 1 w (by omega) x y z H1.out).mono fun e w' h => ⟨h.1, by rw [h.2]; exact Below.refl _ _⟩
  clear h1
  cases z with
  | false =>
    have HB : Hid (twoB m r = false) := twoB_no1 H1.out
    rw [HB.out]
    go_enter Tryz.func112, Tryz.ntmps112
    go_wp2_with fail
    refine Calls.mono (C1.out _) ?_
    rintro e w1 ⟨rfl, hb1⟩
    go_wp2
    go_ret3
    exact ⟨0, 0, rfl, hb1, fun h => by cases h⟩
  | true =>
    obtain ⟨X, Y, rfl, rfl, hX, hY0, hY⟩ := rv_in H1.out
    rcases h2 : rv r (Y : Int) with ⟨x2, y2, z2⟩
    have H2 : Hid (rv r (Y : Int) = (x2, y2, z2)) := h2
    have C2 : Hid (∀ w, Calls Tryz.prog 110 #[.string r, .int .i64 (Y : Int)] w fun e w' => e = .returned (.tuple #[.int .i64 x2, .int .i64 y2, .bool z2]) ∧ Below w.heap.size w w') := fun w => (readVar_any r Y w (by omega) x2 y2 z2 H2.out).mono fun e w' h => ⟨h.1, by rw [h.2]; exact Below.refl _ _⟩
    clear h2
    cases z2 with
    | false =>
      have HB : Hid (twoB m r = false) := twoB_no2 H1.out H2.out
      rw [HB.out]
      go_enter Tryz.func112, Tryz.ntmps112
      go_wp2_with fail
      refine Calls.mono (C1.out _) ?_
      rintro e w1 ⟨rfl, hb1⟩
      go_wp2_with fail
      refine Calls.mono (C2.out _) ?_
      rintro e w2 ⟨rfl, hb2⟩
      go_wp2
      go_ret3
      exact ⟨0, 0, rfl, Below.on hb1 hb2, fun h => by cases h⟩
    | true =>
      obtain ⟨X2, Y2, rfl, rfl, hX2, -, -⟩ := rv_in H2.out
      have HB : Hid (twoB m r = ((pairT m X X2).toList == r.toList) ∧ twoX r = X ∧ twoY r = X2) := twoB_in H1.out H2.out
      rw [HB.out.1, HB.out.2.1, HB.out.2.2]
      obtain ⟨q, HQ⟩ : ∃ q, Hid (((pairT m X X2).toList == r.toList) = q) := ⟨_, rfl⟩
      have hq := HQ.out
      rw [HQ.out]
      go_enter Tryz.func112, Tryz.ntmps112
      go_wp2_with fail
      refine Calls.mono (C1.out _) ?_
      rintro e w1 ⟨rfl, hb1⟩
      go_wp2_with fail
      refine Calls.mono (C2.out _) ?_
      rintro e w2 ⟨rfl, hb2⟩
      go_wp2_with fail
      refine Calls.mono (pairText_ok m X X2 _ hX hX2) ?_
      rintro e w3 ⟨rfl, hb3⟩
      go_wp2
      go_ret3
      exact ⟨X, X2, rfl, Below.on (Below.on hb1 hb2) hb3, fun _ => ⟨rfl, rfl⟩⟩

theorem first_is {r : ByteArray} (h : 1 ≤ r.size) : ((r.extract 0 1).toList == (⟨#[72]⟩ : ByteArray).toList) = decide (kAt r 0 = 72) := by
  have h0 : 0 < r.size := h
  rw [kAt_in h0]
  by_cases hk : r[0].toNat = 72
  · rw [decide_eq_true hk]
    refine eq_list ?_
    apply ByteArray.ext
    rw [ByteArray.data_extract]
    apply Array.ext
    · simp; exact Nat.min_eq_left h
    · intro i hi hi2
      have hi3 : i = 0 := by simp at hi2; omega
      subst hi3
      simp
      exact UInt8.toNat_inj.1 hk
  · rw [decide_eq_false hk]
    refine ne_list fun e => hk ?_
    have hz : 0 < (r.extract 0 1).size := by rw [ByteArray.size_extract]; omega
    have e2 : (r.extract 0 1)[0] = (72 : UInt8) := by
      have : ∀ (x : ByteArray) (hx : 0 < x.size), x = ⟨#[72]⟩ → x[0] = (72 : UInt8) := fun x hx hh => by subst hh; rfl
      exact this _ hz e
    have e3 : (r.extract 0 1)[0] = r[0] := by
      simp [ByteArray.getElem_extract]
    rw [← e3, e2]; rfl

set_option maxRecDepth 10000 in
set_option maxHeartbeats 1000000 in
theorem hasH_any (r : ByteArray) (w : World) (hr : r.size ≤ 20000) :
    Calls Tryz.prog 93 #[.string r, .string ⟨#[72]⟩] w fun e w' => e = .returned (.bool (decide (kAt r 0 = 72))) ∧ w' = w := by
  have hz1 : ((⟨#[72]⟩ : ByteArray).size : Int) = 1 := rfl
  have inner : ∀ w, Calls Tryz.prog 114 #[.string r, .string ⟨#[72]⟩] w fun e w' => e = .returned (.bool (decide (kAt r 0 = 72))) ∧ w' = w := fun w => by
    by_cases h : 1 ≤ r.size
    · have HQ : Hid (((r.extract 0 1).toList == ([72] : List UInt8)) = decide (kAt r 0 = 72)) := by
        have := first_is h
        rwa [show (⟨#[72]⟩ : ByteArray).toList = [72] from by rw [ByteArray.toList_eq]] at this
      rw [← HQ.out]
      have hsl : ∀ wx, (Instr.slice 9 (.string r) none (some (.int .i64 1)) none).run Tryz.prog wx = .ok (.string (r.extract 0 1)) wx := fun wx => by
        rw [run_slice_string_to_if wx 9 r .i64 1 Tryz.underlying9, if_pos (by omega)]
        rfl
      go_enter Tryz.func114, Tryz.ntmps114
      go_wp2
      go_ret
      exact ⟨rfl, rfl⟩
    · have hz : r.size = 0 := by omega
      have e : decide (kAt r 0 = 72) = false := by
        unfold kAt
        rw [dif_neg (by omega)]
        rfl
      rw [e]
      go_enter Tryz.func114, Tryz.ntmps114
      go_wp2
      go_ret
      exact ⟨rfl, rfl⟩
  go_enter Tryz.func93, Tryz.ntmps93
  go_wp2_with fail
  refine Calls.mono (inner _) ?_
  rintro e w1 ⟨rfl, hw⟩
  have hw2 := hw.symm
  subst hw2
  go_wp2
  go_ret
  exact ⟨rfl, rfl⟩

end Go.Proofs.YtgpojfkdcdgloaaGreatDoor

namespace Go.Proofs.YtgpojfkdcdgloaaGreatDoor
open Go Go.RowKit

/-- A box that holds a journal. -/
def B6 (W : World) (b : Nat) (x0 x1 x2 x3 x4 x5 : Value) : Prop := W.heap[b]? = some (.cells #[x0, x1, x2, x3, x4, x5] 30)
section
variable {W W' : World} {b : Nat} {x0 x1 x2 x3 x4 x5 : Value}
theorem B6.lt (h : B6 W b x0 x1 x2 x3 x4 x5) : b < W.heap.size := (Array.getElem?_eq_some_iff.1 h).1
theorem B6.belowB {B : Nat} (h : B6 W b x0 x1 x2 x3 x4 x5) (hb : Below B W W') (hB : b < B) : B6 W' b x0 x1 x2 x3 x4 x5 := (hb.block _ hB).trans h
theorem B6.up (h : B6 W b x0 x1 x2 x3 x4 x5) (hb : Below W.heap.size W W') : B6 W' b x0 x1 x2 x3 x4 x5 := h.belowB hb h.lt
theorem B6.c0 (h : B6 W b x0 x1 x2 x3 x4 x5) : W.cell? ⟨b, 0, none⟩ = some x0 := by simp [World.cell?, show W.heap[b]? = _ from h]
theorem B6.c1 (h : B6 W b x0 x1 x2 x3 x4 x5) : W.cell? ⟨b, 1, none⟩ = some x1 := by simp [World.cell?, show W.heap[b]? = _ from h]
theorem B6.c2 (h : B6 W b x0 x1 x2 x3 x4 x5) : W.cell? ⟨b, 2, none⟩ = some x2 := by simp [World.cell?, show W.heap[b]? = _ from h]
theorem B6.c3 (h : B6 W b x0 x1 x2 x3 x4 x5) : W.cell? ⟨b, 3, none⟩ = some x3 := by simp [World.cell?, show W.heap[b]? = _ from h]
theorem B6.c4 (h : B6 W b x0 x1 x2 x3 x4 x5) : W.cell? ⟨b, 4, none⟩ = some x4 := by simp [World.cell?, show W.heap[b]? = _ from h]
theorem B6.c5 (h : B6 W b x0 x1 x2 x3 x4 x5) : W.cell? ⟨b, 5, none⟩ = some x5 := by simp [World.cell?, show W.heap[b]? = _ from h]
theorem B6.fr (h : B6 W b x0 x1 x2 x3 x4 x5) (o : Nat) : W.frozen? ⟨b, o, none⟩ = false := by simp [World.frozen?, show W.heap[b]? = _ from h]
theorem B6.s0 (h : B6 W b x0 x1 x2 x3 x4 x5) (u : Value) : B6 (W.setCell ⟨b, 0, none⟩ u) b u x1 x2 x3 x4 x5 := by simp [B6, World.setCell, Array.getElem?_modify, show W.heap[b]? = _ from h]
theorem B6.s1 (h : B6 W b x0 x1 x2 x3 x4 x5) (u : Value) : B6 (W.setCell ⟨b, 1, none⟩ u) b x0 u x2 x3 x4 x5 := by simp [B6, World.setCell, Array.getElem?_modify, show W.heap[b]? = _ from h]
theorem B6.s2 (h : B6 W b x0 x1 x2 x3 x4 x5) (u : Value) : B6 (W.setCell ⟨b, 2, none⟩ u) b x0 x1 u x3 x4 x5 := by simp [B6, World.setCell, Array.getElem?_modify, show W.heap[b]? = _ from h]
theorem B6.s3 (h : B6 W b x0 x1 x2 x3 x4 x5) (u : Value) : B6 (W.setCell ⟨b, 3, none⟩ u) b x0 x1 x2 u x4 x5 := by simp [B6, World.setCell, Array.getElem?_modify, show W.heap[b]? = _ from h]
theorem B6.s4 (h : B6 W b x0 x1 x2 x3 x4 x5) (u : Value) : B6 (W.setCell ⟨b, 4, none⟩ u) b x0 x1 x2 x3 u x5 := by simp [B6, World.setCell, Array.getElem?_modify, show W.heap[b]? = _ from h]
theorem B6.s5 (h : B6 W b x0 x1 x2 x3 x4 x5) (u : Value) : B6 (W.setCell ⟨b, 5, none⟩ u) b x0 x1 x2 x3 x4 u := by simp [B6, World.setCell, Array.getElem?_modify, show W.heap[b]? = _ from h]
theorem B6.far {p : Addr} (h : B6 W b x0 x1 x2 x3 x4 x5) (hp : p.block ≠ b) (u : Value) : B6 (W.setCell p u) b x0 x1 x2 x3 x4 x5 := (heap_setCell_other W p b u (fun e => hp e.symm)).trans h
theorem B6.new (W : World) (x0 x1 x2 x3 x4 x5 : Value) : B6 (W.alloc (.cells #[x0, x1, x2, x3, x4, x5] 30)) W.heap.size x0 x1 x2 x3 x4 x5 := by
  show (W.heap.push _)[W.heap.size]? = _; simp
theorem B6.alloc (h : B6 W b x0 x1 x2 x3 x4 x5) (o : Obj) : B6 (W.alloc o) b x0 x1 x2 x3 x4 x5 := h.up (ba (Below.refl _ _) _)
theorem B6.drew (h : B6 W b x0 x1 x2 x3 x4 x5) : B6 W.drew b x0 x1 x2 x3 x4 x5 := h
/-- The six stores of a journal. -/
abbrev set6 (W : World) (b : Nat) (u0 u1 u2 u3 u4 u5 : Value) : World := (((((W.setCell ⟨b, 0, none⟩ u0).setCell ⟨b, 1, none⟩ u1).setCell ⟨b, 2, none⟩ u2).setCell ⟨b, 3, none⟩ u3).setCell ⟨b, 4, none⟩ u4).setCell ⟨b, 5, none⟩ u5
theorem B6.set (h : B6 W b x0 x1 x2 x3 x4 x5) (u0 u1 u2 u3 u4 u5 : Value) : B6 (set6 W b u0 u1 u2 u3 u4 u5) b u0 u1 u2 u3 u4 u5 := (((((h.s0 u0).s1 u1).s2 u2).s3 u3).s4 u4).s5 u5
theorem below_set6 {B : Nat} {A : World} (h : Below B A W) (hb : B ≤ b) (u0 u1 u2 u3 u4 u5 : Value) : Below B A (set6 W b u0 u1 u2 u3 u4 u5) :=
  Below.setCell (Below.setCell (Below.setCell (Below.setCell (Below.setCell (Below.setCell h hb _) hb _) hb _) hb _) hb _) hb _
theorem ownsR_set6 {α : Type} [Rec α] {B : Nat} {e : TypeId} {v : Value} {l : List α} (h : ownsR W B e v l) (hne : some b ≠ v.ownBlock) (u0 u1 u2 u3 u4 u5 : Value) : ownsR (set6 W b u0 u1 u2 u3 u4 u5) B e v l := by
  have k : ∀ {V : World} {j : Nat} {u : Value}, ownsR V B e v l → ownsR (V.setCell ⟨b, j, none⟩ u) B e v l := fun hV => World.ownsRow.kept hV (grown_set _ _ _ _) (.inr (fun h => hne h.symm))
  exact k (k (k (k (k (k h)))))
end
theorem not_row6 {w : World} {B b : Nat} {v : Value} {l : List En} {x0 x1 x2 x3 x4 x5 : Value} (h : B6 w b x0 x1 x2 x3 x4 x5) (ho : ownsR w B 110 v l) : some b ≠ v.ownBlock := by
  intro he
  obtain ⟨_, h2⟩ := ho
  rcases h2 with ⟨rfl, _⟩ | ⟨g', cap, cur, rfl, _, hg, _⟩
  · simp [Value.ownBlock] at he
  · simp only [Value.ownBlock, Option.some.injEq] at he
    subst he
    rw [show w.heap[b]? = _ from h] at hg
    simp only [Option.some.injEq, Obj.cells.injEq] at hg
    exact absurd hg.2.1 (by decide)
theorem ret_j2 {fn : Func} {p u : Tmp} {w : World} {g : Nat} {a b c d e f x : Value} {tmps : Array Value} (h : fn.results = #[.cell p 30, .tmp u]) (hp : tmps.getD p undef = .pointer (some ⟨g, 0, none⟩)) (hu : tmps.getD u undef = x) (hb : B6 w g a b c d e f) :
    (results fn tmps).run Tryz.prog w = .ok (.tuple #[.agg #[a, b, c, d, e, f], x]) w := by
  have hp' : tmps[p]?.getD undef = .pointer (some ⟨g, 0, none⟩) := by simpa using hp
  have hu' : tmps[u]?.getD undef = x := by simpa using hu
  simp [results, h, hp', hu', hb.c0, hb.c1, hb.c2, hb.c3, hb.c4, hb.c5, asAddr, go_sem]
theorem ret_j3 {fn : Func} {p u u2 : Tmp} {w : World} {g : Nat} {a b c d e f x y : Value} {tmps : Array Value} (h : fn.results = #[.cell p 30, .tmp u, .tmp u2]) (hp : tmps.getD p undef = .pointer (some ⟨g, 0, none⟩)) (hu : tmps.getD u undef = x) (hu2 : tmps.getD u2 undef = y) (hb : B6 w g a b c d e f) :
    (results fn tmps).run Tryz.prog w = .ok (.tuple #[.agg #[a, b, c, d, e, f], x, y]) w := by
  have hp' : tmps[p]?.getD undef = .pointer (some ⟨g, 0, none⟩) := by simpa using hp
  have hu' : tmps[u]?.getD undef = x := by simpa using hu
  have hu2' : tmps[u2]?.getD undef = y := by simpa using hu2
  simp [results, h, hp', hu', hu2', hb.c0, hb.c1, hb.c2, hb.c3, hb.c4, hb.c5, asAddr, go_sem]

set_option maxRecDepth 10000 in
set_option maxHeartbeats 4000000 in
theorem begun_any (n t v s st : Int) (ao : Option Addr) (k c : Nat) (r : ByteArray) (w : World) (hr : r.size ≤ 20000) :
    Calls Tryz.prog 92 #[jV n t v s st (.slice ao k c), .string r] w fun e w' => ∃ x y : Int, e = .returned (.tuple #[jV n t v x y (.slice none 0 0), .bool (begB r)]) ∧ Below w.heap.size w w' ∧ (twoB 66 r = true → x = twoX r ∧ y = twoY r) := by
  obtain ⟨q, HQ⟩ : ∃ q, Hid (twoB 66 r = q) := ⟨_, rfl⟩
  obtain ⟨q2, HQ2⟩ : ∃ q2, Hid (begB r = q2) := ⟨_, rfl⟩
  rw [HQ.out, HQ2.out]
  go_enter Tryz.func92, Tryz.ntmps92
  go_wp2_with fail
  refine Calls.mono (readPair_any 66 r _ hr) ?_
  rw [HQ.out]
  rintro e w1 ⟨x, y, rfl, hb1, hxy⟩
  have HXY : Hid (q = true → x = twoX r ∧ y = twoY r) := hxy
  clear hxy
  have J1 : B6 w1 w.heap.size (.int .i64 n) (.int .i64 t) (.int .i64 v) (.int .i64 s) (.int .i64 st) (.slice ao k c) := ((B6.new w _ _ _ _ _ _).alloc _).up hb1
  have Z1 : B6 w1 (w.heap.size + 1) (.int .i64 0) (.int .i64 0) (.int .i64 0) (.int .i64 0) (.int .i64 0) (.slice none 0 0) := by
    have := (B6.new (w.alloc (.cells #[.int .i64 n, .int .i64 t, .int .i64 v, .int .i64 s, .int .i64 st, .slice ao k c] 30)) (.int .i64 0) (.int .i64 0) (.int .i64 0) (.int .i64 0) (.int .i64 0) (.slice none 0 0)).up hb1
    simpa using this
  have B1 : Below w.heap.size w w1 := (ba (ba (Below.refl _ _) _) _).trans (hb1.mono (by simp; omega))
  clear hb1
  have a3 := J1.c3
  have a4 := J1.c4
  have a5 := J1.c5
  have f3 := J1.fr 3
  have f4 := J1.fr 4
  have f5 := J1.fr 5
  go_wp2
  have J2 := ((J1.s3 (.int .i64 x)).s4 (.int .i64 y)).s5 (.slice none 0 0)
  have Z2 := ((Z1.far (p := ⟨w.heap.size, 3, none⟩) (by simp) (.int .i64 x)).far (p := ⟨w.heap.size, 4, none⟩) (by simp) (.int .i64 y)).far (p := ⟨w.heap.size, 5, none⟩) (by simp) (.slice none 0 0)
  have B2 : Below w.heap.size w (((w1.setCell ⟨w.heap.size, 3, none⟩ (.int .i64 x)).setCell ⟨w.heap.size, 4, none⟩ (.int .i64 y)).setCell ⟨w.heap.size, 5, none⟩ (.slice none 0 0)) :=
    Below.setCell (Below.setCell (Below.setCell B1 (Nat.le_refl _) _) (Nat.le_refl _) _) (Nat.le_refl _) _
  obtain ⟨w2, hw2⟩ : ∃ w2, ((w1.setCell ⟨w.heap.size, 3, none⟩ (.int .i64 x)).setCell ⟨w.heap.size, 4, none⟩ (.int .i64 y)).setCell ⟨w.heap.size, 5, none⟩ (.slice none 0 0) = w2 := ⟨_, rfl⟩
  rw [hw2] at J2 Z2 B2 ⊢
  clear hw2 a3 a4 a5 f3 f4 f5 J1 Z1 B1
  have d0 := Wd.cell J2.c0
  have d1 := Wd.cell J2.c1
  have d2 := Wd.cell J2.c2
  have d3 := Wd.cell J2.c3
  have d4 := Wd.cell J2.c4
  have d5 := Wd.cell J2.c5
  have CL : Hid (∀ W, Calls Tryz.prog 113 #[.agg #[.int .i64 x, .int .i64 y, .slice none 0 0]] W fun e w' => e = .returned (.bool (okL x y [])) ∧ Below W.heap.size W w') := fun W => logOk_any (reads_none W none 0) (by simp) (fun f hf => by simp at hf)
  have HQ3 : Hid (q2 = (q && okL x y [])) := by
    show _ = _
    rw [← HQ2.out]
    unfold begB
    rw [HQ.out]
    cases q with
    | false => rfl
    | true => rw [(HXY.out rfl).1, (HXY.out rfl).2]
  obtain ⟨q3, HQ4⟩ : ∃ q3, Hid (okL x y [] = q3) := ⟨_, rfl⟩
  rw [HQ4.out] at CL HQ3
  have a0 := Z2.c0
  have a1 := Z2.c1
  have a2 := Z2.c2
  have a3 := Z2.c3
  have a4 := Z2.c4
  have a5 := Z2.c5
  have fr := Z2.fr
  have j0 := J2.c0
  have j1 := J2.c1
  have j2 := J2.c2
  have j3 := J2.c3
  have j4 := J2.c4
  have j5 := J2.c5
  clear d0 d1 d2 d3 d4 d5
  cases q with
  | false =>
    have hq2 : q2 = false := HQ3.out
    subst hq2
    have Z4 : B6 (((((((w2.setCell ⟨w.heap.size + 1, 0, none⟩ (.int .i64 n)).setCell ⟨w.heap.size + 1, 1, none⟩ (.int .i64 t)).setCell ⟨w.heap.size + 1, 2, none⟩ (.int .i64 v)).setCell ⟨w.heap.size + 1, 3, none⟩ (.int .i64 x)).setCell ⟨w.heap.size + 1, 4, none⟩ (.int .i64 y)).setCell ⟨w.heap.size + 1, 5, none⟩ (.slice none 0 0)).drew) (w.heap.size + 1) (.int .i64 n) (.int .i64 t) (.int .i64 v) (.int .i64 x) (.int .i64 y) (.slice none 0 0) := (Z2.set (.int .i64 n) (.int .i64 t) (.int .i64 v) (.int .i64 x) (.int .i64 y) (.slice none 0 0)).drew
    have B4 : Below w.heap.size w (((((((w2.setCell ⟨w.heap.size + 1, 0, none⟩ (.int .i64 n)).setCell ⟨w.heap.size + 1, 1, none⟩ (.int .i64 t)).setCell ⟨w.heap.size + 1, 2, none⟩ (.int .i64 v)).setCell ⟨w.heap.size + 1, 3, none⟩ (.int .i64 x)).setCell ⟨w.heap.size + 1, 4, none⟩ (.int .i64 y)).setCell ⟨w.heap.size + 1, 5, none⟩ (.slice none 0 0)).drew) := Below.drew (below_set6 B2 (Nat.le_succ _) _ _ _ _ _ _)
    go_region
    obtain ⟨w4, hw4⟩ : ∃ w4, ((((((w2.setCell ⟨w.heap.size + 1, 0, none⟩ (.int .i64 n)).setCell ⟨w.heap.size + 1, 1, none⟩ (.int .i64 t)).setCell ⟨w.heap.size + 1, 2, none⟩ (.int .i64 v)).setCell ⟨w.heap.size + 1, 3, none⟩ (.int .i64 x)).setCell ⟨w.heap.size + 1, 4, none⟩ (.int .i64 y)).setCell ⟨w.heap.size + 1, 5, none⟩ (.slice none 0 0)).drew = w4 := ⟨_, rfl⟩
    rw [hw4] at Z4 B4 ⊢
    clear hw4
    go_wp2
    exact bodyPost_ret (ret_j2 rfl rfl rfl Z4) rfl ⟨x, y, rfl, B4, fun h => by cases h⟩
  | true =>
    have hq2 : q2 = q3 := by rw [HQ3.out]; rfl
    subst hq2
    go_region_with ((go_at_call 113; refine (CL.out _).mono ?_; rintro e w3 ⟨rfl, hb3⟩; have B3 : Below w.heap.size w w3 := Below.trans (by first | exact B2 | exact Below.drew B2) (hb3.mono B2.size); have Z3 : B6 w3 (w.heap.size + 1) (.int .i64 0) (.int .i64 0) (.int .i64 0) (.int .i64 0) (.int .i64 0) (.slice none 0 0) := B6.up (by first | exact Z2 | exact Z2.drew) hb3; have J3 : B6 w3 w.heap.size (.int .i64 n) (.int .i64 t) (.int .i64 v) (.int .i64 x) (.int .i64 y) (.slice none 0 0) := B6.up (by first | exact J2 | exact J2.drew) hb3; have b0 := Z3.c0; have b1 := Z3.c1; have b2 := Z3.c2; have b3 := Z3.c3; have b4 := Z3.c4; have b5 := Z3.c5; have fr3 := Z3.fr; have i0 := J3.c0; have i1 := J3.c1; have i2 := J3.c2; have i3 := J3.c3; have i4 := J3.c4; have i5 := J3.c5))
    all_goals
      have Z4 : B6 ((((((w3.setCell ⟨w.heap.size + 1, 0, none⟩ (.int .i64 n)).setCell ⟨w.heap.size + 1, 1, none⟩ (.int .i64 t)).setCell ⟨w.heap.size + 1, 2, none⟩ (.int .i64 v)).setCell ⟨w.heap.size + 1, 3, none⟩ (.int .i64 x)).setCell ⟨w.heap.size + 1, 4, none⟩ (.int .i64 y)).setCell ⟨w.heap.size + 1, 5, none⟩ (.slice none 0 0)) (w.heap.size + 1) (.int .i64 n) (.int .i64 t) (.int .i64 v) (.int .i64 x) (.int .i64 y) (.slice none 0 0) := Z3.set (.int .i64 n) (.int .i64 t) (.int .i64 v) (.int .i64 x) (.int .i64 y) (.slice none 0 0)
      have B4 : Below w.heap.size w ((((((w3.setCell ⟨w.heap.size + 1, 0, none⟩ (.int .i64 n)).setCell ⟨w.heap.size + 1, 1, none⟩ (.int .i64 t)).setCell ⟨w.heap.size + 1, 2, none⟩ (.int .i64 v)).setCell ⟨w.heap.size + 1, 3, none⟩ (.int .i64 x)).setCell ⟨w.heap.size + 1, 4, none⟩ (.int .i64 y)).setCell ⟨w.heap.size + 1, 5, none⟩ (.slice none 0 0)) := below_set6 B3 (Nat.le_succ _) _ _ _ _ _ _
      obtain ⟨w4, hw4⟩ : ∃ w4, (((((w3.setCell ⟨w.heap.size + 1, 0, none⟩ (.int .i64 n)).setCell ⟨w.heap.size + 1, 1, none⟩ (.int .i64 t)).setCell ⟨w.heap.size + 1, 2, none⟩ (.int .i64 v)).setCell ⟨w.heap.size + 1, 3, none⟩ (.int .i64 x)).setCell ⟨w.heap.size + 1, 4, none⟩ (.int .i64 y)).setCell ⟨w.heap.size + 1, 5, none⟩ (.slice none 0 0) = w4 := ⟨_, rfl⟩
      rw [hw4] at Z4 B4 ⊢
      clear hw4
      go_wp2
      exact bodyPost_ret (ret_j2 rfl rfl rfl Z4) rfl ⟨x, y, rfl, B4, by first | exact HXY.out trivial | exact HXY.out⟩

set_option maxRecDepth 10000 in
set_option maxHeartbeats 4000000 in
theorem headed_any (n t v s st : Int) (ao : Option Addr) (k c : Nat) (r : ByteArray) (w : World) (hr : r.size ≤ 20000) :
    Calls Tryz.prog 94 #[jV n t v s st (.slice ao k c), .string r] w fun e w' => ∃ x y : Int, e = .returned (.tuple #[jV n x y s st (.slice ao k c), .bool (twoB 72 r && hdB (twoX r) (twoY r))]) ∧ Below w.heap.size w w' ∧ (twoB 72 r = true → x = twoX r ∧ y = twoY r) := by
  obtain ⟨q, HQ⟩ : ∃ q, Hid (twoB 72 r = q) := ⟨_, rfl⟩
  obtain ⟨q2, HQ2⟩ : ∃ q2, Hid ((twoB 72 r && hdB (twoX r) (twoY r)) = q2) := ⟨_, rfl⟩
  rw [HQ2.out, HQ.out]
  go_enter Tryz.func94, Tryz.ntmps94
  go_wp2_with fail
  refine Calls.mono (readPair_any 72 r _ hr) ?_
  rw [HQ.out]
  rintro e w1 ⟨x, y, rfl, hb1, hxy⟩
  have HXY : Hid (q = true → x = twoX r ∧ y = twoY r) := hxy
  clear hxy
  have J1 : B6 w1 w.heap.size (.int .i64 n) (.int .i64 t) (.int .i64 v) (.int .i64 s) (.int .i64 st) (.slice ao k c) := ((B6.new w _ _ _ _ _ _).alloc _).up hb1
  have Z1 : B6 w1 (w.heap.size + 1) (.int .i64 0) (.int .i64 0) (.int .i64 0) (.int .i64 0) (.int .i64 0) (.slice none 0 0) := by
    have := (B6.new (w.alloc (.cells #[.int .i64 n, .int .i64 t, .int .i64 v, .int .i64 s, .int .i64 st, .slice ao k c] 30)) (.int .i64 0) (.int .i64 0) (.int .i64 0) (.int .i64 0) (.int .i64 0) (.slice none 0 0)).up hb1
    simpa using this
  have B1 : Below w.heap.size w w1 := (ba (ba (Below.refl _ _) _) _).trans (hb1.mono (by simp; omega))
  clear hb1
  have a1 := J1.c1
  have a2 := J1.c2
  have f1 := J1.fr 1
  have f2 := J1.fr 2
  go_wp2
  have J2 := (J1.s1 (.int .i64 x)).s2 (.int .i64 y)
  have Z2 := (Z1.far (p := ⟨w.heap.size, 1, none⟩) (by simp) (.int .i64 x)).far (p := ⟨w.heap.size, 2, none⟩) (by simp) (.int .i64 y)
  have B2 : Below w.heap.size w ((w1.setCell ⟨w.heap.size, 1, none⟩ (.int .i64 x)).setCell ⟨w.heap.size, 2, none⟩ (.int .i64 y)) :=
    Below.setCell (Below.setCell B1 (Nat.le_refl _) _) (Nat.le_refl _) _
  obtain ⟨w2, hw2⟩ : ∃ w2, (w1.setCell ⟨w.heap.size, 1, none⟩ (.int .i64 x)).setCell ⟨w.heap.size, 2, none⟩ (.int .i64 y) = w2 := ⟨_, rfl⟩
  rw [hw2] at J2 Z2 B2 ⊢
  clear hw2 a1 a2 f1 f2 J1 Z1 B1
  have CL : Hid (∀ W, Calls Tryz.prog 115 #[.int .i64 x, .int .i64 y] W fun e w' => e = .returned (.bool (hdB x y)) ∧ w' = W) := fun W => isHead_any x y W
  have HQ3 : Hid (q2 = (q && hdB x y)) := by
    show _ = _
    rw [← HQ2.out, HQ.out]
    cases q with
    | false => rfl
    | true => rw [(HXY.out rfl).1, (HXY.out rfl).2]
  obtain ⟨q3, HQ4⟩ : ∃ q3, Hid (hdB x y = q3) := ⟨_, rfl⟩
  rw [HQ4.out] at CL HQ3
  have a0 := Z2.c0
  have a1 := Z2.c1
  have a2 := Z2.c2
  have a3 := Z2.c3
  have a4 := Z2.c4
  have a5 := Z2.c5
  have fr := Z2.fr
  have j0 := J2.c0
  have j1 := J2.c1
  have j2 := J2.c2
  have j3 := J2.c3
  have j4 := J2.c4
  have j5 := J2.c5
  have Z4 : B6 ((((((((w2).setCell ⟨w.heap.size + 1, 0, none⟩ (.int .i64 n)).setCell ⟨w.heap.size + 1, 1, none⟩ (.int .i64 x)).setCell ⟨w.heap.size + 1, 2, none⟩ (.int .i64 y)).setCell ⟨w.heap.size + 1, 3, none⟩ (.int .i64 s)).setCell ⟨w.heap.size + 1, 4, none⟩ (.int .i64 st)).setCell ⟨w.heap.size + 1, 5, none⟩ (.slice ao k c)).drew) (w.heap.size + 1) (.int .i64 n) (.int .i64 x) (.int .i64 y) (.int .i64 s) (.int .i64 st) (.slice ao k c) := (Z2.set (.int .i64 n) (.int .i64 x) (.int .i64 y) (.int .i64 s) (.int .i64 st) (.slice ao k c)).drew
  have B4 : Below w.heap.size w ((((((((w2).setCell ⟨w.heap.size + 1, 0, none⟩ (.int .i64 n)).setCell ⟨w.heap.size + 1, 1, none⟩ (.int .i64 x)).setCell ⟨w.heap.size + 1, 2, none⟩ (.int .i64 y)).setCell ⟨w.heap.size + 1, 3, none⟩ (.int .i64 s)).setCell ⟨w.heap.size + 1, 4, none⟩ (.int .i64 st)).setCell ⟨w.heap.size + 1, 5, none⟩ (.slice ao k c)).drew) := Below.drew (below_set6 B2 (Nat.le_succ _) _ _ _ _ _ _)
  cases q with
  | false =>
    have hq2 : q2 = false := HQ3.out
    subst hq2
    go_region
    obtain ⟨w4, hw4⟩ : ∃ w4, (((((((w2).setCell ⟨w.heap.size + 1, 0, none⟩ (.int .i64 n)).setCell ⟨w.heap.size + 1, 1, none⟩ (.int .i64 x)).setCell ⟨w.heap.size + 1, 2, none⟩ (.int .i64 y)).setCell ⟨w.heap.size + 1, 3, none⟩ (.int .i64 s)).setCell ⟨w.heap.size + 1, 4, none⟩ (.int .i64 st)).setCell ⟨w.heap.size + 1, 5, none⟩ (.slice ao k c)).drew = w4 := ⟨_, rfl⟩
    rw [hw4] at Z4 B4 ⊢
    clear hw4
    go_wp2
    exact bodyPost_ret (ret_j2 rfl rfl rfl Z4) rfl ⟨x, y, rfl, B4, fun h => by cases h⟩
  | true =>
    have hq2 : q2 = q3 := by rw [HQ3.out]; rfl
    subst hq2
    go_region_with ((go_at_call 115; refine (CL.out _).mono ?_; rintro e w' ⟨rfl, hw⟩; have hw2 := hw.symm; subst hw2))
    all_goals
      obtain ⟨w4, hw4⟩ : ∃ w4, (((((((w2).setCell ⟨w.heap.size + 1, 0, none⟩ (.int .i64 n)).setCell ⟨w.heap.size + 1, 1, none⟩ (.int .i64 x)).setCell ⟨w.heap.size + 1, 2, none⟩ (.int .i64 y)).setCell ⟨w.heap.size + 1, 3, none⟩ (.int .i64 s)).setCell ⟨w.heap.size + 1, 4, none⟩ (.int .i64 st)).setCell ⟨w.heap.size + 1, 5, none⟩ (.slice ao k c)).drew = w4 := ⟨_, rfl⟩
      rw [hw4] at Z4 B4 ⊢
      clear hw4
      go_wp2
      exact bodyPost_ret (ret_j2 rfl rfl rfl Z4) rfl ⟨x, y, rfl, B4, by first | exact HXY.out trivial | exact HXY.out⟩
end Go.Proofs.YtgpojfkdcdgloaaGreatDoor
