/-
  Messages: the law's helpers on them (sizes, copies, held against each other): the walks; a block of twelve cells.
-/
import Derived.Test.YtgjamikmjknlfaaDoorLg
import Derived.Test.YtgjamikmjknlfaaDoorRi
namespace Go.Proofs.YtgjamikmjknlfaaDoor
open Go Go.RowKit

theorem heap_farM {W : World} {k : Nat} {o : Obj} (h : W.heap[k]? = some o) {p : Addr} (hp : p.block ≠ k) (u : Value) : (W.setCell p u).heap[k]? = some o :=
  (heap_setCell_other W p k u (Ne.symm hp)).trans h

def Kc12 (t : TypeId) (W : World) (b : Nat) (x0 x1 x2 x3 x4 x5 x6 x7 x8 x9 x10 x11 : Value) : Prop := W.heap[b]? = some (.cells #[x0, x1, x2, x3, x4, x5, x6, x7, x8, x9, x10, x11] t)
section Kc12
variable {t : TypeId} {W W' : World} {b : Nat} {x0 x1 x2 x3 x4 x5 x6 x7 x8 x9 x10 x11 : Value}
theorem Kc12.lt (h : Kc12 t W b x0 x1 x2 x3 x4 x5 x6 x7 x8 x9 x10 x11) : b < W.heap.size := (Array.getElem?_eq_some_iff.1 h).1
theorem Kc12.on {B : Nat} (h : Kc12 t W b x0 x1 x2 x3 x4 x5 x6 x7 x8 x9 x10 x11) (hb : Below B W W') (hB : b < B) : Kc12 t W' b x0 x1 x2 x3 x4 x5 x6 x7 x8 x9 x10 x11 := (hb.block _ hB).trans h
theorem Kc12.up (h : Kc12 t W b x0 x1 x2 x3 x4 x5 x6 x7 x8 x9 x10 x11) (hb : Below W.heap.size W W') : Kc12 t W' b x0 x1 x2 x3 x4 x5 x6 x7 x8 x9 x10 x11 := h.on hb h.lt
theorem Kc12.alloc (h : Kc12 t W b x0 x1 x2 x3 x4 x5 x6 x7 x8 x9 x10 x11) (o : Obj) : Kc12 t (W.alloc o) b x0 x1 x2 x3 x4 x5 x6 x7 x8 x9 x10 x11 := h.up (ba (Below.refl _ _) _)
theorem Kc12.fz (h : Kc12 t W b x0 x1 x2 x3 x4 x5 x6 x7 x8 x9 x10 x11) (k : Nat) : W.frozen? ⟨b, k, none⟩ = false := by simp [World.frozen?, show W.heap[b]? = _ from h]
theorem Kc12.new (t : TypeId) (W : World) (x0 x1 x2 x3 x4 x5 x6 x7 x8 x9 x10 x11 : Value) : Kc12 t (W.alloc (.cells #[x0, x1, x2, x3, x4, x5, x6, x7, x8, x9, x10, x11] t)) W.heap.size x0 x1 x2 x3 x4 x5 x6 x7 x8 x9 x10 x11 := by
  show (W.heap.push _)[W.heap.size]? = _
  rw [Array.getElem?_push, if_pos rfl]
theorem Kc12.far {p : Addr} (h : Kc12 t W b x0 x1 x2 x3 x4 x5 x6 x7 x8 x9 x10 x11) (hp : p.block ≠ b) (u : Value) : Kc12 t (W.setCell p u) b x0 x1 x2 x3 x4 x5 x6 x7 x8 x9 x10 x11 := heap_farM h hp u
theorem Kc12.c0 (h : Kc12 t W b x0 x1 x2 x3 x4 x5 x6 x7 x8 x9 x10 x11) : W.cell? ⟨b, 0, none⟩ = some x0 := by simp [World.cell?, show W.heap[b]? = _ from h]
theorem Kc12.s0 (h : Kc12 t W b x0 x1 x2 x3 x4 x5 x6 x7 x8 x9 x10 x11) (u : Value) : Kc12 t (W.setCell ⟨b, 0, none⟩ u) b u x1 x2 x3 x4 x5 x6 x7 x8 x9 x10 x11 := by simp [Kc12, World.setCell, Array.getElem?_modify, show W.heap[b]? = _ from h]
theorem Kc12.c1 (h : Kc12 t W b x0 x1 x2 x3 x4 x5 x6 x7 x8 x9 x10 x11) : W.cell? ⟨b, 1, none⟩ = some x1 := by simp [World.cell?, show W.heap[b]? = _ from h]
theorem Kc12.s1 (h : Kc12 t W b x0 x1 x2 x3 x4 x5 x6 x7 x8 x9 x10 x11) (u : Value) : Kc12 t (W.setCell ⟨b, 1, none⟩ u) b x0 u x2 x3 x4 x5 x6 x7 x8 x9 x10 x11 := by simp [Kc12, World.setCell, Array.getElem?_modify, show W.heap[b]? = _ from h]
theorem Kc12.c2 (h : Kc12 t W b x0 x1 x2 x3 x4 x5 x6 x7 x8 x9 x10 x11) : W.cell? ⟨b, 2, none⟩ = some x2 := by simp [World.cell?, show W.heap[b]? = _ from h]
theorem Kc12.s2 (h : Kc12 t W b x0 x1 x2 x3 x4 x5 x6 x7 x8 x9 x10 x11) (u : Value) : Kc12 t (W.setCell ⟨b, 2, none⟩ u) b x0 x1 u x3 x4 x5 x6 x7 x8 x9 x10 x11 := by simp [Kc12, World.setCell, Array.getElem?_modify, show W.heap[b]? = _ from h]
theorem Kc12.c3 (h : Kc12 t W b x0 x1 x2 x3 x4 x5 x6 x7 x8 x9 x10 x11) : W.cell? ⟨b, 3, none⟩ = some x3 := by simp [World.cell?, show W.heap[b]? = _ from h]
theorem Kc12.s3 (h : Kc12 t W b x0 x1 x2 x3 x4 x5 x6 x7 x8 x9 x10 x11) (u : Value) : Kc12 t (W.setCell ⟨b, 3, none⟩ u) b x0 x1 x2 u x4 x5 x6 x7 x8 x9 x10 x11 := by simp [Kc12, World.setCell, Array.getElem?_modify, show W.heap[b]? = _ from h]
theorem Kc12.c4 (h : Kc12 t W b x0 x1 x2 x3 x4 x5 x6 x7 x8 x9 x10 x11) : W.cell? ⟨b, 4, none⟩ = some x4 := by simp [World.cell?, show W.heap[b]? = _ from h]
theorem Kc12.s4 (h : Kc12 t W b x0 x1 x2 x3 x4 x5 x6 x7 x8 x9 x10 x11) (u : Value) : Kc12 t (W.setCell ⟨b, 4, none⟩ u) b x0 x1 x2 x3 u x5 x6 x7 x8 x9 x10 x11 := by simp [Kc12, World.setCell, Array.getElem?_modify, show W.heap[b]? = _ from h]
theorem Kc12.c5 (h : Kc12 t W b x0 x1 x2 x3 x4 x5 x6 x7 x8 x9 x10 x11) : W.cell? ⟨b, 5, none⟩ = some x5 := by simp [World.cell?, show W.heap[b]? = _ from h]
theorem Kc12.s5 (h : Kc12 t W b x0 x1 x2 x3 x4 x5 x6 x7 x8 x9 x10 x11) (u : Value) : Kc12 t (W.setCell ⟨b, 5, none⟩ u) b x0 x1 x2 x3 x4 u x6 x7 x8 x9 x10 x11 := by simp [Kc12, World.setCell, Array.getElem?_modify, show W.heap[b]? = _ from h]
theorem Kc12.c6 (h : Kc12 t W b x0 x1 x2 x3 x4 x5 x6 x7 x8 x9 x10 x11) : W.cell? ⟨b, 6, none⟩ = some x6 := by simp [World.cell?, show W.heap[b]? = _ from h]
theorem Kc12.s6 (h : Kc12 t W b x0 x1 x2 x3 x4 x5 x6 x7 x8 x9 x10 x11) (u : Value) : Kc12 t (W.setCell ⟨b, 6, none⟩ u) b x0 x1 x2 x3 x4 x5 u x7 x8 x9 x10 x11 := by simp [Kc12, World.setCell, Array.getElem?_modify, show W.heap[b]? = _ from h]
theorem Kc12.c7 (h : Kc12 t W b x0 x1 x2 x3 x4 x5 x6 x7 x8 x9 x10 x11) : W.cell? ⟨b, 7, none⟩ = some x7 := by simp [World.cell?, show W.heap[b]? = _ from h]
theorem Kc12.s7 (h : Kc12 t W b x0 x1 x2 x3 x4 x5 x6 x7 x8 x9 x10 x11) (u : Value) : Kc12 t (W.setCell ⟨b, 7, none⟩ u) b x0 x1 x2 x3 x4 x5 x6 u x8 x9 x10 x11 := by simp [Kc12, World.setCell, Array.getElem?_modify, show W.heap[b]? = _ from h]
theorem Kc12.c8 (h : Kc12 t W b x0 x1 x2 x3 x4 x5 x6 x7 x8 x9 x10 x11) : W.cell? ⟨b, 8, none⟩ = some x8 := by simp [World.cell?, show W.heap[b]? = _ from h]
theorem Kc12.s8 (h : Kc12 t W b x0 x1 x2 x3 x4 x5 x6 x7 x8 x9 x10 x11) (u : Value) : Kc12 t (W.setCell ⟨b, 8, none⟩ u) b x0 x1 x2 x3 x4 x5 x6 x7 u x9 x10 x11 := by simp [Kc12, World.setCell, Array.getElem?_modify, show W.heap[b]? = _ from h]
theorem Kc12.c9 (h : Kc12 t W b x0 x1 x2 x3 x4 x5 x6 x7 x8 x9 x10 x11) : W.cell? ⟨b, 9, none⟩ = some x9 := by simp [World.cell?, show W.heap[b]? = _ from h]
theorem Kc12.s9 (h : Kc12 t W b x0 x1 x2 x3 x4 x5 x6 x7 x8 x9 x10 x11) (u : Value) : Kc12 t (W.setCell ⟨b, 9, none⟩ u) b x0 x1 x2 x3 x4 x5 x6 x7 x8 u x10 x11 := by simp [Kc12, World.setCell, Array.getElem?_modify, show W.heap[b]? = _ from h]
theorem Kc12.c10 (h : Kc12 t W b x0 x1 x2 x3 x4 x5 x6 x7 x8 x9 x10 x11) : W.cell? ⟨b, 10, none⟩ = some x10 := by simp [World.cell?, show W.heap[b]? = _ from h]
theorem Kc12.s10 (h : Kc12 t W b x0 x1 x2 x3 x4 x5 x6 x7 x8 x9 x10 x11) (u : Value) : Kc12 t (W.setCell ⟨b, 10, none⟩ u) b x0 x1 x2 x3 x4 x5 x6 x7 x8 x9 u x11 := by simp [Kc12, World.setCell, Array.getElem?_modify, show W.heap[b]? = _ from h]
theorem Kc12.c11 (h : Kc12 t W b x0 x1 x2 x3 x4 x5 x6 x7 x8 x9 x10 x11) : W.cell? ⟨b, 11, none⟩ = some x11 := by simp [World.cell?, show W.heap[b]? = _ from h]
theorem Kc12.s11 (h : Kc12 t W b x0 x1 x2 x3 x4 x5 x6 x7 x8 x9 x10 x11) (u : Value) : Kc12 t (W.setCell ⟨b, 11, none⟩ u) b x0 x1 x2 x3 x4 x5 x6 x7 x8 x9 x10 u := by simp [Kc12, World.setCell, Array.getElem?_modify, show W.heap[b]? = _ from h]
end Kc12
abbrev set12 (W : World) (b : Nat) (u0 u1 u2 u3 u4 u5 u6 u7 u8 u9 u10 u11 : Value) : World := ((((((((((((W.setCell ⟨b, 0, none⟩ u0).setCell ⟨b, 1, none⟩ u1).setCell ⟨b, 2, none⟩ u2).setCell ⟨b, 3, none⟩ u3).setCell ⟨b, 4, none⟩ u4).setCell ⟨b, 5, none⟩ u5).setCell ⟨b, 6, none⟩ u6).setCell ⟨b, 7, none⟩ u7).setCell ⟨b, 8, none⟩ u8).setCell ⟨b, 9, none⟩ u9).setCell ⟨b, 10, none⟩ u10).setCell ⟨b, 11, none⟩ u11)
theorem Kc12.set {t : TypeId} {W : World} {b : Nat} {x0 x1 x2 x3 x4 x5 x6 x7 x8 x9 x10 x11 : Value} (h : Kc12 t W b x0 x1 x2 x3 x4 x5 x6 x7 x8 x9 x10 x11) (u0 u1 u2 u3 u4 u5 u6 u7 u8 u9 u10 u11 : Value) : Kc12 t (set12 W b u0 u1 u2 u3 u4 u5 u6 u7 u8 u9 u10 u11) b u0 u1 u2 u3 u4 u5 u6 u7 u8 u9 u10 u11 := ((((((((((((h.s0 u0).s1 u1).s2 u2).s3 u3).s4 u4).s5 u5).s6 u6).s7 u7).s8 u8).s9 u9).s10 u10).s11 u11)
theorem heap_set12 {W : World} {b q : Nat} {o : Obj} (h : W.heap[q]? = some o) (hb : b ≠ q) (u0 u1 u2 u3 u4 u5 u6 u7 u8 u9 u10 u11 : Value) : (set12 W b u0 u1 u2 u3 u4 u5 u6 u7 u8 u9 u10 u11).heap[q]? = some o := (heap_farM (heap_farM (heap_farM (heap_farM (heap_farM (heap_farM (heap_farM (heap_farM (heap_farM (heap_farM (heap_farM (heap_farM h (p := ⟨b, 0, none⟩) hb u0) (p := ⟨b, 1, none⟩) hb u1) (p := ⟨b, 2, none⟩) hb u2) (p := ⟨b, 3, none⟩) hb u3) (p := ⟨b, 4, none⟩) hb u4) (p := ⟨b, 5, none⟩) hb u5) (p := ⟨b, 6, none⟩) hb u6) (p := ⟨b, 7, none⟩) hb u7) (p := ⟨b, 8, none⟩) hb u8) (p := ⟨b, 9, none⟩) hb u9) (p := ⟨b, 10, none⟩) hb u10) (p := ⟨b, 11, none⟩) hb u11)
theorem below_set12 {B b : Nat} {V W : World} (h : Below B V W) (hB : B ≤ b) (u0 u1 u2 u3 u4 u5 u6 u7 u8 u9 u10 u11 : Value) : Below B V (set12 W b u0 u1 u2 u3 u4 u5 u6 u7 u8 u9 u10 u11) := (Below.setCell (Below.setCell (Below.setCell (Below.setCell (Below.setCell (Below.setCell (Below.setCell (Below.setCell (Below.setCell (Below.setCell (Below.setCell (Below.setCell h (p := ⟨b, 0, none⟩) hB u0) (p := ⟨b, 1, none⟩) hB u1) (p := ⟨b, 2, none⟩) hB u2) (p := ⟨b, 3, none⟩) hB u3) (p := ⟨b, 4, none⟩) hB u4) (p := ⟨b, 5, none⟩) hB u5) (p := ⟨b, 6, none⟩) hB u6) (p := ⟨b, 7, none⟩) hB u7) (p := ⟨b, 8, none⟩) hB u8) (p := ⟨b, 9, none⟩) hB u9) (p := ⟨b, 10, none⟩) hB u10) (p := ⟨b, 11, none⟩) hB u11)

set_option maxHeartbeats 1000000 in
theorem szInts_any (ao : Option Addr) (n c : Nat) (left : Int) (w : World) (hl : left ≤ 1048576) (h0 : 0 ≤ left) (hn : n ≤ 9223372036854775807) :
    Calls Tryd.prog 15 #[.slice ao n c, .int .i64 left] w fun e w' => ∃ r : Int, e = .returned (.int .i64 r) ∧ (r = -1 ∨ 0 ≤ r ∧ r = left - n) ∧ w' = w := by
  go_enter Tryd.func15, Tryd.ntmps15
  go_wp2
  · go_ret
    exact ⟨-1, rfl, .inl rfl, rfl⟩
  · go_ret
    exact ⟨left - n, by go_num, .inr ⟨by omega, rfl⟩, rfl⟩

/-- What is open of a size. -/
def SzP (left : Int) (n : Int) (w : World) (e : Ending) (w' : World) : Prop := ∃ r : Int, e = .returned (.int .i64 r) ∧ (r = -1 ∨ 0 ≤ r ∧ r = left - n) ∧ Below w.heap.size w w'
set_option maxRecDepth 10000 in
set_option maxHeartbeats 4000000 in
theorem szMessage_any (kd fr up tm ix lt cm : Int) (ok : Bool) (da : ByteArray) (la : Bool) (e c : Value) (es : List En) (cs : List Int) (left : Int) (w : World) (he : Reads w e es) (hc : Reads w c cs) (hs : SmallEn es) (hd : da.size ≤ 9223372036854775807) (hl : left ≤ 1048576) (h0 : 0 ≤ left) (hn : es.length ≤ 9223372036854775807) (hm : cs.length ≤ 9223372036854775807) :
    Calls Tryd.prog 5 #[.agg #[.int .i64 kd, .int .i64 fr, .int .i64 up, .int .i64 tm, .int .i64 ix, .int .i64 lt, .int .i64 cm, .bool ok, e, c, .string da, .bool la], .int .i64 left] w (SzP left (es.length + sizeEn es + cs.length + da.size) w) := by
  obtain ⟨ao, cap, rfl, _⟩ := id he
  obtain ⟨bo, cbp, rfl, _⟩ := id hc
  have HR : Hid (Reads w (.slice ao es.length cap) es) := he
  clear he hc
  go_enter Tryd.func5, Tryd.ntmps5
  go_wp2_with fail
  refine (szEntryS_any ao es.length cap es _ _ (HR.out.alloc _) hs hl h0 hn).mono ?_
  rintro e w2 ⟨r2, rfl, h2, hb2⟩
  have K2 := (Kc12.new _ _ _ _ _ _ _ _ _ _ _ _ _ _).up hb2
  have c9 := K2.c9
  have c10 := K2.c10
  have B2 := below_new hb2
  clear hb2 K2
  rcases h2 with rfl | ⟨h2, h3⟩
  · go_wp2
    go_ret
    exact ⟨-1, rfl, .inl rfl, B2⟩
  have H3 : Hid (r2 = left - es.length - sizeEn es) := h3
  have h4 : r2 ≤ 1048576 := by omega
  clear h3
  generalize hcl : cs.length = m at hm c9 ⊢
  have HM : Hid (m = cs.length) := hcl.symm
  clear hcl
  go_wp2_with fail
  refine (szInts_any bo m cbp r2 _ h4 h2 hm).mono ?_
  rintro e w3 ⟨r3, rfl, h5, rfl⟩
  rcases h5 with rfl | ⟨h5, h6⟩
  · go_wp2
    go_ret
    exact ⟨-1, rfl, .inl rfl, B2⟩
  have H6 : Hid (r3 = r2 - m) := h6
  have h7 : r3 ≤ 1048576 := by omega
  clear h6
  go_wp2
  · go_ret
    exact ⟨-1, rfl, .inl rfl, B2⟩
  · go_ret
    exact ⟨r3 - da.size, by go_num, .inr ⟨by omega, by rw [H6.out, H3.out, HM.out]; omega⟩, B2⟩

theorem ret_msg {fn : Func} {p : Tmp} {w : World} {g : Nat} {x0 x1 x2 x3 x4 x5 x6 x7 x8 x9 x10 x11 : Value} {tmps : Array Value} (h : fn.results = #[.cell p 31]) (hp : tmps.getD p undef = .pointer (some ⟨g, 0, none⟩)) (hb : Kc12 31 w g x0 x1 x2 x3 x4 x5 x6 x7 x8 x9 x10 x11) :
    (results fn tmps).run Tryd.prog w = .ok (.agg #[x0, x1, x2, x3, x4, x5, x6, x7, x8, x9, x10, x11]) w := by
  have hp' : tmps[p]?.getD undef = .pointer (some ⟨g, 0, none⟩) := by simpa using hp
  simp [results, h, hp', hb.c0, hb.c1, hb.c2, hb.c3, hb.c4, hb.c5, hb.c6, hb.c7, hb.c8, hb.c9, hb.c10, hb.c11, asAddr, go_sem]
theorem owns_set12 {α : Type} [Rec α] {w : World} {B b : Nat} {t : TypeId} {v : Value} {l : List α} (h : ownsR w B t v l) (hb : b < B) (u0 u1 u2 u3 u4 u5 u6 u7 u8 u9 u10 u11 : Value) : ownsR (set12 w b u0 u1 u2 u3 u4 u5 u6 u7 u8 u9 u10 u11) B t v l := (ownsR.setBelow (ownsR.setBelow (ownsR.setBelow (ownsR.setBelow (ownsR.setBelow (ownsR.setBelow (ownsR.setBelow (ownsR.setBelow (ownsR.setBelow (ownsR.setBelow (ownsR.setBelow (ownsR.setBelow h (a := ⟨b, 0, none⟩) hb u0) (a := ⟨b, 1, none⟩) hb u1) (a := ⟨b, 2, none⟩) hb u2) (a := ⟨b, 3, none⟩) hb u3) (a := ⟨b, 4, none⟩) hb u4) (a := ⟨b, 5, none⟩) hb u5) (a := ⟨b, 6, none⟩) hb u6) (a := ⟨b, 7, none⟩) hb u7) (a := ⟨b, 8, none⟩) hb u8) (a := ⟨b, 9, none⟩) hb u9) (a := ⟨b, 10, none⟩) hb u10) (a := ⟨b, 11, none⟩) hb u11)
/-- A message whose two rows are the call's own. -/
def MsP (kd fr up tm ix lt cm : Int) (ok : Bool) (da : ByteArray) (la : Bool) (es : List En) (cs : List Int) (w : World) (e : Ending) (w' : World) : Prop := ∃ v u, e = .returned (.agg #[.int .i64 kd, .int .i64 fr, .int .i64 up, .int .i64 tm, .int .i64 ix, .int .i64 lt, .int .i64 cm, .bool ok, v, u, .string da, .bool la]) ∧ ownsR w' w.heap.size 47 v es ∧ ownsR w' w.heap.size 3 u cs ∧ Below w.heap.size w w'
set_option maxRecDepth 10000 in
set_option maxHeartbeats 4000000 in
theorem toMessage_any (kd fr up tm ix lt cm : Int) (ok : Bool) (da : ByteArray) (la : Bool) (e c : Value) (es : List En) (cs : List Int) (w : World) (he : Reads w e es) (hc : Reads w c cs) (hn : es.length ≤ 1048576) (hm : cs.length ≤ 1048576) :
    Calls Tryd.prog 7 #[.agg #[.int .i64 kd, .int .i64 fr, .int .i64 up, .int .i64 tm, .int .i64 ix, .int .i64 lt, .int .i64 cm, .bool ok, e, c, .string da, .bool la]] w (MsP kd fr up tm ix lt cm ok da la es cs w) := by
  obtain ⟨ao, cap, rfl, _⟩ := id he
  obtain ⟨bo, cbp, rfl, _⟩ := id hc
  have HE : Hid (Reads w (.slice ao es.length cap) es) := he
  have HC : Hid (Reads w (.slice bo cs.length cbp) cs) := hc
  clear he hc
  obtain ⟨W0, HW0⟩ : ∃ W, Hid ((((w.alloc (.cells #[.int .i64 kd, .int .i64 fr, .int .i64 up, .int .i64 tm, .int .i64 ix, .int .i64 lt, .int .i64 cm, .bool ok, .slice ao es.length cap, .slice bo cs.length cbp, .string da, .bool la] 25)).alloc (.cells #[.int .i64 0, .int .i64 0, .int .i64 0, .int .i64 0, .int .i64 0, .int .i64 0, .int .i64 0, .bool false, .slice none 0 0, .slice none 0 0, .string { data := #[] }, .bool false] 31)).alloc (.cells #[.int .i64 kd, .int .i64 fr, .int .i64 up, .int .i64 tm, .int .i64 ix, .int .i64 lt, .int .i64 cm, .bool ok, .slice none 0 0, .slice none 0 0, .string { data := #[] }, .bool false] 31)) = W) := ⟨_, rfl⟩
  have KA : Kc12 25 W0 w.heap.size (.int .i64 kd) (.int .i64 fr) (.int .i64 up) (.int .i64 tm) (.int .i64 ix) (.int .i64 lt) (.int .i64 cm) (.bool ok) (.slice ao es.length cap) (.slice bo cs.length cbp) (.string da) (.bool la) := by rw [← HW0.out]; exact ((Kc12.new _ _ _ _ _ _ _ _ _ _ _ _ _ _).alloc _).alloc _
  have KZ : Kc12 31 W0 (w.heap.size + 1) (.int .i64 0) (.int .i64 0) (.int .i64 0) (.int .i64 0) (.int .i64 0) (.int .i64 0) (.int .i64 0) (.bool false) (.slice none 0 0) (.slice none 0 0) (.string { data := #[] }) (.bool false) := by
    rw [← HW0.out]
    have := (Kc12.new 31 (w.alloc (.cells #[.int .i64 kd, .int .i64 fr, .int .i64 up, .int .i64 tm, .int .i64 ix, .int .i64 lt, .int .i64 cm, .bool ok, .slice ao es.length cap, .slice bo cs.length cbp, .string da, .bool la] 25)) (.int .i64 0) (.int .i64 0) (.int .i64 0) (.int .i64 0) (.int .i64 0) (.int .i64 0) (.int .i64 0) (.bool false) (.slice none 0 0) (.slice none 0 0) (.string { data := #[] }) (.bool false)).alloc (.cells #[.int .i64 kd, .int .i64 fr, .int .i64 up, .int .i64 tm, .int .i64 ix, .int .i64 lt, .int .i64 cm, .bool ok, .slice none 0 0, .slice none 0 0, .string { data := #[] }, .bool false] 31)
    rwa [show (w.alloc (.cells #[.int .i64 kd, .int .i64 fr, .int .i64 up, .int .i64 tm, .int .i64 ix, .int .i64 lt, .int .i64 cm, .bool ok, .slice ao es.length cap, .slice bo cs.length cbp, .string da, .bool la] 25)).heap.size = w.heap.size + 1 by simp] at this
  have KM : Kc12 31 W0 (w.heap.size + 1 + 1) (.int .i64 kd) (.int .i64 fr) (.int .i64 up) (.int .i64 tm) (.int .i64 ix) (.int .i64 lt) (.int .i64 cm) (.bool ok) (.slice none 0 0) (.slice none 0 0) (.string { data := #[] }) (.bool false) := by
    rw [← HW0.out]
    have := Kc12.new 31 ((w.alloc (.cells #[.int .i64 kd, .int .i64 fr, .int .i64 up, .int .i64 tm, .int .i64 ix, .int .i64 lt, .int .i64 cm, .bool ok, .slice ao es.length cap, .slice bo cs.length cbp, .string da, .bool la] 25)).alloc (.cells #[.int .i64 0, .int .i64 0, .int .i64 0, .int .i64 0, .int .i64 0, .int .i64 0, .int .i64 0, .bool false, .slice none 0 0, .slice none 0 0, .string { data := #[] }, .bool false] 31)) (.int .i64 kd) (.int .i64 fr) (.int .i64 up) (.int .i64 tm) (.int .i64 ix) (.int .i64 lt) (.int .i64 cm) (.bool ok) (.slice none 0 0) (.slice none 0 0) (.string { data := #[] }) (.bool false)
    rwa [show ((w.alloc (.cells #[.int .i64 kd, .int .i64 fr, .int .i64 up, .int .i64 tm, .int .i64 ix, .int .i64 lt, .int .i64 cm, .bool ok, .slice ao es.length cap, .slice bo cs.length cbp, .string da, .bool la] 25)).alloc (.cells #[.int .i64 0, .int .i64 0, .int .i64 0, .int .i64 0, .int .i64 0, .int .i64 0, .int .i64 0, .bool false, .slice none 0 0, .slice none 0 0, .string { data := #[] }, .bool false] 31)).heap.size = w.heap.size + 1 + 1 by simp] at this
  have B0 : Below w.heap.size w W0 := by rw [← HW0.out]; exact ba (ba (ba (Below.refl _ _) _) _) _
  have z0 : W0.heap.size = w.heap.size + 1 + 1 + 1 := by rw [← HW0.out]; simp
  have HKA := KA
  go_enter Tryd.func7, Tryd.ntmps7
  go_wp2_with fail
  rw [HW0.out]
  refine Calls.mono (toEntryS_any ao es.length cap es _ (HE.out.below B0) hn) ?_
  rintro e w2 ⟨v2, rfl, h2, hb2⟩
  obtain ⟨ao2, cap2, rfl⟩ := h2.slice
  have KA2 := KA.up hb2
  have KZ2 := KZ.up hb2
  have KM2 := KM.up hb2
  have B2 : Below w.heap.size w w2 := B0.trans (hb2.mono B0.size)
  have z2 := hb2.size
  have HO : Hid (ownsR w2 W0.heap.size 47 (.slice ao2 es.length cap2) es) := h2
  have a9 := KA2.c9
  have f8 := KM2.fz 8
  have k8 := KM2.c8
  clear KA KZ KM HKA hb2 h2
  go_wp2_with fail
  have hK : Kc12 31 (w2.setCell ⟨w.heap.size + 1 + 1, 8, none⟩ (.slice ao2 es.length cap2)) (w.heap.size + 1 + 1) _ _ _ _ _ _ _ _ _ _ _ _ := KM2.s8 (.slice ao2 es.length cap2)
  have B3 : Below w.heap.size w (w2.setCell ⟨w.heap.size + 1 + 1, 8, none⟩ (.slice ao2 es.length cap2)) := B2.setCell (by show w.heap.size ≤ w.heap.size + 1 + 1; omega) _
  refine Calls.mono (toIntS_any bo cs.length cbp cs _ (HC.out.below B3) hm) ?_
  rintro e w4 ⟨v4, rfl, h4, hb4⟩
  obtain ⟨ao4, cap4, rfl⟩ := h4.slice
  have KA4 := (KA2.far (p := ⟨w.heap.size + 1 + 1, 8, none⟩) (by show w.heap.size + 1 + 1 ≠ w.heap.size; omega) (.slice ao2 es.length cap2)).up hb4
  have KZ4 := (KZ2.far (p := ⟨w.heap.size + 1 + 1, 8, none⟩) (by show w.heap.size + 1 + 1 ≠ w.heap.size + 1; omega) (.slice ao2 es.length cap2)).up hb4
  have KM4 := hK.up hb4
  have HO4 : Hid (ownsR w4 W0.heap.size 47 (.slice ao2 es.length cap2) es) := (HO.out.setBelow (by show w.heap.size + 1 + 1 < _; omega) _).all hb4
  have H4 : Hid (ownsR w4 W0.heap.size 3 (.slice ao4 cs.length cap4) cs) := h4.mono (by simp; omega)
  have B4 : Below w.heap.size w w4 := B3.trans (hb4.mono B3.size)
  have q0 := KM4.c0
  have q1 := KM4.c1
  have q2 := KM4.c2
  have q3 := KM4.c3
  have q4 := KM4.c4
  have q5 := KM4.c5
  have q6 := KM4.c6
  have q7 := KM4.c7
  have q8 := KM4.c8
  have q9 := KM4.c9
  have q10 := KM4.c10
  have q11 := KM4.c11
  have p0 := KZ4.c0
  have p1 := KZ4.c1
  have p2 := KZ4.c2
  have p3 := KZ4.c3
  have p4 := KZ4.c4
  have p5 := KZ4.c5
  have p6 := KZ4.c6
  have p7 := KZ4.c7
  have p8 := KZ4.c8
  have p9 := KZ4.c9
  have p10 := KZ4.c10
  have p11 := KZ4.c11
  have y0 := KZ4.fz 0
  have y1 := KZ4.fz 1
  have y2 := KZ4.fz 2
  have y3 := KZ4.fz 3
  have y4 := KZ4.fz 4
  have y5 := KZ4.fz 5
  have y6 := KZ4.fz 6
  have y7 := KZ4.fz 7
  have y8 := KZ4.fz 8
  have y9 := KZ4.fz 9
  have y10 := KZ4.fz 10
  have y11 := KZ4.fz 11
  have g9 := KM4.fz 9
  have g10 := KM4.fz 10
  have g11 := KM4.fz 11
  have a10 := KA4.c10
  have a11 := KA4.c11
  clear KA2 KZ2 KM2 hK B3 hb4 h4 HO a9 f8 k8 B2 z2
  go_wp2_with fail
  have KF := ((KZ4.far (p := ⟨w.heap.size + 1 + 1, 9, none⟩) (by show w.heap.size + 1 + 1 ≠ w.heap.size + 1; omega) (.slice ao4 cs.length cap4)).far (p := ⟨w.heap.size + 1 + 1, 10, none⟩) (by show w.heap.size + 1 + 1 ≠ w.heap.size + 1; omega) (.string da)).far (p := ⟨w.heap.size + 1 + 1, 11, none⟩) (by show w.heap.size + 1 + 1 ≠ w.heap.size + 1; omega) (.bool la)
  refine bodyPost_ret (ret_msg rfl rfl (KF.set (.int .i64 kd) (.int .i64 fr) (.int .i64 up) (.int .i64 tm) (.int .i64 ix) (.int .i64 lt) (.int .i64 cm) (.bool ok) (.slice ao2 es.length cap2) (.slice ao4 cs.length cap4) (.string da) (.bool la))) rfl ⟨_, _, rfl, ?_, ?_, ?_⟩
  · exact (owns_set12 (((HO4.out.setBelow (a := ⟨w.heap.size + 1 + 1, 9, none⟩) (by show w.heap.size + 1 + 1 < _; omega) _).setBelow (a := ⟨w.heap.size + 1 + 1, 10, none⟩) (by show w.heap.size + 1 + 1 < _; omega) _).setBelow (a := ⟨w.heap.size + 1 + 1, 11, none⟩) (by show w.heap.size + 1 + 1 < _; omega) _) (by omega) _ _ _ _ _ _ _ _ _ _ _ _).mono (by omega)
  · exact (owns_set12 (((H4.out.setBelow (a := ⟨w.heap.size + 1 + 1, 9, none⟩) (by show w.heap.size + 1 + 1 < _; omega) _).setBelow (a := ⟨w.heap.size + 1 + 1, 10, none⟩) (by show w.heap.size + 1 + 1 < _; omega) _).setBelow (a := ⟨w.heap.size + 1 + 1, 11, none⟩) (by show w.heap.size + 1 + 1 < _; omega) _) (by omega) _ _ _ _ _ _ _ _ _ _ _ _).mono (by omega)
  · exact below_set12 (((B4.setCell (p := ⟨w.heap.size + 1 + 1, 9, none⟩) (by show w.heap.size ≤ w.heap.size + 1 + 1; omega) _).setCell (p := ⟨w.heap.size + 1 + 1, 10, none⟩) (by show w.heap.size ≤ w.heap.size + 1 + 1; omega) _).setCell (p := ⟨w.heap.size + 1 + 1, 11, none⟩) (by show w.heap.size ≤ w.heap.size + 1 + 1; omega) _) (by omega) _ _ _ _ _ _ _ _ _ _ _ _

set_option maxRecDepth 10000 in
set_option maxHeartbeats 4000000 in
theorem eqMessage_any (kd fr up tm ix lt cm : Int) (ok : Bool) (da : ByteArray) (la : Bool) (va vb vc vd : Value) (es : List En) (cs : List Int) (w : World) (ha : Reads w va es) (hb : Reads w vb es) (hc : Reads w vc cs) (hd : Reads w vd cs) (hn : es.length ≤ 1048577) (hm : cs.length ≤ 1048577) :
    Calls Tryd.prog 9 #[.agg #[.int .i64 kd, .int .i64 fr, .int .i64 up, .int .i64 tm, .int .i64 ix, .int .i64 lt, .int .i64 cm, .bool ok, va, vc, .string da, .bool la], .agg #[.int .i64 kd, .int .i64 fr, .int .i64 up, .int .i64 tm, .int .i64 ix, .int .i64 lt, .int .i64 cm, .bool ok, vb, vd, .string da, .bool la]] w fun e w' => e = .returned (.bool true) ∧ Below w.heap.size w w' := by
  obtain ⟨ao, a2, rfl, _⟩ := id ha
  obtain ⟨bo, b2, rfl, _⟩ := id hb
  obtain ⟨co, c2, rfl, _⟩ := id hc
  obtain ⟨qo, d2, rfl, _⟩ := id hd
  have HA : Hid (Reads w (.slice ao es.length a2) es) := ha
  have HB : Hid (Reads w (.slice bo es.length b2) es) := hb
  have HC : Hid (Reads w (.slice co cs.length c2) cs) := hc
  have HD : Hid (Reads w (.slice qo cs.length d2) cs) := hd
  clear ha hb hc hd
  go_enter Tryd.func9, Tryd.ntmps9
  go_wp2_with fail
  refine (eqEntryS_any ao bo es.length a2 b2 es _ ((HA.out.alloc _).alloc _) ((HB.out.alloc _).alloc _) hn).mono ?_
  rintro e w2 ⟨rfl, hb2⟩
  have K1 := (Kc12.new _ _ _ _ _ _ _ _ _ _ _ _ _ _).up hb2
  rw [show (w.alloc (.cells #[.int .i64 kd, .int .i64 fr, .int .i64 up, .int .i64 tm, .int .i64 ix, .int .i64 lt, .int .i64 cm, .bool ok, .slice ao es.length a2, .slice co cs.length c2, .string da, .bool la] 31)).heap.size = w.heap.size + 1 by simp] at K1
  have K0 := ((Kc12.new 31 w (.int .i64 kd) (.int .i64 fr) (.int .i64 up) (.int .i64 tm) (.int .i64 ix) (.int .i64 lt) (.int .i64 cm) (.bool ok) (.slice ao es.length a2) (.slice co cs.length c2) (.string da) (.bool la)).alloc (.cells #[.int .i64 kd, .int .i64 fr, .int .i64 up, .int .i64 tm, .int .i64 ix, .int .i64 lt, .int .i64 cm, .bool ok, .slice bo es.length b2, .slice qo cs.length d2, .string da, .bool la] 31)).up hb2
  have B2 : Below w.heap.size w w2 := (ba (ba (Below.refl _ _) _) _).trans (hb2.mono (by simp; omega))
  have p9 := K0.c9
  have q9 := K1.c9
  clear hb2
  go_wp2_with fail
  refine (eqIntS_any co qo cs.length c2 d2 cs _ (HC.out.below B2) (HD.out.below B2) hm).mono ?_
  rintro e w3 ⟨rfl, hb3⟩
  have K30 := K0.up hb3
  have K31 := K1.up hb3
  have B3 := B2.trans (hb3.mono B2.size)
  have p10 := K30.c10
  have p11 := K30.c11
  have q10 := K31.c10
  have q11 := K31.c11
  clear K0 K1 p9 q9 hb3
  go_wp2
  go_ret
  exact ⟨rfl, B3⟩
end Go.Proofs.YtgjamikmjknlfaaDoor
