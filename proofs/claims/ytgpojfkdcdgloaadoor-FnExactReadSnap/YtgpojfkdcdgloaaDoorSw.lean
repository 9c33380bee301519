/-
  Snapshots: the law's helpers on them (sizes, copies, held against each other, marked): the walks.
-/
import Derived.Test.YtgpojfkdcdgloaaDoorSz
import Derived.Test.YtgpojfkdcdgloaaDoorHm
import Derived.Test.YtgpojfkdcdgloaaDoorOn
namespace Go.Proofs.YtgpojfkdcdgloaaDoor
open Go Go.RowKit

/-- The block of a record of four cells that is wholly there. -/
theorem cells4_new {w w' : World} {a b c d : Value} {t : TypeId} (hb : Below (w.alloc (.cells #[a, b, c, d] t)).heap.size (w.alloc (.cells #[a, b, c, d] t)) w') :
    w'.cell? ⟨w.heap.size, 0, none⟩ = some a ∧ w'.cell? ⟨w.heap.size, 1, none⟩ = some b ∧ w'.cell? ⟨w.heap.size, 2, none⟩ = some c ∧ w'.cell? ⟨w.heap.size, 3, none⟩ = some d := sb_cells (blk_on hb)

set_option maxHeartbeats 1000000 in
theorem szIntS_any (ao : Option Addr) (n c : Nat) (left : Int) (w : World) (hl : left ≤ 1048576) (h0 : 0 ≤ left) (hn : n ≤ 9223372036854775807) :
    Calls Tryd.prog 36 #[.slice ao n c, .int .i64 left] w fun e w' => ∃ r : Int, e = .returned (.int .i64 r) ∧ (r = -1 ∨ 0 ≤ r ∧ r = left - n) ∧ w' = w := by
  go_enter Tryd.func36, Tryd.ntmps36
  go_wp2
  · go_ret
    exact ⟨-1, rfl, .inl rfl, rfl⟩
  · go_ret
    exact ⟨left - n, by go_num, .inr ⟨by omega, rfl⟩, rfl⟩

set_option maxHeartbeats 1000000 in
theorem szSnap_any (i t : Int) (x : Value) (l : List Int) (b : ByteArray) (left : Int) (w : World) (hr : Reads w x l) (hb : b.size ≤ 9223372036854775807) (hl : left ≤ 1048576) (h0 : 0 ≤ left) (hn : l.length ≤ 9223372036854775807) :
    Calls Tryd.prog 11 #[.agg #[.int .i64 i, .int .i64 t, x, .string b], .int .i64 left] w fun e w' => ∃ r : Int, e = .returned (.int .i64 r) ∧ (r = -1 ∨ 0 ≤ r ∧ r = left - l.length - b.size) ∧ Below w.heap.size w w' := by
  obtain ⟨ao, cap, rfl, _⟩ := id hr
  clear hr
  generalize l.length = n at hn ⊢
  go_enter Tryd.func11, Tryd.ntmps11
  go_wp2_with fail
  refine (szIntS_any ao n cap left _ hl h0 hn).mono ?_
  rintro e w2 ⟨r2, rfl, h2, rfl⟩
  rcases h2 with rfl | ⟨h2, h3⟩
  · go_wp2
    go_ret
    exact ⟨-1, rfl, .inl rfl, ba (Below.refl _ _) _⟩
  · have H3 : Hid (r2 = left - n) := h3
    have h4 : r2 ≤ 1048576 := by omega
    clear h3
    go_wp2
    · go_ret
      exact ⟨-1, rfl, .inl rfl, ba (Below.refl _ _) _⟩
    · go_ret
      exact ⟨r2 - b.size, by go_num, .inr ⟨by omega, by rw [H3.out]⟩, ba (Below.refl _ _) _⟩

theorem ret_snap {fn : Func} {p : Tmp} {w : World} {g : Nat} {a b c d : Value} {tmps : Array Value} (h : fn.results = #[.cell p 30]) (hp : tmps.getD p undef = .pointer (some ⟨g, 0, none⟩)) (h0 : w.cell? ⟨g, 0, none⟩ = some a) (h1 : w.cell? ⟨g, 1, none⟩ = some b) (h2 : w.cell? ⟨g, 2, none⟩ = some c) (h3 : w.cell? ⟨g, 3, none⟩ = some d) :
    (results fn tmps).run Tryd.prog w = .ok (.agg #[a, b, c, d]) w := by
  have hp' : tmps[p]?.getD undef = .pointer (some ⟨g, 0, none⟩) := by simpa using hp
  simp [results, h, hp', h0, h1, h2, h3, asAddr, go_sem]

set_option maxHeartbeats 1000000 in
theorem toSnap_any (i t : Int) (v : Value) (l : List Int) (b : ByteArray) (w : World) (hr : Reads w v l) (hn : l.length ≤ 1048576) :
    Calls Tryd.prog 13 #[.agg #[.int .i64 i, .int .i64 t, v, .string b]] w fun e w' => ∃ v', e = .returned (.agg #[.int .i64 i, .int .i64 t, v', .string b]) ∧ ownsR w' w.heap.size 3 v' l ∧ Below w.heap.size w w' := by
  obtain ⟨ao, cap, rfl, _⟩ := id hr
  have HR : Hid (Reads w (.slice ao l.length cap) l) := hr
  clear hr
  go_enter Tryd.func13, Tryd.ntmps13
  go_wp2_with fail
  refine Calls.mono (toIntS_any ao l.length cap l _ (HR.out.below ?_) hn) ?_
  · exact ba (ba (ba (Below.refl _ _) _) _) _
  rintro e w2 ⟨v2, rfl, h2, hb2⟩
  obtain ⟨ao2, cap2, rfl⟩ := h2.slice
  have qa0 : w2.cell? ⟨w.heap.size, 0, none⟩ = some (.int .i64 i) := (hb2.cell (by simp; omega)).trans (by simp [go_sem])
  have qa3 : w2.cell? ⟨w.heap.size, 3, none⟩ = some (.string b) := (hb2.cell (by simp; omega)).trans (by simp [go_sem])
  have q0 : w2.cell? ⟨w.heap.size + 1 + 1, 0, none⟩ = some (.int .i64 i) := (hb2.cell (by simp)).trans (by simp [go_sem])
  have q1 : w2.cell? ⟨w.heap.size + 1 + 1, 1, none⟩ = some (.int .i64 t) := (hb2.cell (by simp)).trans (by simp [go_sem])
  have q2 : w2.cell? ⟨w.heap.size + 1 + 1, 2, none⟩ = some (.slice none 0 0) := (hb2.cell (by simp)).trans (by simp [go_sem])
  have q3 : w2.cell? ⟨w.heap.size + 1 + 1, 3, none⟩ = some (.string { data := #[] }) := (hb2.cell (by simp)).trans (by simp [go_sem])
  have z2 : w2.frozen? ⟨w.heap.size + 1 + 1, 2, none⟩ = false := (hb2.frozen (by simp)).trans (by simp [go_sem])
  have z3 : w2.frozen? ⟨w.heap.size + 1 + 1, 3, none⟩ = false := (hb2.frozen (by simp)).trans (by simp [go_sem])
  have p0 : w2.cell? ⟨w.heap.size + 1, 0, none⟩ = some (.int .i64 0) := (hb2.cell (by simp)).trans (by simp [go_sem])
  have p1 : w2.cell? ⟨w.heap.size + 1, 1, none⟩ = some (.int .i64 0) := (hb2.cell (by simp)).trans (by simp [go_sem])
  have p2 : w2.cell? ⟨w.heap.size + 1, 2, none⟩ = some (.slice none 0 0) := (hb2.cell (by simp)).trans (by simp [go_sem])
  have p3 : w2.cell? ⟨w.heap.size + 1, 3, none⟩ = some (.string { data := #[] }) := (hb2.cell (by simp)).trans (by simp [go_sem])
  have y0 : w2.frozen? ⟨w.heap.size + 1, 0, none⟩ = false := (hb2.frozen (by simp)).trans (by simp [go_sem])
  have y1 : w2.frozen? ⟨w.heap.size + 1, 1, none⟩ = false := (hb2.frozen (by simp)).trans (by simp [go_sem])
  have y2 : w2.frozen? ⟨w.heap.size + 1, 2, none⟩ = false := (hb2.frozen (by simp)).trans (by simp [go_sem])
  have y3 : w2.frozen? ⟨w.heap.size + 1, 3, none⟩ = false := (hb2.frozen (by simp)).trans (by simp [go_sem])
  have hb3 : Below w.heap.size w w2 := (ba (ba (ba (Below.refl _ _) _) _) _).trans (hb2.mono (by simp; omega))
  clear hb2
  go_wp2
  refine bodyPost_ret (ret_snap (a := .int .i64 i) (b := .int .i64 t) (c := .slice ao2 l.length cap2) (d := .string b) rfl rfl (by simp [go_sem, p0]) (by simp [go_sem, p1]) (by simp [go_sem, p2]) (by simp [go_sem, p3])) rfl ⟨_, rfl, ?_, ?_⟩
  · refine ownsR.mono (ownsR.setBelow (ownsR.setBelow (ownsR.setBelow (ownsR.setBelow (ownsR.setBelow (ownsR.setBelow h2 ?_ _) ?_ _) ?_ _) ?_ _) ?_ _) ?_ _) ?_ <;> simp <;> omega
  · refine Below.setCell (Below.setCell (Below.setCell (Below.setCell (Below.setCell (Below.setCell hb3 ?_ _) ?_ _) ?_ _) ?_ _) ?_ _) ?_ _ <;> simp <;> omega

set_option maxHeartbeats 1000000 in
theorem eqSnap_any (i t : Int) (va vb : Value) (l : List Int) (b : ByteArray) (w : World) (ha : Reads w va l) (hb : Reads w vb l) (hn : l.length ≤ 1048577) :
    Calls Tryd.prog 15 #[.agg #[.int .i64 i, .int .i64 t, va, .string b], .agg #[.int .i64 i, .int .i64 t, vb, .string b]] w fun e w' => e = .returned (.bool true) ∧ Below w.heap.size w w' := by
  obtain ⟨ao, c, rfl, _⟩ := id ha
  obtain ⟨bo, d, rfl, _⟩ := id hb
  have HA : Hid (Reads w (.slice ao l.length c) l) := ha
  have HB : Hid (Reads w (.slice bo l.length d) l) := hb
  clear ha hb
  go_enter Tryd.func15, Tryd.ntmps15
  go_wp2_with fail
  refine (eqIntS_any ao bo l.length c d l _ ((HA.out.alloc _).alloc _) ((HB.out.alloc _).alloc _) hn).mono ?_
  rintro e w2 ⟨rfl, hb2⟩
  have p3 : w2.cell? ⟨w.heap.size, 3, none⟩ = some (.string b) := (hb2.cell (by simp; omega)).trans (by simp [go_sem])
  have q3 : w2.cell? ⟨w.heap.size + 1, 3, none⟩ = some (.string b) := (hb2.cell (by simp)).trans (by simp [go_sem])
  have B2 : Below w.heap.size w w2 := (ba (ba (Below.refl _ _) _) _).trans (hb2.mono (by simp; omega))
  clear hb2
  go_wp2
  go_ret
  exact ⟨rfl, B2⟩

set_option maxHeartbeats 1000000 in
theorem markSnap_any {w : World} {B : Nat} {i t x : Int} {v : Value} {l : List Int} {b : ByteArray} (ho : ownsR w B 3 v l) (hn : l.length ≤ 1048577) (hx0 : 0 ≤ x) (hx : x ≤ 1073741824) :
    Calls Tryd.prog 18 #[.agg #[.int .i64 i, .int .i64 t, v, .string b], .int .i64 x] w fun e w' => e = .returned (.int .i64 (x + l.length)) ∧ w.grownBy w' v.ownBlock := by
  obtain ⟨ao, c, rfl⟩ := ho.slice
  have HO : Hid (ownsR w B 3 (.slice ao l.length c) l) := ho
  clear ho
  go_enter Tryd.func18, Tryd.ntmps18
  go_wp2_with fail
  refine (markIntS_any' (HO.out.alloc _) hn hx0 hx).mono ?_
  rintro e w2 ⟨rfl, hb2⟩
  go_wp2
  go_ret
  exact ⟨rfl, grown_trans (World.grownBy_alloc w _ _) hb2⟩
set_option maxHeartbeats 1000000 in
theorem markSnap_one {w : World} {B : Nat} {i t : Int} {v : Value} {l : List Int} {b : ByteArray} (ho : ownsR w B 3 v l) (hn : l.length ≤ 1048577) :
    Calls Tryd.prog 18 #[.agg #[.int .i64 i, .int .i64 t, v, .string b], .int .i64 1] w fun e w' => e = .returned (.int .i64 (1 + (l.length : Int))) ∧ ownsR w' B 3 v (marksR id 1 1 l.length) ∧ w.grownBy w' v.ownBlock := by
  obtain ⟨ao, c, rfl⟩ := ho.slice
  have HO : Hid (ownsR w B 3 (.slice ao l.length c) l) := ho
  clear ho
  go_enter Tryd.func18, Tryd.ntmps18
  go_wp2_with fail
  refine (markInt_any (HO.out.alloc _) hn).mono ?_
  rintro e w2 ⟨rfl, ho2, hb2⟩
  go_wp2
  go_ret
  exact ⟨rfl, ho2, grown_trans (World.grownBy_alloc w _ _) hb2⟩
set_option maxHeartbeats 1000000 in
theorem heldSnap_one {w : World} {i t : Int} {n : Nat} {v : Value} {b : ByteArray} (hr : Reads w v (marksR (id : Int → Int) 1 1 n)) (hn : n ≤ 1048577) :
    Calls Tryd.prog 19 #[.agg #[.int .i64 i, .int .i64 t, v, .string b], .int .i64 1] w fun e w' => e = .returned (.int .i64 (1 + (n : Int))) ∧ Below w.heap.size w w' := by
  obtain ⟨ao, c, rfl, _⟩ := id hr
  rw [marksR_length] at hr ⊢
  have HR : Hid (Reads w (.slice ao n c) (marksR (id : Int → Int) 1 1 n)) := hr
  clear hr
  go_enter Tryd.func19, Tryd.ntmps19
  go_wp2_with fail
  refine (heldInt_try ao n c _ (HR.out.alloc _) hn).mono ?_
  rintro e w2 ⟨rfl, rfl⟩
  go_wp2
  go_ret
  exact ⟨rfl, ba (Below.refl _ _) _⟩
end Go.Proofs.YtgpojfkdcdgloaaDoor
