/-
  What is drawn for the laws on files: a name, a right disk: the walks.
-/
import Derived.Test.YtekflgecfcjjiaaDraw2
import Derived.Test.YtekflgecfcjjiaaPp
import Derived.Test.YtekflgecfcjjiaaPt
import Derived.Test.YtekflgecfcjjiaaMf
import Derived.Deep.RegionWith
namespace Go.Proofs.Ytekflgecfcjjiaa
open Go Go.RowKit

/-- One of a row of texts, each of which is so. -/
def TextsAt (w : World) (g r n : Nat) (P : ByteArray → Prop) : Prop := r ≠ g ∧ ∀ j, j < n → ∃ t : ByteArray, P t ∧ w.cell? ⟨r, j, none⟩ = some (.string t)
set_option maxHeartbeats 400000 in
theorem pick_any (P : ByteArray → Prop) (g r n cap : Nat) (w : World) (hd : Drw w g) (h0 : 0 < n) (h1 : n ≤ 1000000) (hr : TextsAt w g r n P) (hlt : r < w.heap.size) :
    Calls Try.prog 76 #[.pointer (some ⟨g, 0, none⟩), .slice (some ⟨r, 0, none⟩) n cap] w fun e w' => ∃ t : ByteArray, e = .returned (.string t) ∧ P t ∧ Drw w' g ∧ Save g w w' := by
  go_enter Try.func76, Try.ntmps76
  go_wp2_with (go_at_call 48; refine (below_any g n _ hd (by omega) (by omega)).mono ?_; rintro e w1 ⟨x, rfl, hx0, hx1, hd1, hs1⟩; obtain ⟨k, rfl⟩ := Int.eq_ofNat_of_zero_le hx0; obtain ⟨t, ht, hz⟩ := hr.2 k (by omega); have hz2 : w1.cell? ⟨r, k, none⟩ = some (.string t) := (by rw [cell_block (w := w) (hs1.block r hlt hr.1)]; exact hz))
  go_ret
  exact ⟨t, rfl, ht, hd1, hs1⟩
theorem pickText_from (P : ByteArray → Prop) (g : Nat) (ts : List ByteArray) (w0 w : World) (hd : Drw w g) (hs : Save g w0 w) (h0 : 0 < ts.length) (h1 : ts.length ≤ 1000000) (hz : ∀ t ∈ ts, P t) (cs : Array Value) (hcs : cs = (ts.map Value.string).toArray) (n : Nat) (hn : n = ts.length) :
    Calls Try.prog 76 #[.pointer (some ⟨g, 0, none⟩), .slice (some ⟨w.heap.size, 0, none⟩) n n] (w.alloc (.cells cs 9)) fun e w' => ∃ t : ByteArray, e = .returned (.string t) ∧ P t ∧ Drw w' g ∧ Save g w0 w' := by
  have hg := hd.lt
  subst hn hcs
  refine (pick_any P g w.heap.size ts.length ts.length _ (hd.keep ((Below.refl _ _).alloc (by omega) _)) h0 h1 ⟨by omega, fun j hj => ⟨ts[j], hz _ (List.getElem_mem hj), ?_⟩⟩ (by simp)).mono ?_
  · have := World.ownsRow_lit (base := 0) (e := 9) (size := 1) w (ts.map Value.string).toArray ts.length (Nat.zero_le _) (by unfold maxLen; omega) (by simp)
    rw [World.ownsRow.cellAt this j (by omega)]
    simp [hj]
  · rintro e w' ⟨t, h1, h2, h3, h4⟩
    exact ⟨t, h1, h2, h3, (hs.alloc _).trans h4⟩

set_option maxHeartbeats 400000 in
theorem named_any (g : Nat) (w : World) (hd : Drw w g) :
    Calls Try.prog 51 #[.pointer (some ⟨g, 0, none⟩)] w fun e w' => ∃ t : ByteArray, e = .returned (.string t) ∧ nameR t = true ∧ Drw w' g ∧ Save g w w' := by
  go_enter Try.func51, Try.ntmps51
  go_wp2_with fail
  refine (pickText_from (fun t => nameR t = true) g [⟨#[97]⟩, ⟨#[98]⟩, ⟨#[99]⟩, ⟨#[106, 48]⟩, ⟨#[106, 49]⟩, ⟨#[106, 43]⟩, ⟨#[115, 48]⟩, ⟨#[115, 43]⟩] w w hd (Save.refl _ _) (by decide) (by decide) (by decide) _ (by rfl) _ (by rfl)).mono ?_
  rintro e w' ⟨t, rfl, h1, h2, h3⟩
  go_wp2
  go_ret
  exact ⟨t, rfl, h1, h2, h3⟩

theorem ownsR.save {α : Type} [Rec α] {g : Nat} {w w' : World} {B : Nat} {e : TypeId} {v : Value} {l : List α} (h : ownsR w B e v l) (hs : Save g w w') (hB : g < B) : ownsR w' B e v l := by
  obtain ⟨h1, h2⟩ := h
  refine ⟨h1, ?_⟩
  rcases h2 with h | ⟨r, cap, cur, hv, hb, hg, hr⟩
  · exact .inl h
  · exact .inr ⟨r, cap, cur, hv, hb, by rw [hs.block r (Array.getElem?_eq_some_iff.1 hg).1 (by omega)]; exact hg, hr⟩
theorem cell_save {g : Nat} {w w' : World} {p : Addr} {v : Value} (hs : Save g w w') (h : w.cell? p = some v) (hp : p.block ≠ g) : w'.cell? p = some v := by
  rw [cell_block (w := w) (hs.block p.block (World.block_lt_of_cell? w p h) hp)]; exact h
theorem frozen_save {g : Nat} {w w' : World} {p : Addr} {v : Value} {b : Bool} (hs : Save g w w') (h : w.cell? p = some v) (hf : w.frozen? p = b) (hp : p.block ≠ g) : w'.frozen? p = b := by
  rw [World.frozen?_of_block (hs.block p.block (World.block_lt_of_cell? w p h) hp)]; exact hf

theorem frozen_on2 {w w' : World} {p : Addr} {v : Value} {b : Bool} (hb : Below w.heap.size w w') (h : w.cell? p = some v) (hf : w.frozen? p = b) : w'.frozen? p = b := (hb.frozen (World.block_lt_of_cell? w p h)).trans hf

/-- What lies there while a disk is drawn. -/
structure Rd (w W : World) (g D : Nat) (v : Value) (L : List Fl) : Prop where
  drw : Drw W g
  ge : w.heap.size < g
  gD : g < D
  box : W.cell? ⟨D, 0, none⟩ = some v
  boxf : W.frozen? ⟨D, 0, none⟩ = false
  res : W.cell? ⟨w.heap.size, 0, none⟩ = some (.slice none 0 0)
  resf : W.frozen? ⟨w.heap.size, 0, none⟩ = false
  own : ownsR W (g + 1) 36 v L
  below : Below w.heap.size w W
theorem Rd.lt {w W : World} {g D : Nat} {v : Value} {L : List Fl} (h : Rd w W g D v L) : D < W.heap.size := World.block_lt_of_cell? W _ h.box
theorem Rd.save {w W W' : World} {g D : Nat} {v : Value} {L : List Fl} (h : Rd w W g D v L) (hs : Save g W W') (hd : Drw W' g) : Rd w W' g D v L := by
  have h1 := h.ge
  have h2 := h.gD
  exact ⟨hd, h.ge, h.gD, cell_save hs h.box (by simp; omega), frozen_save hs h.box h.boxf (by simp; omega), cell_save hs h.res (by simp; omega), frozen_save hs h.res h.resf (by simp; omega), h.own.save hs (by omega), h.below.trans (hs.below (by omega) h.below.size)⟩
theorem Rd.put {w W w7 : World} {g D : Nat} {v v7 : Value} {L L' : List Fl} (h : Rd w W g D v L) (ho : ownsR w7 W.heap.size 36 v7 L') (hb : Below W.heap.size W w7) : Rd w (w7.setCell ⟨D, 0, none⟩ v7) g D v7 L' := by
  have h1 := h.ge
  have h2 := h.gD
  have h3 := h.lt
  have c1 := cell_up hb h.box
  refine ⟨h.drw.keep ((hb.mono (by omega)).setCell (p := ⟨D, 0, none⟩) (by simp; omega) _), h1, h2, World.cell?_setCell_same' _ _ _ (by rw [c1]; rfl), by rw [World.frozen?_setCell]; exact frozen_on2 hb h.box h.boxf, ?_, by rw [World.frozen?_setCell]; exact frozen_on2 hb h.res h.resf, (ho.setBelow (a := ⟨D, 0, none⟩) h3 v7).mono (by omega), (h.below.trans (hb.mono h.below.size)).setCell (p := ⟨D, 0, none⟩) (by simp; omega) _⟩
  exact (grown_set w7 D 0 v7).cell (cell_up hb h.res) (by simp; omega)

/-- What the drawing tells of a disk. -/
structure RightTo (L : List Fl) (k : Nat) : Prop where
  right : diskR L = true
  len : L.length ≤ k
theorem RightTo.put {L : List Fl} {k : Nat} (h : RightTo L k) (hk : k < 30) {nm t : ByteArray} {kp : Int} (hn : nameR nm = true) (ht : t.size ≤ 20000) (h0 : 0 ≤ kp) (h1 : kp ≤ t.size) : RightTo (putL L ⟨nm, t, kp⟩) (k + 1) := by
  have hl : (putL L ⟨nm, t, kp⟩).length ≤ k + 1 := by
    have := length_put (key := Fl.key) (diskR_iff.1 h.right).2.2 (⟨nm, t, kp⟩ : Fl)
    have h2 := h.len
    show (putK Fl.key L ⟨nm, t, kp⟩).length ≤ k + 1
    rw [this]
    split <;> omega
  refine ⟨?_, hl⟩
  rw [diskR_put h.right, Bool.and_eq_true]
  refine ⟨?_, decide_eq_true (by omega)⟩
  simp only [Fl.right, hn, Bool.true_and, Bool.and_eq_true, decide_eq_true_eq]
  exact ⟨by omega, h0, h1⟩

end Go.Proofs.Ytekflgecfcjjiaa
