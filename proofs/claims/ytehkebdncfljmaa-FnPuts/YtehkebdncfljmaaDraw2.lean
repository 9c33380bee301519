/-
  More of what inputs are drawn with: once in n times, one of a list, a long text.
-/
import Derived.Test.YtehkebdncfljmaaDraw
namespace Go.Proofs.Ytehkebdncfljmaa
open Go.RowKit

set_option maxHeartbeats 400000 in
theorem once_any (g : Nat) (n : Int) (w : World) (hd : Drw w g) (h0 : 0 < n) (h1 : n ≤ 9223372036854775807) :
    Calls Try.prog 57 #[.pointer (some ⟨g, 0, none⟩), .int .i64 n] w fun e w' => ∃ b : Bool, e = .returned (.bool b) ∧ Drw w' g ∧ Save g w w' := by
  go_enter Try.func57, Try.ntmps57
  go_wp2_with (go_at_call 48; refine (below_any g n _ hd h0 h1).mono ?_; rintro e w1 ⟨x, rfl, hx0, hx1, hd1, hs1⟩)
  go_ret
  exact ⟨_, rfl, hd1, hs1⟩

/-- One of a row of integers. -/
def IntsAt (w : World) (g r n : Nat) : Prop := r ≠ g ∧ ∀ j, j < n → ∃ z : Int, -9223372036854775808 ≤ z ∧ z ≤ 9223372036854775807 ∧ w.cell? ⟨r, j, none⟩ = some (.int .i64 z)
set_option maxHeartbeats 400000 in
theorem pickInt_any (g r n cap : Nat) (w : World) (hd : Drw w g) (h0 : 0 < n) (h1 : n ≤ 1000000) (hr : IntsAt w g r n) (hlt : r < w.heap.size) :
    Calls Try.prog 60 #[.pointer (some ⟨g, 0, none⟩), .slice (some ⟨r, 0, none⟩) n cap] w fun e w' => ∃ z : Int, e = .returned (.int .i64 z) ∧ -9223372036854775808 ≤ z ∧ z ≤ 9223372036854775807 ∧ Drw w' g ∧ Save g w w' := by
  go_enter Try.func60, Try.ntmps60
  go_wp2_with (go_at_call 48; refine (below_any g n _ hd (by omega) (by omega)).mono ?_; rintro e w1 ⟨x, rfl, hx0, hx1, hd1, hs1⟩; obtain ⟨k, rfl⟩ := Int.eq_ofNat_of_zero_le hx0; obtain ⟨z, hz0, hz1, hz⟩ := hr.2 k (by omega); have hz2 : w1.cell? ⟨r, k, none⟩ = some (.int .i64 z) := (by rw [cell_block (w := w) (hs1.block r hlt hr.1)]; exact hz))
  go_ret
  exact ⟨z, rfl, hz0, hz1, hd1, hs1⟩

/-- One of a row just written out. -/
theorem pickLit_from (g : Nat) (zs : List Int) (w0 w : World) (hd : Drw w g) (hs : Save g w0 w) (h0 : 0 < zs.length) (h1 : zs.length ≤ 1000000) (hz : ∀ z ∈ zs, -9223372036854775808 ≤ z ∧ z ≤ 9223372036854775807) (cs : Array Value) (hcs : cs = (zs.map (Value.int .i64)).toArray) (n : Nat) (hn : n = zs.length) :
    Calls Try.prog 60 #[.pointer (some ⟨g, 0, none⟩), .slice (some ⟨w.heap.size, 0, none⟩) n n] (w.alloc (.cells cs 3)) fun e w' => ∃ z : Int, e = .returned (.int .i64 z) ∧ -9223372036854775808 ≤ z ∧ z ≤ 9223372036854775807 ∧ Drw w' g ∧ Save g w0 w' := by
  have hg := hd.lt
  subst hn hcs
  refine (pickInt_any g w.heap.size zs.length zs.length _ (hd.keep ((Below.refl _ _).alloc (by omega) _)) h0 h1 ⟨by omega, fun j hj => ?_⟩ (by simp)).mono fun _ _ ⟨x, h1, h2, h3, h4, h5⟩ => ⟨x, h1, h2, h3, h4, (hs.alloc _).trans h5⟩
  have := hz zs[j] (List.getElem_mem hj)
  exact ⟨zs[j], this.1, this.2, by simp [hj]⟩

theorem ownsB.slice {w : World} {B : Nat} {e : TypeId} {r n cap : Nat} {l : List Int} (h : ownsB w B e (.slice (some ⟨r, 0, none⟩) n cap) l) : n = l.length := by
  obtain ⟨_, h2⟩ := h
  rcases h2 with ⟨h, _⟩ | ⟨r', cap', cur, hv, _⟩
  · simp at h
  · simp only [Value.slice.injEq] at hv
    exact hv.2.1
set_option maxHeartbeats 1000000 in
/-- A text of n bytes of one kind. -/
theorem long_any (n : Nat) (x : Int) (w : World) (hn : n ≤ 1000000) (h0 : 0 < n) :
    Calls Try.prog 61 #[.int .i64 n, .int .u8 x] w fun e w' => ∃ t : ByteArray, e = .returned (.string t) ∧ t.size = n ∧ Below w.heap.size w w' := by
  obtain ⟨i0, hi0, hz0, hz1, hz2⟩ := info_parts info5
  go_enter Try.func61, Try.ntmps61
  go_wp2_with (at_make; refine wpList_make_full _ rfl _ _ 22 rfl w.heap.size 5 i0 (.int .u8 0) 1 Try.underlying22 hi0 hz0 hz1 _ _ _ _ n rfl rfl rfl rfl ?m1 ?m2 ?m3 ?_)
  case m1 => rw [hz2]; omega
  case m2 => unfold maxLen; omega
  case m3 => omega
  intro w1 hown0 hgr0
  have hown1 : ownsB w1 w.heap.size 5 (.slice (some ⟨w.heap.size, 0, none⟩) n n) (List.replicate n 0) := by
    unfold ownsB
    rw [List.length_replicate, List.map_replicate]
    have h2 : w1.ownsRow w.heap.size 5 1 (.slice (some ⟨w.heap.size, 0, none⟩) n n) n (madeCells #[Value.int IntKind.u8 0] n).toList := hown0
    rw [toList_madeCells_one] at h2
    exact h2
  have hbel0 : Below w.heap.size w w1 := (Below.refl _ _).grown hgr0 (Nat.le_refl _) (fun k hk => by cases hk)
  clear hown0 hgr0 hi0 hz0 hz1 hz2
  go_wp2
  go_loopw [6] (fun i wr => ∃ (k : Nat) (l : List Int), k ≤ n ∧ i = .int .i64 k ∧ l.length = n ∧ ownsB wr w.heap.size 5 (.slice (some ⟨w.heap.size, 0, none⟩) n n) l ∧ Below w.heap.size w wr) (fun i _ => n - (intOf i).toNat)
  case atStart => exact ⟨0, _, Nat.zero_le _, rfl, List.length_replicate, hown1, hbel0⟩
  case round =>
    obtain ⟨k, l, hk, rfl, hl, hown, hbel⟩ := hrel
    clear hown1 hbel0
    by_cases hlt : k < n
    · have ho : wr.ownsRow w.heap.size 5 1 (.slice (some ⟨w.heap.size, 0, none⟩) n n) n (l.map (Value.int .u8)) := by have h := hown; unfold ownsB at h; rw [hl] at h; exact h
      have hck : wr.cell? ⟨w.heap.size, k, none⟩ = some (.int .u8 (l[k]'(by omega))) := by
        rw [World.ownsRow.cellAt ho k (by omega)]
        simp [hl, hlt]
      have hfk := World.ownsRow.frozenAt ho k
      have hst := (World.ownsRow.stored ho k (.int .u8 x)).1
      rw [← List.map_set] at hst
      clear hown ho
      go_wp2
      go_roundw
      case rel => exact ⟨k + 1, l.set k x, by omega, by go_num, by simp [hl], (by unfold ownsB; rw [List.length_set, hl]; exact hst), hbel.setCell (Nat.le_refl _) _⟩
      case measure => simp [intOf]; omega
    · have hcv := run_own_string (P := Try.prog) 22 9 hown Try.underlying22 Try.underlying5 Try.underlying9
      clear hown
      go_wp2
      go_ret
      exact ⟨_, rfl, by rw [show (bstr l).size = l.length by simp [bstr, ByteArray.size]]; exact hl, hbel⟩

end Go.Proofs.Ytehkebdncfljmaa
