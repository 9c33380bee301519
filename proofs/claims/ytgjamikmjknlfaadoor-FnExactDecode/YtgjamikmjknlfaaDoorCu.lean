/-
  The cursor that a text is read with: the walks of its two functions.
-/
import Derived.Test.YtgjamikmjknlfaaDoorSv
import Derived.Test.YtgjamikmjknlfaaDoorWd
import Derived.Test.YtgjamikmjknlfaaDoorGn
import Derived.Test.YtgjamikmjknlfaaDoorRvs
namespace Go.Proofs.YtgjamikmjknlfaaDoor
open Go Go.RowKit

/-- Block g is a cursor over text s at place a. -/
def Cur (w : World) (g : Nat) (s : ByteArray) (a : Nat) (b : Bool) : Prop := w.heap[g]? = some (.cells #[.string s, .int .i64 (a : Int), .bool b] 68)
theorem Cur.lt {w : World} {g : Nat} {s : ByteArray} {a : Nat} {b : Bool} (h : Cur w g s a b) : g < w.heap.size := (Array.getElem?_eq_some_iff.1 h).1
theorem Cur.drewN {w : World} {g : Nat} {s : ByteArray} {a : Nat} {b : Bool} (h : Cur w g s a b) (n : Nat) : Cur (w.drewN n) g s a b := h
theorem Cur.up {w w' : World} {g : Nat} {s : ByteArray} {a : Nat} {b : Bool} (h : Cur w g s a b) (hb : Below w.heap.size w w') : Cur w' g s a b := (hb.block _ h.lt).trans h

/-- What is taken. -/
def takeS (s : ByteArray) (a : Nat) (b : Bool) (n : Nat) : ByteArray × Nat × Bool := if b = false ∧ a + n ≤ s.size then (s.extract a (a + n), a + n, false) else (ByteArray.empty, a, true)

set_option maxHeartbeats 1000000 in
theorem take_no1 (g : Nat) (s : ByteArray) (a n : Nat) (w : World) (hc : Cur w g s a true) :
    Calls Tryd.prog 34 #[.pointer (some ⟨g, 0, none⟩), .int .i64 n] w fun e w' => e = .returned (.string ByteArray.empty) ∧ Cur w' g s a true ∧ Save g w w' := by
  have HC : Hid (Cur w g s a true) := hc
  obtain ⟨c0, c1, c2, hf⟩ := cur_cells hc
  clear hc
  go_enter Tryd.func34, Tryd.ntmps34
  go_wp2
  go_quiet (fail)
  go_wp2
  go_ret
  exact ⟨rfl, cur_set2 (HC.out.drewN _) _, ((Save.refl g w).drewN _).setCell rfl _⟩

set_option maxHeartbeats 1000000 in
theorem take_no2 (g : Nat) (s : ByteArray) (a n : Nat) (w : World) (hc : Cur w g s a false) (hs : s.size ≤ 1048576) (ha : a ≤ s.size) (hn : s.size < a + n) :
    Calls Tryd.prog 34 #[.pointer (some ⟨g, 0, none⟩), .int .i64 n] w fun e w' => e = .returned (.string ByteArray.empty) ∧ Cur w' g s a true ∧ Save g w w' := by
  have HC : Hid (Cur w g s a false) := hc
  obtain ⟨c0, c1, c2, hf⟩ := cur_cells hc
  clear hc
  have hw : IntKind.i64.wrap ((s.size : Int) - (a : Int)) = (s.size : Int) - (a : Int) := by go_arith
  have hd : decide ((s.size : Int) - (a : Int) < (n : Int)) = true := decide_eq_true (by omega)
  go_enter Tryd.func34, Tryd.ntmps34
  go_wp2
  go_quiet (fail)
  go_wp2
  go_ret
  exact ⟨rfl, cur_set2 (HC.out.drewN _) _, ((Save.refl g w).drewN _).setCell rfl _⟩

set_option maxHeartbeats 1000000 in
theorem take_yes (g : Nat) (s : ByteArray) (a n : Nat) (w : World) (hc : Cur w g s a false) (hs : s.size ≤ 1048576) (hn : a + n ≤ s.size) :
    Calls Tryd.prog 34 #[.pointer (some ⟨g, 0, none⟩), .int .i64 n] w fun e w' => e = .returned (.string (s.extract a (a + n))) ∧ Cur w' g s (a + n) false ∧ Save g w w' := by
  have HC : Hid (Cur w g s a false) := hc
  obtain ⟨c0, c1, c2, hf⟩ := cur_cells hc
  clear hc
  have hw : IntKind.i64.wrap ((s.size : Int) - (a : Int)) = (s.size : Int) - (a : Int) := by go_arith
  have hd : decide ((s.size : Int) - (a : Int) < (n : Int)) = false := decide_eq_false (by omega)
  have hw2 : IntKind.i64.wrap ((a : Int) + (n : Int) - (n : Int)) = (a : Int) := by go_arith
  have hsl : ∀ wx, (Instr.slice 9 (.string s) (some (.int .i64 (a : Int))) (some (.int .i64 ((a : Int) + (n : Int)))) none).run Tryd.prog wx = .ok (.string (s.extract a (a + n))) wx := fun wx => by
    have := run_slice_string (P := Tryd.prog) wx 9 s .i64 .i64 (a : Int) ((a : Int) + (n : Int)) Tryd.underlying9 (by omega) (by omega) (by omega)
    rw [show ((a : Int) + (n : Int)).toNat = a + n by omega, Int.toNat_natCast] at this
    exact this
  go_enter Tryd.func34, Tryd.ntmps34
  go_wp2
  go_quiet (fail)
  go_wp2
  have HC2 : Hid (Cur ((w.drewN nq).setCell ⟨g, 1, none⟩ (.int .i64 ((a : Int) + (n : Int)))) g s (a + n) false) := by
    have := cur_set1 (HC.out.drewN nq) (.int .i64 ((a : Int) + (n : Int)))
    unfold Hid Cur
    rw [Int.natCast_add]
    exact this
  have HS2 := ((Save.refl g w).drewN nq).setCell (p := ⟨g, 1, none⟩) rfl (.int .i64 ((a : Int) + (n : Int)))
  generalize hW : (w.drewN nq).setCell ⟨g, 1, none⟩ (.int .i64 ((a : Int) + (n : Int))) = W at HC2 HS2 ⊢
  clear hW c0 c1 c2 hf
  obtain ⟨c0, c1, c2, hf⟩ := cur_cells HC2.out
  rw [Int.natCast_add] at c1
  go_quiet (fail)
  go_wp2
  go_ret
  exact ⟨rfl, HC2.out.drewN _, HS2.drewN _⟩

theorem takeS_no1 (s : ByteArray) (a n : Nat) : takeS s a true n = (ByteArray.empty, a, true) := by simp [takeS]
theorem takeS_no2 {s : ByteArray} {a n : Nat} (h : s.size < a + n) : takeS s a false n = (ByteArray.empty, a, true) := by unfold takeS; rw [if_neg (by omega)]
theorem takeS_yes {s : ByteArray} {a n : Nat} (h : a + n ≤ s.size) : takeS s a false n = (s.extract a (a + n), a + n, false) := by unfold takeS; rw [if_pos ⟨rfl, h⟩]
/-- Some bytes are taken. -/
theorem take_any (g : Nat) (s : ByteArray) (a n : Nat) (b : Bool) (w : World) (hc : Cur w g s a b) (hs : s.size ≤ 1048576) (ha : a ≤ s.size) :
    Calls Tryd.prog 34 #[.pointer (some ⟨g, 0, none⟩), .int .i64 n] w fun e w' => ∃ (t : ByteArray) (a' : Nat) (b' : Bool), e = .returned (.string t) ∧ takeS s a b n = (t, a', b') ∧ a' ≤ s.size ∧ Cur w' g s a' b' ∧ Save g w w' := by
  cases b with
  | true => exact (take_no1 g s a n w hc).mono fun e w' ⟨h1, h2, h3⟩ => ⟨_, _, _, h1, takeS_no1 s a n, ha, h2, h3⟩
  | false =>
    rcases Nat.lt_or_ge s.size (a + n) with h | h
    · exact (take_no2 g s a n w hc hs ha h).mono fun e w' ⟨h1, h2, h3⟩ => ⟨_, _, _, h1, takeS_no2 h, ha, h2, h3⟩
    · exact (take_yes g s a n w hc hs h).mono fun e w' ⟨h1, h2, h3⟩ => ⟨_, _, _, h1, takeS_yes h, h, h2, h3⟩

/-- Where a number that is read lies. -/
theorem rvGo_in (s : ByteArray) : ∀ (f i k n : Nat) (x y : Int), rvGo s f i k n = (x, y, true) → ∃ X Y : Nat, x = X ∧ y = Y ∧ X ≤ 1000000000 ∧ i < Y ∧ Y ≤ s.size
  | 0, _, _, _, x, y, h => by simp [rvGo] at h
  | f + 1, i, k, n, x, y, h => by
    rw [rvGo] at h
    split at h
    · rename_i hi
      split at h
      · split at h
        · simp at h
        · rename_i hx
          simp only [Prod.mk.injEq, and_true] at h
          exact ⟨_, i + 1, h.1.symm, by omega, by omega, by omega, by omega⟩
      · obtain ⟨X, Y, h1, h2, h3, h4, h5⟩ := rvGo_in s f _ _ _ x y h
        exact ⟨X, Y, h1, h2, h3, by omega, h5⟩
    · simp at h
theorem rv_in {s : ByteArray} {a : Int} {x y : Int} (h : rv s a = (x, y, true)) : ∃ X Y : Nat, x = X ∧ y = Y ∧ X ≤ 1000000000 ∧ a < Y ∧ Y ≤ s.size := by
  unfold rv at h
  split at h
  · obtain ⟨X, Y, h1, h2, h3, h4, h5⟩ := rvGo_in s _ _ _ _ x y h
    exact ⟨X, Y, h1, h2, h3, by omega, h5⟩
  · simp at h

/-- The number that is read. -/
def varS (s : ByteArray) (a : Nat) (b : Bool) : Nat × Nat × Bool := if b = false ∧ (rv s a).2.2 = true then ((rv s a).1.toNat, (rv s a).2.1.toNat, false) else (0, a, true)

set_option maxHeartbeats 1000000 in
theorem var_no1 (g : Nat) (s : ByteArray) (a : Nat) (x y : Int) (z : Bool) (w : World) (hc : Cur w g s a true) (hs : s.size ≤ 1048576) (hr : rv s a = (x, y, z)) :
    Calls Tryd.prog 35 #[.pointer (some ⟨g, 0, none⟩)] w fun e w' => e = .returned (.int .i64 0) ∧ Cur w' g s a true ∧ Save g w w' := by
  have HC : Hid (Cur w g s a true) := hc
  have HR : Hid (rv s a = (x, y, z)) := hr
  obtain ⟨c0, c1, c2, hf⟩ := cur_cells hc
  clear hc hr
  have q0 := Wd.cell c0
  have q1 := Wd.cell c1
  go_enter Tryd.func35, Tryd.ntmps35
  go_wp2
  refine wp_region_wd (by kernel_rfl) (by kernel_rfl) ?_
  repeat (go_big_quiet_step ((go_at_call 62; refine calls_wd (v := .tuple #[.int .i64 x, .int .i64 y, .bool z]) ?_; exact specReadVar_any _ _ _ hs x y z HR.out)))
  refine wpQuiet_nil ?_
  rintro _ ⟨v, rfl⟩
  have HC1 : Hid (Cur v.at' g s a true) := HC.out.up v.ok
  have HS : Hid (Save g w v.at') := Save.of_below v.ok
  generalize v.at' = w1 at HC1 HS ⊢
  clear c0 c1 c2 hf q0 q1
  obtain ⟨c0, c1, c2, hf⟩ := cur_cells HC1.out
  go_wp2
  go_ret
  exact ⟨rfl, cur_set2 HC1.out _, HS.out.setCell rfl _⟩

set_option maxHeartbeats 1000000 in
theorem var_no2 (g : Nat) (s : ByteArray) (a : Nat) (x y : Int) (w : World) (hc : Cur w g s a false) (hs : s.size ≤ 1048576) (hr : rv s a = (x, y, false)) :
    Calls Tryd.prog 35 #[.pointer (some ⟨g, 0, none⟩)] w fun e w' => e = .returned (.int .i64 0) ∧ Cur w' g s a true ∧ Save g w w' := by
  have HC : Hid (Cur w g s a false) := hc
  have HR : Hid (rv s a = (x, y, false)) := hr
  obtain ⟨c0, c1, c2, hf⟩ := cur_cells hc
  clear hc hr
  have q0 := Wd.cell c0
  have q1 := Wd.cell c1
  go_enter Tryd.func35, Tryd.ntmps35
  go_wp2
  refine wp_region_wd (by kernel_rfl) (by kernel_rfl) ?_
  repeat (go_big_quiet_step ((go_at_call 62; refine calls_wd (v := .tuple #[.int .i64 x, .int .i64 y, .bool false]) ?_; exact specReadVar_any _ _ _ hs x y false HR.out)))
  refine wpQuiet_nil ?_
  rintro _ ⟨v, rfl⟩
  have HC1 : Hid (Cur v.at' g s a false) := HC.out.up v.ok
  have HS : Hid (Save g w v.at') := Save.of_below v.ok
  generalize v.at' = w1 at HC1 HS ⊢
  clear c0 c1 c2 hf q0 q1
  obtain ⟨c0, c1, c2, hf⟩ := cur_cells HC1.out
  go_wp2
  go_ret
  exact ⟨rfl, cur_set2 HC1.out _, HS.out.setCell rfl _⟩

set_option maxHeartbeats 1000000 in
theorem var_yes (g : Nat) (s : ByteArray) (a X Y : Nat) (w : World) (hc : Cur w g s a false) (hs : s.size ≤ 1048576) (hr : rv s a = ((X : Int), (Y : Int), true)) :
    Calls Tryd.prog 35 #[.pointer (some ⟨g, 0, none⟩)] w fun e w' => e = .returned (.int .i64 X) ∧ Cur w' g s Y false ∧ Save g w w' := by
  have HC : Hid (Cur w g s a false) := hc
  have HR : Hid (rv s a = ((X : Int), (Y : Int), true)) := hr
  obtain ⟨c0, c1, c2, hf⟩ := cur_cells hc
  clear hc hr
  have q0 := Wd.cell c0
  have q1 := Wd.cell c1
  go_enter Tryd.func35, Tryd.ntmps35
  go_wp2
  refine wp_region_wd (by kernel_rfl) (by kernel_rfl) ?_
  repeat (go_big_quiet_step ((go_at_call 62; refine calls_wd (v := .tuple #[.int .i64 (X : Int), .int .i64 (Y : Int), .bool true]) ?_; exact specReadVar_any _ _ _ hs _ _ true HR.out)))
  refine wpQuiet_nil ?_
  rintro _ ⟨v, rfl⟩
  have HC1 : Hid (Cur v.at' g s a false) := HC.out.up v.ok
  have HS : Hid (Save g w v.at') := Save.of_below v.ok
  generalize v.at' = w1 at HC1 HS ⊢
  clear c0 c1 c2 hf q0 q1
  obtain ⟨c0, c1, c2, hf⟩ := cur_cells HC1.out
  go_wp2
  go_ret
  exact ⟨rfl, cur_set1 HC1.out _, HS.out.setCell rfl _⟩

/-- A number is read. -/
theorem var_any (g : Nat) (s : ByteArray) (a : Nat) (b : Bool) (w : World) (hc : Cur w g s a b) (hs : s.size ≤ 1048576) (ha : a ≤ s.size) :
    Calls Tryd.prog 35 #[.pointer (some ⟨g, 0, none⟩)] w fun e w' => ∃ (x a' : Nat) (b' : Bool), e = .returned (.int .i64 x) ∧ varS s a b = (x, a', b') ∧ a' ≤ s.size ∧ x ≤ 1000000000 ∧ Cur w' g s a' b' ∧ Save g w w' := by
  rcases hr : rv s a with ⟨x, y, z⟩
  cases b with
  | true => exact (var_no1 g s a x y z w hc hs hr).mono fun e w' ⟨h1, h2, h3⟩ => ⟨0, _, _, h1, by simp [varS], ha, by omega, h2, h3⟩
  | false =>
    cases z with
    | false => exact (var_no2 g s a x y w hc hs hr).mono fun e w' ⟨h1, h2, h3⟩ => ⟨0, _, _, h1, by simp [varS, hr], ha, by omega, h2, h3⟩
    | true =>
      obtain ⟨X, Y, rfl, rfl, h4, h5, h6⟩ := rv_in hr
      exact (var_yes g s a X Y w hc hs hr).mono fun e w' ⟨h1, h2, h3⟩ => ⟨X, Y, _, h1, by simp [varS, hr], h6, h4, h2, h3⟩
end Go.Proofs.YtgjamikmjknlfaaDoor
