/-
  More of the reader of a text: a number up to a limit, a conf; a snapshot.
-/
import Derived.Test.YtgjamikmjknlfaaDoorRdc
import Derived.Test.YtgjamikmjknlfaaDoorRcs
namespace Go.Proofs.YtgjamikmjknlfaaDoor
open Go Go.RowKit
set_option linter.unusedVariables false

def numU (s : ByteArray) (lim : Nat) (a : Nat) : Option (Nat × Nat) := match numP s a with
  | some (x, y) => if x ≤ lim then some (x, y) else none
  | none => none
def conP (s : ByteArray) (a : Nat) : Option (ByteArray × Nat) := match shoP s a with
  | some (t, b) => if okT t = true then some (t, b) else none
  | none => none
theorem Save.farS {g : Nat} {a w : World} (h : Save g a w) {p : Addr} (hp : a.heap.size ≤ p.block) (u : Value) : Save g a (w.setCell p u) :=
  ⟨h.os, h.tape, h.output, by rw [World.size_setCell]; exact h.size, fun k hk hg => (heap_setCell_other w p k u (by omega)).trans (h.block k hk hg)⟩
theorem ownsR.holdR {α : Type} [Rec α] {w W : World} {B : Nat} {e : TypeId} {v : Value} {l : List α} (h : ownsR w B e v l) (hk : ∀ q, v.ownBlock = some q → W.heap[q]? = w.heap[q]?) : ownsR W B e v l := by
  refine ⟨h.1, ?_⟩
  rcases h.2 with h2 | ⟨g, cap, cur, rfl, hB, hg, hr⟩
  · exact .inl h2
  · exact .inr ⟨g, cap, cur, rfl, hB, (hk g rfl).trans hg, hr⟩
theorem ownsR.saveB {w w' : World} {B g : Nat} {v : Value} {l : List Int} (h : ownsR w B 3 v l) (hs : Save g w w') (hg : g < B) : ownsR w' B 3 v l :=
  h.holdR fun q hq => hs.block q (h.lt q hq).2 (by have := (h.lt q hq).1; omega)
set_option maxRecDepth 10000 in
set_option maxHeartbeats 1000000 in
theorem numberUp_any (g : Nat) (s : ByteArray) (a lim : Nat) (w : World) (hc : Rdr w g s a) (hs : s.size ≤ 1048576) :
    Calls Tryd.prog 82 #[.pointer (some ⟨g, 0, none⟩), .int .i64 (lim : Int)] w (StepP (numU s lim a) (fun x => .int .i64 (x : Int)) g s w) := by
  have HC : Hid (Rdr w g s a) := hc
  clear hc
  obtain ⟨R, HR⟩ : ∃ R, Hid (numU s lim a = R) := ⟨_, rfl⟩
  rw [HR.out]
  go_enter Tryd.func82, Tryd.ntmps82
  go_wp2_with fail
  refine (number_any g s a _ HC.out hs).mono ?_
  rintro e w1 h
  cases hq : numP s a with
  | none =>
    rw [hq] at h
    obtain ⟨rfl, h1⟩ := h
    obtain rfl : R = none := by rw [← HR.out]; unfold numU; rw [hq]
    clear hq
    go_wp2
    exact ⟨rfl, rfl, h1⟩
  | some r =>
    obtain ⟨x, b⟩ := r
    rw [hq] at h
    obtain ⟨rfl, h1, h2⟩ := h
    have H1 : Hid (Rdr w1 g s b) := h1
    have H2 : Hid (Save g w w1) := h2
    by_cases hx : x ≤ lim
    · obtain rfl : R = some (x, b) := by rw [← HR.out]; unfold numU; rw [hq]; simp [hx]
      have hd : decide ((x : Int) ≤ (lim : Int)) = true := decide_eq_true (by omega)
      have hd2 : decide (x ≤ lim) = true := decide_eq_true hx
      clear hq h1 h2
      go_wp2_with fail
      refine (show Calls Tryd.prog 80 _ _ _ from untorn_yes _).mono ?_
      rintro e w2 ⟨rfl, hw⟩
      have hw2 := hw.symm
      subst hw2
      clear hw
      go_wp2
      go_ret
      exact ⟨rfl, H1.out, H2.out⟩
    · obtain rfl : R = none := by rw [← HR.out]; unfold numU; rw [hq]; simp [hx]
      have hd : decide ((x : Int) ≤ (lim : Int)) = false := decide_eq_false (by omega)
      have hd2 : decide (x ≤ lim) = false := decide_eq_false hx
      clear hq h1 h2
      go_wp2_with fail
      refine (show Calls Tryd.prog 80 _ _ _ from untorn_no _).mono ?_
      rintro e w2 ⟨rfl, hw⟩
      have hw2 := hw.symm
      subst hw2
      clear hw
      go_wp2
      exact ⟨rfl, rfl, H2.out⟩
/-- What reading a conf comes to. -/
def ConfP (r : Option (ByteArray × Nat)) (g : Nat) (s : ByteArray) (w : World) (e : Ending) (w' : World) : Prop := match r with
  | some (c, b) => ∃ v, e = .returned v ∧ ownsR w' w.heap.size 3 v (confT c) ∧ Rdr w' g s b ∧ Save g w w'
  | none => e = .panicked tornP ∧ Save g w w'
end Go.Proofs.YtgjamikmjknlfaaDoor
