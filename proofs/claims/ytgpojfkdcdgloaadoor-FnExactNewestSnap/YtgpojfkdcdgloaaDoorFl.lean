/-
  Files as values: small functions on one file: the walks.
-/
import Derived.Test.YtgpojfkdcdgloaaDoorInf
import Derived.Test.YtgpojfkdcdgloaaDoorAid
import Derived.Test.YtgpojfkdcdgloaaDoorGn
import Derived.Deep.QuietTactic
import Derived.BigQuiet
import Derived.Deep.RegionHeld
import Derived.Handy
namespace Go.Proofs.YtgpojfkdcdgloaaDoor
open Go Go.RowKit

theorem bdrewF {B : Nat} {w w' : World} (h : Below B w w') : ∀ n, Below B w (w'.drewN n)
  | 0 => h
  | n + 1 => (bdrewF h n).drew

/-- A file as a plain record. -/
structure Fl where
  name : ByteArray
  text : ByteArray
  kept : Int
instance : Inhabited Fl := ⟨⟨ByteArray.empty, ByteArray.empty, 0⟩⟩
def Fl.cells (f : Fl) : List Value := [.string f.name, .string f.text, .int .i64 f.kept]

set_option maxHeartbeats 400000 in
theorem toFile_any (n t : ByteArray) (k : Int) (w : World) :
    Calls Tryd.prog 90 #[.agg #[.string n, .string t, .int .i64 k]] w fun e w' => e = .returned (.agg #[.string n, .string t, .int .i64 k]) ∧ Below w.heap.size w w' := by
  go_enter Tryd.func90, Tryd.ntmps90
  go_wp2
  go_returns
  exact ⟨rfl, ba (ba (ba (Below.refl _ _) _) _) _⟩

set_option maxHeartbeats 400000 in
theorem inF_any (x lo hi : Int) (w : World) :
    Calls Tryd.prog 33 #[.int .i64 x, .int .i64 lo, .int .i64 hi] w fun e w' => e = .returned (.bool (decide (lo ≤ x) && decide (x ≤ hi))) ∧ w' = w := by
  by_cases h1 : lo ≤ x
  · have h2 : decide (lo ≤ x) = true := decide_eq_true h1
    go_enter Tryd.func33, Tryd.ntmps33
    go_wp2
    go_ret
    exact ⟨by simp [h1], rfl⟩
  · have h2 : decide (lo ≤ x) = false := decide_eq_false h1
    go_enter Tryd.func33, Tryd.ntmps33
    go_wp2
    go_ret
    exact ⟨by simp, rfl⟩

/-- A name that is right. -/
def nameR (s : ByteArray) : Bool := decide (1 ≤ s.size) && decide (s.size ≤ 8)

set_option maxHeartbeats 400000 in
theorem isName_any (s : ByteArray) (w : World) :
    Calls Tryd.prog 105 #[.string s] w fun e w' => e = .returned (.bool (nameR s)) ∧ w' = w := by
  by_cases h1 : (1 : Int) ≤ (s.size : Int)
  · have h2 : decide ((1 : Int) ≤ (s.size : Int)) = true := decide_eq_true h1
    go_enter Tryd.func105, Tryd.ntmps105
    go_wp2
    go_ret
    refine ⟨?_, rfl⟩
    have : (1 : Nat) ≤ s.size := by omega
    simp [nameR, this]
    by_cases h3 : s.size ≤ 8
    · simp [h3]; omega
    · simp [h3]; omega
  · have h2 : decide ((1 : Int) ≤ (s.size : Int)) = false := decide_eq_false h1
    go_enter Tryd.func105, Tryd.ntmps105
    go_wp2
    go_ret
    refine ⟨?_, rfl⟩
    have : ¬ (1 : Nat) ≤ s.size := by omega
    simp [nameR]; omega

set_option maxHeartbeats 400000 in
theorem specName_any (s : ByteArray) (w : World) :
    Calls Tryd.prog 88 #[.string s] w fun e w' => e = .returned (.bool (nameR s)) ∧ w' = w := by
  go_enter Tryd.func88, Tryd.ntmps88
  go_wp2_with (go_at_call 33; refine (inF_any _ _ _ _).mono ?_; rintro e w2 ⟨rfl, rfl⟩)
  go_ret
  refine ⟨?_, rfl⟩
  have e1 : decide ((1 : Int) ≤ (s.size : Int)) = decide (1 ≤ s.size) := by rw [decide_eq_decide]; omega
  have e2 : decide ((s.size : Int) ≤ 8) = decide (s.size ≤ 8) := by rw [decide_eq_decide]; omega
  simp [nameR]
  rw [e1, e2]

set_option maxHeartbeats 400000 in
theorem szFile_any (n t : ByteArray) (k left : Int) (w : World) (hn : n.size ≤ 9223372036854775807) (ht : t.size ≤ 9223372036854775807) (hl : left ≤ 1048576) (h0 : 0 ≤ left) :
    Calls Tryd.prog 87 #[.agg #[.string n, .string t, .int .i64 k], .int .i64 left] w fun e w' => ∃ r : Int, e = .returned (.int .i64 r) ∧ (r = -1 ∨ 0 ≤ r ∧ r = left - n.size - t.size) ∧ Below w.heap.size w w' := by
  by_cases h1 : left - n.size < 0
  · go_enter Tryd.func87, Tryd.ntmps87
    go_wp2
    go_ret
    exact ⟨_, rfl, .inl rfl, ba (Below.refl _ _) _⟩
  · by_cases h2 : left - n.size - t.size < 0
    · go_enter Tryd.func87, Tryd.ntmps87
      go_wp2
      go_ret
      exact ⟨_, rfl, .inl rfl, ba (Below.refl _ _) _⟩
    · go_enter Tryd.func87, Tryd.ntmps87
      go_wp2
      go_ret
      exact ⟨_, rfl, .inr ⟨by omega, rfl⟩, ba (Below.refl _ _) _⟩

set_option maxHeartbeats 400000 in
theorem eqFile_any (n t : ByteArray) (k : Int) (w : World) :
    Calls Tryd.prog 93 #[.agg #[.string n, .string t, .int .i64 k], .agg #[.string n, .string t, .int .i64 k]] w fun e w' => e = .returned (.bool true) ∧ Below w.heap.size w w' := by
  go_enter Tryd.func93, Tryd.ntmps93
  go_wp2
  go_ret
  exact ⟨rfl, ba (ba (Below.refl _ _) _) _⟩

/-- A file that is right. -/
def Fl.right (f : Fl) : Bool := nameR f.name && (decide ((f.text.size : Int) ≤ 20000) && (decide (0 ≤ f.kept) && decide (f.kept ≤ (f.text.size : Int))))

set_option maxHeartbeats 800000 in
theorem fileRight_any (n t : ByteArray) (k : Int) (w : World) :
    Calls Tryd.prog 91 #[.agg #[.string n, .string t, .int .i64 k]] w fun e w' => e = .returned (.bool (Fl.right ⟨n, t, k⟩)) ∧ Below w.heap.size w w' := by
  unfold Fl.right
  simp only []
  by_cases h1 : nameR n = true
  · by_cases h2 : (t.size : Int) ≤ 20000
    · by_cases h3 : 0 ≤ k
      · go_enter Tryd.func91, Tryd.ntmps91
        go_wp2_with (go_at_call 105; refine (isName_any _ _).mono ?_; rintro e w2 ⟨rfl, rfl⟩)
        go_ret
        exact ⟨by simp [h1, h2, h3], ba (Below.refl _ _) _⟩
      · go_enter Tryd.func91, Tryd.ntmps91
        go_wp2_with (go_at_call 105; refine (isName_any _ _).mono ?_; rintro e w2 ⟨rfl, rfl⟩)
        go_ret
        exact ⟨by simp; omega, ba (Below.refl _ _) _⟩
    · go_enter Tryd.func91, Tryd.ntmps91
      go_wp2_with (go_at_call 105; refine (isName_any _ _).mono ?_; rintro e w2 ⟨rfl, rfl⟩)
      go_ret
      exact ⟨by simp; omega, ba (Below.refl _ _) _⟩
  · have h1' : nameR n = false := by simpa using h1
    go_enter Tryd.func91, Tryd.ntmps91
    go_wp2_with (go_at_call 105; refine (isName_any _ _).mono ?_; rintro e w2 ⟨rfl, rfl⟩)
    go_ret
    exact ⟨by simp [h1'], ba (Below.refl _ _) _⟩
end Go.Proofs.YtgpojfkdcdgloaaDoor
