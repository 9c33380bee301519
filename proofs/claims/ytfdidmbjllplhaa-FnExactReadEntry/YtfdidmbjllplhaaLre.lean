/-
  The law on an entry that is read from its text: the walk.
-/
import Derived.Test.YtfdidmbjllplhaaRd
namespace Go.Proofs.Ytfdidmbjllplhaa
open Go Go.RowKit

theorem rdV_form (s : ByteArray) : ∃ (i t k : Int) (d : ByteArray) (b : Bool), rdV s = .tuple #[.int .i64 i, .agg #[.int .i64 t, .int .i64 k, .string d], .bool b] := by
  unfold rdV
  split
  · unfold finV
    split
    · exact ⟨_, _, _, _, _, rfl⟩
    · exact ⟨_, _, _, _, _, rfl⟩
  · exact ⟨_, _, _, _, _, rfl⟩

set_option maxHeartbeats 1000000 in
theorem law_ReadEntry (s : ByteArray) (w : World) (hs : s.size ≤ maxLen) :
    Calls Try.prog 8 #[.string s] w fun e w' => e = .returned (.bool true) ∧ Below w.heap.size w w' := by
  unfold maxLen at hs
  by_cases hbig : (1048576 : Int) < (s.size : Int)
  · go_enter Try.func8, Try.ntmps8
    go_wp2
    go_ret
    exact ⟨rfl, Below.refl _ _⟩
  · obtain ⟨i, t, k, d, b, hf⟩ := rdV_form s
    have H1 : Hid (∀ w, Calls Try.prog 26 #[.string s] w fun e w' => e = .returned (.tuple #[.int .i64 i, .agg #[.int .i64 t, .int .i64 k, .string d], .bool b]) ∧ Below w.heap.size w w') := by
      intro w; rw [← hf]; exact specReadEntry_any s w (by omega)
    have H2 : Hid (∀ w, Calls Try.prog 27 #[.string s] w fun e w' => e = .returned (.tuple #[.int .i64 i, .agg #[.int .i64 t, .int .i64 k, .string d], .bool b]) ∧ Below w.heap.size w w') := by
      intro w; rw [← hf]; exact readEntry_any s w (by omega)
    clear hf
    go_enter Try.func8, Try.ntmps8
    go_wp2_with fail
    refine (H1.out _).mono ?_
    rintro e w1 ⟨rfl, B1⟩
    go_wp2_with fail
    refine (H2.out _).mono ?_
    rintro e w2 ⟨rfl, hb2⟩
    have c0 : w2.cell? ⟨w1.heap.size, 0, none⟩ = some (.int .i64 t) := (hb2.cell (by simp)).trans (by simp [go_sem])
    have c1 : w2.cell? ⟨w1.heap.size, 1, none⟩ = some (.int .i64 k) := (hb2.cell (by simp)).trans (by simp [go_sem])
    have c2 : w2.cell? ⟨w1.heap.size, 2, none⟩ = some (.string d) := (hb2.cell (by simp)).trans (by simp [go_sem])
    have hlt := World.block_lt_of_cell? w2 _ c0
    have B2 := Below.on B1 (below_new hb2)
    clear hb2 B1
    dsimp only at hlt
    go_wp2_with (go_at_call 28; refine (eqEntry_any t k d _).mono ?_; rintro e w3 ⟨rfl, hb3⟩)
    go_ret
    exact ⟨rfl, Below.on B2 (below_new hb3)⟩
end Go.Proofs.Ytfdidmbjllplhaa
