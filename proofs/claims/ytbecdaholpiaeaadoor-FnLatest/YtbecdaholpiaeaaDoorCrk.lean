/-
  Whether a rule of five fields is right, as the specification tells it: the walk.
-/
import Derived.Test.YtbecdaholpiaeaaDoorCrl
namespace Go.Proofs.YtbecdaholpiaeaaDoor
open Go Go.RowKit

def cronB (a b c d e : List Int) : Bool := listB 0 59 a && (listB 0 23 b && (listB 1 31 c && (listB 1 12 d && listB 0 6 e)))
set_option maxRecDepth 10000 in
set_option maxHeartbeats 2000000 in
theorem cronOk_any (va vb vc vd ve : Value) (a b c d e : List Int) (w : World) (h1 : Reads w va a) (h2 : Reads w vb b) (h3 : Reads w vc c) (h4 : Reads w vd d) (h5 : Reads w ve e)
    (n1 : a.length ≤ 1048577) (n2 : b.length ≤ 1048577) (n3 : c.length ≤ 1048577) (n4 : d.length ≤ 1048577) (n5 : e.length ≤ 1048577) :
    Calls Tryd.prog 34 #[.agg #[va, vb, vc, vd, ve]] w fun x w' => x = .returned (.bool (cronB a b c d e)) ∧ Below w.heap.size w w' := by
  obtain ⟨ao, ac, rfl, _⟩ := id h1
  obtain ⟨bo, bc, rfl, _⟩ := id h2
  obtain ⟨co, cc, rfl, _⟩ := id h3
  obtain ⟨d0, dc, rfl, _⟩ := id h4
  obtain ⟨eo, ec, rfl, _⟩ := id h5
  have H1 : Hid (∀ w', Below w.heap.size w w' → Calls Tryd.prog 47 #[.slice ao a.length ac, .int .i64 0, .int .i64 59] w' fun x w'' => x = .returned (.bool (listB 0 59 a)) ∧ Below w'.heap.size w' w'') := fun w' hb => l10List_any 0 59 (h1.below hb) n1
  have H2 : Hid (∀ w', Below w.heap.size w w' → Calls Tryd.prog 47 #[.slice bo b.length bc, .int .i64 0, .int .i64 23] w' fun x w'' => x = .returned (.bool (listB 0 23 b)) ∧ Below w'.heap.size w' w'') := fun w' hb => l10List_any 0 23 (h2.below hb) n2
  have H3 : Hid (∀ w', Below w.heap.size w w' → Calls Tryd.prog 47 #[.slice co c.length cc, .int .i64 1, .int .i64 31] w' fun x w'' => x = .returned (.bool (listB 1 31 c)) ∧ Below w'.heap.size w' w'') := fun w' hb => l10List_any 1 31 (h3.below hb) n3
  have H4 : Hid (∀ w', Below w.heap.size w w' → Calls Tryd.prog 47 #[.slice d0 d.length dc, .int .i64 1, .int .i64 12] w' fun x w'' => x = .returned (.bool (listB 1 12 d)) ∧ Below w'.heap.size w' w'') := fun w' hb => l10List_any 1 12 (h4.below hb) n4
  have H5 : Hid (∀ w', Below w.heap.size w w' → Calls Tryd.prog 47 #[.slice eo e.length ec, .int .i64 0, .int .i64 6] w' fun x w'' => x = .returned (.bool (listB 0 6 e)) ∧ Below w'.heap.size w' w'') := fun w' hb => l10List_any 0 6 (h5.below hb) n5
  unfold cronB
  clear h1 h2 h3 h4 h5
  generalize listB 0 59 a = q1 at *
  generalize listB 0 23 b = q2 at *
  generalize listB 1 31 c = q3 at *
  generalize listB 1 12 d = q4 at *
  generalize listB 0 6 e = q5 at *
  go_enter Tryd.func34, Tryd.ntmps34
  go_wp2_with fail
  refine (H1.out _ (ba (Below.refl _ _) _)).mono ?_
  rintro x w1 ⟨rfl, hb1⟩
  have B1 := below_new hb1
  have c11 : w1.cell? ⟨w.heap.size, 1, none⟩ = some (.slice bo b.length bc) := (hb1.cell (by simp)).trans (by simp [go_sem])
  have c21 : w1.cell? ⟨w.heap.size, 2, none⟩ = some (.slice co c.length cc) := (hb1.cell (by simp)).trans (by simp [go_sem])
  have c31 : w1.cell? ⟨w.heap.size, 3, none⟩ = some (.slice d0 d.length dc) := (hb1.cell (by simp)).trans (by simp [go_sem])
  have c41 : w1.cell? ⟨w.heap.size, 4, none⟩ = some (.slice eo e.length ec) := (hb1.cell (by simp)).trans (by simp [go_sem])
  clear hb1
  cases q1 with
  | false =>
    go_wp2
    go_ret
    exact ⟨by simp, B1⟩
  | true =>
    go_wp2_with fail
    refine (H2.out _ B1).mono ?_
    rintro x w2 ⟨rfl, hb2⟩
    have B2 := Below.on B1 hb2
    have c22 := cell_up hb2 c21
    have c32 := cell_up hb2 c31
    have c42 := cell_up hb2 c41
    clear hb2 c11 c21 c31 c41
    cases q2 with
    | false =>
      go_wp2
      go_ret
      exact ⟨by simp, B2⟩
    | true =>
      go_wp2_with fail
      refine (H3.out _ B2).mono ?_
      rintro x w3 ⟨rfl, hb3⟩
      have B3 := Below.on B2 hb3
      have c33 := cell_up hb3 c32
      have c43 := cell_up hb3 c42
      clear hb3 c22 c32 c42
      cases q3 with
      | false =>
        go_wp2
        go_ret
        exact ⟨by simp, B3⟩
      | true =>
        go_wp2_with fail
        refine (H4.out _ B3).mono ?_
        rintro x w4 ⟨rfl, hb4⟩
        have B4 := Below.on B3 hb4
        have c44 := cell_up hb4 c43
        clear hb4 c33 c43
        cases q4 with
        | false =>
          go_wp2
          go_ret
          exact ⟨by simp, B4⟩
        | true =>
          go_wp2_with fail
          refine (H5.out _ B4).mono ?_
          rintro x w5 ⟨rfl, hb5⟩
          have B5 := Below.on B4 hb5
          clear hb5 c44
          go_wp2
          go_ret
          exact ⟨by simp, B5⟩
end Go.Proofs.YtbecdaholpiaeaaDoor
