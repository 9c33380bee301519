/-
  A run with its states anew, on both sides: the walks.
-/
import Derived.Test.YtbaooljchilkhaaRlh
import Derived.Test.YtbaooljchilkhaaRis
import Derived.Test.YtbaooljchilkhaaCln
import Derived.Test.YtbaooljchilkhaaAr
namespace Go.Proofs.Ytbaooljchilkhaa
open Go Go.RowKit
set_option linter.unusedVariables false

theorem sa_one (l : List Sa) : ∀ x ∈ l, ∀ u ∈ Rec.cells x, u.oneCell' = true := by
  intro x _ u hu
  simp only [Rec.cells, List.mem_cons, List.not_mem_nil, or_false] at hu
  rcases hu with rfl | rfl | rfl | rfl <;> rfl
/-- A run's block is no row of states. -/
theorem not_rowR5 {W : World} {b B : Nat} {nm : ByteArray} {fr up ep : Int} {tv v : Value} {l : List Sa} (h : R5 W b nm fr up ep tv) (ho : ownsR W B 44 v l) : v.ownBlock ≠ some b := by
  intro e
  rcases ho.2 with ⟨rfl, _⟩ | ⟨g, cap, cur, rfl, _, hg, _⟩
  · cases e
  · cases e
    rw [show W.heap[g]? = _ from h] at hg
    injection hg with hg
    injection hg with _ hg
    exact absurd hg (by decide)
theorem grown_put {B : Nat} {w w' : World} {v : Value} {l : List Sa} (ho : ownsR w B 44 v l) {p : Addr} (u : Value) (hp : v.ownBlock ≠ some p.block) : ownsR (w.setCell p u) B 44 v l := own_keep ho fun k hk => heap_setCell_other w p k u fun e => hp (by rw [hk, e])
set_option maxRecDepth 10000 in
set_option maxHeartbeats 4000000 in
theorem l14Copy_any (ao : Option Addr) (n cap : Nat) (nm : ByteArray) (fr up ep : Int) (st : List Sa) (w : World) (hr : Reads w (.slice ao n cap) st) (hn : n ≤ 1048577) :
    Calls Try.prog 25 #[.agg #[.string nm, .int .i64 fr, .int .i64 up, .int .i64 ep, .slice ao n cap]] w fun e w' => ∃ v, e = .returned (.agg #[.string nm, .int .i64 fr, .int .i64 up, .int .i64 ep, v]) ∧ ownsR w' w.heap.size 44 v st ∧ Below w.heap.size w w' := by
  have HR : Hid (Reads w (.slice ao n cap) st) := hr
  have HL : Hid (([] : List Sa).length + st.length ≤ 1048577) := by show _ ≤ _; rw [← hr.len]; simpa using hn
  clear hr hn
  go_enter Try.func25, Try.ntmps25
  have J0 := ((R5.new w nm fr up ep (.slice ao n cap)).on (ba (Below.refl _ _) (.cells #[.string ⟨#[]⟩, .int .i64 0, .int .i64 0, .int .i64 0, .slice none 0 0] 32))).on (ba (Below.refl _ _) (.cells #[] 44))
  have Z0 : R5 (((w.alloc (.cells #[.string nm, .int .i64 fr, .int .i64 up, .int .i64 ep, .slice ao n cap] 32)).alloc (.cells #[.string ⟨#[]⟩, .int .i64 0, .int .i64 0, .int .i64 0, .slice none 0 0] 32)).alloc (.cells #[] 44)) (w.heap.size + 1) ⟨#[]⟩ 0 0 0 (.slice none 0 0) := by
    have := (R5.new (w.alloc (.cells #[.string nm, .int .i64 fr, .int .i64 up, .int .i64 ep, .slice ao n cap] 32)) ⟨#[]⟩ 0 0 0 (.slice none 0 0)).on (ba (Below.refl _ _) (.cells #[] 44))
    simpa using this
  have B0 : Below w.heap.size w (((w.alloc (.cells #[.string nm, .int .i64 fr, .int .i64 up, .int .i64 ep, .slice ao n cap] 32)).alloc (.cells #[.string ⟨#[]⟩, .int .i64 0, .int .i64 0, .int .i64 0, .slice none 0 0] 32)).alloc (.cells #[] 44)) := ba (ba (ba (Below.refl _ _) _) _) _
  have O0 : ownsR (((w.alloc (.cells #[.string nm, .int .i64 fr, .int .i64 up, .int .i64 ep, .slice ao n cap] 32)).alloc (.cells #[.string ⟨#[]⟩, .int .i64 0, .int .i64 0, .int .i64 0, .slice none 0 0] 32)).alloc (.cells #[] 44)) w.heap.size 44 (.slice (some ⟨w.heap.size + 1 + 1, 0, none⟩) 0 0) ([] : List Sa) := by
    have := ownsR_made0 (α := Sa) ((w.alloc (.cells #[.string nm, .int .i64 fr, .int .i64 up, .int .i64 ep, .slice ao n cap] 32)).alloc (.cells #[.string ⟨#[]⟩, .int .i64 0, .int .i64 0, .int .i64 0, .slice none 0 0] 32)) w.heap.size 44 (by simp; omega)
    simpa using this
  have R0 := HR.out.below B0
  go_wp2_with (at_builtin; refine wpList_append_recs rfl (.tmp 3) (.tmp 5) 30 rfl w.heap.size 44 _ 32 underSa infoSa rfl _ (.slice ao n cap) [] st (by rfl) (by rfl) O0 R0 (sa_one _) HL.out (by decide) B0.size ?_)
  intro v5 w5 ho5 hg5
  obtain ⟨a5, k5, c5, rfl⟩ := ho5.slice3
  have J5 := J0.grown hg5 (by simp [Value.ownBlock]; omega)
  have Z5 := Z0.grown hg5 (by simp [Value.ownBlock])
  have B5 := B0.grown hg5 B0.size (by simp [Value.ownBlock]; omega)
  clear J0 Z0 B0 O0 R0 hg5
  have j0 := J5.c0
  have j1 := J5.c1
  have j2 := J5.c2
  have j3 := J5.c3
  have j4 := J5.c4
  have jf := J5.fz
  have z0 := Z5.c0
  have z1 := Z5.c1
  have z2 := Z5.c2
  have z3 := Z5.c3
  have z4 := Z5.c4
  have zf := Z5.fz
  have J6 := J5.s4 (.slice a5 k5 c5)
  have Z6 := Z5.far (a := ⟨w.heap.size, 4, none⟩) (by simp) (.slice a5 k5 c5)
  have B6' := Below.setCell (p := ⟨w.heap.size, 4, none⟩) B5 (Nat.le_refl _) (.slice a5 k5 c5)
  have O6 : ownsR (w5.setCell ⟨w.heap.size, 4, none⟩ (.slice a5 k5 c5)) w.heap.size 44 (.slice a5 k5 c5) st := grown_put (w' := w5) ho5 _ (not_rowR5 J5 ho5)
  have Z7 := Z6.set nm fr up ep (.slice a5 k5 c5)
  have B7 := below_putR5 (g := w.heap.size + 1) B6' (by omega) nm fr up ep (.slice a5 k5 c5)
  have O7 := own_putR5 (b := w.heap.size + 1) O6 (not_rowR5 Z6 O6) nm fr up ep (.slice a5 k5 c5)
  go_wp2
  refine bodyPost_ret (ret_r1 rfl rfl Z7) rfl ⟨_, rfl, O7, B7⟩
set_option maxRecDepth 10000 in
set_option maxHeartbeats 4000000 in
theorem cloned_any (ao : Option Addr) (n cap : Nat) (nm : ByteArray) (fr up ep : Int) (st : List Sa) (w : World) (hr : Reads w (.slice ao n cap) st) (hn : n ≤ 1048577) (hz : nm.size ≤ 1048576) :
    Calls Try.prog 26 #[.agg #[.string nm, .int .i64 fr, .int .i64 up, .int .i64 ep, .slice ao n cap]] w fun e w' => ∃ v, e = .returned (.agg #[.string nm, .int .i64 fr, .int .i64 up, .int .i64 ep, v]) ∧ ownsR w' w.heap.size 44 v st ∧ Below w.heap.size w w' := by
  have HR : Hid (∀ W, Below w.heap.size w W → Reads W (.slice ao n cap) st) := fun W hb => hr.below hb
  have HL : Hid (([] : List Sa).length + st.length ≤ 1048577) := by show _ ≤ _; rw [← hr.len]; simpa using hn
  clear hr hn
  go_enter Try.func26, Try.ntmps26
  obtain ⟨W0, hW⟩ : ∃ W, (w.alloc (.cells #[.string nm, .int .i64 fr, .int .i64 up, .int .i64 ep, .slice ao n cap] 32)).alloc (.cells #[.string ⟨#[]⟩, .int .i64 0, .int .i64 0, .int .i64 0, .slice none 0 0] 32) = W := ⟨_, rfl⟩
  have J0 : R5 W0 w.heap.size nm fr up ep (.slice ao n cap) := by rw [← hW]; exact (R5.new w nm fr up ep (.slice ao n cap)).on (ba (Below.refl _ _) _)
  have Z0 : R5 W0 (w.heap.size + 1) ⟨#[]⟩ 0 0 0 (.slice none 0 0) := by
    rw [← hW]
    have := R5.new (w.alloc (.cells #[.string nm, .int .i64 fr, .int .i64 up, .int .i64 ep, .slice ao n cap] 32)) ⟨#[]⟩ 0 0 0 (.slice none 0 0)
    simpa using this
  have B0 : Below w.heap.size w W0 := by rw [← hW]; exact ba (ba (Below.refl _ _) _) _
  have c0 := J0.c0
  go_wp2_with fail
  refine (clone_any nm _ hz).mono ?_
  rintro e w1 ⟨rfl, hb1⟩
  have J1 := J0.on hb1
  have Z1 := Z0.on hb1
  have B1 := Below.on B0 hb1
  clear c0 J0 Z0 B0 hb1 hW
  have d0 := J1.c0
  have f0 := J1.fz 0
  have J2 := J1.s0 nm
  have Z2 := Z1.far (a := ⟨w.heap.size, 0, none⟩) (by show w.heap.size ≠ w.heap.size + 1; omega) (.string nm)
  have B2 := Below.setCell (p := ⟨w.heap.size, 0, none⟩) B1 (Nat.le_refl _) (.string nm)
  obtain ⟨W2, hW2⟩ : ∃ W, w1.setCell ⟨w.heap.size, 0, none⟩ (.string nm) = W := ⟨_, rfl⟩
  rw [hW2] at J2 Z2 B2
  have J3 := J2.on (ba (Below.refl _ _) (.cells #[] 44))
  have Z3 := Z2.on (ba (Below.refl _ _) (.cells #[] 44))
  have B3 := ba B2 (.cells #[] 44)
  have O3 : ownsR (W2.alloc (.cells #[] 44)) w.heap.size 44 (.slice (some ⟨W2.heap.size, 0, none⟩) 0 0) ([] : List Sa) := ownsR_made0 (α := Sa) W2 w.heap.size 44 B2.size
  have R3 := HR.out _ B3
  have e4 := J3.c4
  go_wp2_with (at_builtin; refine wpList_append_recs rfl (.tmp 7) (.tmp 9) 30 rfl w.heap.size 44 _ 32 underSa infoSa rfl _ (.slice ao n cap) [] st (by rfl) (by rfl) O3 R3 (sa_one _) HL.out (by decide) B3.size ?_)
  intro v5 w5 ho5 hg5
  obtain ⟨a5, k5, c5, rfl⟩ := ho5.slice3
  have h1 := J2.lt
  have h2 := Z2.lt
  have J5 := J3.grown hg5 (by simp [Value.ownBlock]; omega)
  have Z5 := Z3.grown hg5 (by simp [Value.ownBlock]; omega)
  have B5 := B3.grown hg5 B3.size (by simp [Value.ownBlock]; omega)
  clear J1 J2 J3 Z1 Z2 Z3 B1 B2 B3 O3 R3 hg5 d0 f0 e4 hW2
  have j0 := J5.c0
  have j1 := J5.c1
  have j2 := J5.c2
  have j3 := J5.c3
  have j4 := J5.c4
  have jf := J5.fz
  have z0 := Z5.c0
  have z1 := Z5.c1
  have z2 := Z5.c2
  have z3 := Z5.c3
  have z4 := Z5.c4
  have zf := Z5.fz
  have J6 := J5.s4 (.slice a5 k5 c5)
  have Z6 := Z5.far (a := ⟨w.heap.size, 4, none⟩) (by simp) (.slice a5 k5 c5)
  have B6' := Below.setCell (p := ⟨w.heap.size, 4, none⟩) B5 (Nat.le_refl _) (.slice a5 k5 c5)
  have O6 : ownsR (w5.setCell ⟨w.heap.size, 4, none⟩ (.slice a5 k5 c5)) w.heap.size 44 (.slice a5 k5 c5) st := grown_put (w' := w5) ho5 _ (not_rowR5 J5 ho5)
  have Z7 := Z6.set nm fr up ep (.slice a5 k5 c5)
  have B7 := below_putR5 (g := w.heap.size + 1) B6' (by omega) nm fr up ep (.slice a5 k5 c5)
  have O7 := own_putR5 (b := w.heap.size + 1) O6 (not_rowR5 Z6 O6) nm fr up ep (.slice a5 k5 c5)
  go_wp2
  refine bodyPost_ret (ret_r1 rfl rfl Z7) rfl ⟨_, rfl, O7, B7⟩
end Go.Proofs.Ytbaooljchilkhaa
