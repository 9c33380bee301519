/-
  The law on all records of a file: the walk.
-/
import Derived.Test.YtijmaplejpnggaaDoorUf
import Derived.Test.YtijmaplejpnggaaDoorMs
namespace Go.Proofs.YtijmaplejpnggaaDoor
open Go.RowKit

/-- The records that Unframe answers, and the place. -/
def unL (s : ByteArray) : List ByteArray := if s.size ≤ 20000 then recs (frs s 0) else []
def unN (s : ByteArray) : Nat := if s.size ≤ 20000 then behindF (frs s 0) 0 else 0
theorem unL_len (s : ByteArray) : (unL s).length ≤ 20001 := by
  unfold unL
  split
  · rw [recs_len]; have := frs_len s 0; omega
  · simp

theorem unframe_any (s : ByteArray) (w : World) (hs : s.size ≤ 1048576) (ht : TableIs w) :
    Calls Tryd.prog 12 #[.string s] w fun e w' => ∃ v, e = .returned (.tuple #[v, .int .i64 (unN s)]) ∧ ownsS w' w.heap.size 9 v (unL s) ∧ Below w.heap.size w w' := by
  have := unframe_q s w hs ht
  unfold UnPostQ at this
  have e1 : recs (frq s) = unL s := by unfold frq unL; split <;> rfl
  have e2 : behindF (frq s) 0 = unN s := by unfold frq unN; split <;> rfl
  rw [e1, e2] at this
  exact this
theorem specUnframe_all (s : ByteArray) (w : World) (hs : s.size ≤ 1048576) :
    Calls Tryd.prog 14 #[.string s] w fun e w' => ∃ v, e = .returned (.tuple #[v, .int .i64 (unN s)]) ∧ ownsS w' w.heap.size 9 v (unL s) ∧ Below w.heap.size w w' := by
  unfold unN unL
  by_cases h : s.size ≤ 20000
  · rw [if_pos h, if_pos h]; exact specUnframe_any s w h
  · rw [if_neg h, if_neg h]; exact specUnframe_long s w (by omega) (by omega)

set_option maxHeartbeats 1000000 in
theorem law_Unframe (s : ByteArray) (w : World) (hs0 : s.size ≤ maxLen) (ht : TableIs w) :
    Calls Tryd.prog 4 #[.string s] w fun e w' => e = .returned (.bool true) ∧ Below w.heap.size w w' := by
  unfold maxLen at hs0
  by_cases hs : (1048576 : Int) < (s.size : Int)
  · go_enter Tryd.func4, Tryd.ntmps4
    go_wp2
    go_ret
    exact ⟨rfl, Below.refl _ _⟩
  · have hs2 : s.size ≤ 1048576 := by omega
    have hl := unL_len s
    have C7 : Hid (∀ w, Calls Tryd.prog 14 #[.string s] w fun e w' => ∃ v, e = .returned (.tuple #[v, .int .i64 (unN s)]) ∧ ownsS w' w.heap.size 9 v (unL s) ∧ Below w.heap.size w w') := fun w => specUnframe_all s w hs2
    have C8 : Hid (∀ w, TableIs w → Calls Tryd.prog 12 #[.string s] w fun e w' => ∃ v, e = .returned (.tuple #[v, .int .i64 (unN s)]) ∧ ownsS w' w.heap.size 9 v (unL s) ∧ Below w.heap.size w w') := fun w h => unframe_any s w hs2 h
    generalize unL s = L at *
    generalize unN s = z at *
    go_enter Tryd.func4, Tryd.ntmps4
    go_wp2_with fail
    refine (C7.out _).mono ?_
    rintro e w1 ⟨v0, rfl, ho0, hb1⟩
    go_wp2_with fail
    refine (C8.out _ (ht.below hb1)).mono ?_
    rintro e w2 ⟨vg, rfl, hog, hb2⟩
    go_wp2_with fail
    refine (eqS_any hog (ho0.all hb2) (by omega)).mono ?_
    rintro e w3 ⟨rfl, hb3⟩
    go_wp2_with fail
    refine (markS_any (hog.all hb3) (by omega) (Nat.le_trans hb2.size hb3.size)).mono ?_
    rintro e w4 ⟨rfl, hom, hb4⟩
    go_wp2_with fail
    refine (heldS_any hom (by omega)).mono ?_
    rintro e w5 ⟨rfl, hb5⟩
    have B1 : Below w.heap.size w w5 := (((hb1.trans (hb2.mono hb1.size)).trans (hb3.mono (Nat.le_trans hb1.size hb2.size))).trans (hb4.mono hb1.size)).trans (hb5.mono (Nat.le_trans (Nat.le_trans (Nat.le_trans hb1.size hb2.size) hb3.size) hb4.size))
    have o0 : ownsS w5 w.heap.size 9 v0 L := (((ho0.all hb2).all hb3).below hb4 fun k hk => (ho0.lt k hk).2).all hb5
    have om : ownsS w5 w1.heap.size 9 vg (marks 1 L.length) := hom.all hb5
    clear hb1 hb2 hb3 hb4 hb5 ho0 hog hom
    go_wp2_with fail
    refine (C8.out _ (ht.below B1)).mono ?_
    rintro e w6 ⟨vh, rfl, hoh, hb6⟩
    go_wp2_with fail
    refine (eqS_any hoh (o0.all hb6) (by omega)).mono ?_
    rintro e w7 ⟨rfl, hb7⟩
    go_wp2_with fail
    refine (heldS_any ((om.all hb6).all hb7) (by omega)).mono ?_
    rintro e w8 ⟨rfl, hb8⟩
    go_wp2_with fail
    go_ret
    exact ⟨rfl, ((B1.trans (hb6.mono B1.size)).trans (hb7.mono (Nat.le_trans B1.size hb6.size))).trans (hb8.mono (Nat.le_trans (Nat.le_trans B1.size hb6.size) hb7.size))⟩

end Go.Proofs.YtijmaplejpnggaaDoor
