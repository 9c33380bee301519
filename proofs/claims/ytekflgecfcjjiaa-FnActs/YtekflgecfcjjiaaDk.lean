/-
  A disk cloned: the walk.
-/
import Derived.Test.YtekflgecfcjjiaaLd
namespace Go.Proofs.Ytekflgecfcjjiaa
open Go Go.RowKit

theorem take_next {α : Type} {l : List α} {k : Nat} {f : α} (h : l[k]? = some f) : l.take (k + 1) = l.take k ++ [f] := by
  rw [List.take_add_one, h]
  rfl

set_option maxRecDepth 10000 in
set_option maxHeartbeats 4000000 in
theorem clonedD_any (ao : Option Addr) (n c : Nat) (l : List Fl) (w : World) (hr : Reads w (.slice ao n c) l) (hn : n ≤ 1048576) (hs : Sized l) :
    Calls Try.prog 60 #[.agg #[.slice ao n c]] w fun e w' => ∃ v, e = .returned (.agg #[v]) ∧ ownsR w' w.heap.size 36 v l ∧ Below w.heap.size w w' := by
  have HR : Hid (Reads w (.slice ao n c) l) := hr
  have HN : Hid (n = l.length) := hr.len
  have HS : Hid (Sized l) := hs
  clear hr hs
  go_enter Try.func60, Try.ntmps60
  go_wp2
  generalize hW : ((w.alloc (Obj.cells #[.slice ao n c] 26)).alloc (Obj.cells #[.slice none 0 0] 26)).alloc (Obj.cells #[.slice none 0 0] 26) = w1
  have hs1 : w1.heap.size = w.heap.size + 3 := by subst hW; simp
  have q1 : w1.cell? ⟨w.heap.size + 1, 0, none⟩ = some (.slice none 0 0) := by subst hW; simp [go_sem]
  have z1 : w1.frozen? ⟨w.heap.size + 1, 0, none⟩ = false := by subst hW; simp [go_sem]
  have x1 : w1.cell? ⟨w.heap.size + 2, 0, none⟩ = some (.slice none 0 0) := by subst hW; simp [go_sem]
  have y1 : w1.frozen? ⟨w.heap.size + 2, 0, none⟩ = false := by subst hW; simp [go_sem]
  have hb0 : Below w.heap.size w w1 := by subst hW; exact ba (ba (ba (Below.refl _ _) _) _) _
  have R1 : Hid (Reads w1 (.slice ao n c) l) := HR.out.below hb0
  clear hW
  go_loopw [9] (fun i wr => ∃ (k : Nat) (bo : Option Addr) (m cp : Nat), k ≤ n ∧ i = .int .i64 k ∧ wr.cell? ⟨w.heap.size + 2, 0, none⟩ = some (.slice bo m cp) ∧ wr.frozen? ⟨w.heap.size + 2, 0, none⟩ = false ∧ ownsR wr (w.heap.size + 3) 36 (.slice bo m cp) (l.take k) ∧ Below (w.heap.size + 2) w1 wr ∧ w.heap.size + 2 < wr.heap.size) (fun i _ => n - (intOf i).toNat)
  case atStart => exact ⟨0, none, 0, 0, Nat.zero_le _, rfl, x1, y1, by rw [List.take_zero]; exact ownsR_nil _ _ _, Below.refl _ _, by omega⟩
  case round =>
    clear x1 y1
    obtain ⟨k, bo, m, cp, hk, rfl, x0, f0, hown, hbel, hsz⟩ := hrel
    have HW : Hid (ownsR wr (w.heap.size + 3) 36 (.slice bo m cp) (l.take k)) := hown
    clear hown
    by_cases hlt : k < n
    · obtain ⟨⟨nm, tx, kp⟩, hf⟩ : ∃ f, l[k]? = some f := ⟨_, List.getElem?_eq_getElem (by rw [← HN.out]; exact hlt)⟩
      have HF : Hid (l[k]? = some ⟨nm, tx, kp⟩) := hf
      obtain ⟨b, o, rfl, hb, c0, c1, c2⟩ := fl_at (HR.out.below (hb0.trans (hbel.mono (by omega)))) hf
      obtain ⟨t1, t2⟩ := HS.out _ (List.mem_of_getElem? hf)
      clear hf
      dsimp only at c0 c1 c2 t1 t2
      go_wp2
      generalize hV : wr.alloc (Obj.cells #[.string nm, .string tx, .int .i64 kp] 36) = V
      have V0 : RowS (w.heap.size + 2) wr.heap.size (.slice bo m cp) nm tx kp V := by
        subst hV
        exact ⟨((ba (Below.refl _ wr) _).cell (p := ⟨w.heap.size + 2, 0, none⟩) hsz).trans x0, by simp [go_sem], by simp [go_sem], by simp [go_sem]⟩
      have yz : V.frozen? ⟨w.heap.size + 2, 0, none⟩ = false := by subst hV; exact ((ba (Below.refl _ wr) _).frozen (p := ⟨w.heap.size + 2, 0, none⟩) hsz).trans f0
      have VW : Hid (ownsR V (w.heap.size + 3) 36 (.slice bo m cp) (l.take k)) := by subst hV; exact HW.out.alloc _
      have Vs : V.heap.size = wr.heap.size + 1 := by subst hV; simp
      have Vb : Below (w.heap.size + 2) w1 V := by subst hV; exact hbel.alloc (by omega) _
      have hoF : (Value.slice bo m cp).ownBlock ≠ some wr.heap.size := fun e => by have := (HW.out.lt _ e).2; omega
      have hoX : (Value.slice bo m cp).ownBlock ≠ some (w.heap.size + 2) := fun e => by have := (HW.out.lt _ e).1; omega
      have HT : Hid ((l.take k).length ≤ 1048576) := by show _ ≤ _; rw [List.length_take]; omega
      clear hV x0 f0 HW hbel c0 c1 c2
      have hne : Nonempty (Sw (RowS (w.heap.size + 2) wr.heap.size (.slice bo m cp) nm tx kp)) := ⟨⟨V, V0⟩⟩
      have e0 : ∀ x : Sw (RowS (w.heap.size + 2) wr.heap.size (.slice bo m cp) nm tx kp), x.at'.cell? ⟨w.heap.size + 2, 0, none⟩ = some (.slice bo m cp) := fun x => x.ok.1
      have e1 : ∀ x : Sw (RowS (w.heap.size + 2) wr.heap.size (.slice bo m cp) nm tx kp), x.at'.cell? ⟨wr.heap.size, 0, none⟩ = some (.string nm) := fun x => x.ok.2.1
      have e2 : ∀ x : Sw (RowS (w.heap.size + 2) wr.heap.size (.slice bo m cp) nm tx kp), x.at'.cell? ⟨wr.heap.size, 1, none⟩ = some (.string tx) := fun x => x.ok.2.2.1
      have e3 : ∀ x : Sw (RowS (w.heap.size + 2) wr.heap.size (.slice bo m cp) nm tx kp), x.at'.cell? ⟨wr.heap.size, 2, none⟩ = some (.int .i64 kp) := fun x => x.ok.2.2.2
      refine wp_region_sw (RowS (w.heap.size + 2) wr.heap.size (.slice bo m cp) nm tx kp) 3 6 (by kernel_rfl) (by decide) (by decide) (by kernel_rfl) (fun _ _ d _ _ h => by cases d <;> exact h) V0 ?_
      simp only [List.take_succ_cons, List.take_zero, List.drop_succ_cons, List.drop_zero, Nat.reduceSub]
      repeat (go_big_quiet_step (fail))
      refine wpQuiet_nil ?_
      refine wpForced_cons rfl fun K hK => ?_
      go_wp2_with (go_at_call 77; refine (clonedF_any _ _ _ _ t1 t2).mono ?_; rintro e w2 ⟨rfl, hb3⟩)
      have hb4 : Below V.heap.size V w2 := (Below.refl _ V).drew.trans hb3
      have V1 := V0.below hb4
      refine hK.out _ _ (sw_ok V1) ?_
      refine wpForced_cons rfl fun K hK => ?_
      go_wp2
      have V2 := V1.below (ba (Below.refl _ w2) (Obj.cells #[.string nm, .string tx, .int .i64 kp] 36))
      refine hK.out _ _ (sw_ok V2) ?_
      refine wpForced_cons rfl fun K hK => ?_
      have hs2 := hb4.size
      have O2 : ownsR (w2.alloc (Obj.cells #[.string nm, .string tx, .int .i64 kp] 36)) (w.heap.size + 3) 36 (.slice bo m cp) (l.take k) := (ownsR.all VW.out hb4).alloc _
      refine wpList_append_recg _ rfl (.tmp 14) (.tmp 17) 24 rfl (w.heap.size + 3) 36 _ 40 under24 info36 rfl (.slice bo m cp) (l.take k) rfl O2 w2.heap.size 1 (Fl.mk nm tx kp) rfl (new_cells w2 nm _ _) HT.out (by decide) (by simp; omega) ?_
      intro v3 w3 ho3 hg3
      obtain ⟨a3, c3, rfl⟩ := ho3.slice
      have V3 := V2.grown hg3 hoX hoF
      have y3 := V3.1
      have sX : w.heap.size + 2 < w2.heap.size := by omega
      have yz3 := grown_frozen O2 hg3 (p := ⟨w.heap.size + 2, 0, none⟩) (by simp) (by simp; omega) (((ba (Below.refl _ w2) _).frozen sX).trans ((hb4.frozen (p := ⟨w.heap.size + 2, 0, none⟩) (by simp; omega)).trans yz))
      have B3 : Below (w.heap.size + 2) w1 w3 := ((Vb.trans (hb4.mono (by omega))).alloc (by omega) _).grown hg3 (by simp; omega) (fun j hj => by have := (O2.lt j hj).1; omega)
      have s3 := hg3.size
      simp only [World.size_alloc] at s3
      refine hK.out _ _ (sw_ok V3) ?_
      refine wpForced_nil ?_
      clear V0 V1 V2 V3 yz VW Vb O2 hg3 hb3 hb4 e0 e1 e2 e3 hne
      have R : ownsR (w3.setCell ⟨w.heap.size + 2, 0, none⟩ (.slice a3 (l.take k ++ [Fl.mk nm tx kp]).length c3)) (w.heap.size + 3) 36 (.slice a3 (l.take k ++ [Fl.mk nm tx kp]).length c3) (l.take (k + 1)) := by
        rw [take_next HF.out]
        exact ho3.setBelow (by simp) _
      clear ho3
      generalize (l.take k ++ [Fl.mk nm tx kp]).length = m3 at *
      go_wp2
      go_roundw
      case rel => exact ⟨k + 1, a3, m3, c3, by omega, by go_num, by simp [go_sem, y3], by simp [go_sem, yz3], R, B3.setCell (p := ⟨w.heap.size + 2, 0, none⟩) (Nat.le_refl _) _, by simp; omega⟩
      case measure => simp [intOf]; omega
    · have hkn : k = n := by omega
      have R : ownsR wr (w.heap.size + 3) 36 (.slice bo m cp) l := by
        have := HW.out
        rw [hkn, List.take_of_length_le (by rw [HN.out]; exact Nat.le_refl _)] at this
        exact this
      have q2 : wr.cell? ⟨w.heap.size + 1, 0, none⟩ = some (.slice none 0 0) := (hbel.cell (by show w.heap.size + 1 < w.heap.size + 2; omega)).trans q1
      have z2 : wr.frozen? ⟨w.heap.size + 1, 0, none⟩ = false := (hbel.frozen (by show w.heap.size + 1 < w.heap.size + 2; omega)).trans z1
      clear HW
      go_wp2
      refine bodyPost_ret (ret_disk rfl rfl (World.cell?_setCell_same' _ _ _ (by simp [q2]))) rfl ?_
      exact ⟨_, rfl, (R.setBelow (by show w.heap.size + 1 < w.heap.size + 3; omega) _).mono (by omega), (hb0.trans (hbel.mono (by omega))).setCell (p := ⟨w.heap.size + 1, 0, none⟩) (by simp) _⟩
end Go.Proofs.Ytekflgecfcjjiaa
