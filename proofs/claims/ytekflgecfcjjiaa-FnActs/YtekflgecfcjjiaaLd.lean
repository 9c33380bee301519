/-
  What the power leaves of a disk: the program's walk.
-/
import Derived.Test.YtekflgecfcjjiaaCl
import Derived.Test.YtekflgecfcjjiaaStp
import Derived.Test.YtekflgecfcjjiaaMx
namespace Go.Proofs.Ytekflgecfcjjiaa
open Go Go.RowKit

instance : Rec Int := ⟨1, fun n => [.int .i64 n], fun _ => rfl, by decide⟩
theorem int_at {w : World} {ao : Option Addr} {n cap : Nat} {l : List Int} (h : Reads w (.slice ao n cap) l) {k : Nat} {x : Int} (hk : l[k]? = some x) :
    ∃ b o, ao = some ⟨b, o, none⟩ ∧ b < w.heap.size ∧ w.cell? ⟨b, o + k, none⟩ = some (.int .i64 x) := by
  obtain ⟨b, o, rfl, hlt, hc⟩ := h.at hk
  have := hc 0 _ rfl
  refine ⟨b, o, rfl, hlt, ?_⟩
  have e : o + k * Rec.width Int + 0 = o + k := by show o + k * 1 + 0 = o + k; omega
  rw [e] at this
  exact this

def leftAt (left : List Int) (i : Nat) : Int := left.getD i 0
theorem leftAt_some {left : List Int} {i : Nat} {x : Int} (h : left[i]? = some x) : leftAt left i = x := by simp [leftAt, List.getD, h]
theorem leftAt_none {left : List Int} {i : Nat} (h : left.length ≤ i) : leftAt left i = 0 := by simp [leftAt, List.getD, List.getElem?_eq_none h]
/-- What the power leaves. -/
def loseL (l : List Fl) (left : List Int) : List Fl := l.mapIdx fun i f => f.begun (leftAt left i)
theorem loseL_length (l : List Fl) (left : List Int) : (loseL l left).length = l.length := by simp [loseL]
theorem loseL_at {l : List Fl} (left : List Int) {k : Nat} {f : Fl} (h : l[k]? = some f) : (loseL l left)[k]? = some (f.begun (leftAt left k)) := by simp [loseL, h]
theorem loseL_next {l : List Fl} (left : List Int) {k : Nat} {f : Fl} (h : l[k]? = some f) : (loseL l left).take (k + 1) = (loseL l left).take k ++ [f.begun (leftAt left k)] := by
  rw [List.take_add_one, loseL_at left h]
  rfl

set_option maxHeartbeats 2000000 in
theorem loseDisk_wrong (ao : Option Addr) (n c : Nat) (l : List Fl) (lv : Value) (w : World) (hr : Reads w (.slice ao n c) l) (hd : diskR l = false) :
    Calls Try.prog 16 #[.agg #[.slice ao n c], lv] w fun e w' => e = .returned (.tuple #[.agg #[.slice none 0 0], .bool false]) ∧ Below w.heap.size w w' := by
  have HR : Hid (Reads w (.slice ao n c) l) := hr
  clear hr
  go_enter Try.func16, Try.ntmps16
  go_wp2_with (go_at_call 19; refine (diskOk_any ((HR.out.alloc _).alloc _)).mono ?_; rintro e w2 ⟨he, hb2⟩; rw [hd] at he; subst he; have q1 : w2.cell? ⟨w.heap.size + 1, 0, none⟩ = some (.slice none 0 0) := (hb2.cell (by simp)).trans (by simp [go_sem]); have z1 : w2.frozen? ⟨w.heap.size + 1, 0, none⟩ = false := (hb2.frozen (by simp)).trans (by simp [go_sem]))
  refine bodyPost_ret (ret_disk2 rfl rfl rfl (World.cell?_setCell_same' _ _ _ (by simp [q1]))) rfl ?_
  exact ⟨rfl, ((ba (ba (Below.refl _ _) _) _).trans (hb2.mono (by simp; omega))).setCell (p := ⟨w.heap.size + 1, 0, none⟩) (by simp) _⟩

def Sized (l : List Fl) : Prop := ∀ f ∈ l, f.name.size ≤ 1048576 ∧ f.text.size ≤ 1048576

/-- What a round that puts a file behind a row reads. -/
def RowS (X F : Nat) (v : Value) (n t : ByteArray) (k : Int) : World → Prop := fun w => w.cell? ⟨X, 0, none⟩ = some v ∧ w.cell? ⟨F, 0, none⟩ = some (.string n) ∧ w.cell? ⟨F, 1, none⟩ = some (.string t) ∧ w.cell? ⟨F, 2, none⟩ = some (.int .i64 k)
theorem RowS.below {X F : Nat} {v : Value} {n t : ByteArray} {k : Int} {w w' : World} (h : RowS X F v n t k w) (hb : Below w.heap.size w w') : RowS X F v n t k w' :=
  ⟨(hb.cell (World.block_lt_of_cell? _ _ h.1)).trans h.1, (hb.cell (World.block_lt_of_cell? _ _ h.2.1)).trans h.2.1, (hb.cell (World.block_lt_of_cell? _ _ h.2.2.1)).trans h.2.2.1, (hb.cell (World.block_lt_of_cell? _ _ h.2.2.2)).trans h.2.2.2⟩
theorem RowS.grown {X F : Nat} {v : Value} {n t : ByteArray} {k : Int} {w w' : World} (h : RowS X F v n t k w) (hg : w.grownBy w' v.ownBlock) (hX : v.ownBlock ≠ some X) (hF : v.ownBlock ≠ some F) : RowS X F v n t k w' :=
  ⟨hg.cell h.1 (fun e => hX e.symm), hg.cell h.2.1 (fun e => hF e.symm), hg.cell h.2.2.1 (fun e => hF e.symm), hg.cell h.2.2.2 (fun e => hF e.symm)⟩

theorem new_cells (w : World) (n t : ByteArray) (k : Int) (j : Nat) (u : Value) (h : (Rec.cells (Fl.mk n t k))[j]? = some u) : (w.alloc (Obj.cells #[.string n, .string t, .int .i64 k] 36)).cell? ⟨w.heap.size, j, none⟩ = some u ∧ u.oneCell' = true := by
  match j, h with
  | 0, h => cases h; exact ⟨by simp [go_sem], rfl⟩
  | 1, h => cases h; exact ⟨by simp [go_sem], rfl⟩
  | 2, h => cases h; exact ⟨by simp [go_sem], rfl⟩
  | j + 3, h => cases h

set_option maxRecDepth 10000 in
set_option maxHeartbeats 4000000 in
theorem loseDisk_right (ao lo : Option Addr) (n c ln lc : Nat) (l : List Fl) (left : List Int) (w : World) (hr : Reads w (.slice ao n c) l) (hl : Reads w (.slice lo ln lc) left) (hd : diskR l = true) (hn : n ≤ 1048576) (hs : Sized l) :
    Calls Try.prog 16 #[.agg #[.slice ao n c], .slice lo ln lc] w fun e w' => ∃ v, e = .returned (.tuple #[.agg #[v], .bool true]) ∧ ownsR w' w.heap.size 36 v (loseL l left) ∧ Below w.heap.size w w' := by
  have HR : Hid (Reads w (.slice ao n c) l) := hr
  have HL : Hid (Reads w (.slice lo ln lc) left) := hl
  have HN : Hid (n = l.length) := hr.len
  have HM : Hid (ln = left.length) := hl.len
  have HS : Hid (Sized l) := hs
  have HO : Hid (∀ (i : Nat) (f : Fl), l[i]? = some f → f.right = true) := diskR_right hd
  clear hr hl hs
  go_enter Try.func16, Try.ntmps16
  go_wp2_with (go_at_call 19; refine (diskOk_any ((HR.out.alloc _).alloc _)).mono ?_; rintro e w1 ⟨he, hb1⟩; rw [hd] at he; subst he; have s2 : w.heap.size + 1 < w1.heap.size := (by have := hb1.size; simp at this; omega); have s1 : w.heap.size < w1.heap.size := (by omega); have d0 : w1.cell? ⟨w.heap.size, 0, none⟩ = some (.slice ao n c) := (hb1.cell (by simp; omega)).trans (by simp [go_sem]); have q1 : w1.cell? ⟨w.heap.size + 1, 0, none⟩ = some (.slice none 0 0) := (hb1.cell (by simp)).trans (by simp [go_sem]); have z1 : w1.frozen? ⟨w.heap.size + 1, 0, none⟩ = false := (hb1.frozen (by simp)).trans (by simp [go_sem]))
  have hb0 : Below w.heap.size w w1 := (ba (ba (Below.refl _ _) _) _).trans (hb1.mono (by simp; omega))
  have R1 : Hid (Reads w1 (.slice ao n c) l) := HR.out.below hb0
  have L1 : Hid (Reads w1 (.slice lo ln lc) left) := HL.out.below hb0
  clear hb1
  go_loopw [17] (fun i wr => ∃ (k : Nat) (bo : Option Addr) (m cp : Nat), k ≤ n ∧ i = .int .i64 k ∧ wr.cell? ⟨w1.heap.size, 0, none⟩ = some (.slice bo m cp) ∧ wr.frozen? ⟨w1.heap.size, 0, none⟩ = false ∧ ownsR wr (w1.heap.size + 1) 36 (.slice bo m cp) ((loseL l left).take k) ∧ Below w1.heap.size w1 wr ∧ w1.heap.size < wr.heap.size) (fun i _ => n - (intOf i).toNat)
  case atStart => exact ⟨0, none, 0, 0, Nat.zero_le _, rfl, by simp [go_sem], by simp [go_sem], by rw [List.take_zero]; exact ownsR_nil _ _ _, ba (Below.refl _ _) _, by simp⟩
  case round =>
    obtain ⟨k, bo, m, cp, hk, rfl, x0, f0, hown, hbel, hsz⟩ := hrel
    have HW : Hid (ownsR wr (w1.heap.size + 1) 36 (.slice bo m cp) ((loseL l left).take k)) := hown
    clear hown
    by_cases hlt : k < n
    · obtain ⟨⟨nm, tx, kp⟩, hf⟩ : ∃ f, l[k]? = some f := ⟨_, List.getElem?_eq_getElem (by rw [← HN.out]; exact hlt)⟩
      have HF : Hid (l[k]? = some ⟨nm, tx, kp⟩) := hf
      obtain ⟨b, o, rfl, hb, c0, c1, c2⟩ := fl_at (R1.out.below hbel) hf
      obtain ⟨t1, t2⟩ := HS.out _ (List.mem_of_getElem? hf)
      have hk0 : 0 ≤ kp := by have := (right_true (HO.out k _ hf)).2.2; simp at this; exact this.1
      clear hf
      dsimp only at c0 c1 c2 t1 t2
      by_cases hll : k < ln
      · obtain ⟨x, hx⟩ : ∃ x, left[k]? = some x := ⟨_, List.getElem?_eq_getElem (by rw [← HM.out]; exact hll)⟩
        have HX : Hid (leftAt left k = x) := leftAt_some hx
        obtain ⟨b2, o2, rfl, hb2, i0⟩ := int_at (L1.out.below hbel) hx
        clear hx
        go_wp2
        generalize hV : wr.alloc (Obj.cells #[.string nm, .string tx, .int .i64 kp] 36) = V
        have V0 : RowS w1.heap.size wr.heap.size (.slice bo m cp) nm tx kp V := by
          subst hV
          exact ⟨((ba (Below.refl _ wr) _).cell (p := ⟨w1.heap.size, 0, none⟩) hsz).trans x0, by simp [go_sem], by simp [go_sem], by simp [go_sem]⟩
        have yz : V.frozen? ⟨w1.heap.size, 0, none⟩ = false := by subst hV; exact ((ba (Below.refl _ wr) _).frozen (p := ⟨w1.heap.size, 0, none⟩) hsz).trans f0
        have VW : Hid (ownsR V (w1.heap.size + 1) 36 (.slice bo m cp) ((loseL l left).take k)) := by subst hV; exact HW.out.alloc _
        have Vs : V.heap.size = wr.heap.size + 1 := by subst hV; simp
        have Vb : Below w1.heap.size w1 V := by subst hV; exact hbel.alloc (by omega) _
        have hoF : (Value.slice bo m cp).ownBlock ≠ some wr.heap.size := fun e => by have := (HW.out.lt _ e).2; omega
        have hoX : (Value.slice bo m cp).ownBlock ≠ some w1.heap.size := fun e => by have := (HW.out.lt _ e).1; omega
        have HT : Hid (((loseL l left).take k).length ≤ 1048576) := by show _ ≤ _; rw [List.length_take]; omega
        clear hV x0 f0 HW hbel c0 c1 c2 i0
        have hne : Nonempty (Sw (RowS w1.heap.size wr.heap.size (.slice bo m cp) nm tx kp)) := ⟨⟨V, V0⟩⟩
        have e0 : ∀ x : Sw (RowS w1.heap.size wr.heap.size (.slice bo m cp) nm tx kp), x.at'.cell? ⟨w1.heap.size, 0, none⟩ = some (.slice bo m cp) := fun x => x.ok.1
        have e1 : ∀ x : Sw (RowS w1.heap.size wr.heap.size (.slice bo m cp) nm tx kp), x.at'.cell? ⟨wr.heap.size, 0, none⟩ = some (.string nm) := fun x => x.ok.2.1
        have e2 : ∀ x : Sw (RowS w1.heap.size wr.heap.size (.slice bo m cp) nm tx kp), x.at'.cell? ⟨wr.heap.size, 1, none⟩ = some (.string tx) := fun x => x.ok.2.2.1
        have e3 : ∀ x : Sw (RowS w1.heap.size wr.heap.size (.slice bo m cp) nm tx kp), x.at'.cell? ⟨wr.heap.size, 2, none⟩ = some (.int .i64 kp) := fun x => x.ok.2.2.2
        refine wp_region_sw (RowS w1.heap.size wr.heap.size (.slice bo m cp) nm tx kp) 4 7 (by kernel_rfl) (by decide) (by decide) (by kernel_rfl) (fun _ _ d _ _ h => by cases d <;> exact h) V0 ?_
        simp only [List.take_succ_cons, List.take_zero, List.drop_succ_cons, List.drop_zero, Nat.reduceSub]
        repeat (go_big_quiet_step (fail))
        refine wpQuiet_nil ?_
        refine wpForced_cons rfl fun K hK => ?_
        go_wp2_with (go_at_call 53; refine (begun_any _ _ _ _ _ t1 t2 hk0).mono ?_; rintro e w2 ⟨rfl, hb3⟩)
        have hb4 : Below V.heap.size V w2 := (Below.refl _ V).drew.trans hb3
        have V1 := V0.below hb4
        refine hK.out _ _ (sw_ok V1) ?_
        refine wpForced_cons rfl fun K hK => ?_
        go_wp2
        have V2 := V1.below (ba (Below.refl _ w2) (Obj.cells #[.string nm, .string (tx.extract 0 (staysN x kp tx.size).toNat), .int .i64 (staysN x kp tx.size)] 36))
        refine hK.out _ _ (sw_ok V2) ?_
        refine wpForced_cons rfl fun K hK => ?_
        have hs2 := hb4.size
        have O2 : ownsR (w2.alloc (Obj.cells #[.string nm, .string (tx.extract 0 (staysN x kp tx.size).toNat), .int .i64 (staysN x kp tx.size)] 36)) (w1.heap.size + 1) 36 (.slice bo m cp) ((loseL l left).take k) := (ownsR.all VW.out hb4).alloc _
        refine wpList_append_recg _ rfl (.tmp 31) (.tmp 35) 24 rfl (w1.heap.size + 1) 36 _ 40 under24 info36 rfl (.slice bo m cp) ((loseL l left).take k) rfl O2 w2.heap.size 1 (Fl.begun ⟨nm, tx, kp⟩ x) rfl (new_cells w2 nm _ _) HT.out (by decide) (by simp; omega) ?_
        intro v3 w3 ho3 hg3
        obtain ⟨a3, c3, rfl⟩ := ho3.slice
        have V3 := V2.grown hg3 hoX hoF
        have y3 := V3.1
        have sX : w1.heap.size < w2.heap.size := by omega
        have yz3 := grown_frozen O2 hg3 (p := ⟨w1.heap.size, 0, none⟩) (by simp) (by simp; omega) (((ba (Below.refl _ w2) _).frozen sX).trans ((hb4.frozen (p := ⟨w1.heap.size, 0, none⟩) (by simp; omega)).trans yz))
        have B3 : Below w1.heap.size w1 w3 := ((Vb.trans (hb4.mono (by omega))).alloc (by omega) _).grown hg3 (by simp; omega) (fun j hj => by have := (O2.lt j hj).1; omega)
        have s3 := hg3.size
        simp only [World.size_alloc] at s3
        refine hK.out _ _ (sw_ok V3) ?_
        refine wpForced_nil ?_
        clear V0 V1 V2 V3 yz VW Vb O2 hg3 hb3 hb4 e0 e1 e2 e3 hne
        have R : ownsR (w3.setCell ⟨w1.heap.size, 0, none⟩ (.slice a3 ((loseL l left).take k ++ [Fl.begun ⟨nm, tx, kp⟩ x]).length c3)) (w1.heap.size + 1) 36 (.slice a3 ((loseL l left).take k ++ [Fl.begun ⟨nm, tx, kp⟩ x]).length c3) ((loseL l left).take (k + 1)) := by
          rw [loseL_next left HF.out, HX.out]
          exact ho3.setBelow (by simp) _
        clear ho3
        generalize ((loseL l left).take k ++ [Fl.begun ⟨nm, tx, kp⟩ x]).length = m3 at *
        go_wp2
        go_roundw
        case rel => exact ⟨k + 1, a3, m3, c3, by omega, by go_num, by simp [go_sem, y3], by simp [go_sem, yz3], R, B3.setCell (p := ⟨w1.heap.size, 0, none⟩) (Nat.le_refl _) _, by simp; omega⟩
        case measure => simp [intOf]; omega
      · have HX : Hid (leftAt left k = 0) := leftAt_none (by rw [← HM.out]; omega)
        go_wp2
        generalize hV : wr.alloc (Obj.cells #[.string nm, .string tx, .int .i64 kp] 36) = V
        have V0 : RowS w1.heap.size wr.heap.size (.slice bo m cp) nm tx kp V := by
          subst hV
          exact ⟨((ba (Below.refl _ wr) _).cell (p := ⟨w1.heap.size, 0, none⟩) hsz).trans x0, by simp [go_sem], by simp [go_sem], by simp [go_sem]⟩
        have yz : V.frozen? ⟨w1.heap.size, 0, none⟩ = false := by subst hV; exact ((ba (Below.refl _ wr) _).frozen (p := ⟨w1.heap.size, 0, none⟩) hsz).trans f0
        have VW : Hid (ownsR V (w1.heap.size + 1) 36 (.slice bo m cp) ((loseL l left).take k)) := by subst hV; exact HW.out.alloc _
        have Vs : V.heap.size = wr.heap.size + 1 := by subst hV; simp
        have Vb : Below w1.heap.size w1 V := by subst hV; exact hbel.alloc (by omega) _
        have hoF : (Value.slice bo m cp).ownBlock ≠ some wr.heap.size := fun e => by have := (HW.out.lt _ e).2; omega
        have hoX : (Value.slice bo m cp).ownBlock ≠ some w1.heap.size := fun e => by have := (HW.out.lt _ e).1; omega
        have HT : Hid (((loseL l left).take k).length ≤ 1048576) := by show _ ≤ _; rw [List.length_take]; omega
        clear hV x0 f0 HW hbel c0 c1 c2
        have hne : Nonempty (Sw (RowS w1.heap.size wr.heap.size (.slice bo m cp) nm tx kp)) := ⟨⟨V, V0⟩⟩
        have e0 : ∀ x : Sw (RowS w1.heap.size wr.heap.size (.slice bo m cp) nm tx kp), x.at'.cell? ⟨w1.heap.size, 0, none⟩ = some (.slice bo m cp) := fun x => x.ok.1
        have e1 : ∀ x : Sw (RowS w1.heap.size wr.heap.size (.slice bo m cp) nm tx kp), x.at'.cell? ⟨wr.heap.size, 0, none⟩ = some (.string nm) := fun x => x.ok.2.1
        have e2 : ∀ x : Sw (RowS w1.heap.size wr.heap.size (.slice bo m cp) nm tx kp), x.at'.cell? ⟨wr.heap.size, 1, none⟩ = some (.string tx) := fun x => x.ok.2.2.1
        have e3 : ∀ x : Sw (RowS w1.heap.size wr.heap.size (.slice bo m cp) nm tx kp), x.at'.cell? ⟨wr.heap.size, 2, none⟩ = some (.int .i64 kp) := fun x => x.ok.2.2.2
        refine wp_region_sw (RowS w1.heap.size wr.heap.size (.slice bo m cp) nm tx kp) 4 7 (by kernel_rfl) (by decide) (by decide) (by kernel_rfl) (fun _ _ d _ _ h => by cases d <;> exact h) V0 ?_
        simp only [List.take_succ_cons, List.take_zero, List.drop_succ_cons, List.drop_zero, Nat.reduceSub]
        repeat (go_big_quiet_step (fail))
        refine wpQuiet_nil ?_
        refine wpForced_cons rfl fun K hK => ?_
        go_wp2_with (go_at_call 53; refine (begun_any _ _ _ _ _ t1 t2 hk0).mono ?_; rintro e w2 ⟨rfl, hb3⟩)
        have hb4 : Below V.heap.size V w2 := (Below.refl _ V).drew.trans hb3
        have V1 := V0.below hb4
        refine hK.out _ _ (sw_ok V1) ?_
        refine wpForced_cons rfl fun K hK => ?_
        go_wp2
        have V2 := V1.below (ba (Below.refl _ w2) (Obj.cells #[.string nm, .string (tx.extract 0 (staysN 0 kp tx.size).toNat), .int .i64 (staysN 0 kp tx.size)] 36))
        refine hK.out _ _ (sw_ok V2) ?_
        refine wpForced_cons rfl fun K hK => ?_
        have hs2 := hb4.size
        have O2 : ownsR (w2.alloc (Obj.cells #[.string nm, .string (tx.extract 0 (staysN 0 kp tx.size).toNat), .int .i64 (staysN 0 kp tx.size)] 36)) (w1.heap.size + 1) 36 (.slice bo m cp) ((loseL l left).take k) := (ownsR.all VW.out hb4).alloc _
        refine wpList_append_recg _ rfl (.tmp 31) (.tmp 35) 24 rfl (w1.heap.size + 1) 36 _ 40 under24 info36 rfl (.slice bo m cp) ((loseL l left).take k) rfl O2 w2.heap.size 1 (Fl.begun ⟨nm, tx, kp⟩ 0) rfl (new_cells w2 nm _ _) HT.out (by decide) (by simp; omega) ?_
        intro v3 w3 ho3 hg3
        obtain ⟨a3, c3, rfl⟩ := ho3.slice
        have V3 := V2.grown hg3 hoX hoF
        have y3 := V3.1
        have sX : w1.heap.size < w2.heap.size := by omega
        have yz3 := grown_frozen O2 hg3 (p := ⟨w1.heap.size, 0, none⟩) (by simp) (by simp; omega) (((ba (Below.refl _ w2) _).frozen sX).trans ((hb4.frozen (p := ⟨w1.heap.size, 0, none⟩) (by simp; omega)).trans yz))
        have B3 : Below w1.heap.size w1 w3 := ((Vb.trans (hb4.mono (by omega))).alloc (by omega) _).grown hg3 (by simp; omega) (fun j hj => by have := (O2.lt j hj).1; omega)
        have s3 := hg3.size
        simp only [World.size_alloc] at s3
        refine hK.out _ _ (sw_ok V3) ?_
        refine wpForced_nil ?_
        clear V0 V1 V2 V3 yz VW Vb O2 hg3 hb3 hb4 e0 e1 e2 e3 hne
        have R : ownsR (w3.setCell ⟨w1.heap.size, 0, none⟩ (.slice a3 ((loseL l left).take k ++ [Fl.begun ⟨nm, tx, kp⟩ 0]).length c3)) (w1.heap.size + 1) 36 (.slice a3 ((loseL l left).take k ++ [Fl.begun ⟨nm, tx, kp⟩ 0]).length c3) ((loseL l left).take (k + 1)) := by
          rw [loseL_next left HF.out, HX.out]
          exact ho3.setBelow (by simp) _
        clear ho3
        generalize ((loseL l left).take k ++ [Fl.begun ⟨nm, tx, kp⟩ 0]).length = m3 at *
        go_wp2
        go_roundw
        case rel => exact ⟨k + 1, a3, m3, c3, by omega, by go_num, by simp [go_sem, y3], by simp [go_sem, yz3], R, B3.setCell (p := ⟨w1.heap.size, 0, none⟩) (Nat.le_refl _) _, by simp; omega⟩
        case measure => simp [intOf]; omega
    · have hkn : k = n := by omega
      have R : ownsR wr (w1.heap.size + 1) 36 (.slice bo m cp) (loseL l left) := by
        have := HW.out
        rw [hkn, List.take_of_length_le (by rw [loseL_length, HN.out]; exact Nat.le_refl _)] at this
        exact this
      have q2 : wr.cell? ⟨w.heap.size + 1, 0, none⟩ = some (.slice none 0 0) := (hbel.cell (by show w.heap.size + 1 < w1.heap.size; omega)).trans q1
      have z2 : wr.frozen? ⟨w.heap.size + 1, 0, none⟩ = false := (hbel.frozen (by show w.heap.size + 1 < w1.heap.size; omega)).trans z1
      clear HW
      go_wp2
      refine bodyPost_ret (ret_disk2 rfl rfl rfl (World.cell?_setCell_same' _ _ _ (by simp [q2]))) rfl ?_
      exact ⟨_, rfl, (R.setBelow (by show w.heap.size + 1 < w1.heap.size + 1; omega) _).mono (by omega), (hb0.trans (hbel.mono (by omega))).setCell (p := ⟨w.heap.size + 1, 0, none⟩) (by simp) _⟩
end Go.Proofs.Ytekflgecfcjjiaa
