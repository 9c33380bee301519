/-
  The specification's rows of files: one put in its place, one left out: the walks.
-/
import Derived.Test.YtekflgecfcjjiaaDs
import Derived.Test.YtekflgecfcjjiaaLds
namespace Go.Proofs.Ytekflgecfcjjiaa
open Go Go.RowKit

/-- What a round that puts a file of a row behind another row reads. -/
def ItS (X D : Nat) (v dv : Value) (b a : Nat) (n t : ByteArray) (k : Int) : World → Prop := fun w => w.cell? ⟨X, 0, none⟩ = some v ∧ w.cell? ⟨D, 0, none⟩ = some dv ∧ w.cell? ⟨b, a, none⟩ = some (.string n) ∧ w.cell? ⟨b, a + 1, none⟩ = some (.string t) ∧ w.cell? ⟨b, a + 2, none⟩ = some (.int .i64 k)
theorem ItS.below {X D : Nat} {v dv : Value} {b a : Nat} {n t : ByteArray} {k : Int} {w w' : World} (h : ItS X D v dv b a n t k w) (hb : Below w.heap.size w w') : ItS X D v dv b a n t k w' :=
  ⟨(hb.cell (World.block_lt_of_cell? _ _ h.1)).trans h.1, (hb.cell (World.block_lt_of_cell? _ _ h.2.1)).trans h.2.1, (hb.cell (World.block_lt_of_cell? _ _ h.2.2.1)).trans h.2.2.1, (hb.cell (World.block_lt_of_cell? _ _ h.2.2.2.1)).trans h.2.2.2.1, (hb.cell (World.block_lt_of_cell? _ _ h.2.2.2.2)).trans h.2.2.2.2⟩
theorem ItS.grown {X D : Nat} {v dv : Value} {b a : Nat} {n t : ByteArray} {k : Int} {w w' : World} (h : ItS X D v dv b a n t k w) (hg : w.grownBy w' v.ownBlock) (hX : v.ownBlock ≠ some X) (hD : v.ownBlock ≠ some D) (hF : v.ownBlock ≠ some b) : ItS X D v dv b a n t k w' :=
  ⟨hg.cell h.1 (fun e => hX e.symm), hg.cell h.2.1 (fun e => hD e.symm), hg.cell h.2.2.1 (fun e => hF e.symm), hg.cell h.2.2.2.1 (fun e => hF e.symm), hg.cell h.2.2.2.2 (fun e => hF e.symm)⟩

def neP (s : ByteArray) (f : Fl) : Bool := !(f.name.toList == s.toList)
set_option maxRecDepth 10000 in
set_option maxHeartbeats 4000000 in
theorem without_try (ao : Option Addr) (n c : Nat) (l : List Fl) (s : ByteArray) (w : World) (hr : Reads w (.slice ao n c) l) (hn : n ≤ 1000) :
    Calls Try.prog 71 #[.agg #[.slice ao n c], .string s] w fun e w' => ∃ v, e = .returned (.agg #[v]) ∧ ownsR w' w.heap.size 36 v (l.filter (neP s)) ∧ Below w.heap.size w w' := by
  have HR : Hid (Reads w (.slice ao n c) l) := hr
  have HN : Hid (n = l.length) := hr.len
  clear hr
  go_enter Try.func71, Try.ntmps71
  go_wp2
  generalize hW : ((w.alloc (Obj.cells #[.slice ao n c] 26)).alloc (Obj.cells #[.slice none 0 0] 26)).alloc (Obj.cells #[.slice none 0 0] 26) = w1
  have hs1 : w1.heap.size = w.heap.size + 3 := by subst hW; simp
  have d0 : w1.cell? ⟨w.heap.size, 0, none⟩ = some (.slice ao n c) := by subst hW; simp [go_sem]
  have q1 : w1.cell? ⟨w.heap.size + 1, 0, none⟩ = some (.slice none 0 0) := by subst hW; simp [go_sem]
  have z1 : w1.frozen? ⟨w.heap.size + 1, 0, none⟩ = false := by subst hW; simp [go_sem]
  have x1 : w1.cell? ⟨w.heap.size + 1 + 1, 0, none⟩ = some (.slice none 0 0) := by subst hW; simp [go_sem]
  have y1 : w1.frozen? ⟨w.heap.size + 1 + 1, 0, none⟩ = false := by subst hW; simp [go_sem]
  have hb0 : Below w.heap.size w w1 := by subst hW; exact ba (ba (ba (Below.refl _ _) _) _) _
  clear hW
  go_loopw [6] (fun i wr => ∃ (k : Nat) (bo : Option Addr) (m cp : Nat), k ≤ n ∧ i = .int .i64 k ∧ wr.cell? ⟨w.heap.size + 1 + 1, 0, none⟩ = some (.slice bo m cp) ∧ wr.frozen? ⟨w.heap.size + 1 + 1, 0, none⟩ = false ∧ ownsR wr (w.heap.size + 1 + 1 + 1) 36 (.slice bo m cp) (([] : List Fl) ++ (l.take k).filter (neP s)) ∧ Below (w.heap.size + 1 + 1) w1 wr ∧ w.heap.size + 1 + 1 < wr.heap.size) (fun i _ => n - (intOf i).toNat)
  case atStart => exact ⟨0, none, 0, 0, Nat.zero_le _, rfl, x1, y1, by rw [List.take_zero]; exact ownsR_nil _ _ _, Below.refl _ _, by omega⟩
  case round =>
    clear x1 y1
    obtain ⟨k, bo, m, cp, hk, rfl, x0, f0, hown, hbel, hsz⟩ := hrel
    have dr : wr.cell? ⟨w.heap.size, 0, none⟩ = some (.slice ao n c) := (hbel.cell (by show w.heap.size < w.heap.size + 1 + 1; omega)).trans d0
    have HW : Hid (ownsR wr (w.heap.size + 1 + 1 + 1) 36 (.slice bo m cp) (([] : List Fl) ++ (l.take k).filter (neP s))) := hown
    clear hown
    by_cases hlt : k < n
    · obtain ⟨⟨nm, tx, kp⟩, hf⟩ : ∃ f, l[k]? = some f := ⟨_, List.getElem?_eq_getElem (by rw [← HN.out]; exact hlt)⟩
      have HF : Hid (l[k]? = some ⟨nm, tx, kp⟩) := hf
      obtain ⟨b, o, rfl, hb, -⟩ := fl_at HR.out hf
      obtain ⟨b', o', e', -, c0, c1, c2⟩ := fl_at (HR.out.below (hb0.trans (hbel.mono (by omega)))) hf
      cases e'
      clear hf
      dsimp only at c0 c1 c2
      by_cases hp : (neP s) ⟨nm, tx, kp⟩ = true
      · have HG : Hid (([] : List Fl) ++ (l.take (k + 1)).filter (neP s) = (([] : List Fl) ++ (l.take k).filter (neP s)) ++ [⟨nm, tx, kp⟩]) := by
          show _ = _
          rw [take_next HF.out, List.filter_append, List.filter_cons_of_pos hp, List.filter_nil]
          exact (List.append_assoc _ _ _).symm
        have he : (nm.toList == s.toList) = false := by unfold neP at hp; simpa using hp
        have V0 : ItS (w.heap.size + 1 + 1) w.heap.size (.slice bo m cp) (.slice (some ⟨b, o, none⟩) n c) b (o + k * 3) nm tx kp wr := ⟨x0, dr, c0, c1, c2⟩
        have hoF : (Value.slice bo m cp).ownBlock ≠ some b := fun e => by have := (HW.out.lt _ e).1; omega
        have hoD : (Value.slice bo m cp).ownBlock ≠ some w.heap.size := fun e => by have := (HW.out.lt _ e).1; omega
        have hoX : (Value.slice bo m cp).ownBlock ≠ some (w.heap.size + 1 + 1) := fun e => by have := (HW.out.lt _ e).1; omega
        have HT : Hid ((([] : List Fl) ++ (l.take k).filter (neP s)).length ≤ 1048576) := by
          show _ ≤ _
          have h1 := List.length_filter_le (neP s) (l.take k)
          rw [List.length_take] at h1
          rw [List.length_append]
          have h2 : (([] : List Fl)).length ≤ 0 := by simp
          omega
        go_wp2
        have hne : Nonempty (Sw (ItS (w.heap.size + 1 + 1) w.heap.size (.slice bo m cp) (.slice (some ⟨b, o, none⟩) n c) b (o + k * 3) nm tx kp)) := ⟨⟨wr, V0⟩⟩
        have e0 : ∀ x : Sw (ItS (w.heap.size + 1 + 1) w.heap.size (.slice bo m cp) (.slice (some ⟨b, o, none⟩) n c) b (o + k * 3) nm tx kp), x.at'.cell? ⟨w.heap.size + 1 + 1, 0, none⟩ = some (.slice bo m cp) := fun x => x.ok.1
        have e1 : ∀ x : Sw (ItS (w.heap.size + 1 + 1) w.heap.size (.slice bo m cp) (.slice (some ⟨b, o, none⟩) n c) b (o + k * 3) nm tx kp), x.at'.cell? ⟨w.heap.size, 0, none⟩ = some (.slice (some ⟨b, o, none⟩) n c) := fun x => x.ok.2.1
        have e2 : ∀ x : Sw (ItS (w.heap.size + 1 + 1) w.heap.size (.slice bo m cp) (.slice (some ⟨b, o, none⟩) n c) b (o + k * 3) nm tx kp), x.at'.cell? ⟨b, o + k * 3, none⟩ = some (.string nm) := fun x => x.ok.2.2.1
        have e3 : ∀ x : Sw (ItS (w.heap.size + 1 + 1) w.heap.size (.slice bo m cp) (.slice (some ⟨b, o, none⟩) n c) b (o + k * 3) nm tx kp), x.at'.cell? ⟨b, o + k * 3 + 1, none⟩ = some (.string tx) := fun x => x.ok.2.2.2.1
        have e4 : ∀ x : Sw (ItS (w.heap.size + 1 + 1) w.heap.size (.slice bo m cp) (.slice (some ⟨b, o, none⟩) n c) b (o + k * 3) nm tx kp), x.at'.cell? ⟨b, o + k * 3 + 2, none⟩ = some (.int .i64 kp) := fun x => x.ok.2.2.2.2
        clear x0 dr c0 c1 c2
        refine wp_region_sw (ItS (w.heap.size + 1 + 1) w.heap.size (.slice bo m cp) (.slice (some ⟨b, o, none⟩) n c) b (o + k * 3) nm tx kp) 7 9 (by kernel_rfl) (by decide) (by decide) (by kernel_rfl) (fun _ _ d _ _ h => by cases d <;> exact h) (V0.below (Below.refl _ _).drew) ?_
        simp only [List.take_succ_cons, List.take_zero, List.drop_succ_cons, List.drop_zero, Nat.reduceSub]
        repeat (go_big_quiet_step (fail))
        refine wpQuiet_nil ?_
        refine wpForced_cons rfl fun K hK => ?_
        go_wp2
        have V2 := V0.below (ba (Below.refl _ wr) (Obj.cells #[.string nm, .string tx, .int .i64 kp] 36))
        refine hK.out _ _ (sw_ok V2) ?_
        refine wpForced_cons rfl fun K hK => ?_
        have O2 : ownsR (wr.alloc (Obj.cells #[.string nm, .string tx, .int .i64 kp] 36)) (w.heap.size + 1 + 1 + 1) 36 (.slice bo m cp) (([] : List Fl) ++ (l.take k).filter (neP s)) := HW.out.alloc _
        refine wpList_append_recg _ rfl (.tmp 24) (.tmp 30) 24 rfl (w.heap.size + 1 + 1 + 1) 36 _ 40 under24 info36 rfl (.slice bo m cp) (([] : List Fl) ++ (l.take k).filter (neP s)) rfl O2 wr.heap.size 1 ⟨nm, tx, kp⟩ rfl (new_cells wr nm _ _) HT.out (by decide) (by simp; omega) ?_
        intro v3 w3 ho3 hg3
        have hg3 := undrew hg3
        rw [← HG.out] at ho3
        obtain ⟨a3, m3, c3, rfl⟩ := ho3.slice3
        have V3 := V2.grown hg3 hoX hoD hoF
        have y3 := V3.1
        have sX : w.heap.size + 1 + 1 < wr.heap.size := by omega
        have yz3 := grown_frozen O2 hg3 (p := ⟨w.heap.size + 1 + 1, 0, none⟩) (by simp) (by simp; omega) (((ba (Below.refl _ wr) _).frozen sX).trans f0)
        have B3 : Below (w.heap.size + 1 + 1) w1 w3 := (hbel.alloc (by omega) _).grown hg3 (by simp; omega) (fun j hj => by have := (O2.lt j hj).1; omega)
        have s3 := hg3.size
        simp only [World.size_alloc] at s3
        refine hK.out _ _ (sw_ok V3) ?_
        refine wpForced_nil ?_
        clear V0 V2 V3 O2 hg3 e0 e1 e2 e3 e4 hne HG f0 HW hbel
        have R : ownsR (w3.setCell ⟨w.heap.size + 1 + 1, 0, none⟩ (.slice a3 m3 c3)) (w.heap.size + 1 + 1 + 1) 36 (.slice a3 m3 c3) (([] : List Fl) ++ (l.take (k + 1)).filter (neP s)) := ho3.setBelow (by simp) _
        clear ho3
        go_wp2
        go_roundw
        case rel => exact ⟨k + 1, a3, m3, c3, by omega, by go_num, by simp [go_sem, y3], by simp [go_sem, yz3], R, B3.setCell (p := ⟨w.heap.size + 1 + 1, 0, none⟩) (Nat.le_refl _) _, by simp; omega⟩
        case measure => simp [intOf]; omega
      · have R : ownsR wr (w.heap.size + 1 + 1 + 1) 36 (.slice bo m cp) (([] : List Fl) ++ (l.take (k + 1)).filter (neP s)) := by
          rw [take_next HF.out, List.filter_append, List.filter_cons_of_neg hp, List.filter_nil, List.append_nil]
          exact HW.out
        have he : (nm.toList == s.toList) = true := by unfold neP at hp; simpa using hp
        clear HW
        go_wp2
        go_roundw
        case rel => exact ⟨k + 1, bo, m, cp, by omega, by go_num, x0, f0, R, hbel, hsz⟩
        case measure => simp [intOf]; omega
    · have hkn : k = n := by omega
      have R : ownsR wr (w.heap.size + 1 + 1 + 1) 36 (.slice bo m cp) (l.filter (neP s)) := by
        have := HW.out
        rw [hkn, List.take_of_length_le (by rw [HN.out]; exact Nat.le_refl _), List.nil_append] at this
        exact this
      have q2 : wr.cell? ⟨w.heap.size + 1, 0, none⟩ = some (.slice none 0 0) := (hbel.cell (by show w.heap.size + 1 < w.heap.size + 1 + 1; omega)).trans q1
      have z2 : wr.frozen? ⟨w.heap.size + 1, 0, none⟩ = false := (hbel.frozen (by show w.heap.size + 1 < w.heap.size + 1 + 1; omega)).trans z1
      clear HW
      go_wp2
      refine bodyPost_ret (ret_disk rfl rfl (World.cell?_setCell_same' _ _ _ (by simp [q2]))) rfl ?_
      exact ⟨_, rfl, (R.setBelow (by show w.heap.size + 1 < w.heap.size + 1 + 1 + 1; omega) _).mono (by omega), (hb0.trans (hbel.mono (by omega))).setCell (p := ⟨w.heap.size + 1, 0, none⟩) (by simp) _⟩
end Go.Proofs.Ytekflgecfcjjiaa
