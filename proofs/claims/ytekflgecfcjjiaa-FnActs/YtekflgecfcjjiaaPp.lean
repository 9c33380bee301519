/-
  The specification's row of files, one put in its place: the walk.
-/
import Derived.Test.YtekflgecfcjjiaaPu
namespace Go.Proofs.Ytekflgecfcjjiaa
open Go Go.RowKit

def ltP (s : ByteArray) (f : Fl) : Bool := ltB f.name s
def gtP (s : ByteArray) (f : Fl) : Bool := !ltB f.name s && !(f.name.toList == s.toList)
theorem gt_no {s : ByteArray} {f : Fl} (h : ¬ gtP s f = true) : Op.bytesLess f.name.toList s.toList = true ∨ (Op.bytesLess f.name.toList s.toList = false ∧ (f.name.toList == s.toList) = true) := by
  unfold gtP ltB at h
  cases hx : Op.bytesLess f.name.toList s.toList with
  | true => exact .inl rfl
  | false => exact .inr ⟨rfl, by simpa [hx] using h⟩
theorem gt_yes {s : ByteArray} {f : Fl} (h : gtP s f = true) : Op.bytesLess f.name.toList s.toList = false ∧ (f.name.toList == s.toList) = false := by
  unfold gtP ltB at h
  simpa using h
theorem gtP_eq (s : ByteArray) (f : Fl) : gtP s f = decide (s.data.toList < f.name.data.toList) := by
  unfold gtP
  rw [ltB_eq, Lib.toList_data, Lib.toList_data]
  generalize f.name.data.toList = a
  generalize s.data.toList = b
  by_cases h : b < a
  · have h1 : ¬ a < b := lt_not h
    have h2 : a ≠ b := fun e => by subst e; exact List.lt_irrefl _ h
    simp [h, h1, h2]
  · by_cases h1 : a < b
    · simp [h, h1]
    · have h2 : a = b := List.le_antisymm (List.not_lt.1 h) (List.not_lt.1 h1)
      simp [h2]
theorem putL_eq (l : List Fl) (f : Fl) : (l.filter (ltP f.name) ++ [f]) ++ l.filter (gtP f.name) = putL l f := by
  unfold putL putK
  rw [List.append_assoc]
  have e1 : (fun y => decide (Fl.key y < Fl.key f)) = ltP f.name := by funext y; unfold ltP; rw [ltB_eq]; rfl
  have e2 : (fun y => decide (Fl.key f < Fl.key y)) = gtP f.name := by funext y; rw [gtP_eq]; rfl
  rw [e1, e2]
  rfl

set_option maxRecDepth 10000 in
set_option maxHeartbeats 8000000 in
theorem put_try (ao : Option Addr) (n c : Nat) (l : List Fl) (fn ft : ByteArray) (fk : Int) (w : World) (hr : Reads w (.slice ao n c) l) (hn : n ≤ 1000) :
    Calls Try.prog 50 #[.agg #[.slice ao n c], .agg #[.string fn, .string ft, .int .i64 fk]] w fun e w' => ∃ v, e = .returned (.agg #[v]) ∧ ownsR w' w.heap.size 36 v (putL l ⟨fn, ft, fk⟩) ∧ Below w.heap.size w w' := by
  have HR : Hid (Reads w (.slice ao n c) l) := hr
  have HN : Hid (n = l.length) := hr.len
  clear hr
  go_enter Try.func50, Try.ntmps50
  go_wp2
  generalize hW : (((w.alloc (Obj.cells #[.slice ao n c] 26)).alloc (Obj.cells #[.string fn, .string ft, .int .i64 fk] 36)).alloc (Obj.cells #[.slice none 0 0] 26)).alloc (Obj.cells #[.slice none 0 0] 26) = w1
  have hs1 : w1.heap.size = w.heap.size + 4 := by subst hW; simp
  have d0 : w1.cell? ⟨w.heap.size, 0, none⟩ = some (.slice ao n c) := by subst hW; simp [go_sem]
  have u0 : w1.cell? ⟨w.heap.size + 1, 0, none⟩ = some (.string fn) := by subst hW; simp [go_sem]
  have u1 : w1.cell? ⟨w.heap.size + 1, 1, none⟩ = some (.string ft) := by subst hW; simp [go_sem]
  have u2 : w1.cell? ⟨w.heap.size + 1, 2, none⟩ = some (.int .i64 fk) := by subst hW; simp [go_sem]
  have q1 : w1.cell? ⟨w.heap.size + 1 + 1, 0, none⟩ = some (.slice none 0 0) := by subst hW; simp [go_sem]
  have z1 : w1.frozen? ⟨w.heap.size + 1 + 1, 0, none⟩ = false := by subst hW; simp [go_sem]
  have x1 : w1.cell? ⟨w.heap.size + 1 + 1 + 1, 0, none⟩ = some (.slice none 0 0) := by subst hW; simp [go_sem]
  have y1 : w1.frozen? ⟨w.heap.size + 1 + 1 + 1, 0, none⟩ = false := by subst hW; simp [go_sem]
  have hb0 : Below w.heap.size w w1 := by subst hW; exact ba (ba (ba (ba (Below.refl _ _) _) _) _) _
  clear hW
  go_loopw [6] (fun i wr => ∃ (k : Nat) (bo : Option Addr) (m cp : Nat), k ≤ n ∧ i = .int .i64 k ∧ wr.cell? ⟨w.heap.size + 1 + 1 + 1, 0, none⟩ = some (.slice bo m cp) ∧ wr.frozen? ⟨w.heap.size + 1 + 1 + 1, 0, none⟩ = false ∧ ownsR wr (w.heap.size + 1 + 1 + 1 + 1) 36 (.slice bo m cp) (([] : List Fl) ++ (l.take k).filter (ltP fn)) ∧ Below (w.heap.size + 1 + 1 + 1) w1 wr ∧ w.heap.size + 1 + 1 + 1 < wr.heap.size) (fun i _ => n - (intOf i).toNat)
  case atStart => exact ⟨0, none, 0, 0, Nat.zero_le _, rfl, x1, y1, by rw [List.take_zero]; exact ownsR_nil _ _ _, Below.refl _ _, by omega⟩
  case round =>
    obtain ⟨k, bo, m, cp, hk, rfl, x0, f0, hown, hbel, hsz⟩ := hrel
    have dr : wr.cell? ⟨w.heap.size, 0, none⟩ = some (.slice ao n c) := (hbel.cell (by show w.heap.size < w.heap.size + 1 + 1 + 1; omega)).trans d0
    have g0 : wr.cell? ⟨w.heap.size + 1, 0, none⟩ = some (.string fn) := (hbel.cell (by show w.heap.size + 1 < w.heap.size + 1 + 1 + 1; omega)).trans u0
    have g1 : wr.cell? ⟨w.heap.size + 1, 1, none⟩ = some (.string ft) := (hbel.cell (by show w.heap.size + 1 < w.heap.size + 1 + 1 + 1; omega)).trans u1
    have g2 : wr.cell? ⟨w.heap.size + 1, 2, none⟩ = some (.int .i64 fk) := (hbel.cell (by show w.heap.size + 1 < w.heap.size + 1 + 1 + 1; omega)).trans u2
    have HW : Hid (ownsR wr (w.heap.size + 1 + 1 + 1 + 1) 36 (.slice bo m cp) (([] : List Fl) ++ (l.take k).filter (ltP fn))) := hown
    clear hown
    by_cases hlt : k < n
    · obtain ⟨⟨nm, tx, kp⟩, hf⟩ : ∃ f, l[k]? = some f := ⟨_, List.getElem?_eq_getElem (by rw [← HN.out]; exact hlt)⟩
      have HF : Hid (l[k]? = some ⟨nm, tx, kp⟩) := hf
      obtain ⟨b, o, rfl, hb, -⟩ := fl_at HR.out hf
      obtain ⟨b', o', e', -, c0, c1, c2⟩ := fl_at (HR.out.below (hb0.trans (hbel.mono (by omega)))) hf
      cases e'
      clear hf
      dsimp only at c0 c1 c2
      by_cases hp : (ltP fn) ⟨nm, tx, kp⟩ = true
      · have HG : Hid (([] : List Fl) ++ (l.take (k + 1)).filter (ltP fn) = (([] : List Fl) ++ (l.take k).filter (ltP fn)) ++ [⟨nm, tx, kp⟩]) := by
          show _ = _
          rw [take_next HF.out, List.filter_append, List.filter_cons_of_pos hp, List.filter_nil]
          exact (List.append_assoc _ _ _).symm
        have he : Op.bytesLess nm.toList fn.toList = true := hp
        go_wp2
        have qd := Wd.cell dr
        have qc := Wd.cell c0
        have qg := Wd.cell g0
        have hzz := hbel.size
        refine wp_region_wd (by kernel_rfl) (by kernel_rfl) ?_
        repeat (go_big_quiet_step (fail))
        refine wpQuiet_nil ?_
        rintro wy ⟨⟨_, hy⟩, rfl⟩
        clear qd qc qg
        replace c0 := (hy.cell (World.block_lt_of_cell? _ _ c0)).trans c0
        replace c1 := (hy.cell (World.block_lt_of_cell? _ _ c1)).trans c1
        replace c2 := (hy.cell (World.block_lt_of_cell? _ _ c2)).trans c2
        replace g0 := (hy.cell (World.block_lt_of_cell? _ _ g0)).trans g0
        replace g1 := (hy.cell (World.block_lt_of_cell? _ _ g1)).trans g1
        replace g2 := (hy.cell (World.block_lt_of_cell? _ _ g2)).trans g2
        replace dr := (hy.cell (World.block_lt_of_cell? _ _ dr)).trans dr
        replace f0 := (hy.frozen (p := ⟨w.heap.size + 1 + 1 + 1, 0, none⟩) (by simp; omega)).trans f0
        replace x0 := (hy.cell (World.block_lt_of_cell? _ _ x0)).trans x0
        replace HW : Hid (ownsR wy _ _ _ _) := ownsR.all HW.out hy
        replace hbel := hbel.trans (hy.mono (by omega))
        replace hsz := Nat.lt_of_lt_of_le hsz hy.size

        have V0 : ItS (w.heap.size + 1 + 1 + 1) w.heap.size (.slice bo m cp) (.slice (some ⟨b, o, none⟩) n c) b (o + k * 3) nm tx kp wy := ⟨x0, dr, c0, c1, c2⟩
        have hoF : (Value.slice bo m cp).ownBlock ≠ some b := fun e => by have := (HW.out.lt _ e).1; omega
        have hoD : (Value.slice bo m cp).ownBlock ≠ some w.heap.size := fun e => by have := (HW.out.lt _ e).1; omega
        have hoX : (Value.slice bo m cp).ownBlock ≠ some (w.heap.size + 1 + 1 + 1) := fun e => by have := (HW.out.lt _ e).1; omega
        have HT : Hid ((([] : List Fl) ++ (l.take k).filter (ltP fn)).length ≤ 1048576) := by
          show _ ≤ _
          have h1 := List.length_filter_le (ltP fn) (l.take k)
          rw [List.length_take] at h1
          rw [List.length_append]
          have h2 : (([] : List Fl)).length ≤ 1001 := by simp
          omega
        go_wp2
        have hne : Nonempty (Sw (ItS (w.heap.size + 1 + 1 + 1) w.heap.size (.slice bo m cp) (.slice (some ⟨b, o, none⟩) n c) b (o + k * 3) nm tx kp)) := ⟨⟨wy, V0⟩⟩
        have e0 : ∀ x : Sw (ItS (w.heap.size + 1 + 1 + 1) w.heap.size (.slice bo m cp) (.slice (some ⟨b, o, none⟩) n c) b (o + k * 3) nm tx kp), x.at'.cell? ⟨w.heap.size + 1 + 1 + 1, 0, none⟩ = some (.slice bo m cp) := fun x => x.ok.1
        have e1 : ∀ x : Sw (ItS (w.heap.size + 1 + 1 + 1) w.heap.size (.slice bo m cp) (.slice (some ⟨b, o, none⟩) n c) b (o + k * 3) nm tx kp), x.at'.cell? ⟨w.heap.size, 0, none⟩ = some (.slice (some ⟨b, o, none⟩) n c) := fun x => x.ok.2.1
        have e2 : ∀ x : Sw (ItS (w.heap.size + 1 + 1 + 1) w.heap.size (.slice bo m cp) (.slice (some ⟨b, o, none⟩) n c) b (o + k * 3) nm tx kp), x.at'.cell? ⟨b, o + k * 3, none⟩ = some (.string nm) := fun x => x.ok.2.2.1
        have e3 : ∀ x : Sw (ItS (w.heap.size + 1 + 1 + 1) w.heap.size (.slice bo m cp) (.slice (some ⟨b, o, none⟩) n c) b (o + k * 3) nm tx kp), x.at'.cell? ⟨b, o + k * 3 + 1, none⟩ = some (.string tx) := fun x => x.ok.2.2.2.1
        have e4 : ∀ x : Sw (ItS (w.heap.size + 1 + 1 + 1) w.heap.size (.slice bo m cp) (.slice (some ⟨b, o, none⟩) n c) b (o + k * 3) nm tx kp), x.at'.cell? ⟨b, o + k * 3 + 2, none⟩ = some (.int .i64 kp) := fun x => x.ok.2.2.2.2
        clear x0 dr c0 c1 c2
        refine wp_region_sw (ItS (w.heap.size + 1 + 1 + 1) w.heap.size (.slice bo m cp) (.slice (some ⟨b, o, none⟩) n c) b (o + k * 3) nm tx kp) 7 9 (by kernel_rfl) (by decide) (by decide) (by kernel_rfl) (fun _ _ d _ _ h => by cases d <;> exact h) (V0.below (Below.refl _ _).drew) ?_
        simp only [List.take_succ_cons, List.take_zero, List.drop_succ_cons, List.drop_zero, Nat.reduceSub]
        repeat (go_big_quiet_step (fail))
        refine wpQuiet_nil ?_
        refine wpForced_cons rfl fun K hK => ?_
        go_wp2
        have V2 := V0.below (ba (Below.refl _ wy) (Obj.cells #[.string nm, .string tx, .int .i64 kp] 36))
        refine hK.out _ _ (sw_ok V2) ?_
        refine wpForced_cons rfl fun K hK => ?_
        have O2 : ownsR (wy.alloc (Obj.cells #[.string nm, .string tx, .int .i64 kp] 36)) (w.heap.size + 1 + 1 + 1 + 1) 36 (.slice bo m cp) (([] : List Fl) ++ (l.take k).filter (ltP fn)) := HW.out.alloc _
        refine wpList_append_recg _ rfl (.tmp 26) (.tmp 32) 24 rfl (w.heap.size + 1 + 1 + 1 + 1) 36 _ 40 under24 info36 rfl (.slice bo m cp) (([] : List Fl) ++ (l.take k).filter (ltP fn)) rfl O2 wy.heap.size 1 ⟨nm, tx, kp⟩ rfl (new_cells wy nm _ _) HT.out (by decide) (by simp; omega) ?_
        intro v3 w3 ho3 hg3
        have hg3 := undrew hg3
        rw [← HG.out] at ho3
        obtain ⟨a3, m3, c3, rfl⟩ := ho3.slice3
        have V3 := V2.grown hg3 hoX hoD hoF
        have y3 := V3.1
        have sX : w.heap.size + 1 + 1 + 1 < wy.heap.size := by omega
        have yz3 := grown_frozen O2 hg3 (p := ⟨w.heap.size + 1 + 1 + 1, 0, none⟩) (by simp) (by simp; omega) (((ba (Below.refl _ wy) _).frozen sX).trans f0)
        have B3 : Below (w.heap.size + 1 + 1 + 1) w1 w3 := (hbel.alloc (by omega) _).grown hg3 (by simp; omega) (fun j hj => by have := (O2.lt j hj).1; omega)
        have s3 := hg3.size
        simp only [World.size_alloc] at s3
        refine hK.out _ _ (sw_ok V3) ?_
        refine wpForced_nil ?_
        clear V0 V2 V3 O2 hg3 e0 e1 e2 e3 e4 hne HG f0 HW hbel
        have R : ownsR (w3.setCell ⟨w.heap.size + 1 + 1 + 1, 0, none⟩ (.slice a3 m3 c3)) (w.heap.size + 1 + 1 + 1 + 1) 36 (.slice a3 m3 c3) (([] : List Fl) ++ (l.take (k + 1)).filter (ltP fn)) := ho3.setBelow (by simp) _
        clear ho3
        go_wp2
        go_roundw
        case rel => exact ⟨k + 1, a3, m3, c3, by omega, by go_num, by simp [go_sem, y3], by simp [go_sem, yz3], R, B3.setCell (p := ⟨w.heap.size + 1 + 1 + 1, 0, none⟩) (Nat.le_refl _) _, by simp; omega⟩
        case measure => simp [intOf]; omega
      · have R : ownsR wr (w.heap.size + 1 + 1 + 1 + 1) 36 (.slice bo m cp) (([] : List Fl) ++ (l.take (k + 1)).filter (ltP fn)) := by
          rw [take_next HF.out, List.filter_append, List.filter_cons_of_neg hp, List.filter_nil, List.append_nil]
          exact HW.out
        have he : Op.bytesLess nm.toList fn.toList = false := by simpa [ltP, ltB] using hp
        go_wp2
        have qd := Wd.cell dr
        have qc := Wd.cell c0
        have qg := Wd.cell g0
        have hzz := hbel.size
        refine wp_region_wd (by kernel_rfl) (by kernel_rfl) ?_
        repeat (go_big_quiet_step (fail))
        refine wpQuiet_nil ?_
        rintro wy ⟨⟨_, hy⟩, rfl⟩
        clear qd qc qg
        replace c0 := (hy.cell (World.block_lt_of_cell? _ _ c0)).trans c0
        replace c1 := (hy.cell (World.block_lt_of_cell? _ _ c1)).trans c1
        replace c2 := (hy.cell (World.block_lt_of_cell? _ _ c2)).trans c2
        replace g0 := (hy.cell (World.block_lt_of_cell? _ _ g0)).trans g0
        replace g1 := (hy.cell (World.block_lt_of_cell? _ _ g1)).trans g1
        replace g2 := (hy.cell (World.block_lt_of_cell? _ _ g2)).trans g2
        replace dr := (hy.cell (World.block_lt_of_cell? _ _ dr)).trans dr
        replace f0 := (hy.frozen (p := ⟨w.heap.size + 1 + 1 + 1, 0, none⟩) (by simp; omega)).trans f0
        replace x0 := (hy.cell (World.block_lt_of_cell? _ _ x0)).trans x0
        replace HW : Hid (ownsR wy _ _ _ _) := ownsR.all HW.out hy
        replace hbel := hbel.trans (hy.mono (by omega))
        replace hsz := Nat.lt_of_lt_of_le hsz hy.size

        replace R := ownsR.all R hy
        clear HW
        go_wp2
        go_roundw
        case rel => exact ⟨k + 1, bo, m, cp, by omega, by go_num, x0, f0, R, hbel, hsz⟩
        case measure => simp [intOf]; omega
    · have hkn : k = n := by omega
      have R0 : Hid (ownsR wr (w.heap.size + 1 + 1 + 1 + 1) 36 (.slice bo m cp) (l.filter (ltP fn))) := by
        have := HW.out
        rw [hkn, List.take_of_length_le (by rw [HN.out]; exact Nat.le_refl _), List.nil_append] at this
        exact this
      clear HW
      have HT : Hid ((l.filter (ltP fn)).length ≤ 1000) := by
        have h1 := List.length_filter_le (ltP fn) l
        rw [← HN.out] at h1
        exact Nat.le_trans h1 hn
      have O2 : Hid (ownsR (wr.alloc (Obj.cells #[.string fn, .string ft, .int .i64 fk] 36)) (w.heap.size + 1 + 1 + 1 + 1) 36 (.slice bo m cp) (l.filter (ltP fn))) := R0.out.alloc _
      have hoX : (Value.slice bo m cp).ownBlock ≠ some (w.heap.size + 1 + 1 + 1) := fun e => by have := (R0.out.lt _ e).1; omega
      go_wp2_with (at_builtin; refine wpList_append_recg _ rfl (.tmp 36) (.tmp 38) 24 rfl (w.heap.size + 1 + 1 + 1 + 1) 36 _ 40 under24 info36 rfl (.slice bo m cp) (l.filter (ltP fn)) rfl O2.out wr.heap.size 1 ⟨fn, ft, fk⟩ rfl (new_cells wr fn _ _) (Nat.le_trans HT.out (by decide)) (by decide) (by simp; omega) ?_; intro v3 w3 ho3 hg3; obtain ⟨a3, m3, c3, rfl⟩ := ho3.slice3; have y3 : w3.cell? ⟨w.heap.size + 1 + 1 + 1, 0, none⟩ = some (.slice bo m cp) := hg3.cell (((ba (Below.refl _ wr) _).cell (p := ⟨w.heap.size + 1 + 1 + 1, 0, none⟩) hsz).trans x0) (fun e => hoX e.symm); have yz3 : w3.frozen? ⟨w.heap.size + 1 + 1 + 1, 0, none⟩ = false := grown_frozen O2.out hg3 (p := ⟨w.heap.size + 1 + 1 + 1, 0, none⟩) (by simp) (by simp; omega) (((ba (Below.refl _ wr) _).frozen (p := ⟨w.heap.size + 1 + 1 + 1, 0, none⟩) hsz).trans f0))
      have HB1 : Hid ((l.filter (ltP fn)).length ≤ 1000) := HT
      have hb3 : Below (w.heap.size + 1 + 1 + 1) w1 w3 := (hbel.alloc (by omega) _).grown hg3 (by simp; omega) (fun j hj => by have := (O2.out.lt j hj).1; omega)
      have s3 := hg3.size
      simp only [World.size_alloc] at s3
      have R4 : ownsR (w3.setCell ⟨w.heap.size + 1 + 1 + 1, 0, none⟩ (.slice a3 m3 c3)) (w.heap.size + 1 + 1 + 1 + 1) 36 (.slice a3 m3 c3) (l.filter (ltP fn) ++ [Fl.mk fn ft fk]) := ho3.setBelow (by simp) _
      have b4 : Below (w.heap.size + 1 + 1 + 1) w1 (w3.setCell ⟨w.heap.size + 1 + 1 + 1, 0, none⟩ (.slice a3 m3 c3)) := hb3.setCell (p := ⟨w.heap.size + 1 + 1 + 1, 0, none⟩) (Nat.le_refl _) _
      have x4 : (w3.setCell ⟨w.heap.size + 1 + 1 + 1, 0, none⟩ (.slice a3 m3 c3)).cell? ⟨w.heap.size + 1 + 1 + 1, 0, none⟩ = some (.slice a3 m3 c3) := World.cell?_setCell_same' _ _ _ (by simp [y3])
      have y4 : (w3.setCell ⟨w.heap.size + 1 + 1 + 1, 0, none⟩ (.slice a3 m3 c3)).frozen? ⟨w.heap.size + 1 + 1 + 1, 0, none⟩ = false := by simp [go_sem, yz3]
      have s4 : w.heap.size + 1 + 1 + 1 < (w3.setCell ⟨w.heap.size + 1 + 1 + 1, 0, none⟩ (.slice a3 m3 c3)).heap.size := by simp; omega
      generalize w3.setCell ⟨w.heap.size + 1 + 1 + 1, 0, none⟩ (.slice a3 m3 c3) = w4 at *
      clear R0 O2 HT hoX ho3 hg3 y3 yz3 hb3 s3 g0 g1 g2 dr x0 f0 hbel hsz hkn
      go_loopw [7] (fun i wr => ∃ (k : Nat) (bo : Option Addr) (m cp : Nat), k ≤ n ∧ i = .int .i64 k ∧ wr.cell? ⟨w.heap.size + 1 + 1 + 1, 0, none⟩ = some (.slice bo m cp) ∧ wr.frozen? ⟨w.heap.size + 1 + 1 + 1, 0, none⟩ = false ∧ ownsR wr (w.heap.size + 1 + 1 + 1 + 1) 36 (.slice bo m cp) ((l.filter (ltP fn) ++ [Fl.mk fn ft fk]) ++ (l.take k).filter (gtP fn)) ∧ Below (w.heap.size + 1 + 1 + 1) w1 wr ∧ w.heap.size + 1 + 1 + 1 < wr.heap.size) (fun i _ => n - (intOf i).toNat)
      case atStart => exact ⟨0, a3, m3, c3, Nat.zero_le _, rfl, x4, y4, by rw [List.take_zero, List.filter_nil, List.append_nil]; exact R4, b4, s4⟩
      case round =>
        clear R4 b4 x4 y4 s4
        obtain ⟨k, bo, m, cp, hk, rfl, x0, f0, hown, hbel, hsz⟩ := hrel
        have dr : wr.cell? ⟨w.heap.size, 0, none⟩ = some (.slice ao n c) := (hbel.cell (by show w.heap.size < w.heap.size + 1 + 1 + 1; omega)).trans d0
        have g0 : wr.cell? ⟨w.heap.size + 1, 0, none⟩ = some (.string fn) := (hbel.cell (by show w.heap.size + 1 < w.heap.size + 1 + 1 + 1; omega)).trans u0
        have g1 : wr.cell? ⟨w.heap.size + 1, 1, none⟩ = some (.string ft) := (hbel.cell (by show w.heap.size + 1 < w.heap.size + 1 + 1 + 1; omega)).trans u1
        have g2 : wr.cell? ⟨w.heap.size + 1, 2, none⟩ = some (.int .i64 fk) := (hbel.cell (by show w.heap.size + 1 < w.heap.size + 1 + 1 + 1; omega)).trans u2
        have HW : Hid (ownsR wr (w.heap.size + 1 + 1 + 1 + 1) 36 (.slice bo m cp) ((l.filter (ltP fn) ++ [Fl.mk fn ft fk]) ++ (l.take k).filter (gtP fn))) := hown
        clear hown
        by_cases hlt : k < n
        · obtain ⟨⟨nm, tx, kp⟩, hf⟩ : ∃ f, l[k]? = some f := ⟨_, List.getElem?_eq_getElem (by rw [← HN.out]; exact hlt)⟩
          have HF : Hid (l[k]? = some ⟨nm, tx, kp⟩) := hf
          obtain ⟨b, o, rfl, hb, -⟩ := fl_at HR.out hf
          obtain ⟨b', o', e', -, c0, c1, c2⟩ := fl_at (HR.out.below (hb0.trans (hbel.mono (by omega)))) hf
          cases e'
          clear hf
          dsimp only at c0 c1 c2
          by_cases hp : (gtP fn) ⟨nm, tx, kp⟩ = true
          · have HG : Hid ((l.filter (ltP fn) ++ [Fl.mk fn ft fk]) ++ (l.take (k + 1)).filter (gtP fn) = ((l.filter (ltP fn) ++ [Fl.mk fn ft fk]) ++ (l.take k).filter (gtP fn)) ++ [⟨nm, tx, kp⟩]) := by
              show _ = _
              rw [take_next HF.out, List.filter_append, List.filter_cons_of_pos hp, List.filter_nil]
              exact (List.append_assoc _ _ _).symm
            obtain ⟨he, he2⟩ := gt_yes hp
            dsimp only at he he2
            go_wp2
            have qd := Wd.cell dr
            have qc := Wd.cell c0
            have qg := Wd.cell g0
            have hzz := hbel.size
            refine wp_region_wd (by kernel_rfl) (by kernel_rfl) ?_
            repeat (go_big_quiet_step (fail))
            refine wpQuiet_nil ?_
            rintro wy ⟨⟨_, hy⟩, rfl⟩
            clear qd qc qg
            replace c0 := (hy.cell (World.block_lt_of_cell? _ _ c0)).trans c0
            replace c1 := (hy.cell (World.block_lt_of_cell? _ _ c1)).trans c1
            replace c2 := (hy.cell (World.block_lt_of_cell? _ _ c2)).trans c2
            replace g0 := (hy.cell (World.block_lt_of_cell? _ _ g0)).trans g0
            replace g1 := (hy.cell (World.block_lt_of_cell? _ _ g1)).trans g1
            replace g2 := (hy.cell (World.block_lt_of_cell? _ _ g2)).trans g2
            replace dr := (hy.cell (World.block_lt_of_cell? _ _ dr)).trans dr
            replace f0 := (hy.frozen (p := ⟨w.heap.size + 1 + 1 + 1, 0, none⟩) (by simp; omega)).trans f0
            replace x0 := (hy.cell (World.block_lt_of_cell? _ _ x0)).trans x0
            replace HW : Hid (ownsR wy _ _ _ _) := ownsR.all HW.out hy
            replace hbel := hbel.trans (hy.mono (by omega))
            replace hsz := Nat.lt_of_lt_of_le hsz hy.size

            have V0 : ItS (w.heap.size + 1 + 1 + 1) w.heap.size (.slice bo m cp) (.slice (some ⟨b, o, none⟩) n c) b (o + k * 3) nm tx kp wy := ⟨x0, dr, c0, c1, c2⟩
            have hoF : (Value.slice bo m cp).ownBlock ≠ some b := fun e => by have := (HW.out.lt _ e).1; omega
            have hoD : (Value.slice bo m cp).ownBlock ≠ some w.heap.size := fun e => by have := (HW.out.lt _ e).1; omega
            have hoX : (Value.slice bo m cp).ownBlock ≠ some (w.heap.size + 1 + 1 + 1) := fun e => by have := (HW.out.lt _ e).1; omega
            have HT : Hid (((l.filter (ltP fn) ++ [Fl.mk fn ft fk]) ++ (l.take k).filter (gtP fn)).length ≤ 1048576) := by
              show _ ≤ _
              have h1 := List.length_filter_le (gtP fn) (l.take k)
              rw [List.length_take] at h1
              rw [List.length_append]
              have h2 : ((l.filter (ltP fn) ++ [Fl.mk fn ft fk])).length ≤ 1001 := by rw [List.length_append]; have := HB1.out; simp; omega
              omega
            go_wp2
            have hne : Nonempty (Sw (ItS (w.heap.size + 1 + 1 + 1) w.heap.size (.slice bo m cp) (.slice (some ⟨b, o, none⟩) n c) b (o + k * 3) nm tx kp)) := ⟨⟨wy, V0⟩⟩
            have e0 : ∀ x : Sw (ItS (w.heap.size + 1 + 1 + 1) w.heap.size (.slice bo m cp) (.slice (some ⟨b, o, none⟩) n c) b (o + k * 3) nm tx kp), x.at'.cell? ⟨w.heap.size + 1 + 1 + 1, 0, none⟩ = some (.slice bo m cp) := fun x => x.ok.1
            have e1 : ∀ x : Sw (ItS (w.heap.size + 1 + 1 + 1) w.heap.size (.slice bo m cp) (.slice (some ⟨b, o, none⟩) n c) b (o + k * 3) nm tx kp), x.at'.cell? ⟨w.heap.size, 0, none⟩ = some (.slice (some ⟨b, o, none⟩) n c) := fun x => x.ok.2.1
            have e2 : ∀ x : Sw (ItS (w.heap.size + 1 + 1 + 1) w.heap.size (.slice bo m cp) (.slice (some ⟨b, o, none⟩) n c) b (o + k * 3) nm tx kp), x.at'.cell? ⟨b, o + k * 3, none⟩ = some (.string nm) := fun x => x.ok.2.2.1
            have e3 : ∀ x : Sw (ItS (w.heap.size + 1 + 1 + 1) w.heap.size (.slice bo m cp) (.slice (some ⟨b, o, none⟩) n c) b (o + k * 3) nm tx kp), x.at'.cell? ⟨b, o + k * 3 + 1, none⟩ = some (.string tx) := fun x => x.ok.2.2.2.1
            have e4 : ∀ x : Sw (ItS (w.heap.size + 1 + 1 + 1) w.heap.size (.slice bo m cp) (.slice (some ⟨b, o, none⟩) n c) b (o + k * 3) nm tx kp), x.at'.cell? ⟨b, o + k * 3 + 2, none⟩ = some (.int .i64 kp) := fun x => x.ok.2.2.2.2
            clear x0 dr c0 c1 c2
            refine wp_region_sw (ItS (w.heap.size + 1 + 1 + 1) w.heap.size (.slice bo m cp) (.slice (some ⟨b, o, none⟩) n c) b (o + k * 3) nm tx kp) 7 9 (by kernel_rfl) (by decide) (by decide) (by kernel_rfl) (fun _ _ d _ _ h => by cases d <;> exact h) (V0.below (Below.refl _ _).drew) ?_
            simp only [List.take_succ_cons, List.take_zero, List.drop_succ_cons, List.drop_zero, Nat.reduceSub]
            repeat (go_big_quiet_step (fail))
            refine wpQuiet_nil ?_
            refine wpForced_cons rfl fun K hK => ?_
            go_wp2
            have V2 := V0.below (ba (Below.refl _ wy) (Obj.cells #[.string nm, .string tx, .int .i64 kp] 36))
            refine hK.out _ _ (sw_ok V2) ?_
            refine wpForced_cons rfl fun K hK => ?_
            have O2 : ownsR (wy.alloc (Obj.cells #[.string nm, .string tx, .int .i64 kp] 36)) (w.heap.size + 1 + 1 + 1 + 1) 36 (.slice bo m cp) ((l.filter (ltP fn) ++ [Fl.mk fn ft fk]) ++ (l.take k).filter (gtP fn)) := HW.out.alloc _
            refine wpList_append_recg _ rfl (.tmp 58) (.tmp 64) 24 rfl (w.heap.size + 1 + 1 + 1 + 1) 36 _ 40 under24 info36 rfl (.slice bo m cp) ((l.filter (ltP fn) ++ [Fl.mk fn ft fk]) ++ (l.take k).filter (gtP fn)) rfl O2 wy.heap.size 1 ⟨nm, tx, kp⟩ rfl (new_cells wy nm _ _) HT.out (by decide) (by simp; omega) ?_
            intro v3 w3 ho3 hg3
            have hg3 := undrew hg3
            rw [← HG.out] at ho3
            obtain ⟨a3, m3, c3, rfl⟩ := ho3.slice3
            have V3 := V2.grown hg3 hoX hoD hoF
            have y3 := V3.1
            have sX : w.heap.size + 1 + 1 + 1 < wy.heap.size := by omega
            have yz3 := grown_frozen O2 hg3 (p := ⟨w.heap.size + 1 + 1 + 1, 0, none⟩) (by simp) (by simp; omega) (((ba (Below.refl _ wy) _).frozen sX).trans f0)
            have B3 : Below (w.heap.size + 1 + 1 + 1) w1 w3 := (hbel.alloc (by omega) _).grown hg3 (by simp; omega) (fun j hj => by have := (O2.lt j hj).1; omega)
            have s3 := hg3.size
            simp only [World.size_alloc] at s3
            refine hK.out _ _ (sw_ok V3) ?_
            refine wpForced_nil ?_
            clear V0 V2 V3 O2 hg3 e0 e1 e2 e3 e4 hne HG f0 HW hbel
            have R : ownsR (w3.setCell ⟨w.heap.size + 1 + 1 + 1, 0, none⟩ (.slice a3 m3 c3)) (w.heap.size + 1 + 1 + 1 + 1) 36 (.slice a3 m3 c3) ((l.filter (ltP fn) ++ [Fl.mk fn ft fk]) ++ (l.take (k + 1)).filter (gtP fn)) := ho3.setBelow (by simp) _
            clear ho3
            go_wp2
            go_roundw
            case rel => exact ⟨k + 1, a3, m3, c3, by omega, by go_num, by simp [go_sem, y3], by simp [go_sem, yz3], R, B3.setCell (p := ⟨w.heap.size + 1 + 1 + 1, 0, none⟩) (Nat.le_refl _) _, by simp; omega⟩
            case measure => simp [intOf]; omega
          · have R : ownsR wr (w.heap.size + 1 + 1 + 1 + 1) 36 (.slice bo m cp) ((l.filter (ltP fn) ++ [Fl.mk fn ft fk]) ++ (l.take (k + 1)).filter (gtP fn)) := by
              rw [take_next HF.out, List.filter_append, List.filter_cons_of_neg hp, List.filter_nil, List.append_nil]
              exact HW.out
            have hz := gt_no hp
            dsimp only at hz
            rcases hz with he | ⟨he, he2⟩
            · skip
              go_wp2
              have qd := Wd.cell dr
              have qc := Wd.cell c0
              have qg := Wd.cell g0
              have hzz := hbel.size
              refine wp_region_wd (by kernel_rfl) (by kernel_rfl) ?_
              repeat (go_big_quiet_step (fail))
              refine wpQuiet_nil ?_
              rintro wy ⟨⟨_, hy⟩, rfl⟩
              clear qd qc qg
              replace c0 := (hy.cell (World.block_lt_of_cell? _ _ c0)).trans c0
              replace c1 := (hy.cell (World.block_lt_of_cell? _ _ c1)).trans c1
              replace c2 := (hy.cell (World.block_lt_of_cell? _ _ c2)).trans c2
              replace g0 := (hy.cell (World.block_lt_of_cell? _ _ g0)).trans g0
              replace g1 := (hy.cell (World.block_lt_of_cell? _ _ g1)).trans g1
              replace g2 := (hy.cell (World.block_lt_of_cell? _ _ g2)).trans g2
              replace dr := (hy.cell (World.block_lt_of_cell? _ _ dr)).trans dr
              replace f0 := (hy.frozen (p := ⟨w.heap.size + 1 + 1 + 1, 0, none⟩) (by simp; omega)).trans f0
              replace x0 := (hy.cell (World.block_lt_of_cell? _ _ x0)).trans x0
              replace HW : Hid (ownsR wy _ _ _ _) := ownsR.all HW.out hy
              replace hbel := hbel.trans (hy.mono (by omega))
              replace hsz := Nat.lt_of_lt_of_le hsz hy.size
      
              replace R := ownsR.all R hy
              clear HW
              go_wp2
              go_roundw
              case rel => exact ⟨k + 1, bo, m, cp, by omega, by go_num, x0, f0, R, hbel, hsz⟩
              case measure => simp [intOf]; omega
            · skip
              go_wp2
              have qd := Wd.cell dr
              have qc := Wd.cell c0
              have qg := Wd.cell g0
              have hzz := hbel.size
              refine wp_region_wd (by kernel_rfl) (by kernel_rfl) ?_
              repeat (go_big_quiet_step (fail))
              refine wpQuiet_nil ?_
              rintro wy ⟨⟨_, hy⟩, rfl⟩
              clear qd qc qg
              replace c0 := (hy.cell (World.block_lt_of_cell? _ _ c0)).trans c0
              replace c1 := (hy.cell (World.block_lt_of_cell? _ _ c1)).trans c1
              replace c2 := (hy.cell (World.block_lt_of_cell? _ _ c2)).trans c2
              replace g0 := (hy.cell (World.block_lt_of_cell? _ _ g0)).trans g0
              replace g1 := (hy.cell (World.block_lt_of_cell? _ _ g1)).trans g1
              replace g2 := (hy.cell (World.block_lt_of_cell? _ _ g2)).trans g2
              replace dr := (hy.cell (World.block_lt_of_cell? _ _ dr)).trans dr
              replace f0 := (hy.frozen (p := ⟨w.heap.size + 1 + 1 + 1, 0, none⟩) (by simp; omega)).trans f0
              replace x0 := (hy.cell (World.block_lt_of_cell? _ _ x0)).trans x0
              replace HW : Hid (ownsR wy _ _ _ _) := ownsR.all HW.out hy
              replace hbel := hbel.trans (hy.mono (by omega))
              replace hsz := Nat.lt_of_lt_of_le hsz hy.size
      
              replace R := ownsR.all R hy
              clear HW
              go_wp2
              go_roundw
              case rel => exact ⟨k + 1, bo, m, cp, by omega, by go_num, x0, f0, R, hbel, hsz⟩
              case measure => simp [intOf]; omega
        · have hkn : k = n := by omega
          have R : ownsR wr (w.heap.size + 1 + 1 + 1 + 1) 36 (.slice bo m cp) (putL l ⟨fn, ft, fk⟩) := by
            have := HW.out
            rw [hkn, List.take_of_length_le (by rw [HN.out]; exact Nat.le_refl _)] at this
            rw [← putL_eq]
            exact this
          have q2 : wr.cell? ⟨w.heap.size + 1 + 1, 0, none⟩ = some (.slice none 0 0) := (hbel.cell (by show w.heap.size + 1 + 1 < w.heap.size + 1 + 1 + 1; omega)).trans q1
          have z2 : wr.frozen? ⟨w.heap.size + 1 + 1, 0, none⟩ = false := (hbel.frozen (by show w.heap.size + 1 + 1 < w.heap.size + 1 + 1 + 1; omega)).trans z1
          clear HW
          go_wp2
          refine bodyPost_ret (ret_disk rfl rfl (World.cell?_setCell_same' _ _ _ (by simp [q2]))) rfl ?_
          exact ⟨_, rfl, (R.setBelow (by show w.heap.size + 1 + 1 < w.heap.size + 1 + 1 + 1 + 1; omega) _).mono (by omega), (hb0.trans (hbel.mono (by omega))).setCell (p := ⟨w.heap.size + 1 + 1, 0, none⟩) (by simp; omega) _⟩
end Go.Proofs.Ytekflgecfcjjiaa
