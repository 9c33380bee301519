/-
  The places that a task is after, as the program tells them: the walks. The places that a task is after and the order of tasks, as the specification tells them: the walks.
-/
import Derived.Test.YteefacjjdalncaaGreatDoorC6
import Derived.Test.YteefacjjdalncaaGreatDoorC4
namespace Go.Proofs.YteefacjjdalncaaGreatDoor
open Go Go.RowKit
set_option linter.unusedVariables false

/-- What lies there while places are gathered. -/
structure UpS (w : World) (nm cr : ByteArray) (fr up : Int) (cu : Bool) (tv : Value) (W : World) (v : Value) (l : List Int) (g : Nat) : Prop where
  bel : Below w.heap.size w W
  own : ownsR W w.heap.size 3 v l
  dag : P6 W w.heap.size nm cr fr up cu tv
  lies : v.ownBlock = some g
section
variable {w W W' : World} {nm cr : ByteArray} {fr up : Int} {cu : Bool} {tv v : Value} {l : List Int} {g : Nat}
theorem UpS.onW (h : UpS w nm cr fr up cu tv W v l g) (hb : Below W.heap.size W W') : UpS w nm cr fr up cu tv W' v l g := ⟨Below.on h.bel hb, h.own.all hb, h.dag.on hb, h.lies⟩
theorem UpS.more (h : UpS w nm cr fr up cu tv W v l g) {v' : Value} {l' : List Int} (ho : ownsR W' w.heap.size 3 v' l') (hg : W.grownBy W' v.ownBlock) (hl : v'.ownBlock = v.ownBlock ∨ v'.ownBlock = some W.heap.size) : ∃ g', UpS w nm cr fr up cu tv W' v' l' g' := by
  have hdn : some w.heap.size ≠ v.ownBlock := fun e => not_own h.own h.dag (by decide) e.symm
  have hb : Below w.heap.size w W' := h.bel.grown hg h.bel.size fun k hk => (own_low h.own hk).1
  rcases hl with e | e
  · exact ⟨g, hb, ho, h.dag.grown hg hdn, e.trans h.lies⟩
  · exact ⟨_, hb, ho, h.dag.grown hg hdn, e⟩
end
theorem take_map {α β : Type} {f : α → β} {l : List α} {k : Nat} {x : α} (h : l[k]? = some x) : (l.map f).take (k + 1) = (l.map f).take k ++ [f x] := by
  rw [List.take_add_one]
  congr 1
  rw [List.getElem?_map, h]
  rfl
set_option maxRecDepth 10000 in
set_option maxHeartbeats 4000000 in
theorem upsIn_any (ao : Option Addr) (n cap : Nat) (nm cr : ByteArray) (fr up : Int) (cu : Bool) (ts : List Ta) (i : Nat) (t : Ta) (w : World) (hr : Tasks w (.slice ao n cap) ts) (hn : n ≤ 1048577) (ht : ts[i]? = some t) (hm : t.after.length ≤ 1048576) :
    Calls Tryz.prog 75 #[.agg #[.string nm, .string cr, .int .i64 fr, .int .i64 up, .bool cu, .slice ao n cap], .int .i64 i] w fun e w' => ∃ v, e = .returned v ∧ ownsR w' w.heap.size 3 v (sortI (t.after.map (atN ts))) ∧ Below w.heap.size w w' := by
  have HN : Hid (ts.length = n) := by
    obtain ⟨ao', cap', e⟩ := hr.slice
    injection e with _ e2 _
    exact e2.symm
  have HT : Hid (∀ W, Below w.heap.size w W → Tasks W (.slice ao n cap) ts) := fun W hb => hr.below hb
  have HTK : Hid (ts[i]? = some t) := ht
  have hin : i < n := by rw [← HN.out]; exact (List.getElem?_eq_some_iff.1 ht).1
  have HAT : Hid (∀ W s, Below w.heap.size w W → Calls Tryz.prog 33 #[.agg #[.string nm, .string cr, .int .i64 fr, .int .i64 up, .bool cu, .slice ao n cap], .string s] W fun e w' => e = .returned (.int .i64 (atN ts s)) ∧ Below W.heap.size W w') := fun W s hb => implTaskAt_any ao n cap nm cr fr up cu ts s W (HT.out W hb) hn
  clear hr ht
  obtain ⟨m, HM⟩ : ∃ m, Hid (t.after.length = m) := ⟨_, rfl⟩
  rw [HM.out] at hm
  obtain ⟨W1, hW1⟩ : ∃ W1, (w.alloc (.cells #[.string nm, .string cr, .int .i64 fr, .int .i64 up, .bool cu, .slice ao n cap] 26)).alloc (.cells #[] 3) = W1 := ⟨_, rfl⟩
  have HU : Hid (UpS w nm cr fr up cu (.slice ao n cap) W1 (.slice (some ⟨w.heap.size + 1, 0, none⟩) 0 0) [] (w.heap.size + 1)) := by
    rw [← hW1]
    refine ⟨ba (ba (Below.refl _ _) _) _, ?_, (P6.new _ _ _ _ _ _ _).on (ba (Below.refl _ _) _), rfl⟩
    have := ints_made (w.alloc (.cells #[.string nm, .string cr, .int .i64 fr, .int .i64 up, .bool cu, .slice ao n cap] 26)) w.heap.size (by simp)
    simpa using this
  have c5 := HU.out.dag.c5
  obtain ⟨b1, o1, av, e1, hb, -, -, -, -, c4w, hav⟩ := (HT.out w (Below.refl _ _)).at HTK.out
  subst e1
  obtain ⟨fo, fc, e2, -⟩ := id hav
  subst e2
  rw [HM.out] at c4w hav
  have c4 := (HU.out.bel.cell (World.block_lt_of_cell? _ _ c4w)).trans c4w
  have HRD : Hid (∀ W, Below w.heap.size w W → Reads W (.slice fo m fc) t.after) := fun W hb => hav.below hb
  clear hav c4w
  go_enter Tryz.func75, Tryz.ntmps75
  go_wp2
  clear hW1 c4 c5
  have HU0 : Hid (UpS w nm cr fr up cu (.slice (some ⟨b1, o1, none⟩) n cap) W1 (.slice (some ⟨w.heap.size + 1, 0, none⟩) 0 0) ((t.after.map (atN ts)).take 0) (w.heap.size + 1)) := HU
  clear HU
  go_loopw [5, 16] (fun v iv wr => ∃ (k g : Nat), k ≤ m ∧ iv = .int .i64 k ∧ Hid (UpS w nm cr fr up cu (.slice (some ⟨b1, o1, none⟩) n cap) wr v ((t.after.map (atN ts)).take k) g)) (fun _ iv _ => m - (intOf iv).toNat)
  case atStart => exact ⟨0, _, Nat.zero_le _, rfl, HU0⟩
  case round =>
    clear HU0
    obtain ⟨k, g, hk, rfl, HU⟩ := hrel
    obtain ⟨va, vc, ev⟩ := HU.out.own.slice
    subst ev
    have hlk : ((t.after.map (atN ts)).take k).length = k := by rw [List.length_take, List.length_map, HM.out]; omega
    by_cases hlt : k < m
    · obtain ⟨s, hs⟩ : ∃ s, t.after[k]? = some s := ⟨_, List.getElem?_eq_getElem (by rw [HM.out]; exact hlt)⟩
      obtain ⟨sb, so, e3, hsb, cs⟩ := text_at (HRD.out wr HU.out.bel) hs
      subst e3
      have HNX : Hid ((t.after.map (atN ts)).take (k + 1) = (t.after.map (atN ts)).take k ++ [atN ts s]) := take_map hs
      obtain ⟨L, HL⟩ : ∃ L, Hid ((t.after.map (atN ts)).take k = L) := ⟨_, rfl⟩
      rw [HL.out] at HU HNX hlk
      rw [HL.out]
      rw [hlk] at HU ⊢
      obtain ⟨z, HZ⟩ : ∃ z, Hid (atN ts s = z) := ⟨_, rfl⟩
      have H1 := HAT.out wr s HU.out.bel
      rw [HZ.out] at HNX H1
      clear hs
      have c0 := HU.out.dag.c0
      have c1 := HU.out.dag.c1
      have c2 := HU.out.dag.c2
      have c3 := HU.out.dag.c3
      have c4 := HU.out.dag.c4
      have c5 := HU.out.dag.c5
      go_wp2_with fail
      refine H1.mono ?_
      rintro e w1 ⟨rfl, hb1⟩
      have HV : Hid (∀ o, UpS w nm cr fr up cu (.slice (some ⟨b1, o1, none⟩) n cap) (w1.alloc o) (.slice va k vc) L g) := fun o => HU.out.onW (ba hb1 _)
      have hs1 : w.heap.size ≤ w1.heap.size := Nat.le_trans HU.out.bel.size hb1.size
      clear hb1 HU c0 c1 c2 c3 c4 c5 H1 cs
      go_wp2_with (at_builtin; refine append_recW _ w rfl (.tmp 20) (.tmp 24) 37 rfl w.heap.size 3 _ 8 underI info3 rfl _ L rfl (HV.out _).own (HV.out _).bel w1.heap.size 1 z rfl (cell_int (by simp [go_sem])) (by omega) (by decide) (by simp; omega) ?_; intro v4 w4 ho4 hb4 hg4 hl4)
      obtain ⟨g4, hu4⟩ := (HV.out _).more ho4 hg4 hl4
      rw [← HNX.out] at hu4
      have HU4 : Hid (UpS w nm cr fr up cu (.slice (some ⟨b1, o1, none⟩) n cap) w4 v4 ((t.after.map (atN ts)).take (k + 1)) g4) := hu4
      clear hu4 ho4 hb4 hg4 hl4 HV
      go_wp2
      go_roundw
      case rel => exact ⟨k + 1, g4, by omega, by go_num, HU4⟩
      case measure => simp [intOf]; omega
    · have HE : Hid ((t.after.map (atN ts)).take k = t.after.map (atN ts)) := List.take_of_length_le (by rw [List.length_map, HM.out]; omega)
      rw [HE.out] at HU hlk
      rw [HE.out]
      obtain ⟨c6, e6, -⟩ := some_at HU.out.own HU.out.lies
      injection e6 with e6 _ e7
      subst e6 e7
      obtain ⟨L, HL⟩ : ∃ L, Hid (t.after.map (atN ts) = L) := ⟨_, rfl⟩
      rw [HL.out] at HU hlk
      rw [HL.out]
      rw [hlk] at HU ⊢
      have HS : Hid (Calls Tryz.prog 79 #[.slice (some ⟨g, 0, none⟩) k vc] wr fun e w' => e = .returned (.tuple #[]) ∧ ownsR w' w.heap.size 3 (.slice (some ⟨g, 0, none⟩) k vc) (sortI L) ∧ Below w.heap.size w w') := by
        refine (sortN_any HU.out.own (by rw [hlk]; omega)).mono ?_
        rintro e w' ⟨rfl, h1, h2⟩
        exact ⟨rfl, h1, HU.out.bel.grown h2 HU.out.bel.size fun q hq => by cases hq; exact (own_low HU.out.own HU.out.lies).1⟩
      clear HU hlk
      go_wp2_with fail
      refine HS.out.mono ?_
      rintro e w5 ⟨rfl, h5, hb5⟩
      go_wp2
      go_ret
      exact ⟨_, rfl, by rw [HL.out]; exact h5, hb5⟩
/-- The places that a task of a plan is after. -/
def upsD (d : Dg) (i : Int) : List Int := if dagB d = true ∧ 0 ≤ i ∧ i < (d.tasks.length : Int) then upsA d.tasks i else []
set_option maxRecDepth 10000 in
set_option maxHeartbeats 4000000 in
theorem implUps_any (ao : Option Addr) (n cap : Nat) (nm cr : ByteArray) (fr up : Int) (cu : Bool) (ts : List Ta) (i : Int) (w : World) (hd : DagI w ao n cap ⟨nm, cr, fr, up, cu, ts⟩) (hg : Gl w) :
    Calls Tryz.prog 30 #[.agg #[.string nm, .string cr, .int .i64 fr, .int .i64 up, .bool cu, .slice ao n cap], .int .i64 i] w fun e w' => ∃ v, e = .returned v ∧ ownsR w' w.heap.size 3 v (upsD ⟨nm, cr, fr, up, cu, ts⟩ i) ∧ Below w.heap.size w w' := by
  obtain ⟨q, HQ⟩ : ∃ q, Hid (dagB ⟨nm, cr, fr, up, cu, ts⟩ = q) := ⟨_, rfl⟩
  have HD : Hid (∀ W, Below w.heap.size w W → Calls Tryz.prog 16 #[.agg #[.string nm, .string cr, .int .i64 fr, .int .i64 up, .bool cu, .slice ao n cap]] W fun e w' => e = .returned (.bool q) ∧ Below W.heap.size W w') := fun W hb => by
    have := implDagOk_any ao n cap nm cr fr up cu ts W (hd.below hb) (hg.up hb)
    rw [HQ.out] at this
    exact this
  have HN : Hid (ts.length = n) := by
    obtain ⟨ao', cap', e⟩ := hd.tasks.slice
    injection e with _ e2 _
    exact e2.symm
  have hnn : n ≤ 1048577 := hd.few
  have HRS : Hid (upsD ⟨nm, cr, fr, up, cu, ts⟩ i = if q = true ∧ 0 ≤ i ∧ i < (n : Int) then upsA ts i else []) := by
    show upsD _ _ = _
    unfold upsD
    rw [HQ.out]
    show (if q = true ∧ 0 ≤ i ∧ i < (ts.length : Int) then _ else _) = _
    rw [HN.out]
  obtain ⟨R, HR⟩ : ∃ R, Hid (upsD ⟨nm, cr, fr, up, cu, ts⟩ i = R) := ⟨_, rfl⟩
  rw [HR.out] at HRS ⊢
  have HUP : Hid (∀ W, q = true → 0 ≤ i → i < (n : Int) → Below w.heap.size w W → Calls Tryz.prog 75 #[.agg #[.string nm, .string cr, .int .i64 fr, .int .i64 up, .bool cu, .slice ao n cap], .int .i64 i] W fun e w' => ∃ v, e = .returned v ∧ ownsR w' W.heap.size 3 v (upsA ts i) ∧ Below W.heap.size W w') := fun W hq h0 h1 hb => by
    have hrg := rg_of (HQ.out.trans hq)
    obtain ⟨t, ht⟩ : ∃ t, ts[i.toNat]? = some t := ⟨_, List.getElem?_eq_getElem (by rw [HN.out]; omega)⟩
    have h2 := upsIn_any ao n cap nm cr fr up cu ts i.toNat t W (hd.tasks.below hb) hnn ht (hd.small t (List.mem_of_getElem? ht)).few
    have h3 := ups_sort hrg (t := t) (List.mem_of_getElem? ht)
    have e : ((i.toNat : Nat) : Int) = i := by omega
    rw [h3, e] at h2
    have e4 : upsA ts i = upsC ts t.after := by
      unfold upsA
      rw [← e, af_at ht]
    rw [e4]
    exact h2
  clear hd hg HQ HR
  obtain ⟨W1, hW1⟩ : ∃ W1, w.alloc (.cells #[.string nm, .string cr, .int .i64 fr, .int .i64 up, .bool cu, .slice ao n cap] 26) = W1 := ⟨_, rfl⟩
  have Z1 : P6 W1 w.heap.size nm cr fr up cu (.slice ao n cap) := by rw [← hW1]; exact P6.new _ _ _ _ _ _ _
  have B1 : Below w.heap.size w W1 := by rw [← hW1]; exact ba (Below.refl _ _) _
  have HE : Hid (∀ W, Below w.heap.size w W → ownsR (W.alloc (.cells #[] 3)) w.heap.size 3 (.slice (some ⟨W.heap.size, 0, none⟩) 0 0) ([] : List Int)) := fun W hb => ints_made W w.heap.size hb.size
  by_cases h0 : 0 ≤ i
  case neg =>
    have HF : Hid (R = []) := HRS.out.trans (if_neg (by omega))
    have h0' : decide (i < 0) = true := decide_eq_true (by omega)
    rw [HF.out]
    go_enter Tryz.func30, Tryz.ntmps30
    go_wp2
    go_ret
    exact ⟨_, rfl, HE.out _ B1, ba B1 _⟩
  have h0' : decide (i < 0) = false := decide_eq_false (by omega)
  have c5 := Z1.c5
  by_cases h1 : i < (n : Int)
  case neg =>
    have HF : Hid (R = []) := HRS.out.trans (if_neg (by omega))
    have h1' : decide ((n : Int) ≤ i) = true := decide_eq_true (by omega)
    rw [HF.out]
    go_enter Tryz.func30, Tryz.ntmps30
    go_wp2
    go_ret
    exact ⟨_, rfl, HE.out _ B1, ba B1 _⟩
  have h1' : decide ((n : Int) ≤ i) = false := decide_eq_false (by omega)
  have c0 := Z1.c0
  have c1 := Z1.c1
  have c2 := Z1.c2
  have c3 := Z1.c3
  have c4 := Z1.c4
  cases q with
  | false =>
    have HF : Hid (R = []) := HRS.out.trans (if_neg (by simp))
    rw [HF.out]
    go_enter Tryz.func30, Tryz.ntmps30
    go_wp2_with fail
    refine (HD.out _ B1).mono ?_
    rintro e w2 ⟨rfl, hb2⟩
    have B2 := Below.on B1 hb2
    clear hb2 c0 c1 c2 c3 c4 c5
    go_wp2
    go_ret
    exact ⟨_, rfl, HE.out _ B2, ba B2 _⟩
  | true =>
    have HF : Hid (R = upsA ts i) := HRS.out.trans (if_pos ⟨rfl, h0, h1⟩)
    rw [HF.out]
    go_enter Tryz.func30, Tryz.ntmps30
    go_wp2_with fail
    refine (HD.out _ B1).mono ?_
    rintro e w2 ⟨rfl, hb2⟩
    have Z2 := Z1.on hb2
    have B2 := Below.on B1 hb2
    clear hb2 c0 c1 c2 c3 c4 c5 Z1
    have c0 := Z2.c0
    have c1 := Z2.c1
    have c2 := Z2.c2
    have c3 := Z2.c3
    have c4 := Z2.c4
    have c5 := Z2.c5
    go_wp2_with fail
    refine (HUP.out _ (by first | rfl | trivial) h0 h1 B2).mono ?_
    rintro e w3 ⟨v3, rfl, ho3, hb3⟩
    have o3 := ho3.mono B2.size
    have B3 := Below.on B2 hb3
    obtain ⟨a3, c3', e3⟩ := o3.slice
    subst e3
    clear ho3 hb3
    go_wp2
    go_ret
    exact ⟨_, rfl, o3, B3⟩
end Go.Proofs.YteefacjjdalncaaGreatDoor

namespace Go.Proofs.YteefacjjdalncaaGreatDoor
open Go Go.RowKit
set_option linter.unusedVariables false

theorem rg_few {ts : List Ta} (hr : Rg4 ts) {t : Ta} (ht : t ∈ ts) : t.after.length ≤ 4 := by
  have h := nodup_sub_len (M := four) (at_nodup t.after (hr.once t ht) (hr.lies t ht)) fun x hx => by
    obtain ⟨s, hs, rfl⟩ := List.mem_map.1 hx
    obtain ⟨j, u, hj, _, ha⟩ := at_find (hr.lies t ht s hs)
    have h1 := (List.getElem?_eq_some_iff.1 hj).1
    have h2 := hr.few
    rw [ha]
    exact four_mem (by omega) (by omega)
  rw [List.length_map] at h
  exact h
set_option maxRecDepth 10000 in
set_option maxHeartbeats 4000000 in
theorem l13Ups_any (ao : Option Addr) (n cap : Nat) (nm cr : ByteArray) (fr up : Int) (cu : Bool) (ts : List Ta) (i : Nat) (t : Ta) (w : World) (hr : Tasks w (.slice ao n cap) ts) (hn : n ≤ 4) (ht : ts[i]? = some t) (hm : t.after.length ≤ 4) :
    Calls Tryz.prog 80 #[.agg #[.string nm, .string cr, .int .i64 fr, .int .i64 up, .bool cu, .slice ao n cap], .int .i64 i] w fun e w' => ∃ v, e = .returned v ∧ ownsR w' w.heap.size 3 v (upsS ts t.after) ∧ Below w.heap.size w w' := by
  have HN : Hid (ts.length = n) := by
    obtain ⟨ao', cap', e⟩ := hr.slice
    injection e with _ e2 _
    exact e2.symm
  have HT : Hid (∀ W, Below w.heap.size w W → Tasks W (.slice ao n cap) ts) := fun W hb => hr.below hb
  have HTK : Hid (ts[i]? = some t) := ht
  have hin : i < n := by rw [← HN.out]; exact (List.getElem?_eq_some_iff.1 ht).1
  clear hr ht
  obtain ⟨m, HM⟩ : ∃ m, Hid (t.after.length = m) := ⟨_, rfl⟩
  rw [HM.out] at hm
  obtain ⟨W1, hW1⟩ : ∃ W1, (w.alloc (.cells #[.string nm, .string cr, .int .i64 fr, .int .i64 up, .bool cu, .slice ao n cap] 26)).alloc (.cells #[] 3) = W1 := ⟨_, rfl⟩
  have HU : Hid (UpS w nm cr fr up cu (.slice ao n cap) W1 (.slice (some ⟨w.heap.size + 1, 0, none⟩) 0 0) [] (w.heap.size + 1)) := by
    rw [← hW1]
    refine ⟨ba (ba (Below.refl _ _) _) _, ?_, (P6.new _ _ _ _ _ _ _).on (ba (Below.refl _ _) _), rfl⟩
    have := ints_made (w.alloc (.cells #[.string nm, .string cr, .int .i64 fr, .int .i64 up, .bool cu, .slice ao n cap] 26)) w.heap.size (by simp)
    simpa using this
  obtain ⟨b1, o1, av, e1, hb, -, -, -, -, c4w, hav⟩ := (HT.out w (Below.refl _ _)).at HTK.out
  subst e1
  obtain ⟨fo, fc, e2, -⟩ := id hav
  subst e2
  rw [HM.out] at c4w hav
  have HC4 : Hid (∀ W, Below w.heap.size w W → W.cell? ⟨b1, o1 + i * 5 + 4, none⟩ = some (.slice fo m fc)) := fun W hb => (hb.cell (World.block_lt_of_cell? _ _ c4w)).trans c4w
  have HRD : Hid (∀ W, Below w.heap.size w W → Reads W (.slice fo m fc) t.after) := fun W hb => hav.below hb
  clear hav c4w
  obtain ⟨R, HR⟩ : ∃ R, Hid (upsS ts t.after = R) := ⟨_, rfl⟩
  rw [HR.out]
  go_enter Tryz.func80, Tryz.ntmps80
  go_wp2
  clear hW1
  go_loopw [5, 6] (fun v kv wr => ∃ (k g : Nat) (E : List Int), k ≤ n ∧ kv = .int .i64 k ∧ E.length ≤ 4 * k ∧ Hid (R = E ++ upsG t.after k (ts.drop k)) ∧ Hid (UpS w nm cr fr up cu (.slice (some ⟨b1, o1, none⟩) n cap) wr v E g)) (fun _ kv _ => n - (intOf kv).toNat)
  case atStart => exact ⟨0, _, [], Nat.zero_le _, rfl, Nat.le_refl _, (by show R = [] ++ upsG t.after 0 (ts.drop 0); rw [← HR.out]; rfl), HU⟩
  case round =>
    clear HU
    obtain ⟨k, g, E, hk, rfl, hE, HE, HU⟩ := hrel
    have c5 := HU.out.dag.c5
    by_cases hlt : k < n
    · obtain ⟨u, hu⟩ : ∃ u, ts[k]? = some u := ⟨_, List.getElem?_eq_getElem (by rw [HN.out]; exact hlt)⟩
      have HUK : Hid (ts[k]? = some u) := hu
      have HE1 : Hid (R = E ++ (upK u.name k (t.after.drop 0) ++ upsG t.after (k + 1) (ts.drop (k + 1)))) := by show R = _; rw [List.drop_zero, HE.out, upsG_at hu]
      have HUP := HU
      clear hu HE HU
      go_wp2
      clear c5
      go_loopw [5, 7] (fun v jv wr => ∃ (j g : Nat) (E : List Int), j ≤ m ∧ jv = .int .i64 j ∧ E.length ≤ 4 * k + j ∧ Hid (R = E ++ (upK u.name k (t.after.drop j) ++ upsG t.after (k + 1) (ts.drop (k + 1)))) ∧ Hid (UpS w nm cr fr up cu (.slice (some ⟨b1, o1, none⟩) n cap) wr v E g)) (fun _ jv _ => m - (intOf jv).toNat)
      case atStart => exact ⟨0, g, E, Nat.zero_le _, rfl, hE, HE1, HUP⟩
      case round =>
        clear HE1 HUP hE
        obtain ⟨j, g, E, hj, rfl, hE, HE, HU⟩ := hrel
        have c5 := HU.out.dag.c5
        have c4 := HC4.out wr HU.out.bel
        by_cases hjm : j < m
        · obtain ⟨s, hs⟩ : ∃ s, t.after[j]? = some s := ⟨_, List.getElem?_eq_getElem (by rw [HM.out]; exact hjm)⟩
          obtain ⟨sb, so, e3, hsb, cs⟩ := text_at (HRD.out wr HU.out.bel) hs
          subst e3
          obtain ⟨b2, o2, av2, e2, -, n0, -, -, -, -, -⟩ := (HT.out wr HU.out.bel).at HUK.out
          injection e2 with e2
          injection e2 with e2 e3 _
          subst e2 e3
          have HS : Hid (R = E ++ ((if s = u.name then (k : Int) :: upK u.name k (t.after.drop (j + 1)) else upK u.name k (t.after.drop (j + 1))) ++ upsG t.after (k + 1) (ts.drop (k + 1)))) := by show R = _; rw [HE.out, upK_at hs]
          clear hs HE
          have q1 := Wd.cell c5
          have q2 := Wd.cell c4
          have q3 := Wd.cell cs
          have q4 := Wd.cell n0
          obtain ⟨va, vc, ev⟩ := HU.out.own.slice
          subst ev
          obtain ⟨el, HEL⟩ : ∃ el, Hid (E.length = el) := ⟨_, rfl⟩
          rw [HEL.out] at hE HU
          rw [HEL.out]
          by_cases hq : s = u.name
          · have HF : Hid (R = (E ++ [(k : Int)]) ++ (upK u.name k (t.after.drop (j + 1)) ++ upsG t.after (k + 1) (ts.drop (k + 1)))) := by show R = _; rw [HS.out, if_pos hq]; simp
            have hq2 := eq_list hq
            clear hq HS
            go_wp2
            refine wp_region_wd (by kernel_rfl) (by kernel_rfl) ?_
            repeat (go_big_quiet_step (fail))
            refine wpQuiet_nil ?_
            rintro _ ⟨x, rfl⟩
            obtain ⟨V, hV⟩ : ∃ V, x.at' = V := ⟨_, rfl⟩
            have HV : Hid (∀ o, UpS w nm cr fr up cu (.slice (some ⟨b1, o1, none⟩) n cap) (V.alloc o) (.slice va el vc) E g) := fun o => by rw [← hV]; exact HU.out.onW (ba x.ok _)
            have hs1 : w.heap.size ≤ V.heap.size := by rw [← hV]; exact Nat.le_trans HU.out.bel.size x.ok.size
            rw [hV]
            clear hV HU c5 c4 cs n0 q1 q2 q3 q4
            go_wp2_with (at_builtin; refine append_recW _ w rfl (.tmp 43) (.tmp 45) 37 rfl w.heap.size 3 _ 8 underI info3 rfl _ E rfl (HV.out _).own (HV.out _).bel V.heap.size 1 (k : Int) rfl (cell_int (by simp [go_sem])) (by rw [HEL.out]; omega) (by decide) (by simp; omega) ?_; intro v4 w4 ho4 hb4 hg4 hl4)
            obtain ⟨g4, hu4⟩ := (HV.out _).more ho4 hg4 hl4
            have HU4 : Hid (UpS w nm cr fr up cu (.slice (some ⟨b1, o1, none⟩) n cap) w4 v4 (E ++ [(k : Int)]) g4) := hu4
            clear hu4 ho4 hb4 hg4 hl4 HV
            go_wp2
            go_roundw
            case rel => exact ⟨j + 1, g4, _, by omega, by go_num, (by rw [List.length_append, HEL.out]; show el + 1 ≤ _; omega), HF, HU4⟩
            case measure => simp [intOf]; omega
          · have HF : Hid (R = E ++ (upK u.name k (t.after.drop (j + 1)) ++ upsG t.after (k + 1) (ts.drop (k + 1)))) := by show R = _; rw [HS.out, if_neg hq]
            have hq2 := ne_list hq
            clear hq HS
            go_wp2
            refine wp_region_wd (by kernel_rfl) (by kernel_rfl) ?_
            repeat (go_big_quiet_step (fail))
            refine wpQuiet_nil ?_
            rintro _ ⟨x, rfl⟩
            have HU4 : Hid (UpS w nm cr fr up cu (.slice (some ⟨b1, o1, none⟩) n cap) x.at' (.slice va el vc) E g) := HU.out.onW x.ok
            clear c5 c4 cs n0 q1 q2 q3 q4
            go_wp2
            go_roundw
            case rel => exact ⟨j + 1, g, E, by omega, by go_num, (by rw [HEL.out]; omega), HF, HU4⟩
            case measure => simp [intOf]; omega
        · have HF : Hid (R = E ++ upsG t.after (k + 1) (ts.drop (k + 1))) := by show R = _; rw [HE.out, upK_end (by rw [HM.out]; omega), List.nil_append]
          go_wp2
          go_roundw
          case rel => exact ⟨k + 1, g, E, by omega, by go_num, by omega, HF, HU⟩
          case measure => simp [intOf]; omega
    · have HF : Hid (E = R) := by show E = R; rw [HE.out, upsG_end (by rw [HN.out]; omega), List.append_nil]
      obtain ⟨va, vc, ev⟩ := HU.out.own.slice
      subst ev
      have HO : Hid (ownsR wr w.heap.size 3 (.slice va E.length vc) R ∧ Below w.heap.size w wr) := ⟨by rw [← HF.out]; exact HU.out.own, HU.out.bel⟩
      clear HU HE
      go_wp2
      go_ret
      exact ⟨_, rfl, HO.out⟩
set_option maxRecDepth 10000 in
set_option maxHeartbeats 2000000 in
theorem specOrder_any (ao : Option Addr) (n cap : Nat) (nm cr : ByteArray) (fr up : Int) (cu : Bool) (ts : List Ta) (w : World) (hd : DagAt w (.slice ao n cap) ⟨nm, cr, fr, up, cu, ts⟩) :
    Calls Tryz.prog 29 #[.agg #[.string nm, .string cr, .int .i64 fr, .int .i64 up, .bool cu, .slice ao n cap]] w fun e w' => ∃ v, e = .returned v ∧ ownsR w' w.heap.size 3 v (ordC ⟨nm, cr, fr, up, cu, ts⟩) ∧ Below w.heap.size w w' := by
  obtain ⟨q, HQ⟩ : ∃ q, Hid (dagB ⟨nm, cr, fr, up, cu, ts⟩ = q) := ⟨_, rfl⟩
  have HD : Hid (∀ W, Below w.heap.size w W → Calls Tryz.prog 15 #[.agg #[.string nm, .string cr, .int .i64 fr, .int .i64 up, .bool cu, .slice ao n cap]] W fun e w' => e = .returned (.bool q) ∧ Below W.heap.size W w') := fun W hb => by
    have := dagOk_try _ nm cr fr up cu ts W (hd.below hb)
    rw [HQ.out] at this
    exact this
  have HO : Hid (∀ W, Below w.heap.size w W → q = true → Calls Tryz.prog 60 #[.slice ao n cap] W fun e w' => ∃ v', e = .returned v' ∧ ownsR w' W.heap.size 3 v' (orderL ts) ∧ Below W.heap.size W w') := fun W hb hq => by
    have h4 := (rg_of (HQ.out.trans hq)).few
    exact l12Order_any (hd.tasks.below hb) (Nat.le_trans h4 (by decide)) fun t ht => (hd.small t ht).1
  have HC : Hid (ordC ⟨nm, cr, fr, up, cu, ts⟩ = if q = true then orderL ts else []) := by show ordC _ = _; unfold ordC; rw [HQ.out]
  rw [HC.out]
  clear hd HQ HC
  obtain ⟨W1, hW1⟩ : ∃ W1, w.alloc (.cells #[.string nm, .string cr, .int .i64 fr, .int .i64 up, .bool cu, .slice ao n cap] 26) = W1 := ⟨_, rfl⟩
  have Z1 : P6 W1 w.heap.size nm cr fr up cu (.slice ao n cap) := by rw [← hW1]; exact P6.new _ _ _ _ _ _ _
  have B1 : Below w.heap.size w W1 := by rw [← hW1]; exact ba (Below.refl _ _) _
  have c0 := Z1.c0
  have c1 := Z1.c1
  have c2 := Z1.c2
  have c3 := Z1.c3
  have c4 := Z1.c4
  have c5 := Z1.c5
  have HE : Hid (∀ W, Below w.heap.size w W → ownsR (W.alloc (.cells #[] 3)) w.heap.size 3 (.slice (some ⟨W.heap.size, 0, none⟩) 0 0) ([] : List Int)) := fun W hb => ints_made W w.heap.size hb.size
  cases q with
  | false =>
    go_enter Tryz.func29, Tryz.ntmps29
    go_wp2_with fail
    refine (HD.out _ B1).mono ?_
    rintro e w2 ⟨rfl, hb2⟩
    have B2 := Below.on B1 hb2
    clear hb2 c0 c1 c2 c3 c4 c5
    go_wp2
    go_ret
    exact ⟨_, rfl, HE.out _ B2, ba B2 _⟩
  | true =>
    go_enter Tryz.func29, Tryz.ntmps29
    go_wp2_with fail
    refine (HD.out _ B1).mono ?_
    rintro e w2 ⟨rfl, hb2⟩
    have Z2 := Z1.on hb2
    have B2 := Below.on B1 hb2
    clear hb2 c0 c1 c2 c3 c4 c5 Z1
    have c5 := Z2.c5
    go_wp2_with fail
    refine (HO.out _ B2 (by first | rfl | trivial)).mono ?_
    rintro e w3 ⟨v3, rfl, ho3, hb3⟩
    have o3 := ho3.mono B2.size
    have B3 := Below.on B2 hb3
    obtain ⟨a3, c3', e3⟩ := o3.slice
    subst e3
    clear ho3 hb3
    go_wp2
    go_ret
    exact ⟨_, rfl, o3, B3⟩
set_option maxRecDepth 10000 in
set_option maxHeartbeats 4000000 in
theorem specUps_any (ao : Option Addr) (n cap : Nat) (nm cr : ByteArray) (fr up : Int) (cu : Bool) (ts : List Ta) (i : Int) (w : World) (hd : DagAt w (.slice ao n cap) ⟨nm, cr, fr, up, cu, ts⟩) :
    Calls Tryz.prog 44 #[.agg #[.string nm, .string cr, .int .i64 fr, .int .i64 up, .bool cu, .slice ao n cap], .int .i64 i] w fun e w' => ∃ v, e = .returned v ∧ ownsR w' w.heap.size 3 v (upsD ⟨nm, cr, fr, up, cu, ts⟩ i) ∧ Below w.heap.size w w' := by
  obtain ⟨q, HQ⟩ : ∃ q, Hid (dagB ⟨nm, cr, fr, up, cu, ts⟩ = q) := ⟨_, rfl⟩
  have HD : Hid (∀ W, Below w.heap.size w W → Calls Tryz.prog 15 #[.agg #[.string nm, .string cr, .int .i64 fr, .int .i64 up, .bool cu, .slice ao n cap]] W fun e w' => e = .returned (.bool q) ∧ Below W.heap.size W w') := fun W hb => by
    have := dagOk_try _ nm cr fr up cu ts W (hd.below hb)
    rw [HQ.out] at this
    exact this
  have HN : Hid (ts.length = n) := by
    obtain ⟨ao', cap', e⟩ := hd.tasks.slice
    injection e with _ e2 _
    exact e2.symm
  have hnn : n ≤ 1048577 := by rw [← HN.out]; exact hd.few
  have HRS : Hid (upsD ⟨nm, cr, fr, up, cu, ts⟩ i = if q = true ∧ 0 ≤ i ∧ i < (n : Int) then upsA ts i else []) := by
    show upsD _ _ = _
    unfold upsD
    rw [HQ.out]
    show (if q = true ∧ 0 ≤ i ∧ i < (ts.length : Int) then _ else _) = _
    rw [HN.out]
  obtain ⟨R, HR⟩ : ∃ R, Hid (upsD ⟨nm, cr, fr, up, cu, ts⟩ i = R) := ⟨_, rfl⟩
  rw [HR.out] at HRS ⊢
  have HUP : Hid (∀ W, q = true → 0 ≤ i → i < (n : Int) → Below w.heap.size w W → Calls Tryz.prog 80 #[.agg #[.string nm, .string cr, .int .i64 fr, .int .i64 up, .bool cu, .slice ao n cap], .int .i64 i] W fun e w' => ∃ v, e = .returned v ∧ ownsR w' W.heap.size 3 v (upsA ts i) ∧ Below W.heap.size W w') := fun W hq h0 h1 hb => by
    have hrg := rg_of (HQ.out.trans hq)
    obtain ⟨t, ht⟩ : ∃ t, ts[i.toNat]? = some t := ⟨_, List.getElem?_eq_getElem (by rw [HN.out]; omega)⟩
    have hm := List.mem_of_getElem? ht
    have h2 := l13Ups_any ao n cap nm cr fr up cu ts i.toNat t W (hd.tasks.below hb) (by rw [← HN.out]; exact hrg.few) ht (rg_few hrg hm)
    have h3 := ups_spec hrg hm
    have e : ((i.toNat : Nat) : Int) = i := by omega
    rw [h3, e] at h2
    have e4 : upsA ts i = upsC ts t.after := by
      unfold upsA
      rw [← e, af_at ht]
    rw [e4]
    exact h2
  have HIN : Hid (∀ W, Calls Tryz.prog 58 #[.int .i64 i, .int .i64 0, .int .i64 ((n : Int) - 1)] W fun e w' => e = .returned (.bool (decide (0 ≤ i ∧ i < (n : Int)))) ∧ w' = W) := fun W => by
    have := in_any i 0 ((n : Int) - 1) W
    have e : (decide (0 ≤ i) && decide (i ≤ (n : Int) - 1)) = decide (0 ≤ i ∧ i < (n : Int)) := by
      rw [← Bool.decide_and]
      exact decide_eq_decide.2 ⟨fun h => ⟨h.1, by omega⟩, fun h => ⟨h.1, by omega⟩⟩
    rw [e] at this
    exact this
  clear hd HQ HR
  obtain ⟨W1, hW1⟩ : ∃ W1, (w.alloc (.cells #[.string nm, .string cr, .int .i64 fr, .int .i64 up, .bool cu, .slice ao n cap] 26)).alloc (.cells #[] 3) = W1 := ⟨_, rfl⟩
  have Z1 : P6 W1 w.heap.size nm cr fr up cu (.slice ao n cap) := by rw [← hW1]; exact (P6.new _ _ _ _ _ _ _).on (ba (Below.refl _ _) _)
  have B1 : Below w.heap.size w W1 := by rw [← hW1]; exact ba (ba (Below.refl _ _) _) _
  have HO1 : Hid (ownsR W1 w.heap.size 3 (.slice (some ⟨w.heap.size + 1, 0, none⟩) 0 0) ([] : List Int)) := by
    show ownsR _ _ _ _ _
    rw [← hW1]
    have := ints_made (w.alloc (.cells #[.string nm, .string cr, .int .i64 fr, .int .i64 up, .bool cu, .slice ao n cap] 26)) w.heap.size (by simp)
    simpa using this
  have c0 := Z1.c0
  have c1 := Z1.c1
  have c2 := Z1.c2
  have c3 := Z1.c3
  have c4 := Z1.c4
  have c5 := Z1.c5
  cases q with
  | false =>
    have HF : Hid (R = []) := HRS.out.trans (if_neg (by simp))
    rw [HF.out]
    go_enter Tryz.func44, Tryz.ntmps44
    go_wp2_with fail
    refine (HD.out _ B1).mono ?_
    rintro e w2 ⟨rfl, hb2⟩
    have B2 := Below.on B1 hb2
    have o2 := HO1.out.all hb2
    clear hb2 c0 c1 c2 c3 c4 c5
    go_wp2
    go_ret
    exact ⟨_, rfl, o2, B2⟩
  | true =>
    go_enter Tryz.func44, Tryz.ntmps44
    go_wp2_with fail
    refine (HD.out _ B1).mono ?_
    rintro e w2 ⟨rfl, hb2⟩
    have Z2 := Z1.on hb2
    have B2 := Below.on B1 hb2
    have o2 := HO1.out.all hb2
    clear hb2 c0 c1 c2 c3 c4 c5 Z1
    have c0 := Z2.c0
    have c1 := Z2.c1
    have c2 := Z2.c2
    have c3 := Z2.c3
    have c4 := Z2.c4
    have c5 := Z2.c5
    by_cases hi : 0 ≤ i ∧ i < (n : Int)
    · have HF : Hid (R = upsA ts i) := HRS.out.trans (if_pos ⟨by first | rfl | trivial, hi⟩)
      rw [decide_eq_true hi] at HIN
      go_wp2_with fail
      refine (HIN.out _).mono ?_
      rintro e w3 ⟨rfl, hw⟩
      have hw2 := hw.symm
      subst hw2
      go_wp2_with fail
      refine (HUP.out _ (by first | rfl | trivial) hi.1 hi.2 B2).mono ?_
      rintro e w3 ⟨v3, rfl, ho3, hb3⟩
      have o3 := ho3.mono B2.size
      have B3 := Below.on B2 hb3
      obtain ⟨a3, c3', e3⟩ := o3.slice
      subst e3
      clear ho3 hb3
      go_wp2
      go_ret
      exact ⟨_, rfl, by rw [HF.out]; exact o3, B3⟩
    · have HF : Hid (R = []) := HRS.out.trans (if_neg (fun h => hi h.2))
      rw [decide_eq_false hi] at HIN
      go_wp2_with fail
      refine (HIN.out _).mono ?_
      rintro e w3 ⟨rfl, hw⟩
      have hw2 := hw.symm
      subst hw2
      go_wp2
      go_ret
      exact ⟨_, rfl, by rw [HF.out]; exact o2, B2⟩
end Go.Proofs.YteefacjjdalncaaGreatDoor
