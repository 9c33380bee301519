/-
  How high a plan is, as the program reckons it: plain facts and the walk. How high a plan is, as the specification reckons it: plain facts and the walk.
-/
import Derived.Test.YteefacjjdalncaaGreatDoorC7
namespace Go.Proofs.YteefacjjdalncaaGreatDoor
open Go Go.RowKit
set_option linter.unusedVariables false

/-- The most of what a place is after. -/
def hpF (H : List Int) (m u : Int) : Int := if m < H.getD u.toNat 0 then H.getD u.toNat 0 else m
def hpM (H : List Int) (a : Int) (l : List Int) : Int := l.foldl (hpF H) (H.getD a.toNat 0)
def hpS (ts : List Ta) (p : List Int × Int) (a : Int) : List Int × Int := (p.1.set a.toNat (hpM p.1 a (upsA ts a) + 1), if p.2 < hpM p.1 a (upsA ts a) + 1 then hpM p.1 a (upsA ts a) + 1 else p.2)
def hpL (ts : List Ta) (O : List Int) : Int := (O.foldl (hpS ts) ([0, 0, 0, 0], 0)).2
theorem fold_at {α β : Type} {f : β → α → β} {l : List α} {k : Nat} {x : α} {b : β} (h : l[k]? = some x) : (l.drop k).foldl f b = (l.drop (k + 1)).foldl f (f b x) := by
  obtain ⟨hk, rfl⟩ := List.getElem?_eq_some_iff.1 h
  rw [List.drop_eq_getElem_cons hk]
  rfl
theorem fold_end {α β : Type} {f : β → α → β} {l : List α} {k : Nat} {b : β} (h : l.length ≤ k) : (l.drop k).foldl f b = b := by
  rw [List.drop_of_length_le h]
  rfl
/-- What lies there while heights are reckoned. -/
structure HtS (w : World) (nm cr : ByteArray) (fr up : Int) (cu : Bool) (tv : Value) (bh : Nat) (ov : Value) (O : List Int) (W : World) (H : List Int) : Prop where
  bel : Below w.heap.size w W
  dag : P6 W w.heap.size nm cr fr up cu tv
  hts : N4 W bh H
  ord : ownsR W w.heap.size 3 ov O
  lob : w.heap.size ≤ bh
section
variable {w W W' : World} {nm cr : ByteArray} {fr up : Int} {cu : Bool} {tv ov : Value} {bh : Nat} {O H : List Int}
theorem HtS.onW (h : HtS w nm cr fr up cu tv bh ov O W H) (hb : Below W.heap.size W W') : HtS w nm cr fr up cu tv bh ov O W' H := ⟨Below.on h.bel hb, h.dag.on hb, h.hts.up hb, h.ord.all hb, h.lob⟩
theorem HtS.put (h : HtS w nm cr fr up cu tv bh ov O W H) (i : Nat) (x : Int) : HtS w nm cr fr up cu tv bh ov O (W.setCell ⟨bh, i, none⟩ (.int .i64 x)) (H.set i x) := by
  have hbk : ∀ k, k ≠ bh → (W.setCell ⟨bh, i, none⟩ (.int .i64 x)).heap[k]? = W.heap[k]? := fun k hk => heap_setCell_other W ⟨bh, i, none⟩ k _ hk
  refine ⟨h.bel.setCell (p := ⟨bh, i, none⟩) h.lob _, (hbk _ (not_same h.dag h.hts (by decide))).trans h.dag, h.hts.set i x, h.ord.keep fun k hk => hbk k ?_, h.lob⟩
  exact fun e => not_own h.ord h.hts (by decide) (e ▸ hk)
theorem HtS.row (h : HtS w nm cr fr up cu tv bh ov O W H) {B : Nat} {v : Value} {U : List Int} (hu : ownsR W B 3 v U) (i : Nat) (x : Value) : ownsR (W.setCell ⟨bh, i, none⟩ x) B 3 v U :=
  hu.keep fun k hk => heap_setCell_other W ⟨bh, i, none⟩ k _ fun e => not_own hu h.hts (by decide) (by rw [hk]; exact congrArg some e)
end
theorem hpF_bd {H : List Int} {k m u : Int} (hH : ∀ x ∈ H, 0 ≤ x ∧ x ≤ k) (hk : 0 ≤ k) (h0 : 0 ≤ m) (h1 : m ≤ k) : 0 ≤ hpF H m u ∧ hpF H m u ≤ k := by
  have hg : 0 ≤ H.getD u.toNat 0 ∧ H.getD u.toNat 0 ≤ k := by
    rw [List.getD_eq_getElem?_getD]
    cases hq : H[u.toNat]? with
    | none => exact ⟨Int.le_refl _, hk⟩
    | some x => exact hH x (List.mem_of_getElem? hq)
  unfold hpF
  split
  · exact hg
  · exact ⟨h0, h1⟩
theorem getD_bd {H : List Int} {k : Int} (hH : ∀ x ∈ H, 0 ≤ x ∧ x ≤ k) (hk : 0 ≤ k) (i : Nat) : 0 ≤ H.getD i 0 ∧ H.getD i 0 ≤ k := by
  rw [List.getD_eq_getElem?_getD]
  cases hq : H[i]? with
  | none => exact ⟨Int.le_refl _, hk⟩
  | some x => exact hH x (List.mem_of_getElem? hq)
theorem hpM_bd {H : List Int} {k : Int} (hH : ∀ x ∈ H, 0 ≤ x ∧ x ≤ k) (hk : 0 ≤ k) : ∀ (l : List Int) (m : Int), 0 ≤ m → m ≤ k → 0 ≤ l.foldl (hpF H) m ∧ l.foldl (hpF H) m ≤ k
  | [], m, h0, h1 => ⟨h0, h1⟩
  | u :: l, m, h0, h1 => by
    have h := hpF_bd (u := u) hH hk h0 h1
    exact hpM_bd hH hk l _ h.1 h.2
theorem set_bd {H : List Int} {k : Int} (hH : ∀ x ∈ H, 0 ≤ x ∧ x ≤ k) {i : Nat} {y : Int} (h0 : 0 ≤ y) (h1 : y ≤ k + 1) : ∀ x ∈ H.set i y, 0 ≤ x ∧ x ≤ k + 1 := fun x hx => by
  rcases List.mem_or_eq_of_mem_set hx with h | rfl
  · have := hH x h; omega
  · exact ⟨h0, h1⟩
/-- A place that a right plan's task is after. -/
theorem upsA_pl {ts : List Ta} (hr : Rg4 ts) {j : Nat} {t : Ta} (ht : ts[j]? = some t) : ∀ u ∈ upsA ts (j : Int), ∃ x : Nat, u = (x : Int) ∧ x < 4 ∧ x ≠ j := fun u hu => by
  have htm := List.mem_of_getElem? ht
  unfold upsA at hu
  rw [af_at ht] at hu
  obtain ⟨s, hs, e⟩ := (upsC_mem hr.own (hr.lies t htm)).1 hu
  obtain ⟨x, v, hx, e1, ha⟩ := at_find (hr.lies t htm s hs)
  refine ⟨x, by omega, by have := (List.getElem?_eq_some_iff.1 hx).1; have := hr.few; omega, fun exj => ?_⟩
  subst exj
  rw [ht] at hx
  cases hx
  exact hr.self t htm (e1 ▸ hs)
set_option maxRecDepth 10000 in
set_option maxHeartbeats 4000000 in
theorem implHeight_any (ao : Option Addr) (n cap : Nat) (nm cr : ByteArray) (fr up : Int) (cu : Bool) (ts : List Ta) (w : World) (hd : DagI w ao n cap ⟨nm, cr, fr, up, cu, ts⟩) (hg : Gl w) :
    Calls Tryz.prog 34 #[.agg #[.string nm, .string cr, .int .i64 fr, .int .i64 up, .bool cu, .slice ao n cap]] w fun e w' => e = .returned (.int .i64 (hpL ts (ordC ⟨nm, cr, fr, up, cu, ts⟩))) ∧ Below w.heap.size w w' := by
  obtain ⟨O, HOO⟩ : ∃ O, Hid (ordC ⟨nm, cr, fr, up, cu, ts⟩ = O) := ⟨_, rfl⟩
  have HRD : Hid (∀ W, Below w.heap.size w W → Calls Tryz.prog 27 #[.agg #[.string nm, .string cr, .int .i64 fr, .int .i64 up, .bool cu, .slice ao n cap]] W fun e w' => ∃ v, e = .returned v ∧ ownsR w' W.heap.size 3 v O ∧ Below W.heap.size W w') := fun W hb => by
    have := implOrder_any ao n cap nm cr fr up cu ts W (hd.below hb) (hg.up hb)
    rw [HOO.out] at this
    exact this
  have HN : Hid (ts.length = n) := by
    obtain ⟨ao', cap', e⟩ := hd.tasks.slice
    injection e with _ e2 _
    exact e2.symm
  have hnn : n ≤ 1048577 := hd.few
  have HRG : Hid (∀ x ∈ O, Rg4 ts ∧ O = orderL ts) := fun x hx => by
    rw [← HOO.out] at hx ⊢
    unfold ordC at hx ⊢
    by_cases hq : dagB ⟨nm, cr, fr, up, cu, ts⟩ = true
    · rw [if_pos hq]; exact ⟨rg_of hq, rfl⟩
    · rw [if_neg hq] at hx; cases hx
  have HPL : Hid (∀ x ∈ O, ∃ (j : Nat) (t : Ta), x = (j : Int) ∧ ts[j]? = some t ∧ j < 4) := fun x hx => by
    obtain ⟨h1, h2⟩ := HRG.out x hx
    rw [h2] at hx
    obtain ⟨j, t, e, hj⟩ := (order_ol h1).pl x hx
    exact ⟨j, t, e, hj, by have := (List.getElem?_eq_some_iff.1 hj).1; have := h1.few; omega⟩
  have HUP : Hid (∀ (j : Nat) (t : Ta) W, ts[j]? = some t → (j : Int) ∈ O → Below w.heap.size w W → Calls Tryz.prog 75 #[.agg #[.string nm, .string cr, .int .i64 fr, .int .i64 up, .bool cu, .slice ao n cap], .int .i64 j] W fun e w' => ∃ v, e = .returned v ∧ ownsR w' W.heap.size 3 v (upsA ts (j : Int)) ∧ Below W.heap.size W w') := fun j t W ht hm hb => by
    have hrg := (HRG.out _ hm).1
    have h2 := upsIn_any ao n cap nm cr fr up cu ts j t W (hd.tasks.below hb) hnn ht (hd.small t (List.mem_of_getElem? ht)).few
    rw [ups_sort hrg (List.mem_of_getElem? ht)] at h2
    unfold upsA
    rw [af_at ht]
    exact h2
  have HOL : Hid (O.length ≤ 4) := by
    show O.length ≤ 4
    by_cases hO : O = []
    · rw [hO]; exact Nat.zero_le _
    · obtain ⟨x, hx⟩ := List.exists_mem_of_ne_nil O hO
      obtain ⟨h1, h2⟩ := HRG.out x hx
      rw [h2, h1.full]
      exact h1.few
  rw [HOO.out]
  clear hd hg HOO
  obtain ⟨W1, hW1⟩ : ∃ W1, (w.alloc (.cells #[.string nm, .string cr, .int .i64 fr, .int .i64 up, .bool cu, .slice ao n cap] 26)).alloc (.cells #[.int .i64 0, .int .i64 0, .int .i64 0, .int .i64 0] 86) = W1 := ⟨_, rfl⟩
  have Z1 : P6 W1 w.heap.size nm cr fr up cu (.slice ao n cap) := by rw [← hW1]; exact (P6.new _ _ _ _ _ _ _).on (ba (Below.refl _ _) _)
  have B1 : Below w.heap.size w W1 := by rw [← hW1]; exact ba (ba (Below.refl _ _) _) _
  have HN1 : Hid (N4 W1 (w.heap.size + 1) [0, 0, 0, 0]) := by
    show W1.heap[_]? = _
    rw [← hW1]
    have e : w.heap.size + 1 = (w.alloc (.cells #[.string nm, .string cr, .int .i64 fr, .int .i64 up, .bool cu, .slice ao n cap] 26)).heap.size := by simp
    rw [e]
    show (Array.push _ _)[_]? = _
    rw [Array.getElem?_push_size]
    rfl
  have c0 := Z1.c0
  have c1 := Z1.c1
  have c2 := Z1.c2
  have c3 := Z1.c3
  have c4 := Z1.c4
  have c5 := Z1.c5
  go_enter Tryz.func34, Tryz.ntmps34
  go_wp2_with fail
  refine (HRD.out _ B1).mono ?_
  rintro e w2 ⟨ov, rfl, ho2, hb2⟩
  have HS2 : Hid (HtS w nm cr fr up cu (.slice ao n cap) (w.heap.size + 1) ov O w2 [0, 0, 0, 0]) := ⟨Below.on B1 hb2, Z1.on hb2, HN1.out.up hb2, ho2.mono B1.size, Nat.le_succ _⟩
  clear ho2 hb2 c0 c1 c2 c3 c4 c5 Z1 hW1 HN1 B1
  obtain ⟨oa, oc, eo⟩ := HS2.out.ord.slice
  subst eo
  obtain ⟨ol, HOLE⟩ : ∃ ol, Hid (O.length = ol) := ⟨_, rfl⟩
  have hol : ol ≤ 4 := by rw [← HOLE.out]; exact HOL.out
  rw [HOLE.out] at HS2
  rw [HOLE.out]
  generalize w.heap.size + 1 = bh at *
  obtain ⟨ov, HOV⟩ : ∃ ov, Hid (Value.slice oa ol oc = ov) := ⟨_, rfl⟩
  rw [HOV.out] at HS2
  go_wp2
  go_loopw [3, 12] (fun hv kv wr => ∃ (k : Nat) (H : List Int) (hi : Int), k ≤ ol ∧ kv = .int .i64 k ∧ hv = .int .i64 hi ∧ 0 ≤ hi ∧ hi ≤ k ∧ Hid (H.length = 4 ∧ ∀ x ∈ H, 0 ≤ x ∧ x ≤ (k : Int)) ∧ Hid (hpL ts O = ((O.drop k).foldl (hpS ts) (H, hi)).2) ∧ Hid (HtS w nm cr fr up cu (.slice ao n cap) bh ov O wr H)) (fun _ kv _ => ol - (intOf kv).toNat)
  case atStart => exact ⟨0, [0, 0, 0, 0], 0, Nat.zero_le _, rfl, rfl, by omega, by omega, ⟨rfl, by decide⟩, (by show hpL ts O = _; rw [List.drop_zero]; rfl), HS2⟩
  case round =>
    clear HS2
    obtain ⟨k, H, hi, hk, rfl, rfl, hi0, hi1, HB, HE, HS⟩ := hrel
    by_cases hlt : k < ol
    · obtain ⟨a, ha⟩ : ∃ a, O[k]? = some a := ⟨_, List.getElem?_eq_getElem (by rw [HOLE.out]; exact hlt)⟩
      obtain ⟨j, t, ej, htj, hj4⟩ := HPL.out a (List.mem_of_getElem? ha)
      subst ej
      have hmem := List.mem_of_getElem? ha
      have hrg := (HRG.out _ hmem).1
      have HUB : Hid (∀ u ∈ upsA ts (j : Int), ∃ x : Nat, u = (x : Int) ∧ x < 4 ∧ x ≠ j) := upsA_pl hrg htj
      have hord := HS.out.ord.reads
      rw [← HOV.out] at hord
      obtain ⟨ob, oo, eoa, hob, ca⟩ := int_at hord ha
      subst eoa
      have H1 := HUP.out j t wr htj hmem HS.out.bel
      have HE2 : Hid (hpL ts O = ((O.drop (k + 1)).foldl (hpS ts) (hpS ts (H, hi) (j : Int))).2) := by show hpL ts O = _; rw [HE.out, fold_at ha]
      obtain ⟨U, HUU⟩ : ∃ U, Hid (upsA ts (j : Int) = U) := ⟨_, rfl⟩
      rw [HUU.out] at H1 HUB
      have HUL : Hid (U.length ≤ 4) := by
        show U.length ≤ 4
        rw [← HUU.out]
        unfold upsA upsC
        exact Nat.le_trans (ascL_len _ _) hrg.few
      clear ha htj hrg hmem hord HE
      have c0 := HS.out.dag.c0
      have c1 := HS.out.dag.c1
      have c2 := HS.out.dag.c2
      have c3 := HS.out.dag.c3
      have c4 := HS.out.dag.c4
      have c5 := HS.out.dag.c5
      go_wp2_with fail
      refine H1.mono ?_
      rintro e w3 ⟨uv, rfl, ho3, hb3⟩
      have HS3 : Hid (HtS w nm cr fr up cu (.slice ao n cap) bh ov O w3 H) := HS.out.onW hb3
      have HU3 : Hid (ownsR w3 w.heap.size 3 uv U) := ho3.mono HS.out.bel.size
      obtain ⟨ua, uc, eu⟩ := HU3.out.slice
      subst eu
      obtain ⟨ul, HULE⟩ : ∃ ul, Hid (U.length = ul) := ⟨_, rfl⟩
      have hul : ul ≤ 4 := by rw [← HULE.out]; exact HUL.out
      rw [HULE.out] at HU3
      rw [HULE.out]
      clear ho3 hb3 HS c0 c1 c2 c3 c4 c5 ca H1
      obtain ⟨m0, HM0⟩ : ∃ m0, Hid (H.getD j 0 = m0) := ⟨_, rfl⟩
      have hm0 : 0 ≤ m0 ∧ m0 ≤ (k : Int) := by rw [← HM0.out]; exact getD_bd HB.out.2 (by omega) j
      have HH0 : Hid (H.set j m0 = H) := by
        show H.set j m0 = H
        have hj := getD_at (l := H) (i := j) (by rw [HB.out.1]; exact hj4)
        rw [HM0.out] at hj
        apply List.ext_getElem?
        intro i
        rw [set_get (by rw [HB.out.1]; exact hj4)]
        by_cases e : i = j
        · subst e; rw [if_pos rfl, hj]
        · rw [if_neg e]
      obtain ⟨M, HMM⟩ : ∃ M, Hid (hpM H (j : Int) U = M) := ⟨_, rfl⟩
      have hMb : 0 ≤ M ∧ M ≤ (k : Int) := by
        rw [← HMM.out]
        unfold hpM
        rw [Int.toNat_natCast]
        exact hpM_bd HB.out.2 (by omega) U _ (by rw [HM0.out]; exact hm0.1) (by rw [HM0.out]; exact hm0.2)
      go_wp2
      go_loopw [20] (fun iv wz => ∃ (i : Nat) (m : Int), i ≤ ul ∧ iv = .int .i64 i ∧ 0 ≤ m ∧ m ≤ (k : Int) ∧ Hid (M = (U.drop i).foldl (hpF H) m) ∧ Hid (HtS w nm cr fr up cu (.slice ao n cap) bh ov O wz (H.set j m)) ∧ Hid (ownsR wz w.heap.size 3 (.slice ua ul uc) U)) (fun iv _ => ul - (intOf iv).toNat)
      case atStart => exact ⟨0, m0, Nat.zero_le _, rfl, hm0.1, hm0.2, (by show M = _; rw [List.drop_zero, ← HMM.out]; unfold hpM; rw [Int.toNat_natCast, HM0.out]), (by show HtS _ _ _ _ _ _ _ _ _ _ _ _; rw [HH0.out]; exact HS3.out), HU3⟩
      case round =>
        clear HS3 HU3
        obtain ⟨i, m, hi', rfl, hm1, hm2, HE3, HS, HU⟩ := hrel
        by_cases hil : i < ul
        · obtain ⟨u, hu⟩ : ∃ u, U[i]? = some u := ⟨_, List.getElem?_eq_getElem (by rw [HULE.out]; exact hil)⟩
          obtain ⟨x, ex, hx4, hxj⟩ := HUB.out u (List.mem_of_getElem? hu)
          subst ex
          obtain ⟨ub, uo, eua, hub, cu1⟩ := int_at HU.out.reads hu
          subst eua
          have HE4 : Hid (M = (U.drop (i + 1)).foldl (hpF H) (hpF H m (x : Int))) := by show M = _; rw [HE3.out, fold_at hu]
          obtain ⟨y, HY⟩ : ∃ y, Hid (H.getD x 0 = y) := ⟨_, rfl⟩
          have hy := getD_bd HB.out.2 (k := (k : Int)) (by omega) x
          rw [HY.out] at hy
          have cm : wr.cell? ⟨bh, j, none⟩ = some (.int .i64 m) := HS.out.hts.cell (by rw [set_get (by rw [HB.out.1]; exact hj4), if_pos rfl])
          have cx : wr.cell? ⟨bh, x, none⟩ = some (.int .i64 y) := HS.out.hts.cell (by rw [set_get (by rw [HB.out.1]; exact hj4), if_neg hxj, getD_at (l := H) (by rw [HB.out.1]; exact hx4), HY.out])
          have fm := HS.out.hts.fz j
          have HF : Hid (hpF H m (x : Int) = if m < y then y else m) := by show hpF _ _ _ = _; unfold hpF; rw [Int.toNat_natCast, HY.out]
          have HPT : Hid (∀ z W', Below wr.heap.size wr W' → HtS w nm cr fr up cu (.slice ao n cap) bh ov O (W'.setCell ⟨bh, j, none⟩ (.int .i64 z)) (H.set j z) ∧ ownsR (W'.setCell ⟨bh, j, none⟩ (.int .i64 z)) w.heap.size 3 (.slice (some ⟨ub, uo, none⟩) ul uc) U) := fun z W' hb => by
            have h1 := (HS.out.onW hb).put j z
            rw [List.set_set] at h1
            exact ⟨h1, (HS.out.onW hb).row (HU.out.all hb) j _⟩
          have hbx := HS.out.hts.lt
          clear hu HE3 HS HU
          by_cases hmy : m < y
          · rw [if_pos hmy] at HF
            rw [HF.out] at HE4
            go_wp2
            go_region
            go_wp2
            have HP := HPT.out y wr (Below.refl _ _)
            have HP1 : Hid (∀ W', Below (wr.setCell ⟨bh, j, none⟩ (.int .i64 y)).heap.size (wr.setCell ⟨bh, j, none⟩ (.int .i64 y)) W' → HtS w nm cr fr up cu (.slice ao n cap) bh ov O W' (H.set j y) ∧ ownsR W' w.heap.size 3 (.slice (some ⟨ub, uo, none⟩) ul uc) U) := fun W' hb => ⟨HP.1.onW hb, HP.2.all hb⟩
            clear HP cm cx fm
            go_roundw
            case rel =>
              have hmx : max m y = y := by omega
              rw [hmx]
              have HQ := HP1.out _ (Below.refl _ _).drew
              exact ⟨i + 1, y, by omega, by go_num, by omega, by omega, HE4, HQ.1, HQ.2⟩
            case measure => simp [intOf]; omega
          · rw [if_neg hmy] at HF
            rw [HF.out] at HE4
            go_wp2
            go_region
            go_wp2
            have HP := HPT.out m wr (Below.refl _ _)
            have HP1 : Hid (∀ W', Below (wr.setCell ⟨bh, j, none⟩ (.int .i64 m)).heap.size (wr.setCell ⟨bh, j, none⟩ (.int .i64 m)) W' → HtS w nm cr fr up cu (.slice ao n cap) bh ov O W' (H.set j m) ∧ ownsR W' w.heap.size 3 (.slice (some ⟨ub, uo, none⟩) ul uc) U) := fun W' hb => ⟨HP.1.onW hb, HP.2.all hb⟩
            clear HP cm cx fm
            go_roundw
            case rel =>
              have hmx : max m y = m := by omega
              rw [hmx]
              have HQ := HP1.out _ (Below.refl _ _).drew
              exact ⟨i + 1, m, by omega, by go_num, by omega, by omega, HE4, HQ.1, HQ.2⟩
            case measure => simp [intOf]; omega
        · have HE5 : Hid (M = m) := by show M = m; rw [HE3.out, fold_end (by rw [HULE.out]; omega)]
          have cm : wr.cell? ⟨bh, j, none⟩ = some (.int .i64 m) := HS.out.hts.cell (by rw [set_get (by rw [HB.out.1]; exact hj4), if_pos rfl])
          have fm := HS.out.hts.fz j
          obtain ⟨WY, hWY⟩ : ∃ WY, wr.setCell ⟨bh, j, none⟩ (.int .i64 (m + 1)) = WY := ⟨_, rfl⟩
          have HSY : Hid (HtS w nm cr fr up cu (.slice ao n cap) bh ov O WY (H.set j (m + 1))) := by
            have h1 := HS.out.put j (m + 1)
            rw [List.set_set, hWY] at h1
            exact h1
          have cy : WY.cell? ⟨bh, j, none⟩ = some (.int .i64 (m + 1)) := HSY.out.hts.cell (by rw [set_get (by rw [HB.out.1]; exact hj4), if_pos rfl])
          have hwr : IntKind.i64.wrap (m + 1) = m + 1 := by rw [IntKind.wrap_i64]; omega
          have HSP : Hid (hpS ts (H, hi) (j : Int) = (H.set j (m + 1), if hi < m + 1 then m + 1 else hi)) := by
            show hpS _ _ _ = _
            unfold hpS
            rw [HUU.out, HMM.out, HE5.out, Int.toNat_natCast]
          have HB2 : Hid ((H.set j (m + 1)).length = 4 ∧ ∀ x ∈ H.set j (m + 1), 0 ≤ x ∧ x ≤ ((k + 1 : Nat) : Int)) := ⟨by rw [List.length_set]; exact HB.out.1, fun x hx => by have := set_bd HB.out.2 (y := m + 1) (by omega) (by omega) x hx; omega⟩
          clear HS HU HE3
          by_cases hgt : hi < m + 1
          · rw [if_pos hgt] at HSP
            rw [HSP.out] at HE2
            go_wp2
            go_roundw
            case rel => exact ⟨k + 1, _, m + 1, by omega, by go_num, (by rw [show max hi (m + 1) = m + 1 by omega]), by omega, by omega, HB2, HE2, HSY⟩
            case measure => simp [intOf]; omega
          · rw [if_neg hgt] at HSP
            rw [HSP.out] at HE2
            go_wp2
            go_roundw
            case rel => exact ⟨k + 1, _, hi, by omega, by go_num, (by rw [show max hi (m + 1) = hi by omega]), by omega, by omega, HB2, HE2, HSY⟩
            case measure => simp [intOf]; omega
    · have HF : Hid (hpL ts O = hi) := by show hpL ts O = hi; rw [HE.out, fold_end (by rw [HOLE.out]; omega)]
      have HBB := HS.out.bel
      clear HS HE
      go_wp2
      go_ret
      exact ⟨by rw [HF.out]; rfl, HBB⟩
end Go.Proofs.YteefacjjdalncaaGreatDoor

namespace Go.Proofs.YteefacjjdalncaaGreatDoor
open Go Go.RowKit
set_option linter.unusedVariables false

def hsF (H : List Int) (m u : Int) : Int := if m < H.getD u.toNat 0 + 1 then H.getD u.toNat 0 + 1 else m
def hsM (H : List Int) (l : List Int) : Int := l.foldl (hsF H) 1
def hsS (ts : List Ta) (p : List Int × Int) (a : Int) : List Int × Int := (p.1.set a.toNat (hsM p.1 (upsA ts a)), if p.2 < hsM p.1 (upsA ts a) then hsM p.1 (upsA ts a) else p.2)
def hsL (ts : List Ta) (O : List Int) : Int := (O.foldl (hsS ts) (List.replicate O.length 0, 0)).2
theorem hsF_bd {H : List Int} {k m u : Int} (hH : ∀ x ∈ H, 0 ≤ x ∧ x ≤ k) (hk : 0 ≤ k) (h0 : 0 ≤ m) (h1 : m ≤ k + 1) : 0 ≤ hsF H m u ∧ hsF H m u ≤ k + 1 := by
  have hg := getD_bd hH hk u.toNat
  unfold hsF
  split <;> omega
theorem fold_same {Hp Hs : List Int} : ∀ (l : List Int) (m : Int), (∀ u ∈ l, Hp.getD u.toNat 0 = Hs.getD u.toNat 0) → l.foldl (hsF Hs) (m + 1) = l.foldl (hpF Hp) m + 1
  | [], _, _ => rfl
  | u :: l, m, h => by
    rw [List.foldl_cons, List.foldl_cons]
    have e : hsF Hs (m + 1) u = hpF Hp m u + 1 := by
      unfold hsF hpF
      rw [← h u (List.mem_cons_self ..)]
      split <;> split <;> omega
    rw [e]
    exact fold_same l _ fun v hv => h v (List.mem_cons_of_mem _ hv)
theorem get_set {H : List Int} {i j : Nat} {y : Int} (hi : i < H.length) : (H.set i y).getD j 0 = if j = i then y else H.getD j 0 := by
  rw [List.getD_eq_getElem?_getD, set_get hi, List.getD_eq_getElem?_getD]
  split <;> rfl
/-- Both reckon the same. -/
theorem ht_go {ts : List Ta} (hr : Rg4 ts) : ∀ (O : List Int) (Hp Hs : List Int) (hi : Int), O.Nodup → (∀ x ∈ O, ∃ (j : Nat) (t : Ta), x = (j : Int) ∧ ts[j]? = some t) → Hp.length = 4 → Hs.length = ts.length → (∀ j, j < ts.length → Hp.getD j 0 = Hs.getD j 0) → (∀ x ∈ O, Hp.getD x.toNat 0 = 0) → (O.foldl (hpS ts) (Hp, hi)).2 = (O.foldl (hsS ts) (Hs, hi)).2
  | [], _, _, _, _, _, _, _, _, _ => rfl
  | a :: O, Hp, Hs, hi, hn, hpl, h4, hl, he, h0 => by
    rw [List.nodup_cons] at hn
    obtain ⟨j, t, rfl, ht⟩ := hpl a (List.mem_cons_self ..)
    have hjl := (List.getElem?_eq_some_iff.1 ht).1
    have hj4 : j < 4 := Nat.lt_of_lt_of_le hjl hr.few
    have hM : hsM Hs (upsA ts (j : Int)) = hpM Hp (j : Int) (upsA ts (j : Int)) + 1 := by
      unfold hsM hpM
      rw [h0 _ (List.mem_cons_self ..)]
      refine fold_same _ 0 fun u hu => ?_
      unfold upsA at hu
      obtain ⟨k, hk, _, rfl⟩ := ascL_mem.1 hu
      rw [Int.toNat_natCast]
      exact he k hk
    rw [List.foldl_cons, List.foldl_cons]
    have e1 : hpS ts (Hp, hi) (j : Int) = (Hp.set j (hpM Hp (j : Int) (upsA ts (j : Int)) + 1), if hi < hpM Hp (j : Int) (upsA ts (j : Int)) + 1 then hpM Hp (j : Int) (upsA ts (j : Int)) + 1 else hi) := by unfold hpS; rw [Int.toNat_natCast]
    have e2 : hsS ts (Hs, hi) (j : Int) = (Hs.set j (hpM Hp (j : Int) (upsA ts (j : Int)) + 1), if hi < hpM Hp (j : Int) (upsA ts (j : Int)) + 1 then hpM Hp (j : Int) (upsA ts (j : Int)) + 1 else hi) := by unfold hsS; rw [Int.toNat_natCast, hM]
    rw [e1, e2]
    refine ht_go hr O _ _ _ hn.2 (fun x hx => hpl x (List.mem_cons_of_mem _ hx)) (by rw [List.length_set]; exact h4) (by rw [List.length_set]; exact hl) (fun i hi' => ?_) (fun x hx => ?_)
    · rw [get_set (by omega), get_set (by omega)]
      split
      · rfl
      · exact he i hi'
    · obtain ⟨i, u, rfl, hu⟩ := hpl x (List.mem_cons_of_mem _ hx)
      rw [Int.toNat_natCast, get_set (by omega), if_neg (fun e => hn.1 (by rw [← e]; exact hx))]
      have := h0 _ (List.mem_cons_of_mem _ hx)
      rwa [Int.toNat_natCast] at this
theorem ht_same {ts : List Ta} {O : List Int} (h : O = [] ∨ (Rg4 ts ∧ O = orderL ts)) : hpL ts O = hsL ts O := by
  rcases h with rfl | ⟨hr, rfl⟩
  · rfl
  · have hol := order_ol hr
    refine ht_go hr _ _ _ 0 hol.nd hol.pl rfl (by rw [List.length_replicate]; exact hr.full) (fun j hj => ?_) (fun x hx => ?_)
    · have h4 := hr.few
      have e1 : ([0, 0, 0, 0] : List Int).getD j 0 = 0 := by
        have : j = 0 ∨ j = 1 ∨ j = 2 ∨ j = 3 := by omega
        rcases this with rfl | rfl | rfl | rfl <;> rfl
      rw [e1, List.getD_eq_getElem?_getD, List.getElem?_replicate]
      split <;> rfl
    · obtain ⟨i, u, rfl, hu⟩ := hol.pl x hx
      have h4 := hr.few
      have hi := (List.getElem?_eq_some_iff.1 hu).1
      rw [Int.toNat_natCast]
      have : i = 0 ∨ i = 1 ∨ i = 2 ∨ i = 3 := by omega
      rcases this with rfl | rfl | rfl | rfl <;> rfl
/-- What lies there while heights are reckoned. -/
structure HsS (w : World) (nm cr : ByteArray) (fr up : Int) (cu : Bool) (tv : Value) (gh ol : Nat) (ov : Value) (O : List Int) (W : World) (H : List Int) : Prop where
  bel : Below w.heap.size w W
  dag : P6 W w.heap.size nm cr fr up cu tv
  hts : ownsR W w.heap.size 3 (.slice (some ⟨gh, 0, none⟩) ol ol) H
  ord : ownsR W w.heap.size 3 ov O
  apart : ov.ownBlock ≠ some gh
section
variable {w W W' : World} {nm cr : ByteArray} {fr up : Int} {cu : Bool} {tv ov : Value} {gh ol : Nat} {O H : List Int}
theorem HsS.onW (h : HsS w nm cr fr up cu tv gh ol ov O W H) (hb : Below W.heap.size W W') : HsS w nm cr fr up cu tv gh ol ov O W' H := ⟨Below.on h.bel hb, h.dag.on hb, h.hts.all hb, h.ord.all hb, h.apart⟩
theorem HsS.put (h : HsS w nm cr fr up cu tv gh ol ov O W H) {i : Nat} (hi : i < H.length) (x : Int) : HsS w nm cr fr up cu tv gh ol ov O (W.setCell ⟨gh, i, none⟩ (.int .i64 x)) (H.set i x) := by
  have hbk : ∀ k, k ≠ gh → (W.setCell ⟨gh, i, none⟩ (.int .i64 x)).heap[k]? = W.heap[k]? := fun k hk => heap_setCell_other W ⟨gh, i, none⟩ k _ hk
  have hlow := own_low h.hts (k := gh) rfl
  refine ⟨h.bel.setCell (p := ⟨gh, i, none⟩) hlow.1 _, (hbk _ (fun e => not_own h.hts h.dag (by decide) (by show some gh = _; rw [e]))).trans h.dag, int_put h.hts x (getD_at hi), h.ord.keep fun k hk => hbk k ?_, h.apart⟩
  exact fun e => h.apart (by rw [hk, e])
theorem HsS.row (h : HsS w nm cr fr up cu tv gh ol ov O W H) {B : Nat} {v : Value} {U : List Int} (hu : ownsR W B 3 v U) (ha : v.ownBlock ≠ some gh) (i : Nat) (x : Value) : ownsR (W.setCell ⟨gh, i, none⟩ x) B 3 v U :=
  hu.keep fun k hk => heap_setCell_other W ⟨gh, i, none⟩ k _ fun e => ha (by rw [hk]; exact congrArg some e)
end
set_option maxRecDepth 10000 in
set_option maxHeartbeats 4000000 in
theorem specHeight_any (ao : Option Addr) (n cap : Nat) (nm cr : ByteArray) (fr up : Int) (cu : Bool) (ts : List Ta) (w : World) (hd : DagAt w (.slice ao n cap) ⟨nm, cr, fr, up, cu, ts⟩) :
    Calls Tryz.prog 35 #[.agg #[.string nm, .string cr, .int .i64 fr, .int .i64 up, .bool cu, .slice ao n cap]] w fun e w' => e = .returned (.int .i64 (hsL ts (ordC ⟨nm, cr, fr, up, cu, ts⟩))) ∧ Below w.heap.size w w' := by
  obtain ⟨i0, hi0, hz0, hz1, hz2⟩ := info_parts info3
  obtain ⟨O, HOO⟩ : ∃ O, Hid (ordC ⟨nm, cr, fr, up, cu, ts⟩ = O) := ⟨_, rfl⟩
  have HRD : Hid (∀ W, Below w.heap.size w W → Calls Tryz.prog 29 #[.agg #[.string nm, .string cr, .int .i64 fr, .int .i64 up, .bool cu, .slice ao n cap]] W fun e w' => ∃ v, e = .returned v ∧ ownsR w' W.heap.size 3 v O ∧ Below W.heap.size W w') := fun W hb => by
    have := specOrder_any ao n cap nm cr fr up cu ts W (hd.below hb)
    rw [HOO.out] at this
    exact this
  have HN : Hid (ts.length = n) := by
    obtain ⟨ao', cap', e⟩ := hd.tasks.slice
    injection e with _ e2 _
    exact e2.symm
  have HRG : Hid (∀ x ∈ O, Rg4 ts ∧ O = orderL ts) := fun x hx => by
    rw [← HOO.out] at hx ⊢
    unfold ordC at hx ⊢
    by_cases hq : dagB ⟨nm, cr, fr, up, cu, ts⟩ = true
    · rw [if_pos hq]; exact ⟨rg_of hq, rfl⟩
    · rw [if_neg hq] at hx; cases hx
  have HPL : Hid (∀ x ∈ O, ∃ (j : Nat) (t : Ta), x = (j : Int) ∧ ts[j]? = some t ∧ j < O.length) := fun x hx => by
    obtain ⟨h1, h2⟩ := HRG.out x hx
    have h3 : O.length = ts.length := by rw [h2]; exact h1.full
    rw [h2] at hx
    obtain ⟨j, t, e, hj⟩ := (order_ol h1).pl x hx
    exact ⟨j, t, e, hj, by have := (List.getElem?_eq_some_iff.1 hj).1; omega⟩
  have HUP : Hid (∀ (j : Nat) (t : Ta) W, ts[j]? = some t → (j : Int) ∈ O → Below w.heap.size w W → Calls Tryz.prog 80 #[.agg #[.string nm, .string cr, .int .i64 fr, .int .i64 up, .bool cu, .slice ao n cap], .int .i64 j] W fun e w' => ∃ v, e = .returned v ∧ ownsR w' W.heap.size 3 v (upsA ts (j : Int)) ∧ Below W.heap.size W w') := fun j t W ht hm hb => by
    have hrg := (HRG.out _ hm).1
    have htm := List.mem_of_getElem? ht
    have h2 := l13Ups_any ao n cap nm cr fr up cu ts j t W (hd.tasks.below hb) (by rw [← HN.out]; exact hrg.few) ht (rg_few hrg htm)
    rw [ups_spec hrg htm] at h2
    unfold upsA
    rw [af_at ht]
    exact h2
  have HOL : Hid (O.length ≤ 4) := by
    show O.length ≤ 4
    by_cases hO : O = []
    · rw [hO]; exact Nat.zero_le _
    · obtain ⟨x, hx⟩ := List.exists_mem_of_ne_nil O hO
      obtain ⟨h1, h2⟩ := HRG.out x hx
      rw [h2, h1.full]
      exact h1.few
  have HUX : Hid (∀ (j : Nat) (t : Ta), ts[j]? = some t → (j : Int) ∈ O → ∀ u ∈ upsA ts (j : Int), ∃ x : Nat, u = (x : Int) ∧ x < O.length ∧ x ≠ j) := fun j t ht hm u hu => by
    obtain ⟨hrg, h2⟩ := HRG.out _ hm
    obtain ⟨x, e, _, hxj⟩ := upsA_pl hrg ht u hu
    refine ⟨x, e, ?_, hxj⟩
    unfold upsA at hu
    obtain ⟨y, hy, _, e2⟩ := ascL_mem.1 hu
    have h3 : O.length = ts.length := by rw [h2]; exact hrg.full
    omega
  rw [HOO.out]
  clear hd HOO
  obtain ⟨W1, hW1⟩ : ∃ W1, w.alloc (.cells #[.string nm, .string cr, .int .i64 fr, .int .i64 up, .bool cu, .slice ao n cap] 26) = W1 := ⟨_, rfl⟩
  have Z1 : P6 W1 w.heap.size nm cr fr up cu (.slice ao n cap) := by rw [← hW1]; exact P6.new _ _ _ _ _ _ _
  have B1 : Below w.heap.size w W1 := by rw [← hW1]; exact ba (Below.refl _ _) _
  have c0 := Z1.c0
  have c1 := Z1.c1
  have c2 := Z1.c2
  have c3 := Z1.c3
  have c4 := Z1.c4
  have c5 := Z1.c5
  go_enter Tryz.func35, Tryz.ntmps35
  go_wp2_with fail
  refine (HRD.out _ B1).mono ?_
  rintro e w2 ⟨ov, rfl, ho2, hb2⟩
  have Z2 := Z1.on hb2
  have B2 := Below.on B1 hb2
  have o2 := ho2.mono B1.size
  obtain ⟨oa, oc, eo⟩ := o2.slice
  subst eo
  obtain ⟨ol, HOLE⟩ : ∃ ol, Hid (O.length = ol) := ⟨_, rfl⟩
  have hol : ol ≤ 4 := by rw [← HOLE.out]; exact HOL.out
  rw [HOLE.out] at o2
  rw [HOLE.out]
  clear ho2 hb2 c0 c1 c2 c3 c4 c5 Z1 hW1 B1
  have hs2 : w.heap.size ≤ w2.heap.size := B2.size
  go_wp2_with (at_make; refine wpList_make_full _ rfl _ _ 37 rfl w.heap.size 3 i0 _ 1 underI hi0 hz0 hz1 .i64 .i64 _ _ ol rfl rfl rfl rfl (by rw [hz2]; omega) (by unfold maxLen; omega) hs2 ?_; intro w3 ho3 hg3)
  rw [made_ints] at ho3
  have HS3 : Hid (HsS w nm cr fr up cu (.slice ao n cap) w2.heap.size ol (.slice oa ol oc) O w3 (List.replicate ol 0)) := by
    have hbb : Below w2.heap.size w2 w3 := (Below.refl _ _).grown hg3 (Nat.le_refl _) (fun j hj => by cases hj)
    refine ⟨Below.on B2 hbb, Z2.on hbb, ?_, o2.all hbb, fun e => ?_⟩
    · unfold ownsR; rw [List.length_replicate]; exact ho3
    · have := (own_low o2 e).2
      omega
  clear ho3 hg3 o2 Z2 B2
  generalize w2.heap.size = gh at *
  obtain ⟨ov, HOV⟩ : ∃ ov, Hid (Value.slice oa ol oc = ov) := ⟨_, rfl⟩
  rw [HOV.out] at HS3
  rw [HOLE.out] at HPL HUX
  go_wp2
  go_loopw [5, 6] (fun hv kv wr => ∃ (k : Nat) (H : List Int) (hi : Int), k ≤ ol ∧ kv = .int .i64 k ∧ hv = .int .i64 hi ∧ 0 ≤ hi ∧ hi ≤ k ∧ Hid (H.length = ol ∧ ∀ x ∈ H, 0 ≤ x ∧ x ≤ (k : Int)) ∧ Hid (hsL ts O = ((O.drop k).foldl (hsS ts) (H, hi)).2) ∧ Hid (HsS w nm cr fr up cu (.slice ao n cap) gh ol ov O wr H)) (fun _ kv _ => ol - (intOf kv).toNat)
  case atStart => exact ⟨0, List.replicate ol 0, 0, Nat.zero_le _, rfl, rfl, by omega, by omega, ⟨by simp, fun x hx => by rw [List.eq_of_mem_replicate hx]; omega⟩, (by show hsL ts O = _; rw [List.drop_zero]; unfold hsL; rw [HOLE.out]), HS3⟩
  case round =>
    clear HS3
    obtain ⟨k, H, hi, hk, rfl, rfl, hi0, hi1, HB, HE, HS⟩ := hrel
    by_cases hlt : k < ol
    · obtain ⟨a, ha⟩ : ∃ a, O[k]? = some a := ⟨_, List.getElem?_eq_getElem (by rw [HOLE.out]; exact hlt)⟩
      obtain ⟨j, t, ej, htj, hj4⟩ := HPL.out a (List.mem_of_getElem? ha)
      subst ej
      have hmem := List.mem_of_getElem? ha
      have hrg := (HRG.out _ hmem).1
      have HUB : Hid (∀ u ∈ upsA ts (j : Int), ∃ x : Nat, u = (x : Int) ∧ x < ol ∧ x ≠ j) := HUX.out j t htj hmem
      have hord := HS.out.ord.reads
      rw [← HOV.out] at hord
      obtain ⟨ob, oo, eoa, hob, ca⟩ := int_at hord ha
      subst eoa
      have hjH : j < H.length := by rw [HB.out.1]; exact hj4
      obtain ⟨-, cj, fj⟩ := int_own HS.out.hts (getD_at hjH)
      obtain ⟨WY, hWY⟩ : ∃ WY, wr.setCell ⟨gh, j, none⟩ (.int .i64 1) = WY := ⟨_, rfl⟩
      have HSY : Hid (HsS w nm cr fr up cu (.slice ao n cap) gh ol ov O WY (H.set j 1)) := by rw [← hWY]; exact HS.out.put hjH 1
      have H1 := HUP.out j t WY htj hmem HSY.out.bel
      have HE2 : Hid (hsL ts O = ((O.drop (k + 1)).foldl (hsS ts) (hsS ts (H, hi) (j : Int))).2) := by show hsL ts O = _; rw [HE.out, fold_at ha]
      obtain ⟨U, HUU⟩ : ∃ U, Hid (upsA ts (j : Int) = U) := ⟨_, rfl⟩
      rw [HUU.out] at H1 HUB
      have HUL : Hid (U.length ≤ 4) := by
        show U.length ≤ 4
        rw [← HUU.out]
        unfold upsA upsC
        exact Nat.le_trans (ascL_len _ _) hrg.few
      clear ha htj hrg hmem hord HE HS
      have c0 := HSY.out.dag.c0
      have c1 := HSY.out.dag.c1
      have c2 := HSY.out.dag.c2
      have c3 := HSY.out.dag.c3
      have c4 := HSY.out.dag.c4
      have c5 := HSY.out.dag.c5
      go_wp2_with fail
      refine H1.mono ?_
      rintro e w3 ⟨uv, rfl, ho3, hb3⟩
      have HS3 : Hid (HsS w nm cr fr up cu (.slice ao n cap) gh ol ov O w3 (H.set j 1)) := HSY.out.onW hb3
      have HU3 : Hid (ownsR w3 w.heap.size 3 uv U) := ho3.mono HSY.out.bel.size
      have HUA : Hid (uv.ownBlock ≠ some gh) := fun e => by
        have h1 := (own_low ho3 e).1
        have h2 := (own_low HSY.out.hts (k := gh) rfl).2
        omega
      obtain ⟨ua, uc, eu⟩ := HU3.out.slice
      subst eu
      obtain ⟨ul, HULE⟩ : ∃ ul, Hid (U.length = ul) := ⟨_, rfl⟩
      have hul : ul ≤ 4 := by rw [← HULE.out]; exact HUL.out
      rw [HULE.out] at HU3 HUA
      rw [HULE.out]
      clear ho3 hb3 HSY c0 c1 c2 c3 c4 c5 ca H1 hWY cj fj
      obtain ⟨M, HMM⟩ : ∃ M, Hid (hsM H U = M) := ⟨_, rfl⟩
      go_wp2
      go_loopw [9] (fun iv wz => ∃ (i : Nat) (m : Int), i ≤ ul ∧ iv = .int .i64 i ∧ 0 ≤ m ∧ m ≤ (k : Int) + 1 ∧ Hid (M = (U.drop i).foldl (hsF H) m) ∧ Hid (HsS w nm cr fr up cu (.slice ao n cap) gh ol ov O wz (H.set j m)) ∧ Hid (ownsR wz w.heap.size 3 (.slice ua ul uc) U)) (fun iv _ => ul - (intOf iv).toNat)
      case atStart => exact ⟨0, 1, Nat.zero_le _, rfl, by omega, by omega, (by show M = _; rw [List.drop_zero, ← HMM.out]; rfl), HS3, HU3⟩
      case round =>
        clear HS3 HU3
        obtain ⟨i, m, hi', rfl, hm1, hm2, HE3, HS, HU⟩ := hrel
        have hjS : j < (H.set j m).length := by rw [List.length_set]; exact hjH
        obtain ⟨-, cm, fm⟩ := int_own HS.out.hts (i := j) (x := m) (by rw [set_get hjH, if_pos rfl])
        by_cases hil : i < ul
        · obtain ⟨u, hu⟩ : ∃ u, U[i]? = some u := ⟨_, List.getElem?_eq_getElem (by rw [HULE.out]; exact hil)⟩
          obtain ⟨x, ex, hx4, hxj⟩ := HUB.out u (List.mem_of_getElem? hu)
          subst ex
          obtain ⟨ub, uo, eua, hub, cu1⟩ := int_at HU.out.reads hu
          subst eua
          have HE4 : Hid (M = (U.drop (i + 1)).foldl (hsF H) (hsF H m (x : Int))) := by show M = _; rw [HE3.out, fold_at hu]
          obtain ⟨y, HY⟩ : ∃ y, Hid (H.getD x 0 = y) := ⟨_, rfl⟩
          have hy := getD_bd HB.out.2 (k := (k : Int)) (by omega) x
          rw [HY.out] at hy
          obtain ⟨-, cx, -⟩ := int_own HS.out.hts (i := x) (x := y) (by rw [set_get hjH, if_neg hxj, getD_at (l := H) (by rw [HB.out.1]; exact hx4), HY.out])
          have HF : Hid (hsF H m (x : Int) = if m < y + 1 then y + 1 else m) := by show hsF _ _ _ = _; unfold hsF; rw [Int.toNat_natCast, HY.out]
          have hwr : IntKind.i64.wrap (y + 1) = y + 1 := by rw [IntKind.wrap_i64]; omega
          have q1 := Wd.cell cm
          have q2 := Wd.cell cx
          have q3 := Wd.cell cu1
          clear hu HE3
          by_cases hmy : m < y + 1
          · rw [if_pos hmy] at HF
            rw [HF.out] at HE4
            go_wp2
            refine wp_region_wd (by kernel_rfl) (by kernel_rfl) ?_
            repeat (go_big_quiet_step (fail))
            refine wpQuiet_nil ?_
            rintro _ ⟨xx, rfl⟩
            obtain ⟨V, hV⟩ : ∃ V, xx.at' = V := ⟨_, rfl⟩
            have HSV : Hid (HsS w nm cr fr up cu (.slice ao n cap) gh ol ov O V (H.set j m)) := by rw [← hV]; exact HS.out.onW xx.ok
            have HUV : Hid (ownsR V w.heap.size 3 (.slice (some ⟨ub, uo, none⟩) ul uc) U) := by rw [← hV]; exact HU.out.all xx.ok
            have d1 := q1 xx
            have d2 := q2 xx
            have d3 := q3 xx
            rw [hV] at d1 d2 d3
            rw [hV]
            obtain ⟨-, -, f1⟩ := int_own HSV.out.hts (i := j) (x := m) (by rw [set_get hjH, if_pos rfl])
            obtain ⟨V2, hV2⟩ : ∃ V2, V.setCell ⟨gh, j, none⟩ (.int .i64 (y + 1)) = V2 := ⟨_, rfl⟩
            have HS2 : Hid (HsS w nm cr fr up cu (.slice ao n cap) gh ol ov O V2 (H.set j (y + 1))) := by
              have h1 := HSV.out.put hjS (y + 1)
              rw [List.set_set, hV2] at h1
              exact h1
            have HU2 : Hid (ownsR V2 w.heap.size 3 (.slice (some ⟨ub, uo, none⟩) ul uc) U) := by rw [← hV2]; exact HSV.out.row HUV.out HUA.out j _
            clear hV HS HU cm cx cu1 fm q1 q2 q3 HSV HUV
            go_wp2
            go_roundw
            case rel => exact ⟨i + 1, y + 1, by omega, by go_num, by omega, by omega, HE4, HS2, HU2⟩
            case measure => simp [intOf]; omega
          · rw [if_neg hmy] at HF
            rw [HF.out] at HE4
            go_wp2
            refine wp_region_wd (by kernel_rfl) (by kernel_rfl) ?_
            repeat (go_big_quiet_step (fail))
            refine wpQuiet_nil ?_
            rintro _ ⟨xx, rfl⟩
            have HS2 : Hid (HsS w nm cr fr up cu (.slice ao n cap) gh ol ov O xx.at' (H.set j m)) := HS.out.onW xx.ok
            have HU2 : Hid (ownsR xx.at' w.heap.size 3 (.slice (some ⟨ub, uo, none⟩) ul uc) U) := HU.out.all xx.ok
            clear HS HU cm cx cu1 fm q1 q2 q3
            go_wp2
            go_roundw
            case rel => exact ⟨i + 1, m, by omega, by go_num, by omega, by omega, HE4, HS2, HU2⟩
            case measure => simp [intOf]; omega
        · have HE5 : Hid (M = m) := by show M = m; rw [HE3.out, fold_end (by rw [HULE.out]; omega)]
          have HSP : Hid (hsS ts (H, hi) (j : Int) = (H.set j m, if hi < m then m else hi)) := by
            show hsS _ _ _ = _
            unfold hsS
            rw [HUU.out, HMM.out, HE5.out, Int.toNat_natCast]
          have HB2 : Hid ((H.set j m).length = ol ∧ ∀ x ∈ H.set j m, 0 ≤ x ∧ x ≤ ((k + 1 : Nat) : Int)) := ⟨by rw [List.length_set]; exact HB.out.1, fun x hx => by have := set_bd HB.out.2 (y := m) (by omega) (by omega) x hx; omega⟩
          clear HU HE3
          by_cases hgt : hi < m
          · rw [if_pos hgt] at HSP
            rw [HSP.out] at HE2
            go_wp2
            go_roundw
            case rel => exact ⟨k + 1, _, m, by omega, by go_num, rfl, by omega, by omega, HB2, HE2, HS⟩
            case measure => simp [intOf]; omega
          · rw [if_neg hgt] at HSP
            rw [HSP.out] at HE2
            go_wp2
            go_roundw
            case rel => exact ⟨k + 1, _, hi, by omega, by go_num, rfl, by omega, by omega, HB2, HE2, HS⟩
            case measure => simp [intOf]; omega
    · have HF : Hid (hsL ts O = hi) := by show hsL ts O = hi; rw [HE.out, fold_end (by rw [HOLE.out]; omega)]
      have HBB := HS.out.bel
      clear HS HE
      go_wp2
      go_ret
      exact ⟨by rw [HF.out]; rfl, HBB⟩
end Go.Proofs.YteefacjjdalncaaGreatDoor
