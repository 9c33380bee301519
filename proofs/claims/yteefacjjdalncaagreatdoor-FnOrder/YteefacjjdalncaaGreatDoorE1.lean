/-
  How high a plan is, as the program reckons it: plain facts and the walk. How high a plan is, as the specification reckons it: plain facts and the walk. slices.Contains on rows of numbers, as the library has it: the walks. The places behind a place, as the program tells them: the walks. What FnOrder asks of a right plan's order, plain: what a task is after stands ahead of it, what is behind it stands behind it, and how high a plan may be. Two functions of the laws: whether a number is in a row, and whether two rows are the same. And what the law on a drawn plan's order asks, plain.
-/
import Derived.Test.YteefacjjdalncaaGreatDoorC7
import Derived.Test.YteefacjjdalncaaGreatDoorA1
import Derived.Test.YteefacjjdalncaaGreatDoorC6
import Derived.Deep.QuietTactic
import Derived.BigQuiet
namespace Go.Proofs.YteefacjjdalncaaGreatDoor
open Go Go.RowKit
set_option linter.unusedVariables false

/-- The most of what a place is after. -/
def hpF (H : List Int) (m u : Int) : Int := if m < H.getD u.toNat 0 then H.getD u.toNat 0 else m
def hpM (H : List Int) (a : Int) (l : List Int) : Int := l.foldl (hpF H) (H.getD a.toNat 0)
def hpS (ts : List Ta) (p : List Int × Int) (a : Int) : List Int × Int := (p.1.set a.toNat (hpM p.1 a (upsA ts a) + 1), if p.2 < hpM p.1 a (upsA ts a) + 1 then hpM p.1 a (upsA ts a) + 1 else p.2)
def hpL (ts : List Ta) (O : List Int) : Int := (O.foldl (hpS ts) ([0, 0, 0, 0], 0)).2
theorem fold_at {α β : Type} {f : β → α → β} {l : List α} {k : Nat} {x : α} {b : β} (h : l[k]? = some x) : (l.drop k).foldl f b = (l.drop (k + 1)).foldl f (f b x) := by
  obtain ⟨hk, rfl⟩ := List.getElem?_eq_some_iff.1 h
  rw [List.drop_eq_getElem_cons hk]
  rfl
theorem fold_end {α β : Type} {f : β → α → β} {l : List α} {k : Nat} {b : β} (h : l.length ≤ k) : (l.drop k).foldl f b = b := by
  rw [List.drop_of_length_le h]
  rfl
/-- What lies there while heights are reckoned. -/
structure HtS (w : World) (nm cr : ByteArray) (fr up : Int) (cu : Bool) (tv : Value) (bh : Nat) (ov : Value) (O : List Int) (W : World) (H : List Int) : Prop where
  bel : Below w.heap.size w W
  dag : P6 W w.heap.size nm cr fr up cu tv
  hts : N4 W bh H
  ord : ownsR W w.heap.size 3 ov O
  lob : w.heap.size ≤ bh
section
variable {w W W' : World} {nm cr : ByteArray} {fr up : Int} {cu : Bool} {tv ov : Value} {bh : Nat} {O H : List Int}
theorem HtS.onW (h : HtS w nm cr fr up cu tv bh ov O W H) (hb : Below W.heap.size W W') : HtS w nm cr fr up cu tv bh ov O W' H := ⟨Below.on h.bel hb, h.dag.on hb, h.hts.up hb, h.ord.all hb, h.lob⟩
theorem HtS.put (h : HtS w nm cr fr up cu tv bh ov O W H) (i : Nat) (x : Int) : HtS w nm cr fr up cu tv bh ov O (W.setCell ⟨bh, i, none⟩ (.int .i64 x)) (H.set i x) := by
  have hbk : ∀ k, k ≠ bh → (W.setCell ⟨bh, i, none⟩ (.int .i64 x)).heap[k]? = W.heap[k]? := fun k hk => heap_setCell_other W ⟨bh, i, none⟩ k _ hk
  refine ⟨h.bel.setCell (p := ⟨bh, i, none⟩) h.lob _, (hbk _ (not_same h.dag h.hts (by decide))).trans h.dag, h.hts.set i x, h.ord.keep fun k hk => hbk k ?_, h.lob⟩
  exact fun e => not_own h.ord h.hts (by decide) (e ▸ hk)
theorem HtS.row (h : HtS w nm cr fr up cu tv bh ov O W H) {B : Nat} {v : Value} {U : List Int} (hu : ownsR W B 3 v U) (i : Nat) (x : Value) : ownsR (W.setCell ⟨bh, i, none⟩ x) B 3 v U :=
  hu.keep fun k hk => heap_setCell_other W ⟨bh, i, none⟩ k _ fun e => not_own hu h.hts (by decide) (by rw [hk]; exact congrArg some e)
end
theorem hpF_bd {H : List Int} {k m u : Int} (hH : ∀ x ∈ H, 0 ≤ x ∧ x ≤ k) (hk : 0 ≤ k) (h0 : 0 ≤ m) (h1 : m ≤ k) : 0 ≤ hpF H m u ∧ hpF H m u ≤ k := by
  have hg : 0 ≤ H.getD u.toNat 0 ∧ H.getD u.toNat 0 ≤ k := by
    rw [List.getD_eq_getElem?_getD]
    cases hq : H[u.toNat]? with
    | none => exact ⟨Int.le_refl _, hk⟩
    | some x => exact hH x (List.mem_of_getElem? hq)
  unfold hpF
  split
  · exact hg
  · exact ⟨h0, h1⟩
theorem getD_bd {H : List Int} {k : Int} (hH : ∀ x ∈ H, 0 ≤ x ∧ x ≤ k) (hk : 0 ≤ k) (i : Nat) : 0 ≤ H.getD i 0 ∧ H.getD i 0 ≤ k := by
  rw [List.getD_eq_getElem?_getD]
  cases hq : H[i]? with
  | none => exact ⟨Int.le_refl _, hk⟩
  | some x => exact hH x (List.mem_of_getElem? hq)
theorem hpM_bd {H : List Int} {k : Int} (hH : ∀ x ∈ H, 0 ≤ x ∧ x ≤ k) (hk : 0 ≤ k) : ∀ (l : List Int) (m : Int), 0 ≤ m → m ≤ k → 0 ≤ l.foldl (hpF H) m ∧ l.foldl (hpF H) m ≤ k
  | [], m, h0, h1 => ⟨h0, h1⟩
  | u :: l, m, h0, h1 => by
    have h := hpF_bd (u := u) hH hk h0 h1
    exact hpM_bd hH hk l _ h.1 h.2
theorem set_bd {H : List Int} {k : Int} (hH : ∀ x ∈ H, 0 ≤ x ∧ x ≤ k) {i : Nat} {y : Int} (h0 : 0 ≤ y) (h1 : y ≤ k + 1) : ∀ x ∈ H.set i y, 0 ≤ x ∧ x ≤ k + 1 := fun x hx => by
  rcases List.mem_or_eq_of_mem_set hx with h | rfl
  · have := hH x h; omega
  · exact ⟨h0, h1⟩
/-- A place that a right plan's task is after. -/
theorem upsA_pl {ts : List Ta} (hr : Rg4 ts) {j : Nat} {t : Ta} (ht : ts[j]? = some t) : ∀ u ∈ upsA ts (j : Int), ∃ x : Nat, u = (x : Int) ∧ x < 4 ∧ x ≠ j := fun u hu => by
  have htm := List.mem_of_getElem? ht
  unfold upsA at hu
  rw [af_at ht] at hu
  obtain ⟨s, hs, e⟩ := (upsC_mem hr.own (hr.lies t htm)).1 hu
  obtain ⟨x, v, hx, e1, ha⟩ := at_find (hr.lies t htm s hs)
  refine ⟨x, by omega, by have := (List.getElem?_eq_some_iff.1 hx).1; have := hr.few; omega, fun exj => ?_⟩
  subst exj
  rw [ht] at hx
  cases hx
  exact hr.self t htm (e1 ▸ hs)
set_option maxRecDepth 10000 in
set_option maxHeartbeats 4000000 in
theorem implHeight_any (ao : Option Addr) (n cap : Nat) (nm cr : ByteArray) (fr up : Int) (cu : Bool) (ts : List Ta) (w : World) (hd : DagI w ao n cap ⟨nm, cr, fr, up, cu, ts⟩) (hg : Gl w) :
    Calls Tryz.prog 34 #[.agg #[.string nm, .string cr, .int .i64 fr, .int .i64 up, .bool cu, .slice ao n cap]] w fun e w' => e = .returned (.int .i64 (hpL ts (ordC ⟨nm, cr, fr, up, cu, ts⟩))) ∧ Below w.heap.size w w' := by
  obtain ⟨O, HOO⟩ : ∃ O, Hid (ordC ⟨nm, cr, fr, up, cu, ts⟩ = O) := ⟨_, rfl⟩
  have HRD : Hid (∀ W, Below w.heap.size w W → Calls Tryz.prog 27 #[.agg #[.string nm, .string cr, .int .i64 fr, .int .i64 up, .bool cu, .slice ao n cap]] W fun e w' => ∃ v, e = .returned v ∧ ownsR w' W.heap.size 3 v O ∧ Below W.heap.size W w') := fun W hb => by
    have := implOrder_any ao n cap nm cr fr up cu ts W (hd.below hb) (hg.up hb)
    rw [HOO.out] at this
    exact this
  have HN : Hid (ts.length = n) := by
    obtain ⟨ao', cap', e⟩ := hd.tasks.slice
    injection e with _ e2 _
    exact e2.symm
  have hnn : n ≤ 1048577 := hd.few
  have HRG : Hid (∀ x ∈ O, Rg4 ts ∧ O = orderL ts) := fun x hx => by
    rw [← HOO.out] at hx ⊢
    unfold ordC at hx ⊢
    by_cases hq : dagB ⟨nm, cr, fr, up, cu, ts⟩ = true
    · rw [if_pos hq]; exact ⟨rg_of hq, rfl⟩
    · rw [if_neg hq] at hx; cases hx
  have HPL : Hid (∀ x ∈ O, ∃ (j : Nat) (t : Ta), x = (j : Int) ∧ ts[j]? = some t ∧ j < 4) := fun x hx => by
    obtain ⟨h1, h2⟩ := HRG.out x hx
    rw [h2] at hx
    obtain ⟨j, t, e, hj⟩ := (order_ol h1).pl x hx
    exact ⟨j, t, e, hj, by have := (List.getElem?_eq_some_iff.1 hj).1; have := h1.few; omega⟩
  have HUP : Hid (∀ (j : Nat) (t : Ta) W, ts[j]? = some t → (j : Int) ∈ O → Below w.heap.size w W → Calls Tryz.prog 75 #[.agg #[.string nm, .string cr, .int .i64 fr, .int .i64 up, .bool cu, .slice ao n cap], .int .i64 j] W fun e w' => ∃ v, e = .returned v ∧ ownsR w' W.heap.size 3 v (upsA ts (j : Int)) ∧ Below W.heap.size W w') := fun j t W ht hm hb => by
    have hrg := (HRG.out _ hm).1
    have h2 := upsIn_any ao n cap nm cr fr up cu ts j t W (hd.tasks.below hb) hnn ht (hd.small t (List.mem_of_getElem? ht)).few
    rw [ups_sort hrg (List.mem_of_getElem? ht)] at h2
    unfold upsA
    rw [af_at ht]
    exact h2
  have HOL : Hid (O.length ≤ 4) := by
    show O.length ≤ 4
    by_cases hO : O = []
    · rw [hO]; exact Nat.zero_le _
    · obtain ⟨x, hx⟩ := List.exists_mem_of_ne_nil O hO
      obtain ⟨h1, h2⟩ := HRG.out x hx
      rw [h2, h1.full]
      exact h1.few
  rw [HOO.out]
  clear hd hg HOO
  obtain ⟨W1, hW1⟩ : ∃ W1, (w.alloc (.cells #[.string nm, .string cr, .int .i64 fr, .int .i64 up, .bool cu, .slice ao n cap] 26)).alloc (.cells #[.int .i64 0, .int .i64 0, .int .i64 0, .int .i64 0] 86) = W1 := ⟨_, rfl⟩
  have Z1 : P6 W1 w.heap.size nm cr fr up cu (.slice ao n cap) := by rw [← hW1]; exact (P6.new _ _ _ _ _ _ _).on (ba (Below.refl _ _) _)
  have B1 : Below w.heap.size w W1 := by rw [← hW1]; exact ba (ba (Below.refl _ _) _) _
  have HN1 : Hid (N4 W1 (w.heap.size + 1) [0, 0, 0, 0]) := by
    show W1.heap[_]? = _
    rw [← hW1]
    have e : w.heap.size + 1 = (w.alloc (.cells #[.string nm, .string cr, .int .i64 fr, .int .i64 up, .bool cu, .slice ao n cap] 26)).heap.size := by simp
    rw [e]
    show (Array.push _ _)[_]? = _
    rw [Array.getElem?_push_size]
    rfl
  have c0 := Z1.c0
  have c1 := Z1.c1
  have c2 := Z1.c2
  have c3 := Z1.c3
  have c4 := Z1.c4
  have c5 := Z1.c5
  go_enter Tryz.func34, Tryz.ntmps34
  go_wp2_with fail
  refine (HRD.out _ B1).mono ?_
  rintro e w2 ⟨ov, rfl, ho2, hb2⟩
  have HS2 : Hid (HtS w nm cr fr up cu (.slice ao n cap) (w.heap.size + 1) ov O w2 [0, 0, 0, 0]) := ⟨Below.on B1 hb2, Z1.on hb2, HN1.out.up hb2, ho2.mono B1.size, Nat.le_succ _⟩
  clear ho2 hb2 c0 c1 c2 c3 c4 c5 Z1 hW1 HN1 B1
  obtain ⟨oa, oc, eo⟩ := HS2.out.ord.slice
  subst eo
  obtain ⟨ol, HOLE⟩ : ∃ ol, Hid (O.length = ol) := ⟨_, rfl⟩
  have hol : ol ≤ 4 := by rw [← HOLE.out]; exact HOL.out
  rw [HOLE.out] at HS2
  rw [HOLE.out]
  generalize w.heap.size + 1 = bh at *
  obtain ⟨ov, HOV⟩ : ∃ ov, Hid (Value.slice oa ol oc = ov) := ⟨_, rfl⟩
  rw [HOV.out] at HS2
  go_wp2
  go_loopw [3, 12] (fun hv kv wr => ∃ (k : Nat) (H : List Int) (hi : Int), k ≤ ol ∧ kv = .int .i64 k ∧ hv = .int .i64 hi ∧ 0 ≤ hi ∧ hi ≤ k ∧ Hid (H.length = 4 ∧ ∀ x ∈ H, 0 ≤ x ∧ x ≤ (k : Int)) ∧ Hid (hpL ts O = ((O.drop k).foldl (hpS ts) (H, hi)).2) ∧ Hid (HtS w nm cr fr up cu (.slice ao n cap) bh ov O wr H)) (fun _ kv _ => ol - (intOf kv).toNat)
  case atStart => exact ⟨0, [0, 0, 0, 0], 0, Nat.zero_le _, rfl, rfl, by omega, by omega, ⟨rfl, by decide⟩, (by show hpL ts O = _; rw [List.drop_zero]; rfl), HS2⟩
  case round =>
    clear HS2
    obtain ⟨k, H, hi, hk, rfl, rfl, hi0, hi1, HB, HE, HS⟩ := hrel
    by_cases hlt : k < ol
    · obtain ⟨a, ha⟩ : ∃ a, O[k]? = some a := ⟨_, List.getElem?_eq_getElem (by rw [HOLE.out]; exact hlt)⟩
      obtain ⟨j, t, ej, htj, hj4⟩ := HPL.out a (List.mem_of_getElem? ha)
      subst ej
      have hmem := List.mem_of_getElem? ha
      have hrg := (HRG.out _ hmem).1
      have HUB : Hid (∀ u ∈ upsA ts (j : Int), ∃ x : Nat, u = (x : Int) ∧ x < 4 ∧ x ≠ j) := upsA_pl hrg htj
      have hord := HS.out.ord.reads
      rw [← HOV.out] at hord
      obtain ⟨ob, oo, eoa, hob, ca⟩ := int_at hord ha
      subst eoa
      have H1 := HUP.out j t wr htj hmem HS.out.bel
      have HE2 : Hid (hpL ts O = ((O.drop (k + 1)).foldl (hpS ts) (hpS ts (H, hi) (j : Int))).2) := by show hpL ts O = _; rw [HE.out, fold_at ha]
      obtain ⟨U, HUU⟩ : ∃ U, Hid (upsA ts (j : Int) = U) := ⟨_, rfl⟩
      rw [HUU.out] at H1 HUB
      have HUL : Hid (U.length ≤ 4) := by
        show U.length ≤ 4
        rw [← HUU.out]
        unfold upsA upsC
        exact Nat.le_trans (ascL_len _ _) hrg.few
      clear ha htj hrg hmem hord HE
      have c0 := HS.out.dag.c0
      have c1 := HS.out.dag.c1
      have c2 := HS.out.dag.c2
      have c3 := HS.out.dag.c3
      have c4 := HS.out.dag.c4
      have c5 := HS.out.dag.c5
      go_wp2_with fail
      refine H1.mono ?_
      rintro e w3 ⟨uv, rfl, ho3, hb3⟩
      have HS3 : Hid (HtS w nm cr fr up cu (.slice ao n cap) bh ov O w3 H) := HS.out.onW hb3
      have HU3 : Hid (ownsR w3 w.heap.size 3 uv U) := ho3.mono HS.out.bel.size
      obtain ⟨ua, uc, eu⟩ := HU3.out.slice
      subst eu
      obtain ⟨ul, HULE⟩ : ∃ ul, Hid (U.length = ul) := ⟨_, rfl⟩
      have hul : ul ≤ 4 := by rw [← HULE.out]; exact HUL.out
      rw [HULE.out] at HU3
      rw [HULE.out]
      clear ho3 hb3 HS c0 c1 c2 c3 c4 c5 ca H1
      obtain ⟨m0, HM0⟩ : ∃ m0, Hid (H.getD j 0 = m0) := ⟨_, rfl⟩
      have hm0 : 0 ≤ m0 ∧ m0 ≤ (k : Int) := by rw [← HM0.out]; exact getD_bd HB.out.2 (by omega) j
      have HH0 : Hid (H.set j m0 = H) := by
        show H.set j m0 = H
        have hj := getD_at (l := H) (i := j) (by rw [HB.out.1]; exact hj4)
        rw [HM0.out] at hj
        apply List.ext_getElem?
        intro i
        rw [set_get (by rw [HB.out.1]; exact hj4)]
        by_cases e : i = j
        · subst e; rw [if_pos rfl, hj]
        · rw [if_neg e]
      obtain ⟨M, HMM⟩ : ∃ M, Hid (hpM H (j : Int) U = M) := ⟨_, rfl⟩
      have hMb : 0 ≤ M ∧ M ≤ (k : Int) := by
        rw [← HMM.out]
        unfold hpM
        rw [Int.toNat_natCast]
        exact hpM_bd HB.out.2 (by omega) U _ (by rw [HM0.out]; exact hm0.1) (by rw [HM0.out]; exact hm0.2)
      go_wp2
      go_loopw [20] (fun iv wz => ∃ (i : Nat) (m : Int), i ≤ ul ∧ iv = .int .i64 i ∧ 0 ≤ m ∧ m ≤ (k : Int) ∧ Hid (M = (U.drop i).foldl (hpF H) m) ∧ Hid (HtS w nm cr fr up cu (.slice ao n cap) bh ov O wz (H.set j m)) ∧ Hid (ownsR wz w.heap.size 3 (.slice ua ul uc) U)) (fun iv _ => ul - (intOf iv).toNat)
      case atStart => exact ⟨0, m0, Nat.zero_le _, rfl, hm0.1, hm0.2, (by show M = _; rw [List.drop_zero, ← HMM.out]; unfold hpM; rw [Int.toNat_natCast, HM0.out]), (by show HtS _ _ _ _ _ _ _ _ _ _ _ _; rw [HH0.out]; exact HS3.out), HU3⟩
      case round =>
        clear HS3 HU3
        obtain ⟨i, m, hi', rfl, hm1, hm2, HE3, HS, HU⟩ := hrel
        by_cases hil : i < ul
        · obtain ⟨u, hu⟩ : ∃ u, U[i]? = some u := ⟨_, List.getElem?_eq_getElem (by rw [HULE.out]; exact hil)⟩
          obtain ⟨x, ex, hx4, hxj⟩ := HUB.out u (List.mem_of_getElem? hu)
          subst ex
          obtain ⟨ub, uo, eua, hub, cu1⟩ := int_at HU.out.reads hu
          subst eua
          have HE4 : Hid (M = (U.drop (i + 1)).foldl (hpF H) (hpF H m (x : Int))) := by show M = _; rw [HE3.out, fold_at hu]
          obtain ⟨y, HY⟩ : ∃ y, Hid (H.getD x 0 = y) := ⟨_, rfl⟩
          have hy := getD_bd HB.out.2 (k := (k : Int)) (by omega) x
          rw [HY.out] at hy
          have cm : wr.cell? ⟨bh, j, none⟩ = some (.int .i64 m) := HS.out.hts.cell (by rw [set_get (by rw [HB.out.1]; exact hj4), if_pos rfl])
          have cx : wr.cell? ⟨bh, x, none⟩ = some (.int .i64 y) := HS.out.hts.cell (by rw [set_get (by rw [HB.out.1]; exact hj4), if_neg hxj, getD_at (l := H) (by rw [HB.out.1]; exact hx4), HY.out])
          have fm := HS.out.hts.fz j
          have HF : Hid (hpF H m (x : Int) = if m < y then y else m) := by show hpF _ _ _ = _; unfold hpF; rw [Int.toNat_natCast, HY.out]
          have HPT : Hid (∀ z W', Below wr.heap.size wr W' → HtS w nm cr fr up cu (.slice ao n cap) bh ov O (W'.setCell ⟨bh, j, none⟩ (.int .i64 z)) (H.set j z) ∧ ownsR (W'.setCell ⟨bh, j, none⟩ (.int .i64 z)) w.heap.size 3 (.slice (some ⟨ub, uo, none⟩) ul uc) U) := fun z W' hb => by
            have h1 := (HS.out.onW hb).put j z
            rw [List.set_set] at h1
            exact ⟨h1, (HS.out.onW hb).row (HU.out.all hb) j _⟩
          have hbx := HS.out.hts.lt
          clear hu HE3 HS HU
          by_cases hmy : m < y
          · rw [if_pos hmy] at HF
            rw [HF.out] at HE4
            go_wp2
            go_region
            go_wp2
            have HP := HPT.out y wr (Below.refl _ _)
            have HP1 : Hid (∀ W', Below (wr.setCell ⟨bh, j, none⟩ (.int .i64 y)).heap.size (wr.setCell ⟨bh, j, none⟩ (.int .i64 y)) W' → HtS w nm cr fr up cu (.slice ao n cap) bh ov O W' (H.set j y) ∧ ownsR W' w.heap.size 3 (.slice (some ⟨ub, uo, none⟩) ul uc) U) := fun W' hb => ⟨HP.1.onW hb, HP.2.all hb⟩
            clear HP cm cx fm
            go_roundw
            case rel =>
              have hmx : max m y = y := by omega
              rw [hmx]
              have HQ := HP1.out _ (Below.refl _ _).drew
              exact ⟨i + 1, y, by omega, by go_num, by omega, by omega, HE4, HQ.1, HQ.2⟩
            case measure => simp [intOf]; omega
          · rw [if_neg hmy] at HF
            rw [HF.out] at HE4
            go_wp2
            go_region
            go_wp2
            have HP := HPT.out m wr (Below.refl _ _)
            have HP1 : Hid (∀ W', Below (wr.setCell ⟨bh, j, none⟩ (.int .i64 m)).heap.size (wr.setCell ⟨bh, j, none⟩ (.int .i64 m)) W' → HtS w nm cr fr up cu (.slice ao n cap) bh ov O W' (H.set j m) ∧ ownsR W' w.heap.size 3 (.slice (some ⟨ub, uo, none⟩) ul uc) U) := fun W' hb => ⟨HP.1.onW hb, HP.2.all hb⟩
            clear HP cm cx fm
            go_roundw
            case rel =>
              have hmx : max m y = m := by omega
              rw [hmx]
              have HQ := HP1.out _ (Below.refl _ _).drew
              exact ⟨i + 1, m, by omega, by go_num, by omega, by omega, HE4, HQ.1, HQ.2⟩
            case measure => simp [intOf]; omega
        · have HE5 : Hid (M = m) := by show M = m; rw [HE3.out, fold_end (by rw [HULE.out]; omega)]
          have cm : wr.cell? ⟨bh, j, none⟩ = some (.int .i64 m) := HS.out.hts.cell (by rw [set_get (by rw [HB.out.1]; exact hj4), if_pos rfl])
          have fm := HS.out.hts.fz j
          obtain ⟨WY, hWY⟩ : ∃ WY, wr.setCell ⟨bh, j, none⟩ (.int .i64 (m + 1)) = WY := ⟨_, rfl⟩
          have HSY : Hid (HtS w nm cr fr up cu (.slice ao n cap) bh ov O WY (H.set j (m + 1))) := by
            have h1 := HS.out.put j (m + 1)
            rw [List.set_set, hWY] at h1
            exact h1
          have cy : WY.cell? ⟨bh, j, none⟩ = some (.int .i64 (m + 1)) := HSY.out.hts.cell (by rw [set_get (by rw [HB.out.1]; exact hj4), if_pos rfl])
          have hwr : IntKind.i64.wrap (m + 1) = m + 1 := by rw [IntKind.wrap_i64]; omega
          have HSP : Hid (hpS ts (H, hi) (j : Int) = (H.set j (m + 1), if hi < m + 1 then m + 1 else hi)) := by
            show hpS _ _ _ = _
            unfold hpS
            rw [HUU.out, HMM.out, HE5.out, Int.toNat_natCast]
          have HB2 : Hid ((H.set j (m + 1)).length = 4 ∧ ∀ x ∈ H.set j (m + 1), 0 ≤ x ∧ x ≤ ((k + 1 : Nat) : Int)) := ⟨by rw [List.length_set]; exact HB.out.1, fun x hx => by have := set_bd HB.out.2 (y := m + 1) (by omega) (by omega) x hx; omega⟩
          clear HS HU HE3
          by_cases hgt : hi < m + 1
          · rw [if_pos hgt] at HSP
            rw [HSP.out] at HE2
            go_wp2
            go_roundw
            case rel => exact ⟨k + 1, _, m + 1, by omega, by go_num, (by rw [show max hi (m + 1) = m + 1 by omega]), by omega, by omega, HB2, HE2, HSY⟩
            case measure => simp [intOf]; omega
          · rw [if_neg hgt] at HSP
            rw [HSP.out] at HE2
            go_wp2
            go_roundw
            case rel => exact ⟨k + 1, _, hi, by omega, by go_num, (by rw [show max hi (m + 1) = hi by omega]), by omega, by omega, HB2, HE2, HSY⟩
            case measure => simp [intOf]; omega
    · have HF : Hid (hpL ts O = hi) := by show hpL ts O = hi; rw [HE.out, fold_end (by rw [HOLE.out]; omega)]
      have HBB := HS.out.bel
      clear HS HE
      go_wp2
      go_ret
      exact ⟨by rw [HF.out]; rfl, HBB⟩
end Go.Proofs.YteefacjjdalncaaGreatDoor

namespace Go.Proofs.YteefacjjdalncaaGreatDoor
open Go Go.RowKit
set_option linter.unusedVariables false

def hsF (H : List Int) (m u : Int) : Int := if m < H.getD u.toNat 0 + 1 then H.getD u.toNat 0 + 1 else m
def hsM (H : List Int) (l : List Int) : Int := l.foldl (hsF H) 1
def hsS (ts : List Ta) (p : List Int × Int) (a : Int) : List Int × Int := (p.1.set a.toNat (hsM p.1 (upsA ts a)), if p.2 < hsM p.1 (upsA ts a) then hsM p.1 (upsA ts a) else p.2)
def hsL (ts : List Ta) (O : List Int) : Int := (O.foldl (hsS ts) (List.replicate O.length 0, 0)).2
theorem hsF_bd {H : List Int} {k m u : Int} (hH : ∀ x ∈ H, 0 ≤ x ∧ x ≤ k) (hk : 0 ≤ k) (h0 : 0 ≤ m) (h1 : m ≤ k + 1) : 0 ≤ hsF H m u ∧ hsF H m u ≤ k + 1 := by
  have hg := getD_bd hH hk u.toNat
  unfold hsF
  split <;> omega
theorem fold_same {Hp Hs : List Int} : ∀ (l : List Int) (m : Int), (∀ u ∈ l, Hp.getD u.toNat 0 = Hs.getD u.toNat 0) → l.foldl (hsF Hs) (m + 1) = l.foldl (hpF Hp) m + 1
  | [], _, _ => rfl
  | u :: l, m, h => by
    rw [List.foldl_cons, List.foldl_cons]
    have e : hsF Hs (m + 1) u = hpF Hp m u + 1 := by
      unfold hsF hpF
      rw [← h u (List.mem_cons_self ..)]
      split <;> split <;> omega
    rw [e]
    exact fold_same l _ fun v hv => h v (List.mem_cons_of_mem _ hv)
theorem get_set {H : List Int} {i j : Nat} {y : Int} (hi : i < H.length) : (H.set i y).getD j 0 = if j = i then y else H.getD j 0 := by
  rw [List.getD_eq_getElem?_getD, set_get hi, List.getD_eq_getElem?_getD]
  split <;> rfl
/-- Both reckon the same. -/
theorem ht_go {ts : List Ta} (hr : Rg4 ts) : ∀ (O : List Int) (Hp Hs : List Int) (hi : Int), O.Nodup → (∀ x ∈ O, ∃ (j : Nat) (t : Ta), x = (j : Int) ∧ ts[j]? = some t) → Hp.length = 4 → Hs.length = ts.length → (∀ j, j < ts.length → Hp.getD j 0 = Hs.getD j 0) → (∀ x ∈ O, Hp.getD x.toNat 0 = 0) → (O.foldl (hpS ts) (Hp, hi)).2 = (O.foldl (hsS ts) (Hs, hi)).2
  | [], _, _, _, _, _, _, _, _, _ => rfl
  | a :: O, Hp, Hs, hi, hn, hpl, h4, hl, he, h0 => by
    rw [List.nodup_cons] at hn
    obtain ⟨j, t, rfl, ht⟩ := hpl a (List.mem_cons_self ..)
    have hjl := (List.getElem?_eq_some_iff.1 ht).1
    have hj4 : j < 4 := Nat.lt_of_lt_of_le hjl hr.few
    have hM : hsM Hs (upsA ts (j : Int)) = hpM Hp (j : Int) (upsA ts (j : Int)) + 1 := by
      unfold hsM hpM
      rw [h0 _ (List.mem_cons_self ..)]
      refine fold_same _ 0 fun u hu => ?_
      unfold upsA at hu
      obtain ⟨k, hk, _, rfl⟩ := ascL_mem.1 hu
      rw [Int.toNat_natCast]
      exact he k hk
    rw [List.foldl_cons, List.foldl_cons]
    have e1 : hpS ts (Hp, hi) (j : Int) = (Hp.set j (hpM Hp (j : Int) (upsA ts (j : Int)) + 1), if hi < hpM Hp (j : Int) (upsA ts (j : Int)) + 1 then hpM Hp (j : Int) (upsA ts (j : Int)) + 1 else hi) := by unfold hpS; rw [Int.toNat_natCast]
    have e2 : hsS ts (Hs, hi) (j : Int) = (Hs.set j (hpM Hp (j : Int) (upsA ts (j : Int)) + 1), if hi < hpM Hp (j : Int) (upsA ts (j : Int)) + 1 then hpM Hp (j : Int) (upsA ts (j : Int)) + 1 else hi) := by unfold hsS; rw [Int.toNat_natCast, hM]
    rw [e1, e2]
    refine ht_go hr O _ _ _ hn.2 (fun x hx => hpl x (List.mem_cons_of_mem _ hx)) (by rw [List.length_set]; exact h4) (by rw [List.length_set]; exact hl) (fun i hi' => ?_) (fun x hx => ?_)
    · rw [get_set (by omega), get_set (by omega)]
      split
      · rfl
      · exact he i hi'
    · obtain ⟨i, u, rfl, hu⟩ := hpl x (List.mem_cons_of_mem _ hx)
      rw [Int.toNat_natCast, get_set (by omega), if_neg (fun e => hn.1 (by rw [← e]; exact hx))]
      have := h0 _ (List.mem_cons_of_mem _ hx)
      rwa [Int.toNat_natCast] at this
theorem ht_same {ts : List Ta} {O : List Int} (h : O = [] ∨ (Rg4 ts ∧ O = orderL ts)) : hpL ts O = hsL ts O := by
  rcases h with rfl | ⟨hr, rfl⟩
  · rfl
  · have hol := order_ol hr
    refine ht_go hr _ _ _ 0 hol.nd hol.pl rfl (by rw [List.length_replicate]; exact hr.full) (fun j hj => ?_) (fun x hx => ?_)
    · have h4 := hr.few
      have e1 : ([0, 0, 0, 0] : List Int).getD j 0 = 0 := by
        have : j = 0 ∨ j = 1 ∨ j = 2 ∨ j = 3 := by omega
        rcases this with rfl | rfl | rfl | rfl <;> rfl
      rw [e1, List.getD_eq_getElem?_getD, List.getElem?_replicate]
      split <;> rfl
    · obtain ⟨i, u, rfl, hu⟩ := hol.pl x hx
      have h4 := hr.few
      have hi := (List.getElem?_eq_some_iff.1 hu).1
      rw [Int.toNat_natCast]
      have : i = 0 ∨ i = 1 ∨ i = 2 ∨ i = 3 := by omega
      rcases this with rfl | rfl | rfl | rfl <;> rfl
/-- What lies there while heights are reckoned. -/
structure HsS (w : World) (nm cr : ByteArray) (fr up : Int) (cu : Bool) (tv : Value) (gh ol : Nat) (ov : Value) (O : List Int) (W : World) (H : List Int) : Prop where
  bel : Below w.heap.size w W
  dag : P6 W w.heap.size nm cr fr up cu tv
  hts : ownsR W w.heap.size 3 (.slice (some ⟨gh, 0, none⟩) ol ol) H
  ord : ownsR W w.heap.size 3 ov O
  apart : ov.ownBlock ≠ some gh
section
variable {w W W' : World} {nm cr : ByteArray} {fr up : Int} {cu : Bool} {tv ov : Value} {gh ol : Nat} {O H : List Int}
theorem HsS.onW (h : HsS w nm cr fr up cu tv gh ol ov O W H) (hb : Below W.heap.size W W') : HsS w nm cr fr up cu tv gh ol ov O W' H := ⟨Below.on h.bel hb, h.dag.on hb, h.hts.all hb, h.ord.all hb, h.apart⟩
theorem HsS.put (h : HsS w nm cr fr up cu tv gh ol ov O W H) {i : Nat} (hi : i < H.length) (x : Int) : HsS w nm cr fr up cu tv gh ol ov O (W.setCell ⟨gh, i, none⟩ (.int .i64 x)) (H.set i x) := by
  have hbk : ∀ k, k ≠ gh → (W.setCell ⟨gh, i, none⟩ (.int .i64 x)).heap[k]? = W.heap[k]? := fun k hk => heap_setCell_other W ⟨gh, i, none⟩ k _ hk
  have hlow := own_low h.hts (k := gh) rfl
  refine ⟨h.bel.setCell (p := ⟨gh, i, none⟩) hlow.1 _, (hbk _ (fun e => not_own h.hts h.dag (by decide) (by show some gh = _; rw [e]))).trans h.dag, int_put h.hts x (getD_at hi), h.ord.keep fun k hk => hbk k ?_, h.apart⟩
  exact fun e => h.apart (by rw [hk, e])
theorem HsS.row (h : HsS w nm cr fr up cu tv gh ol ov O W H) {B : Nat} {v : Value} {U : List Int} (hu : ownsR W B 3 v U) (ha : v.ownBlock ≠ some gh) (i : Nat) (x : Value) : ownsR (W.setCell ⟨gh, i, none⟩ x) B 3 v U :=
  hu.keep fun k hk => heap_setCell_other W ⟨gh, i, none⟩ k _ fun e => ha (by rw [hk]; exact congrArg some e)
end
set_option maxRecDepth 10000 in
set_option maxHeartbeats 4000000 in
theorem specHeight_any (ao : Option Addr) (n cap : Nat) (nm cr : ByteArray) (fr up : Int) (cu : Bool) (ts : List Ta) (w : World) (hd : DagAt w (.slice ao n cap) ⟨nm, cr, fr, up, cu, ts⟩) :
    Calls Tryz.prog 35 #[.agg #[.string nm, .string cr, .int .i64 fr, .int .i64 up, .bool cu, .slice ao n cap]] w fun e w' => e = .returned (.int .i64 (hsL ts (ordC ⟨nm, cr, fr, up, cu, ts⟩))) ∧ Below w.heap.size w w' := by
  obtain ⟨i0, hi0, hz0, hz1, hz2⟩ := info_parts info3
  obtain ⟨O, HOO⟩ : ∃ O, Hid (ordC ⟨nm, cr, fr, up, cu, ts⟩ = O) := ⟨_, rfl⟩
  have HRD : Hid (∀ W, Below w.heap.size w W → Calls Tryz.prog 29 #[.agg #[.string nm, .string cr, .int .i64 fr, .int .i64 up, .bool cu, .slice ao n cap]] W fun e w' => ∃ v, e = .returned v ∧ ownsR w' W.heap.size 3 v O ∧ Below W.heap.size W w') := fun W hb => by
    have := specOrder_any ao n cap nm cr fr up cu ts W (hd.below hb)
    rw [HOO.out] at this
    exact this
  have HN : Hid (ts.length = n) := by
    obtain ⟨ao', cap', e⟩ := hd.tasks.slice
    injection e with _ e2 _
    exact e2.symm
  have HRG : Hid (∀ x ∈ O, Rg4 ts ∧ O = orderL ts) := fun x hx => by
    rw [← HOO.out] at hx ⊢
    unfold ordC at hx ⊢
    by_cases hq : dagB ⟨nm, cr, fr, up, cu, ts⟩ = true
    · rw [if_pos hq]; exact ⟨rg_of hq, rfl⟩
    · rw [if_neg hq] at hx; cases hx
  have HPL : Hid (∀ x ∈ O, ∃ (j : Nat) (t : Ta), x = (j : Int) ∧ ts[j]? = some t ∧ j < O.length) := fun x hx => by
    obtain ⟨h1, h2⟩ := HRG.out x hx
    have h3 : O.length = ts.length := by rw [h2]; exact h1.full
    rw [h2] at hx
    obtain ⟨j, t, e, hj⟩ := (order_ol h1).pl x hx
    exact ⟨j, t, e, hj, by have := (List.getElem?_eq_some_iff.1 hj).1; omega⟩
  have HUP : Hid (∀ (j : Nat) (t : Ta) W, ts[j]? = some t → (j : Int) ∈ O → Below w.heap.size w W → Calls Tryz.prog 80 #[.agg #[.string nm, .string cr, .int .i64 fr, .int .i64 up, .bool cu, .slice ao n cap], .int .i64 j] W fun e w' => ∃ v, e = .returned v ∧ ownsR w' W.heap.size 3 v (upsA ts (j : Int)) ∧ Below W.heap.size W w') := fun j t W ht hm hb => by
    have hrg := (HRG.out _ hm).1
    have htm := List.mem_of_getElem? ht
    have h2 := l13Ups_any ao n cap nm cr fr up cu ts j t W (hd.tasks.below hb) (by rw [← HN.out]; exact hrg.few) ht (rg_few hrg htm)
    rw [ups_spec hrg htm] at h2
    unfold upsA
    rw [af_at ht]
    exact h2
  have HOL : Hid (O.length ≤ 4) := by
    show O.length ≤ 4
    by_cases hO : O = []
    · rw [hO]; exact Nat.zero_le _
    · obtain ⟨x, hx⟩ := List.exists_mem_of_ne_nil O hO
      obtain ⟨h1, h2⟩ := HRG.out x hx
      rw [h2, h1.full]
      exact h1.few
  have HUX : Hid (∀ (j : Nat) (t : Ta), ts[j]? = some t → (j : Int) ∈ O → ∀ u ∈ upsA ts (j : Int), ∃ x : Nat, u = (x : Int) ∧ x < O.length ∧ x ≠ j) := fun j t ht hm u hu => by
    obtain ⟨hrg, h2⟩ := HRG.out _ hm
    obtain ⟨x, e, _, hxj⟩ := upsA_pl hrg ht u hu
    refine ⟨x, e, ?_, hxj⟩
    unfold upsA at hu
    obtain ⟨y, hy, _, e2⟩ := ascL_mem.1 hu
    have h3 : O.length = ts.length := by rw [h2]; exact hrg.full
    omega
  rw [HOO.out]
  clear hd HOO
  obtain ⟨W1, hW1⟩ : ∃ W1, w.alloc (.cells #[.string nm, .string cr, .int .i64 fr, .int .i64 up, .bool cu, .slice ao n cap] 26) = W1 := ⟨_, rfl⟩
  have Z1 : P6 W1 w.heap.size nm cr fr up cu (.slice ao n cap) := by rw [← hW1]; exact P6.new _ _ _ _ _ _ _
  have B1 : Below w.heap.size w W1 := by rw [← hW1]; exact ba (Below.refl _ _) _
  have c0 := Z1.c0
  have c1 := Z1.c1
  have c2 := Z1.c2
  have c3 := Z1.c3
  have c4 := Z1.c4
  have c5 := Z1.c5
  go_enter Tryz.func35, Tryz.ntmps35
  go_wp2_with fail
  refine (HRD.out _ B1).mono ?_
  rintro e w2 ⟨ov, rfl, ho2, hb2⟩
  have Z2 := Z1.on hb2
  have B2 := Below.on B1 hb2
  have o2 := ho2.mono B1.size
  obtain ⟨oa, oc, eo⟩ := o2.slice
  subst eo
  obtain ⟨ol, HOLE⟩ : ∃ ol, Hid (O.length = ol) := ⟨_, rfl⟩
  have hol : ol ≤ 4 := by rw [← HOLE.out]; exact HOL.out
  rw [HOLE.out] at o2
  rw [HOLE.out]
  clear ho2 hb2 c0 c1 c2 c3 c4 c5 Z1 hW1 B1
  have hs2 : w.heap.size ≤ w2.heap.size := B2.size
  go_wp2_with (at_make; refine wpList_make_full _ rfl _ _ 37 rfl w.heap.size 3 i0 _ 1 underI hi0 hz0 hz1 .i64 .i64 _ _ ol rfl rfl rfl rfl (by rw [hz2]; omega) (by unfold maxLen; omega) hs2 ?_; intro w3 ho3 hg3)
  rw [made_ints] at ho3
  have HS3 : Hid (HsS w nm cr fr up cu (.slice ao n cap) w2.heap.size ol (.slice oa ol oc) O w3 (List.replicate ol 0)) := by
    have hbb : Below w2.heap.size w2 w3 := (Below.refl _ _).grown hg3 (Nat.le_refl _) (fun j hj => by cases hj)
    refine ⟨Below.on B2 hbb, Z2.on hbb, ?_, o2.all hbb, fun e => ?_⟩
    · unfold ownsR; rw [List.length_replicate]; exact ho3
    · have := (own_low o2 e).2
      omega
  clear ho3 hg3 o2 Z2 B2
  generalize w2.heap.size = gh at *
  obtain ⟨ov, HOV⟩ : ∃ ov, Hid (Value.slice oa ol oc = ov) := ⟨_, rfl⟩
  rw [HOV.out] at HS3
  rw [HOLE.out] at HPL HUX
  go_wp2
  go_loopw [5, 6] (fun hv kv wr => ∃ (k : Nat) (H : List Int) (hi : Int), k ≤ ol ∧ kv = .int .i64 k ∧ hv = .int .i64 hi ∧ 0 ≤ hi ∧ hi ≤ k ∧ Hid (H.length = ol ∧ ∀ x ∈ H, 0 ≤ x ∧ x ≤ (k : Int)) ∧ Hid (hsL ts O = ((O.drop k).foldl (hsS ts) (H, hi)).2) ∧ Hid (HsS w nm cr fr up cu (.slice ao n cap) gh ol ov O wr H)) (fun _ kv _ => ol - (intOf kv).toNat)
  case atStart => exact ⟨0, List.replicate ol 0, 0, Nat.zero_le _, rfl, rfl, by omega, by omega, ⟨by simp, fun x hx => by rw [List.eq_of_mem_replicate hx]; omega⟩, (by show hsL ts O = _; rw [List.drop_zero]; unfold hsL; rw [HOLE.out]), HS3⟩
  case round =>
    clear HS3
    obtain ⟨k, H, hi, hk, rfl, rfl, hi0, hi1, HB, HE, HS⟩ := hrel
    by_cases hlt : k < ol
    · obtain ⟨a, ha⟩ : ∃ a, O[k]? = some a := ⟨_, List.getElem?_eq_getElem (by rw [HOLE.out]; exact hlt)⟩
      obtain ⟨j, t, ej, htj, hj4⟩ := HPL.out a (List.mem_of_getElem? ha)
      subst ej
      have hmem := List.mem_of_getElem? ha
      have hrg := (HRG.out _ hmem).1
      have HUB : Hid (∀ u ∈ upsA ts (j : Int), ∃ x : Nat, u = (x : Int) ∧ x < ol ∧ x ≠ j) := HUX.out j t htj hmem
      have hord := HS.out.ord.reads
      rw [← HOV.out] at hord
      obtain ⟨ob, oo, eoa, hob, ca⟩ := int_at hord ha
      subst eoa
      have hjH : j < H.length := by rw [HB.out.1]; exact hj4
      obtain ⟨-, cj, fj⟩ := int_own HS.out.hts (getD_at hjH)
      obtain ⟨WY, hWY⟩ : ∃ WY, wr.setCell ⟨gh, j, none⟩ (.int .i64 1) = WY := ⟨_, rfl⟩
      have HSY : Hid (HsS w nm cr fr up cu (.slice ao n cap) gh ol ov O WY (H.set j 1)) := by rw [← hWY]; exact HS.out.put hjH 1
      have H1 := HUP.out j t WY htj hmem HSY.out.bel
      have HE2 : Hid (hsL ts O = ((O.drop (k + 1)).foldl (hsS ts) (hsS ts (H, hi) (j : Int))).2) := by show hsL ts O = _; rw [HE.out, fold_at ha]
      obtain ⟨U, HUU⟩ : ∃ U, Hid (upsA ts (j : Int) = U) := ⟨_, rfl⟩
      rw [HUU.out] at H1 HUB
      have HUL : Hid (U.length ≤ 4) := by
        show U.length ≤ 4
        rw [← HUU.out]
        unfold upsA upsC
        exact Nat.le_trans (ascL_len _ _) hrg.few
      clear ha htj hrg hmem hord HE HS
      have c0 := HSY.out.dag.c0
      have c1 := HSY.out.dag.c1
      have c2 := HSY.out.dag.c2
      have c3 := HSY.out.dag.c3
      have c4 := HSY.out.dag.c4
      have c5 := HSY.out.dag.c5
      go_wp2_with fail
      refine H1.mono ?_
      rintro e w3 ⟨uv, rfl, ho3, hb3⟩
      have HS3 : Hid (HsS w nm cr fr up cu (.slice ao n cap) gh ol ov O w3 (H.set j 1)) := HSY.out.onW hb3
      have HU3 : Hid (ownsR w3 w.heap.size 3 uv U) := ho3.mono HSY.out.bel.size
      have HUA : Hid (uv.ownBlock ≠ some gh) := fun e => by
        have h1 := (own_low ho3 e).1
        have h2 := (own_low HSY.out.hts (k := gh) rfl).2
        omega
      obtain ⟨ua, uc, eu⟩ := HU3.out.slice
      subst eu
      obtain ⟨ul, HULE⟩ : ∃ ul, Hid (U.length = ul) := ⟨_, rfl⟩
      have hul : ul ≤ 4 := by rw [← HULE.out]; exact HUL.out
      rw [HULE.out] at HU3 HUA
      rw [HULE.out]
      clear ho3 hb3 HSY c0 c1 c2 c3 c4 c5 ca H1 hWY cj fj
      obtain ⟨M, HMM⟩ : ∃ M, Hid (hsM H U = M) := ⟨_, rfl⟩
      go_wp2
      go_loopw [9] (fun iv wz => ∃ (i : Nat) (m : Int), i ≤ ul ∧ iv = .int .i64 i ∧ 0 ≤ m ∧ m ≤ (k : Int) + 1 ∧ Hid (M = (U.drop i).foldl (hsF H) m) ∧ Hid (HsS w nm cr fr up cu (.slice ao n cap) gh ol ov O wz (H.set j m)) ∧ Hid (ownsR wz w.heap.size 3 (.slice ua ul uc) U)) (fun iv _ => ul - (intOf iv).toNat)
      case atStart => exact ⟨0, 1, Nat.zero_le _, rfl, by omega, by omega, (by show M = _; rw [List.drop_zero, ← HMM.out]; rfl), HS3, HU3⟩
      case round =>
        clear HS3 HU3
        obtain ⟨i, m, hi', rfl, hm1, hm2, HE3, HS, HU⟩ := hrel
        have hjS : j < (H.set j m).length := by rw [List.length_set]; exact hjH
        obtain ⟨-, cm, fm⟩ := int_own HS.out.hts (i := j) (x := m) (by rw [set_get hjH, if_pos rfl])
        by_cases hil : i < ul
        · obtain ⟨u, hu⟩ : ∃ u, U[i]? = some u := ⟨_, List.getElem?_eq_getElem (by rw [HULE.out]; exact hil)⟩
          obtain ⟨x, ex, hx4, hxj⟩ := HUB.out u (List.mem_of_getElem? hu)
          subst ex
          obtain ⟨ub, uo, eua, hub, cu1⟩ := int_at HU.out.reads hu
          subst eua
          have HE4 : Hid (M = (U.drop (i + 1)).foldl (hsF H) (hsF H m (x : Int))) := by show M = _; rw [HE3.out, fold_at hu]
          obtain ⟨y, HY⟩ : ∃ y, Hid (H.getD x 0 = y) := ⟨_, rfl⟩
          have hy := getD_bd HB.out.2 (k := (k : Int)) (by omega) x
          rw [HY.out] at hy
          obtain ⟨-, cx, -⟩ := int_own HS.out.hts (i := x) (x := y) (by rw [set_get hjH, if_neg hxj, getD_at (l := H) (by rw [HB.out.1]; exact hx4), HY.out])
          have HF : Hid (hsF H m (x : Int) = if m < y + 1 then y + 1 else m) := by show hsF _ _ _ = _; unfold hsF; rw [Int.toNat_natCast, HY.out]
          have hwr : IntKind.i64.wrap (y + 1) = y + 1 := by rw [IntKind.wrap_i64]; omega
          have q1 := Wd.cell cm
          have q2 := Wd.cell cx
          have q3 := Wd.cell cu1
          clear hu HE3
          by_cases hmy : m < y + 1
          · rw [if_pos hmy] at HF
            rw [HF.out] at HE4
            go_wp2
            refine wp_region_wd (by kernel_rfl) (by kernel_rfl) ?_
            repeat (go_big_quiet_step (fail))
            refine wpQuiet_nil ?_
            rintro _ ⟨xx, rfl⟩
            obtain ⟨V, hV⟩ : ∃ V, xx.at' = V := ⟨_, rfl⟩
            have HSV : Hid (HsS w nm cr fr up cu (.slice ao n cap) gh ol ov O V (H.set j m)) := by rw [← hV]; exact HS.out.onW xx.ok
            have HUV : Hid (ownsR V w.heap.size 3 (.slice (some ⟨ub, uo, none⟩) ul uc) U) := by rw [← hV]; exact HU.out.all xx.ok
            have d1 := q1 xx
            have d2 := q2 xx
            have d3 := q3 xx
            rw [hV] at d1 d2 d3
            rw [hV]
            obtain ⟨-, -, f1⟩ := int_own HSV.out.hts (i := j) (x := m) (by rw [set_get hjH, if_pos rfl])
            obtain ⟨V2, hV2⟩ : ∃ V2, V.setCell ⟨gh, j, none⟩ (.int .i64 (y + 1)) = V2 := ⟨_, rfl⟩
            have HS2 : Hid (HsS w nm cr fr up cu (.slice ao n cap) gh ol ov O V2 (H.set j (y + 1))) := by
              have h1 := HSV.out.put hjS (y + 1)
              rw [List.set_set, hV2] at h1
              exact h1
            have HU2 : Hid (ownsR V2 w.heap.size 3 (.slice (some ⟨ub, uo, none⟩) ul uc) U) := by rw [← hV2]; exact HSV.out.row HUV.out HUA.out j _
            clear hV HS HU cm cx cu1 fm q1 q2 q3 HSV HUV
            go_wp2
            go_roundw
            case rel => exact ⟨i + 1, y + 1, by omega, by go_num, by omega, by omega, HE4, HS2, HU2⟩
            case measure => simp [intOf]; omega
          · rw [if_neg hmy] at HF
            rw [HF.out] at HE4
            go_wp2
            refine wp_region_wd (by kernel_rfl) (by kernel_rfl) ?_
            repeat (go_big_quiet_step (fail))
            refine wpQuiet_nil ?_
            rintro _ ⟨xx, rfl⟩
            have HS2 : Hid (HsS w nm cr fr up cu (.slice ao n cap) gh ol ov O xx.at' (H.set j m)) := HS.out.onW xx.ok
            have HU2 : Hid (ownsR xx.at' w.heap.size 3 (.slice (some ⟨ub, uo, none⟩) ul uc) U) := HU.out.all xx.ok
            clear HS HU cm cx cu1 fm q1 q2 q3
            go_wp2
            go_roundw
            case rel => exact ⟨i + 1, m, by omega, by go_num, by omega, by omega, HE4, HS2, HU2⟩
            case measure => simp [intOf]; omega
        · have HE5 : Hid (M = m) := by show M = m; rw [HE3.out, fold_end (by rw [HULE.out]; omega)]
          have HSP : Hid (hsS ts (H, hi) (j : Int) = (H.set j m, if hi < m then m else hi)) := by
            show hsS _ _ _ = _
            unfold hsS
            rw [HUU.out, HMM.out, HE5.out, Int.toNat_natCast]
          have HB2 : Hid ((H.set j m).length = ol ∧ ∀ x ∈ H.set j m, 0 ≤ x ∧ x ≤ ((k + 1 : Nat) : Int)) := ⟨by rw [List.length_set]; exact HB.out.1, fun x hx => by have := set_bd HB.out.2 (y := m) (by omega) (by omega) x hx; omega⟩
          clear HU HE3
          by_cases hgt : hi < m
          · rw [if_pos hgt] at HSP
            rw [HSP.out] at HE2
            go_wp2
            go_roundw
            case rel => exact ⟨k + 1, _, m, by omega, by go_num, rfl, by omega, by omega, HB2, HE2, HS⟩
            case measure => simp [intOf]; omega
          · rw [if_neg hgt] at HSP
            rw [HSP.out] at HE2
            go_wp2
            go_roundw
            case rel => exact ⟨k + 1, _, hi, by omega, by go_num, rfl, by omega, by omega, HB2, HE2, HS⟩
            case measure => simp [intOf]; omega
    · have HF : Hid (hsL ts O = hi) := by show hsL ts O = hi; rw [HE.out, fold_end (by rw [HOLE.out]; omega)]
      have HBB := HS.out.bel
      clear HS HE
      go_wp2
      go_ret
      exact ⟨by rw [HF.out]; rfl, HBB⟩
end Go.Proofs.YteefacjjdalncaaGreatDoor

namespace Go.Proofs.YteefacjjdalncaaGreatDoor
open Go Go.RowKit

set_option maxHeartbeats 1000000 in
theorem index_try (ao : Option Addr) (n c : Nat) (m : List Int) (x : Int) (w : World) (hr : Reads w (.slice ao n c) m) (hn : n ≤ 1048577) :
    Calls Tryz.prog 123 #[.slice ao n c, .int .i64 x] w fun e w' => ∃ r : Int, e = .returned (.int .i64 r) ∧ decide (0 ≤ r) = decide (x ∈ m) ∧ w' = w := by
  have HR : Hid (Reads w (.slice ao n c) m) := hr
  have HN : Hid (n = m.length) := hr.len
  clear hr
  go_enter Tryz.func123, Tryz.ntmps123
  go_wp2
  go_loopw [8] (fun i wr => ∃ k : Nat, k ≤ n ∧ i = .int .i64 k ∧ Hid (x ∈ m ↔ x ∈ m.drop k) ∧ wr = w) (fun i _ => n - (intOf i).toNat)
  case atStart => exact ⟨0, Nat.zero_le _, rfl, (by show x ∈ m ↔ x ∈ m.drop 0; rw [List.drop_zero]), rfl⟩
  case round =>
    obtain ⟨k, hk, rfl, HE, rfl⟩ := hrel
    by_cases hlt : k < n
    · obtain ⟨y, hy⟩ : ∃ y, m[k]? = some y := ⟨_, List.getElem?_eq_getElem (by rw [← HN.out]; exact hlt)⟩
      have HM : Hid (x ∈ m ↔ x = y ∨ x ∈ m.drop (k + 1)) := HE.out.trans (mem_drop_at hy)
      obtain ⟨b, o, rfl, hb, c0⟩ := int_at HR.out hy
      clear hy HE
      by_cases hyx : x = y
      · have HF : Hid (decide (x ∈ m) = true) := decide_eq_true (HM.out.2 (.inl hyx))
        go_wp2
        go_ret
        exact ⟨_, rfl, by rw [HF.out]; exact decide_eq_true (by omega), rfl⟩
      · have HF : Hid (x ∈ m ↔ x ∈ m.drop (k + 1)) := HM.out.trans ⟨fun h => h.resolve_left fun e => hyx e, .inr⟩
        go_wp2
        go_roundw
        case rel => exact ⟨k + 1, by omega, by go_num, HF, trivial⟩
        case measure => simp [intOf]; omega
    · have HF : Hid (decide (x ∈ m) = false) := decide_eq_false fun h => not_mem_end (by rw [← HN.out]; omega) (HE.out.1 h)
      go_wp2
      go_ret
      exact ⟨_, rfl, by rw [HF.out]; rfl, rfl⟩

theorem contains_try (ao : Option Addr) (n c : Nat) (m : List Int) (x : Int) (w : World) (hr : Reads w (.slice ao n c) m) (hn : n ≤ 1048577) :
    Calls Tryz.prog 77 #[.slice ao n c, .int .i64 x] w fun e w' => e = .returned (.bool (decide (x ∈ m))) ∧ w' = w := by
  have HR : Hid (Reads w (.slice ao n c) m) := hr
  clear hr
  go_enter Tryz.func77, Tryz.ntmps77
  go_wp2_with (go_at_call 123; refine (index_try _ _ _ m _ _ HR.out hn).mono ?_; rintro e w1 ⟨r, rfl, hd, hw⟩; have hw2 := hw.symm; subst hw2)
  go_ret
  exact ⟨by rw [← hd]; rfl, rfl⟩

end Go.Proofs.YteefacjjdalncaaGreatDoor

namespace Go.Proofs.YteefacjjdalncaaGreatDoor
open Go Go.RowKit
set_option linter.unusedVariables false

set_option maxRecDepth 10000 in
set_option maxHeartbeats 1000000 in
theorem leads_any (u i : Int) (bi bd : Nat) (ao : Option Addr) (n c : Nat) (D : List Int) (w : World) (ci : w.cell? ⟨bi, 0, none⟩ = some (.int .i64 i)) (cd : w.cell? ⟨bd, 0, none⟩ = some (.slice ao n c)) (hr : Reads w (.slice ao n c) D) (hn : n ≤ 1048577) :
    Calls Tryz.prog 76 #[.int .i64 u, .pointer (some ⟨bi, 0, none⟩), .pointer (some ⟨bd, 0, none⟩)] w fun e w' => e = .returned (.bool (leadB i D u)) ∧ w' = w := by
  have HC := contains_try ao n c D u w hr hn
  have HL : Hid (leadB i D u = (decide (u = i) || memI D u)) := rfl
  have HM : Hid (decide (u ∈ D) = memI D u) := by
    show decide (u ∈ D) = memI D u
    by_cases h : u ∈ D
    · rw [decide_eq_true h, memI_iff.2 h]
    · rw [decide_eq_false h]
      cases hq : memI D u
      · rfl
      · exact absurd (memI_iff.1 hq) h
  rw [HM.out] at HC
  rw [HL.out]
  clear hr HM HL
  by_cases hq : u = i
  · rw [decide_eq_true hq]
    subst hq
    go_enter Tryz.func76, Tryz.ntmps76
    go_wp2
    go_ret
    exact ⟨rfl, rfl⟩
  · rw [decide_eq_false hq]
    have hq2 : (u == i) = false := beq_eq_false_iff_ne.2 hq
    go_enter Tryz.func76, Tryz.ntmps76
    go_wp2_with fail
    refine HC.mono ?_
    rintro e w1 ⟨rfl, hw⟩
    have hw2 := hw.symm
    subst hw2
    go_wp2
    go_ret
    exact ⟨rfl, rfl⟩
theorem foldD_at {α β : Type} {f : β → α → β} {l : List α} {k : Nat} {x : α} {b : β} (h : l[k]? = some x) : (l.drop k).foldl f b = (l.drop (k + 1)).foldl f (f b x) := by
  obtain ⟨hk, rfl⟩ := List.getElem?_eq_some_iff.1 h
  rw [List.drop_eq_getElem_cons hk]
  rfl
theorem foldD_end {α β : Type} {f : β → α → β} {l : List α} {k : Nat} {b : β} (h : l.length ≤ k) : (l.drop k).foldl f b = b := by
  rw [List.drop_of_length_le h]
  rfl
theorem any_at {p : Int → Bool} {l : List Int} {k : Nat} {x : Int} (h : l[k]? = some x) : (l.drop k).any p = (p x || (l.drop (k + 1)).any p) := by
  obtain ⟨hk, rfl⟩ := List.getElem?_eq_some_iff.1 h
  rw [List.drop_eq_getElem_cons hk]
  rfl
theorem any_end {p : Int → Bool} {l : List Int} {k : Nat} (h : k = l.length) : (l.drop k).any p = false := by subst h; rw [List.drop_length]; rfl
set_option maxRecDepth 10000 in
set_option maxHeartbeats 1000000 in
theorem idxLead_any (uo : Option Addr) (un uc : Nat) (U : List Int) (i : Int) (bi bd : Nat) (ao : Option Addr) (n c : Nat) (D : List Int) (w : World) (ci : w.cell? ⟨bi, 0, none⟩ = some (.int .i64 i)) (cd : w.cell? ⟨bd, 0, none⟩ = some (.slice ao n c)) (hr : Reads w (.slice ao n c) D) (hn : n ≤ 1048577) (hu : Reads w (.slice uo un uc) U) (hun : un ≤ 1048577) :
    Calls Tryz.prog 124 #[.slice uo un uc, .func (.func 76) #[] #[.pointer (some ⟨bi, 0, none⟩), .pointer (some ⟨bd, 0, none⟩)]] w fun e w' => ∃ r : Int, e = .returned (.int .i64 r) ∧ decide (0 ≤ r) = U.any (leadB i D) ∧ w' = w := by
  have HC : Hid (∀ x, Calls Tryz.prog 76 #[.int .i64 x, .pointer (some ⟨bi, 0, none⟩), .pointer (some ⟨bd, 0, none⟩)] w fun e w' => e = .returned (.bool (leadB i D x)) ∧ w' = w) := fun x => leads_any x i bi bd ao n c D w ci cd hr hn
  have HN : Hid (un = U.length) := hu.len
  have HR : Hid (Reads w (.slice uo un uc) U) := hu
  clear ci cd hr hn hu
  go_enter Tryz.func124, Tryz.ntmps124
  go_wp2
  go_loopw [8] (fun iv wr => ∃ k : Nat, k ≤ un ∧ iv = .int .i64 k ∧ Hid (U.any (leadB i D) = (U.drop k).any (leadB i D)) ∧ wr = w) (fun iv _ => un - (intOf iv).toNat)
  case atStart => exact ⟨0, Nat.zero_le _, rfl, (by show _ = (U.drop 0).any _; rw [List.drop_zero]), rfl⟩
  case round =>
    obtain ⟨k, hk, rfl, HE, hw⟩ := hrel
    have hw2 := hw.symm
    subst hw2
    by_cases hlt : k < un
    · obtain ⟨t, ht⟩ : ∃ t, U[k]? = some t := ⟨_, List.getElem?_eq_getElem (by rw [← HN.out]; exact hlt)⟩
      obtain ⟨b', o, eb, hb, c0⟩ := int_at HR.out ht
      subst eb
      obtain ⟨q, HQ⟩ : ∃ q, Hid (leadB i D t = q) := ⟨_, rfl⟩
      have HC2 : Hid (Calls Tryz.prog 76 #[.int .i64 t, .pointer (some ⟨bi, 0, none⟩), .pointer (some ⟨bd, 0, none⟩)] w fun e w' => e = .returned (.bool q) ∧ w' = w) := by
        have := HC.out t
        rwa [HQ.out] at this
      have HA : Hid (U.any (leadB i D) = (q || (U.drop (k + 1)).any (leadB i D))) := HE.out.trans (by rw [any_at ht, HQ.out])
      clear ht HC HQ HE
      cases q with
      | true =>
        have HF : Hid (true = U.any (leadB i D)) := HA.out.symm
        go_wp2_with (go_at_call 76; refine HC2.out.mono ?_; rintro e w1 ⟨rfl, hw⟩; have hw2 := hw.symm; subst hw2)
        go_ret
        exact ⟨_, rfl, (decide_eq_true (by omega)).trans HF.out, rfl⟩
      | false =>
        have HF : Hid (U.any (leadB i D) = (U.drop (k + 1)).any (leadB i D)) := HA.out
        go_wp2_with (go_at_call 76; refine HC2.out.mono ?_; rintro e w1 ⟨rfl, hw⟩; have hw2 := hw.symm; subst hw2)
        go_roundw
        case rel => exact ⟨k + 1, by omega, by go_num, HF, trivial⟩
        case measure => simp [intOf]; omega
    · have HF : Hid (false = U.any (leadB i D)) := (HE.out.trans (any_end (by rw [← HN.out]; omega))).symm
      go_wp2
      go_ret
      exact ⟨_, rfl, (decide_eq_false (by omega)).trans HF.out, rfl⟩
theorem contLead_any (uo : Option Addr) (un uc : Nat) (U : List Int) (i : Int) (bi bd : Nat) (ao : Option Addr) (n c : Nat) (D : List Int) (w : World) (ci : w.cell? ⟨bi, 0, none⟩ = some (.int .i64 i)) (cd : w.cell? ⟨bd, 0, none⟩ = some (.slice ao n c)) (hr : Reads w (.slice ao n c) D) (hn : n ≤ 1048577) (hu : Reads w (.slice uo un uc) U) (hun : un ≤ 1048577) :
    Calls Tryz.prog 78 #[.slice uo un uc, .func (.func 76) #[] #[.pointer (some ⟨bi, 0, none⟩), .pointer (some ⟨bd, 0, none⟩)]] w fun e w' => e = .returned (.bool (U.any (leadB i D))) ∧ w' = w := by
  have HI := idxLead_any uo un uc U i bi bd ao n c D w ci cd hr hn hu hun
  clear ci cd hr hn hu
  go_enter Tryz.func78, Tryz.ntmps78
  go_wp2_with (go_at_call 124; refine HI.mono ?_; rintro e w1 ⟨r, rfl, hd, hw⟩; have hw2 := hw.symm; subst hw2)
  go_ret
  exact ⟨by rw [← hd]; rfl, rfl⟩
/-- What lies there while places are gathered. -/
structure DnS (w : World) (nm cr : ByteArray) (fr up : Int) (cu : Bool) (tv : Value) (i : Int) (bi bd : Nat) (ov : Value) (O : List Int) (W : World) (dv : Value) (D : List Int) : Prop where
  bel : Below w.heap.size w W
  dag : P6 W w.heap.size nm cr fr up cu tv
  ib : W.heap[bi]? = some (.cells #[.int .i64 i] 3)
  box : W.heap[bd]? = some (.cells #[dv] 37)
  row : ownsR W w.heap.size 3 dv D
  ord : ownsR W w.heap.size 3 ov O
  apart : ∀ k, dv.ownBlock = some k → ov.ownBlock ≠ some k
  far : dv.ownBlock ≠ some bi
  some : ∃ k, dv.ownBlock = .some k
  lob : w.heap.size ≤ bd
section
variable {w W W' : World} {nm cr : ByteArray} {fr up i : Int} {cu : Bool} {tv ov dv : Value} {bi bd : Nat} {O D : List Int}
theorem blk_lt {W : World} {b : Nat} {o : Obj} (h : W.heap[b]? = some o) : b < W.heap.size := (Array.getElem?_eq_some_iff.1 h).1
theorem DnS.onW (h : DnS w nm cr fr up cu tv i bi bd ov O W dv D) (hb : Below W.heap.size W W') : DnS w nm cr fr up cu tv i bi bd ov O W' dv D :=
  ⟨Below.on h.bel hb, h.dag.on hb, (hb.block _ (blk_lt h.ib)).trans h.ib, (hb.block _ (blk_lt h.box)).trans h.box, h.row.all hb, h.ord.all hb, h.apart, h.far, h.some, h.lob⟩
theorem DnS.ci (h : DnS w nm cr fr up cu tv i bi bd ov O W dv D) : W.cell? ⟨bi, 0, none⟩ = .some (.int .i64 i) := by simp [World.cell?, h.ib]
theorem DnS.cd (h : DnS w nm cr fr up cu tv i bi bd ov O W dv D) : W.cell? ⟨bd, 0, none⟩ = .some dv := by simp [World.cell?, h.box]
theorem DnS.fd (h : DnS w nm cr fr up cu tv i bi bd ov O W dv D) : W.frozen? ⟨bd, 0, none⟩ = false := by simp [World.frozen?, h.box]
theorem DnS.more (h : DnS w nm cr fr up cu tv i bi bd ov O W dv D) {dv' : Value} {D' : List Int} (ho : ownsR W' w.heap.size 3 dv' D') (hg : W.grownBy W' dv.ownBlock) (hl : dv'.ownBlock = dv.ownBlock ∨ dv'.ownBlock = .some W.heap.size) :
    W'.cell? ⟨bd, 0, none⟩ = .some dv ∧ W'.frozen? ⟨bd, 0, none⟩ = false ∧ DnS w nm cr fr up cu tv i bi bd ov O (W'.setCell ⟨bd, 0, none⟩ dv') dv' D' := by
  have hbk : ∀ k, k < W.heap.size → dv.ownBlock ≠ .some k → W'.heap[k]? = W.heap[k]? := fun k hk h2 => hg.block k hk (fun e => h2 e.symm)
  have hbx : W'.heap[bd]? = .some (.cells #[dv] 37) := (hbk bd (blk_lt h.box) (not_own h.row h.box (by decide))).trans h.box
  have hst : ∀ k, k ≠ bd → (W'.setCell ⟨bd, 0, none⟩ dv').heap[k]? = W'.heap[k]? := fun k hk => heap_setCell_other W' ⟨bd, 0, none⟩ k _ hk
  have hbel : Below w.heap.size w W' := h.bel.grown hg h.bel.size fun k hk => (own_low h.row hk).1
  have hdv : dv'.ownBlock ≠ .some bd := not_own ho hbx (by decide)
  have hid : bi ≠ bd := not_same h.ib h.box (by decide)
  have hdg : w.heap.size ≠ bd := not_same h.dag h.box (by decide)
  refine ⟨by simp [World.cell?, hbx], by simp [World.frozen?, hbx], ⟨hbel.setCell (p := ⟨bd, 0, none⟩) h.lob _, ?_, ?_, ?_, ho.keep fun k hk => hst k fun e => hdv (by rw [hk, e]), (h.ord.keep fun k hk => hbk k (own_low h.ord hk).2 fun e => h.apart k e hk).keep fun k hk => hst k fun e => ?_, fun k hk hf => ?_, fun e => ?_, ?_, h.lob⟩⟩
  · exact (hst _ hdg).trans ((hbk _ h.dag.lt (not_own h.row h.dag (by decide))).trans h.dag)
  · exact (hst _ hid).trans ((hbk _ (blk_lt h.ib) h.far).trans h.ib)
  · simp [World.setCell, Array.getElem?_modify, hbx]
  · exact not_own h.ord h.box (by decide) (by rw [hk, e])
  · rcases hl with e | e
    · exact h.apart k (e ▸ hk) hf
    · have h1 := (own_low h.ord hf).2
      rw [e] at hk
      cases hk
      omega
  · rcases hl with e2 | e2
    · exact h.far (e2 ▸ e)
    · have h1 := blk_lt h.ib
      rw [e2] at e
      cases e
      omega
  · rcases hl with e | e
    · rw [e]; exact h.some
    · exact ⟨_, e⟩
end
/-- The places behind a place of a plan. -/
def dnD (d : Dg) (i : Int) : List Int := if dagB d = true then downC d.tasks i else []
theorem dnD_len (d : Dg) (i : Int) : (dnD d i).length ≤ 4 := by
  unfold dnD
  by_cases hq : dagB d = true
  · rw [if_pos hq]; exact Nat.le_trans (ascL_len _ _) (rg_of hq).few
  · rw [if_neg hq]; exact Nat.zero_le _
theorem dnD_sort (d : Dg) (i : Int) : sortI (dnL d.tasks i (ordC d)) = dnD d i := by
  unfold dnD ordC
  by_cases hq : dagB d = true
  · rw [if_pos hq, if_pos hq]; exact down_sort (rg_of hq) i
  · rw [if_neg hq, if_neg hq]; exact List.eq_nil_of_length_eq_zero ((sortI_perm []).length_eq)
theorem dnS_len {ts : List Ta} {i : Int} {D : List Int} {a : Int} : (dnS ts i D a).length ≤ D.length + 1 := by
  unfold dnS
  split
  · rw [List.length_append]; exact Nat.le_refl _
  · exact Nat.le_succ _
set_option maxRecDepth 10000 in
set_option maxHeartbeats 4000000 in
theorem implDown_any (ao : Option Addr) (n cap : Nat) (nm cr : ByteArray) (fr up : Int) (cu : Bool) (ts : List Ta) (i : Int) (w : World) (hd : DagI w ao n cap ⟨nm, cr, fr, up, cu, ts⟩) (hg : Gl w) :
    Calls Tryz.prog 32 #[.agg #[.string nm, .string cr, .int .i64 fr, .int .i64 up, .bool cu, .slice ao n cap], .int .i64 i] w fun e w' => ∃ v, e = .returned v ∧ ownsR w' w.heap.size 3 v (dnD ⟨nm, cr, fr, up, cu, ts⟩ i) ∧ Below w.heap.size w w' := by
  obtain ⟨O, HOO⟩ : ∃ O, Hid (ordC ⟨nm, cr, fr, up, cu, ts⟩ = O) := ⟨_, rfl⟩
  have HRS : Hid (sortI (dnL ts i O) = dnD ⟨nm, cr, fr, up, cu, ts⟩ i) := by rw [← HOO.out]; exact dnD_sort ⟨nm, cr, fr, up, cu, ts⟩ i
  have HRD : Hid (∀ W, Below w.heap.size w W → Calls Tryz.prog 27 #[.agg #[.string nm, .string cr, .int .i64 fr, .int .i64 up, .bool cu, .slice ao n cap]] W fun e w' => ∃ v, e = .returned v ∧ ownsR w' W.heap.size 3 v O ∧ Below W.heap.size W w') := fun W hb => by
    have := implOrder_any ao n cap nm cr fr up cu ts W (hd.below hb) (hg.up hb)
    rw [HOO.out] at this
    exact this
  have hnn : n ≤ 1048577 := hd.few
  have HRG : Hid (∀ x ∈ O, Rg4 ts ∧ O = orderL ts) := fun x hx => by
    rw [← HOO.out] at hx ⊢
    unfold ordC at hx ⊢
    by_cases hq : dagB ⟨nm, cr, fr, up, cu, ts⟩ = true
    · rw [if_pos hq]; exact ⟨rg_of hq, rfl⟩
    · rw [if_neg hq] at hx; cases hx
  have HPL : Hid (∀ x ∈ O, ∃ (j : Nat) (t : Ta), x = (j : Int) ∧ ts[j]? = some t) := fun x hx => by
    obtain ⟨h1, h2⟩ := HRG.out x hx
    rw [h2] at hx
    exact (order_ol h1).pl x hx
  have HUP : Hid (∀ (j : Nat) (t : Ta) W, ts[j]? = some t → (j : Int) ∈ O → Below w.heap.size w W → Calls Tryz.prog 75 #[.agg #[.string nm, .string cr, .int .i64 fr, .int .i64 up, .bool cu, .slice ao n cap], .int .i64 j] W fun e w' => ∃ v, e = .returned v ∧ ownsR w' W.heap.size 3 v (upsA ts (j : Int)) ∧ Below W.heap.size W w') := fun j t W ht hm hb => by
    have hrg := (HRG.out _ hm).1
    have h2 := upsIn_any ao n cap nm cr fr up cu ts j t W (hd.tasks.below hb) hnn ht (hd.small t (List.mem_of_getElem? ht)).few
    rw [ups_sort hrg (List.mem_of_getElem? ht)] at h2
    unfold upsA
    rw [af_at ht]
    exact h2
  have HOL : Hid (O.length ≤ 4) := by
    show O.length ≤ 4
    by_cases hO : O = []
    · rw [hO]; exact Nat.zero_le _
    · obtain ⟨x, hx⟩ := List.exists_mem_of_ne_nil O hO
      obtain ⟨h1, h2⟩ := HRG.out x hx
      rw [h2, h1.full]
      exact h1.few
  rw [← HRS.out]
  clear hd hg HOO HRS
  go_enter Tryz.func32, Tryz.ntmps32
  obtain ⟨W1, hW1⟩ : ∃ W1, ((w.alloc (.cells #[.string nm, .string cr, .int .i64 fr, .int .i64 up, .bool cu, .slice ao n cap] 26)).alloc (.cells #[.int .i64 i] 3)).alloc (.cells #[] 3) = W1 := ⟨_, rfl⟩
  have HS1 : Hid (W1.heap.size = w.heap.size + 1 + 1 + 1) := by show W1.heap.size = _; rw [← hW1]; simp
  obtain ⟨W2, hW2⟩ : ∃ W2, W1.alloc (.cells #[.slice (some ⟨w.heap.size + 1 + 1, 0, none⟩) 0 0] 37) = W2 := ⟨_, rfl⟩
  have HP : Hid (P6 W2 w.heap.size nm cr fr up cu (.slice ao n cap) ∧ W2.heap[w.heap.size + 1]? = some (.cells #[.int .i64 i] 3) ∧ W2.heap[W1.heap.size]? = some (.cells #[.slice (some ⟨w.heap.size + 1 + 1, 0, none⟩) 0 0] 37) ∧ ownsR W2 w.heap.size 3 (.slice (some ⟨w.heap.size + 1 + 1, 0, none⟩) 0 0) ([] : List Int) ∧ Below w.heap.size w W2) := by
    refine ⟨?_, ?_, ?_, ?_, ?_⟩
    · rw [← hW2, ← hW1]; exact ((P6.new _ _ _ _ _ _ _).on (ba (ba (Below.refl _ _) _) _)).on (ba (Below.refl _ _) _)
    · have h1 : (w.alloc (.cells #[.string nm, .string cr, .int .i64 fr, .int .i64 up, .bool cu, .slice ao n cap] 26)).heap.size = w.heap.size + 1 := by simp
      have h2 : ((w.alloc (.cells #[.string nm, .string cr, .int .i64 fr, .int .i64 up, .bool cu, .slice ao n cap] 26)).alloc (.cells #[.int .i64 i] 3)).heap[w.heap.size + 1]? = some (.cells #[.int .i64 i] 3) := by
        rw [← h1]
        show (Array.push _ _)[_]? = _
        rw [Array.getElem?_push_size]
      have h3 : Below ((w.alloc (.cells #[.string nm, .string cr, .int .i64 fr, .int .i64 up, .bool cu, .slice ao n cap] 26)).alloc (.cells #[.int .i64 i] 3)).heap.size ((w.alloc (.cells #[.string nm, .string cr, .int .i64 fr, .int .i64 up, .bool cu, .slice ao n cap] 26)).alloc (.cells #[.int .i64 i] 3)) W2 := by rw [← hW2, ← hW1]; exact ba (ba (Below.refl _ _) _) _
      exact (h3.block _ (by simp)).trans h2
    · rw [← hW2]
      show (Array.push _ _)[_]? = _
      rw [Array.getElem?_push_size]
    · rw [← hW2, ← hW1]
      have := ints_made ((w.alloc (.cells #[.string nm, .string cr, .int .i64 fr, .int .i64 up, .bool cu, .slice ao n cap] 26)).alloc (.cells #[.int .i64 i] 3)) w.heap.size (by simp; omega)
      have h4 := this.alloc (.cells #[.slice (some ⟨w.heap.size + 1 + 1, 0, none⟩) 0 0] 37)
      simpa using h4
    · rw [← hW2, ← hW1]; exact ba (ba (ba (ba (Below.refl _ _) _) _) _) _
  have B2 := HP.out.2.2.2.2
  have c0 := HP.out.1.c0
  have c1 := HP.out.1.c1
  have c2 := HP.out.1.c2
  have c3 := HP.out.1.c3
  have c4 := HP.out.1.c4
  have c5 := HP.out.1.c5
  go_wp2_with fail
  refine (HRD.out _ B2).mono ?_
  rintro e w3 ⟨ov, rfl, ho3, hb3⟩
  have HS3 : Hid (DnS w nm cr fr up cu (.slice ao n cap) i (w.heap.size + 1) W1.heap.size ov O w3 (.slice (some ⟨w.heap.size + 1 + 1, 0, none⟩) 0 0) []) := by
    obtain ⟨p1, p2, p3, p4, p5⟩ := HP.out
    have hlt := blk_lt p3
    have hs1 := HS1.out
    refine ⟨Below.on B2 hb3, p1.on hb3, (hb3.block _ (blk_lt p2)).trans p2, (hb3.block _ (blk_lt p3)).trans p3, p4.all hb3, ho3.mono B2.size, fun k hk hf => ?_, fun e => ?_, ⟨_, rfl⟩, by omega⟩
    · have h5 := (own_low ho3 hf).1
      have e5 : w.heap.size + 1 + 1 = k := Option.some.inj hk
      omega
    · have e2 : w.heap.size + 1 + 1 = w.heap.size + 1 := Option.some.inj e
      omega
  clear ho3 hb3 c0 c1 c2 c3 c4 c5 HP B2 hW1 hW2
  obtain ⟨oa, oc, eo⟩ := HS3.out.ord.slice
  subst eo
  obtain ⟨ol, HOLE⟩ : ∃ ol, Hid (O.length = ol) := ⟨_, rfl⟩
  have hol : ol ≤ 4 := by rw [← HOLE.out]; exact HOL.out
  rw [HOLE.out] at HS3
  rw [HOLE.out]
  generalize hbi : w.heap.size + 1 = bi at *
  generalize hbd : W1.heap.size = bd at *
  generalize hdv : Value.slice (some ⟨bi + 1, 0, none⟩) 0 0 = dv0 at *
  obtain ⟨ov, HOV⟩ : ∃ ov, Hid (Value.slice oa ol oc = ov) := ⟨_, rfl⟩
  rw [HOV.out] at HS3
  go_wp2
  go_loopw [14] (fun kv wr => ∃ (k : Nat) (dv : Value) (D : List Int), k ≤ ol ∧ kv = .int .i64 k ∧ D.length ≤ k ∧ Hid (dnL ts i O = (O.drop k).foldl (dnS ts i) D) ∧ Hid (DnS w nm cr fr up cu (.slice ao n cap) i bi bd ov O wr dv D)) (fun kv _ => ol - (intOf kv).toNat)
  case atStart => exact ⟨0, dv0, [], Nat.zero_le _, rfl, Nat.le_refl _, (by show dnL ts i O = _; rw [List.drop_zero]; rfl), HS3⟩
  case round =>
    clear HS3
    obtain ⟨k, dv, D, hk, rfl, hD, HE, HS⟩ := hrel
    obtain ⟨da, dc, ed⟩ := HS.out.row.slice
    subst ed
    obtain ⟨dl, HDL⟩ : ∃ dl, Hid (D.length = dl) := ⟨_, rfl⟩
    rw [HDL.out] at HS hD
    by_cases hlt : k < ol
    · obtain ⟨a, ha⟩ : ∃ a, O[k]? = some a := ⟨_, List.getElem?_eq_getElem (by rw [HOLE.out]; exact hlt)⟩
      obtain ⟨j, t, ej, htj⟩ := HPL.out a (List.mem_of_getElem? ha)
      subst ej
      have hmem := List.mem_of_getElem? ha
      have hrg := (HRG.out _ hmem).1
      have hord := HS.out.ord.reads
      rw [← HOV.out] at hord
      obtain ⟨ob, oo, eoa, hob, ca⟩ := int_at hord ha
      subst eoa
      have H1 := HUP.out j t wr htj hmem HS.out.bel
      have HE2 : Hid (dnL ts i O = (O.drop (k + 1)).foldl (dnS ts i) (dnS ts i D (j : Int))) := by show dnL ts i O = _; rw [HE.out, foldD_at ha]
      obtain ⟨U, HUU⟩ : ∃ U, Hid (upsA ts (j : Int) = U) := ⟨_, rfl⟩
      rw [HUU.out] at H1
      have HUL : Hid (U.length ≤ 4) := by
        show U.length ≤ 4
        rw [← HUU.out]
        unfold upsA upsC
        exact Nat.le_trans (ascL_len _ _) hrg.few
      obtain ⟨q, HQ⟩ : ∃ q, Hid (U.any (leadB i D) = q) := ⟨_, rfl⟩
      have HDS : Hid (dnS ts i D (j : Int) = if q = true then D ++ [(j : Int)] else D) := by show dnS _ _ _ _ = _; unfold dnS; rw [HUU.out, HQ.out]
      clear ha htj hrg hmem hord HE
      have c0 := HS.out.dag.c0
      have c1 := HS.out.dag.c1
      have c2 := HS.out.dag.c2
      have c3 := HS.out.dag.c3
      have c4 := HS.out.dag.c4
      have c5 := HS.out.dag.c5
      go_wp2_with fail
      refine H1.mono ?_
      rintro e w4 ⟨uv, rfl, hu4, hb4⟩
      have HS4 : Hid (DnS w nm cr fr up cu (.slice ao n cap) i bi bd ov O w4 (.slice da dl dc) D) := HS.out.onW hb4
      obtain ⟨ua, uc, eu⟩ := hu4.slice
      subst eu
      obtain ⟨ul, HULE⟩ : ∃ ul, Hid (U.length = ul) := ⟨_, rfl⟩
      have hul : ul ≤ 4 := by rw [← HULE.out]; exact HUL.out
      rw [HULE.out] at hu4
      rw [HULE.out]
      have H4 := contLead_any ua ul uc U i bi bd da dl dc D w4 HS4.out.ci HS4.out.cd HS4.out.row.reads (by omega) hu4.reads (by omega)
      rw [HQ.out] at H4
      clear hu4 hb4 HS c0 c1 c2 c3 c4 c5 ca H1
      cases q with
      | false =>
        have HE3 : Hid (dnL ts i O = (O.drop (k + 1)).foldl (dnS ts i) D) := by show dnL ts i O = _; rw [HE2.out, HDS.out]; rfl
        go_wp2_with fail
        refine H4.mono ?_
        rintro e w5 ⟨rfl, hw⟩
        have hw2 := hw.symm
        subst hw2
        go_wp2
        go_roundw
        case rel => exact ⟨k + 1, _, D, by omega, by go_num, by rw [HDL.out]; omega, HE3, HS4⟩
        case measure => simp [intOf]; omega
      | true =>
        have HE3 : Hid (dnL ts i O = (O.drop (k + 1)).foldl (dnS ts i) (D ++ [(j : Int)])) := by show dnL ts i O = _; rw [HE2.out, HDS.out]; rfl
        go_wp2_with fail
        refine H4.mono ?_
        rintro e w5 ⟨rfl, hw⟩
        have hw2 := hw.symm
        subst hw2
        have cd := HS4.out.cd
        have HV : Hid (∀ o, DnS w nm cr fr up cu (.slice ao n cap) i bi bd ov O (w4.alloc o) (.slice da dl dc) D) := fun o => HS4.out.onW (ba (Below.refl _ _) _)
        have hs4 : w.heap.size ≤ w4.heap.size := HS4.out.bel.size
        have hbl : bd < w4.heap.size := blk_lt HS4.out.box
        clear H4
        go_wp2_with (at_builtin; refine append_recW _ w rfl (.tmp 23) (.tmp 25) 37 rfl w.heap.size 3 _ 8 underI info3 rfl _ D rfl (HV.out _).row (HV.out _).bel w4.heap.size 1 (j : Int) rfl (cell_int (by simp [go_sem])) (by rw [HDL.out]; omega) (by decide) (by simp; omega) ?_; intro v6 w6 ho6 hb6 hg6 hl6; obtain ⟨cd6, fd6, hs6⟩ := (HV.out _).more ho6 hg6 hl6; obtain ⟨a6, c6, e6⟩ := ho6.slice; subst e6; have HS6 : Hid (DnS w nm cr fr up cu (.slice ao n cap) i bi bd ov O (w6.setCell ⟨bd, 0, none⟩ (.slice a6 (D ++ [(j : Int)]).length c6)) (.slice a6 (D ++ [(j : Int)]).length c6) (D ++ [(j : Int)])) := hs6; clear hs6 ho6 hb6 hg6 hl6 cd; generalize hD6 : (D ++ [(j : Int)]).length = d6 at *)
        have hd6 : d6 ≤ k + 1 := by rw [← hD6, List.length_append, HDL.out]; show dl + 1 ≤ k + 1; omega
        go_wp2
        go_roundw
        case rel => exact ⟨k + 1, _, D ++ [(j : Int)], by omega, by go_num, by rw [hD6]; exact hd6, HE3, HS6⟩
        case measure => simp [intOf]; omega
    · have HE3 : Hid (dnL ts i O = D) := by show dnL ts i O = D; rw [HE.out, foldD_end (by rw [HOLE.out]; omega)]
      obtain ⟨kk, hkk⟩ := HS.out.some
      obtain ⟨c7, e7, -⟩ := some_at HS.out.row hkk
      injection e7 with e7 e9 e8; clear e9
      subst e7 e8
      have HSO : Hid (Calls Tryz.prog 79 #[.slice (some ⟨kk, 0, none⟩) dl dc] wr fun e w' => e = .returned (.tuple #[]) ∧ ownsR w' w.heap.size 3 (.slice (some ⟨kk, 0, none⟩) dl dc) (sortI D) ∧ Below w.heap.size w w' ∧ w'.cell? ⟨bd, 0, none⟩ = some (.slice (some ⟨kk, 0, none⟩) dl dc)) := by
        refine (sortN_any HS.out.row (by rw [HDL.out]; omega)).mono ?_
        rintro e w' ⟨rfl, h1, h2⟩
        have hne : kk ≠ bd := fun e => not_own HS.out.row HS.out.box (by decide) (by show some kk = _; rw [e])
        refine ⟨rfl, h1, HS.out.bel.grown h2 HS.out.bel.size fun q hq => by cases hq; exact (own_low HS.out.row hkk).1, ?_⟩
        have := (h2.block bd (blk_lt HS.out.box) (fun e => hne (Option.some.inj e).symm)).trans HS.out.box
        simp [World.cell?, this]
      have cd := HS.out.cd
      rw [HE3.out]
      clear HS HE hkk
      go_wp2_with fail
      refine HSO.out.mono ?_
      rintro e w5 ⟨rfl, h5, hb5, c5'⟩
      clear cd
      go_wp2
      go_ret
      exact ⟨_, rfl, by rw [HE3.out]; exact h5, hb5⟩
end Go.Proofs.YteefacjjdalncaaGreatDoor

namespace Go.Proofs.YteefacjjdalncaaGreatDoor
open Go Go.RowKit
set_option linter.unusedVariables false

theorem take_cons {α : Type} {O : List α} {k : Nat} {a : α} (h : O[k]? = some a) : O = O.take k ++ a :: O.drop (k + 1) := by
  obtain ⟨hk, rfl⟩ := List.getElem?_eq_some_iff.1 h
  rw [← List.drop_eq_getElem_cons hk, List.take_append_drop]
/-- All that a task is after stands ahead of it. -/
theorem ups_ahead {ts : List Ta} (hr : Rg4 ts) {k j : Nat} (hk : (orderL ts)[k]? = some (j : Int)) : ∀ u ∈ upsA ts (j : Int), u ∈ (orderL ts).take k := by
  intro u hu
  have hol := order_ol hr
  obtain ⟨j', t, e, ht⟩ := hol.pl _ (List.mem_of_getElem? hk)
  have : j = j' := by omega
  subst this
  have htm := List.mem_of_getElem? ht
  unfold upsA at hu
  rw [af_at ht] at hu
  obtain ⟨s, hs, rfl⟩ := (upsC_mem hr.own (hr.lies t htm)).1 hu
  have hsplit : (orderL ts).map (nmOf ts) = ((orderL ts).take k).map (nmOf ts) ++ t.name :: ((orderL ts).drop (k + 1)).map (nmOf ts) := by
    have h1 := congrArg (List.map (nmOf ts)) (take_cons hk)
    rw [List.map_append, List.map_cons, nm_at ht] at h1
    exact h1
  obtain ⟨t', ht', e', ha'⟩ := hol.row.2 _ _ _ hsplit
  obtain ⟨i', hi', rfl⟩ := List.getElem_of_mem ht'
  have hij := hr.own.inj (List.getElem?_eq_getElem hi') ht e'
  subst hij
  have h3 : ts[i'] = t := by rw [List.getElem?_eq_getElem hi'] at ht; exact Option.some.inj ht
  rw [h3] at ha'
  obtain ⟨x, hx, ex⟩ := List.mem_map.1 (ha' s hs)
  obtain ⟨p, v, rfl, hp⟩ := hol.pl x (List.mem_of_mem_take hx)
  rw [nm_at hp] at ex
  rw [← ex, hr.own p v hp]
  exact hx
theorem dn_keep {ts : List Ta} {i : Int} : ∀ (O D : List Int) {x : Int}, x ∈ D → x ∈ O.foldl (dnS ts i) D
  | [], _, _, h => h
  | a :: O, D, x, h => by
    rw [List.foldl_cons]
    refine dn_keep O _ ?_
    unfold dnS
    split
    · exact List.mem_append_left _ h
    · exact h
/-- A task is behind what it is after. -/
theorem down_of_up {ts : List Ta} (hr : Rg4 ts) {k j : Nat} (hk : (orderL ts)[k]? = some (j : Int)) {u : Int} (hu : u ∈ upsA ts (j : Int)) : (j : Int) ∈ downC ts u := by
  have hol := order_ol hr
  obtain ⟨j', t, e, ht⟩ := hol.pl _ (List.mem_of_getElem? hk)
  have : j = j' := by omega
  subst this
  unfold downC
  rw [ascL_mem]
  refine ⟨j, (List.getElem?_eq_some_iff.1 ht).1, memI_iff.2 ?_, rfl⟩
  unfold dnL
  rw [take_cons hk, List.foldl_append, List.foldl_cons]
  refine dn_keep _ _ ?_
  generalize ((orderL ts).take k).foldl (dnS ts u) [] = D
  have hq : (upsA ts (j : Int)).any (leadB u D) = true := List.any_eq_true.2 ⟨u, hu, by unfold leadB; rw [decide_eq_true rfl]; rfl⟩
  unfold dnS
  rw [if_pos hq]
  exact List.mem_append_right _ (List.mem_singleton.2 rfl)
/-- Nothing that has come by a place is behind it. -/
theorem dn_yet {ts : List Ta} (hr : Rg4 ts) {k j : Nat} (hk : (orderL ts)[k]? = some (j : Int)) : ∀ m, m ≤ k + 1 → ((orderL ts).take m).foldl (dnS ts (j : Int)) [] = []
  | 0, _ => rfl
  | m + 1, hm => by
    have hkl := (List.getElem?_eq_some_iff.1 hk).1
    have hml : m < (orderL ts).length := by omega
    have hol := order_ol hr
    rw [List.take_succ_eq_append_getElem hml, List.foldl_append, dn_yet hr hk m (by omega), List.foldl_cons, List.foldl_nil]
    unfold dnS
    rw [if_neg]
    rw [Bool.not_eq_true, List.any_eq_false]
    intro u hu hl
    unfold leadB memI at hl
    have hl2 : u = (j : Int) := by simpa using hl
    subst hl2
    obtain ⟨p, v, ep, hp⟩ := hol.pl _ (List.getElem_mem hml)
    have hkm : (orderL ts)[m]? = some (p : Int) := by rw [List.getElem?_eq_getElem hml, ep]
    rw [ep] at hu
    have h1 := ups_ahead hr hkm _ hu
    obtain ⟨q, hq, eq⟩ := List.getElem_of_mem h1
    rw [List.length_take] at hq
    rw [List.getElem_take] at eq
    have hkq : (orderL ts)[k] = (orderL ts)[q]'(by omega) := by
      rw [eq]
      rw [List.getElem?_eq_getElem hkl] at hk
      exact Option.some.inj hk
    exact List.pairwise_iff_getElem.1 hol.nd q k (by omega) hkl (by omega) hkq.symm
theorem down_behind {ts : List Ta} (hr : Rg4 ts) {k j : Nat} (hk : (orderL ts)[k]? = some (j : Int)) : ∀ x ∈ downC ts (j : Int), x ∉ (orderL ts).take (k + 1) := by
  intro x hx ht
  have hol := order_ol hr
  unfold downC at hx
  obtain ⟨q, _, hm, rfl⟩ := ascL_mem.1 hx
  have hm := memI_iff.1 hm
  unfold dnL at hm
  rw [← List.take_append_drop (k + 1) (orderL ts), List.foldl_append, dn_yet hr hk (k + 1) (Nat.le_refl _)] at hm
  have hnd := hol.nd
  rw [← List.take_append_drop (k + 1) (orderL ts), List.nodup_append] at hnd
  have h2 := (dn_sub ts (j : Int) ((orderL ts).drop (k + 1)) [] hnd.2.1).2 _ hm
  exact hnd.2.2 _ ht _ h2 rfl
/-- How high a plan may be. -/
theorem hp_bd {ts : List Ta} : ∀ (O : List Int) (H : List Int) (hi k : Int), 0 ≤ k → (∀ x ∈ H, 0 ≤ x ∧ x ≤ k) → 0 ≤ hi → hi ≤ k → (hi ≤ (O.foldl (hpS ts) (H, hi)).2 ∧ (O.foldl (hpS ts) (H, hi)).2 ≤ k + O.length) ∧ (O ≠ [] → 1 ≤ (O.foldl (hpS ts) (H, hi)).2)
  | [], H, hi, k, hk, hH, h0, h1 => ⟨⟨Int.le_refl _, by simpa using h1⟩, fun h => absurd rfl h⟩
  | a :: O, H, hi, k, hk, hH, h0, h1 => by
    rw [List.foldl_cons]
    have hM := hpM_bd hH hk (upsA ts a) _ (getD_bd hH hk a.toNat).1 (getD_bd hH hk a.toNat).2
    have e : hpS ts (H, hi) a = (H.set a.toNat (hpM H a (upsA ts a) + 1), if hi < hpM H a (upsA ts a) + 1 then hpM H a (upsA ts a) + 1 else hi) := rfl
    have hM2 : 0 ≤ hpM H a (upsA ts a) ∧ hpM H a (upsA ts a) ≤ k := hM
    generalize hpM H a (upsA ts a) = M at *
    rw [e]
    have hb : ∀ x ∈ H.set a.toNat (M + 1), 0 ≤ x ∧ x ≤ k + 1 := set_bd hH (by omega) (by omega)
    have ih := hp_bd (ts := ts) O (H.set a.toNat (M + 1)) (if hi < M + 1 then M + 1 else hi) (k + 1) (by omega) hb (by split <;> omega) (by split <;> omega)
    obtain ⟨⟨i1, i2⟩, _⟩ := ih
    have hge : M + 1 ≤ (if hi < M + 1 then M + 1 else hi) ∧ hi ≤ (if hi < M + 1 then M + 1 else hi) := by split <;> omega
    refine ⟨⟨by omega, ?_⟩, fun _ => by omega⟩
    rw [List.length_cons]
    omega
theorem height_bd {ts : List Ta} (hr : Rg4 ts) : 1 ≤ hpL ts (orderL ts) ∧ hpL ts (orderL ts) ≤ ts.length := by
  have h := hp_bd (ts := ts) (orderL ts) [0, 0, 0, 0] 0 0 (Int.le_refl _) (by decide) (Int.le_refl _) (Int.le_refl _)
  have hf := hr.full
  have hp := hr.pos
  refine ⟨h.2 (fun e => by rw [e] at hf; simp at hf; omega), ?_⟩
  have := h.1.2
  rw [hf] at this
  unfold hpL
  omega
end Go.Proofs.YteefacjjdalncaaGreatDoor

namespace Go.Proofs.YteefacjjdalncaaGreatDoor
open Go Go.RowKit
set_option linter.unusedVariables false

theorem mem_dropF {m : List Int} {k : Nat} {y x : Int} (h : m[k]? = some y) : x ∈ m.drop k ↔ x = y ∨ x ∈ m.drop (k + 1) := by
  obtain ⟨hk, rfl⟩ := List.getElem?_eq_some_iff.1 h
  rw [List.drop_eq_getElem_cons hk, List.mem_cons]
theorem not_memF {m : List Int} {k : Nat} {x : Int} (h : k = m.length) : ¬ x ∈ m.drop k := by
  rw [List.drop_eq_nil_of_le (by omega)]
  simp
set_option maxHeartbeats 1000000 in
theorem lawIn_try (ao : Option Addr) (n c : Nat) (m : List Int) (x : Int) (w : World) (hr : Reads w (.slice ao n c) m) (hn : n ≤ 1048577) :
    Calls Tryz.prog 31 #[.slice ao n c, .int .i64 x] w fun e w' => e = .returned (.bool (decide (x ∈ m))) ∧ w' = w := by
  have HR : Hid (Reads w (.slice ao n c) m) := hr
  have HN : Hid (n = m.length) := hr.len
  clear hr
  go_enter Tryz.func31, Tryz.ntmps31
  go_wp2
  go_loopw [5] (fun i wr => ∃ k : Nat, k ≤ n ∧ i = .int .i64 k ∧ Hid (x ∈ m ↔ x ∈ m.drop k) ∧ wr = w) (fun i _ => n - (intOf i).toNat)
  case atStart => exact ⟨0, Nat.zero_le _, rfl, (by show x ∈ m ↔ x ∈ m.drop 0; rw [List.drop_zero]), rfl⟩
  case round =>
    obtain ⟨k, hk, rfl, HE, rfl⟩ := hrel
    by_cases hlt : k < n
    · obtain ⟨y, hy⟩ : ∃ y, m[k]? = some y := ⟨_, List.getElem?_eq_getElem (by rw [← HN.out]; exact hlt)⟩
      have HM : Hid (x ∈ m ↔ x = y ∨ x ∈ m.drop (k + 1)) := HE.out.trans (mem_dropF hy)
      obtain ⟨b, o, rfl, hb, c0⟩ := int_at HR.out hy
      clear hy HE
      by_cases hyx : y = x
      · have HF : Hid (decide (x ∈ m) = true) := decide_eq_true (HM.out.2 (.inl hyx.symm))
        go_wp2
        go_ret
        exact ⟨by rw [HF.out]; rfl, rfl⟩
      · have HF : Hid (x ∈ m ↔ x ∈ m.drop (k + 1)) := HM.out.trans ⟨fun h => h.resolve_left fun e => hyx e.symm, .inr⟩
        go_wp2
        go_roundw
        case rel => exact ⟨k + 1, by omega, by go_num, HF, trivial⟩
        case measure => simp [intOf]; omega
    · have HF : Hid (decide (x ∈ m) = false) := decide_eq_false fun h => not_memF (by rw [← HN.out]; omega) (HE.out.1 h)
      go_wp2
      go_ret
      exact ⟨by rw [HF.out]; rfl, rfl⟩
set_option maxHeartbeats 1000000 in
theorem sameInts_any (ao bo : Option Addr) (n c d : Nat) (l : List Int) (w : World) (ha : Reads w (.slice ao n c) l) (hb : Reads w (.slice bo n d) l) (hn : n ≤ 1048577) :
    Calls Tryz.prog 28 #[.slice ao n c, .slice bo n d] w fun e w' => e = .returned (.bool true) ∧ Below w.heap.size w w' := by
  have HN : Hid (n = l.length) := ha.len
  have HA : Hid (Reads w (.slice ao n c) l) := ha
  have HB : Hid (Reads w (.slice bo n d) l) := hb
  clear ha hb
  go_enter Tryz.func28, Tryz.ntmps28
  go_wp2
  go_loopw [5] (fun i wr => ∃ k : Nat, k ≤ n ∧ i = .int .i64 k ∧ Below w.heap.size w wr) (fun i _ => n - (intOf i).toNat)
  case atStart => exact ⟨0, Nat.zero_le _, rfl, Below.refl _ _⟩
  case round =>
    obtain ⟨k, hk, rfl, hbel⟩ := hrel
    by_cases hlt : k < n
    · obtain ⟨f, hf⟩ : ∃ f, l[k]? = some f := ⟨_, List.getElem?_eq_getElem (by rw [← HN.out]; exact hlt)⟩
      obtain ⟨a, oa, rfl, hga, a0⟩ := int_at (HA.out.below hbel) hf
      obtain ⟨b, ob, rfl, hgb, b0⟩ := int_at (HB.out.below hbel) hf
      clear hf
      go_wp2
      go_quiet (fail)
      go_wp2
      go_roundw
      case rel => exact ⟨k + 1, by omega, by go_num, bdrewN hbel _⟩
      case measure => simp [intOf]; omega
    · go_wp2
      go_ret
      exact ⟨rfl, hbel⟩
/-- What lies there while a drawn plan's order is looked at. -/
structure FoP (w : World) (gd : Nat) (nm cr : ByteArray) (fr up : Int) (cu : Bool) (tv ov : Value) (O : List Int) (W : World) : Prop where
  bel : Below w.heap.size w W
  dag : P6 W gd nm cr fr up cu tv
  ord : Reads W ov O
theorem FoP.on {w W W' : World} {gd : Nat} {nm cr : ByteArray} {fr up : Int} {cu : Bool} {tv ov : Value} {O : List Int} (h : FoP w gd nm cr fr up cu tv ov O W) (hb : Below W.heap.size W W') : FoP w gd nm cr fr up cu tv ov O W' := ⟨Below.on h.bel hb, h.dag.on hb, h.ord.below hb⟩
theorem ups_few {d : Dg} (h : dagB d = true) (i : Int) : (upsD d i).length ≤ 4 := by
  unfold upsD
  by_cases hq : dagB d = true ∧ 0 ≤ i ∧ i < (d.tasks.length : Int)
  · rw [if_pos hq]
    unfold upsA upsC
    exact Nat.le_trans (ascL_len _ _) (rg_of h).few
  · rw [if_neg hq]; decide
/-- The plan's order, place by place. -/
theorem fo_at {d : Dg} (h : dagB d = true) {k : Nat} {a : Int} (hk : (ordC d)[k]? = some a) : (∀ u ∈ upsD d a, u ∈ (ordC d).take k ∧ a ∈ dnD d u) ∧ ∀ x ∈ dnD d a, x ∉ (ordC d).take (k + 1) := by
  have hr := rg_of h
  have e : ordC d = orderL d.tasks := by unfold ordC; rw [if_pos h]
  rw [e] at hk ⊢
  obtain ⟨j, t, ej, hj⟩ := (order_ol hr).pl a (List.mem_of_getElem? hk)
  subst ej
  have hjl := (List.getElem?_eq_some_iff.1 hj).1
  refine ⟨fun u hu => ?_, fun x hx => ?_⟩
  · unfold upsD at hu
    rw [if_pos ⟨h, by omega, by omega⟩] at hu
    refine ⟨ups_ahead hr hk u hu, ?_⟩
    unfold dnD
    rw [if_pos h]
    exact down_of_up hr hk hu
  · unfold dnD at hx
    rw [if_pos h] at hx
    exact down_behind hr hk x hx
theorem fo_len {d : Dg} (h : dagB d = true) : (ordC d).length = d.tasks.length := by
  unfold ordC; rw [if_pos h]; exact (rg_of h).full
theorem fo_height {d : Dg} (h : dagB d = true) : 1 ≤ hpL d.tasks (ordC d) ∧ hpL d.tasks (ordC d) ≤ d.tasks.length ∧ hpL d.tasks (ordC d) = hsL d.tasks (ordC d) := by
  have hr := rg_of h
  have e : ordC d = orderL d.tasks := by unfold ordC; rw [if_pos h]
  rw [e]
  exact ⟨(height_bd hr).1, (height_bd hr).2, ht_same (.inr ⟨hr, rfl⟩)⟩
theorem fo_none {d : Dg} (h : dagB d = true) : upsD d 9 = [] := by
  have := (rg_of h).few
  unfold upsD
  rw [if_neg fun hq => by have := hq.2.2; omega]
theorem fo_noname {ts : List Ta} {s : ByteArray} (h : ∀ t ∈ ts, t.name.size ≤ 1) (hs : 1 < s.size) : atN ts s = -1 := by
  have key : ∀ (l : List Ta) (k : Nat), (∀ t ∈ l, t.name.size ≤ 1) → atG s k l = -1 := by
    intro l
    induction l with
    | nil => intro k _; rfl
    | cons t r ih =>
      intro k hl
      unfold atG
      rw [if_neg fun e => by have := hl t (List.mem_cons_self ..); rw [e] at this; omega]
      exact ih _ fun t ht => hl t (List.mem_cons_of_mem _ ht)
  exact key ts 0 h
end Go.Proofs.YteefacjjdalncaaGreatDoor
