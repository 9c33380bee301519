/-
  The places behind a place, as the specification tells them: plain facts and the walk. The law on the places behind a task: the walk.
-/
import Derived.Test.YteefacjjdalncaaGreatDoorD4
import Derived.Test.YteefacjjdalncaaGreatDoorC2
import Derived.Test.YteefacjjdalncaaGreatDoorD1
namespace Go.Proofs.YteefacjjdalncaaGreatDoor
open Go Go.RowKit
set_option linter.unusedVariables false

/-- What leads there, by flags. -/
def ledB (i : Int) (F : List Bool) (u : Int) : Bool := decide (u = i) || F.getD u.toNat false
def dsS (ts : List Ta) (i : Int) (F : List Bool) (a : Int) : List Bool := F.set a.toNat (F.getD a.toNat false || (upsA ts a).any (ledB i F))
theorem getB_set {F : List Bool} {i j : Nat} {y : Bool} (hi : i < F.length) : (F.set i y).getD j false = if j = i then y else F.getD j false := by
  rw [List.getD_eq_getElem?_getD, List.getElem?_set, List.getD_eq_getElem?_getD]
  by_cases e : j = i
  · subst e
    rw [if_pos rfl, if_pos hi, if_pos rfl]
    rfl
  · rw [if_neg (fun h => e h.symm), if_neg e]
theorem setB_get {F : List Bool} {k i : Nat} {c : Bool} (hk : k < F.length) : (F.set k c)[i]? = if i = k then some c else F[i]? := by
  rw [List.getElem?_set]
  by_cases e : i = k
  · subst e
    rw [if_pos rfl, if_pos rfl, if_pos hk]
  · rw [if_neg (fun h => e h.symm), if_neg e]
theorem getB_at {l : List Bool} {i : Nat} (h : i < l.length) : l[i]? = some (l.getD i false) := by rw [List.getD_eq_getElem?_getD, List.getElem?_eq_getElem h]; rfl
theorem memI_snoc (D : List Int) (a x : Int) : memI (D ++ [a]) x = (memI D x || decide (a = x)) := by
  unfold memI
  rw [List.any_append]
  simp
theorem any_congr {p q : Int → Bool} : ∀ (l : List Int), (∀ x ∈ l, p x = q x) → l.any p = l.any q
  | [], _ => rfl
  | x :: l, h => by rw [List.any_cons, List.any_cons, h x (List.mem_cons_self ..), any_congr l fun y hy => h y (List.mem_cons_of_mem _ hy)]
/-- Flags and places say the same. -/
theorem ds_go {ts : List Ta} (i : Int) : ∀ (O : List Int) (F : List Bool) (D : List Int), O.Nodup → (∀ x ∈ O, ∃ (j : Nat) (t : Ta), x = (j : Int) ∧ ts[j]? = some t) → F.length = ts.length → (∀ k, k < ts.length → F.getD k false = memI D (k : Int)) → (∀ x ∈ O, x ∉ D) → ∀ k, k < ts.length → (O.foldl (dsS ts i) F).getD k false = memI (O.foldl (dnS ts i) D) (k : Int)
  | [], _, _, _, _, _, he, _, k, hk => he k hk
  | a :: O, F, D, hn, hpl, hl, he, hd, k, hk => by
    rw [List.nodup_cons] at hn
    obtain ⟨j, t, rfl, ht⟩ := hpl a (List.mem_cons_self ..)
    have hjl := (List.getElem?_eq_some_iff.1 ht).1
    have haD := hd _ (List.mem_cons_self ..)
    have hm : memI D (j : Int) = false := by
      cases hq : memI D (j : Int)
      · rfl
      · exact absurd (memI_iff.1 hq) haD
    have hany : (upsA ts (j : Int)).any (ledB i F) = (upsA ts (j : Int)).any (leadB i D) := any_congr _ fun u hu => by
      unfold upsA at hu
      obtain ⟨x, hx, _, rfl⟩ := ascL_mem.1 hu
      unfold ledB leadB
      rw [Int.toNat_natCast, he x hx]
    rw [List.foldl_cons, List.foldl_cons]
    refine ds_go i O _ _ hn.2 (fun x hx => hpl x (List.mem_cons_of_mem _ hx)) (by unfold dsS; rw [List.length_set]; exact hl) (fun q hq => ?_) (fun x hx => ?_) k hk
    · unfold dsS dnS
      rw [Int.toNat_natCast, getB_set (by omega), he j hjl, hm, Bool.false_or, hany]
      by_cases e : q = j
      · subst e
        rw [if_pos rfl]
        cases hq2 : (upsA ts (q : Int)).any (leadB i D) with
        | false => simp only [Bool.false_eq_true, if_false]; exact hm.symm
        | true => simp only [if_true]; rw [memI_snoc, decide_eq_true rfl, Bool.or_true]
      · rw [if_neg e]
        cases hq2 : (upsA ts (j : Int)).any (leadB i D) with
        | false => simp only [Bool.false_eq_true, if_false]; exact he q hq
        | true => simp only [if_true]; rw [memI_snoc, decide_eq_false (by omega), Bool.or_false]; exact he q hq
    · unfold dnS
      split
      · rw [List.mem_append, List.mem_singleton]
        rintro (h | h)
        · exact hd x (List.mem_cons_of_mem _ hx) h
        · exact hn.1 (h ▸ hx)
      · exact hd x (List.mem_cons_of_mem _ hx)
theorem ascL_congr {n : Nat} {p q : Nat → Bool} (h : ∀ k, k < n → p k = q k) : ascL n p = ascL n q := by
  unfold ascL
  rw [List.filter_congr fun k hk => h k (List.mem_range.1 hk)]
theorem ds_down {ts : List Ta} (hr : Rg4 ts) (i : Int) : ascL ts.length (fun k => ((orderL ts).foldl (dsS ts i) (List.replicate ts.length false)).getD k false) = downC ts i := by
  have hol := order_ol hr
  refine ascL_congr fun k hk => ds_go i (orderL ts) _ [] hol.nd hol.pl List.length_replicate (fun q hq => ?_) (fun _ _ h => nomatch h) k hk
  rw [List.getD_eq_getElem?_getD, List.getElem?_replicate]
  split <;> rfl
/-- What lies there while flags are set. -/
structure DsS (w : World) (nm cr : ByteArray) (fr up : Int) (cu : Bool) (tv : Value) (gb n : Nat) (ov : Value) (O : List Int) (ev : Value) (W : World) (F : List Bool) : Prop where
  bel : Below w.heap.size w W
  dag : P6 W w.heap.size nm cr fr up cu tv
  fl : ownsR W w.heap.size 4 (.slice (some ⟨gb, 0, none⟩) n n) F
  ord : ownsR W w.heap.size 3 ov O
  emp : ownsR W w.heap.size 3 ev ([] : List Int)
section
variable {w W W' : World} {nm cr : ByteArray} {fr up : Int} {cu : Bool} {tv ov ev : Value} {gb n : Nat} {O : List Int} {F : List Bool}
theorem DsS.onW (h : DsS w nm cr fr up cu tv gb n ov O ev W F) (hb : Below W.heap.size W W') : DsS w nm cr fr up cu tv gb n ov O ev W' F := ⟨Below.on h.bel hb, h.dag.on hb, h.fl.all hb, h.ord.all hb, h.emp.all hb⟩
theorem own_other {α β : Type} [Rec α] [Rec β] {W : World} {B B' : Nat} {e e' : TypeId} {v v' : Value} {l : List α} {l' : List β} (h : ownsR W B e v l) (h' : ownsR W B' e' v' l') (hne : e ≠ e') {k : Nat} (hk : v.ownBlock = some k) : v'.ownBlock ≠ some k := by
  rcases h.2 with ⟨rfl, _⟩ | ⟨g, cap, cur, rfl, _, hg, _⟩
  · cases hk
  · cases hk
    exact not_own h' hg hne
theorem DsS.put (h : DsS w nm cr fr up cu tv gb n ov O ev W F) {i : Nat} (hi : i < F.length) (b : Bool) : DsS w nm cr fr up cu tv gb n ov O ev (W.setCell ⟨gb, i, none⟩ (.bool b)) (F.set i b) := by
  have hbk : ∀ k, k ≠ gb → (W.setCell ⟨gb, i, none⟩ (.bool b)).heap[k]? = W.heap[k]? := fun k hk => heap_setCell_other W ⟨gb, i, none⟩ k _ hk
  have hlow := own_low h.fl (k := gb) rfl
  refine ⟨h.bel.setCell (p := ⟨gb, i, none⟩) hlow.1 _, (hbk _ (fun e => not_own h.fl h.dag (by decide) (by show some gb = _; rw [e]))).trans h.dag, bool_put h.fl b (getB_at hi), h.ord.keep fun k hk => hbk k ?_, h.emp.keep fun k hk => hbk k ?_⟩
  · exact fun e => own_other h.ord h.fl (by decide) hk (by show some gb = _; rw [e])
  · exact fun e => own_other h.emp h.fl (by decide) hk (by show some gb = _; rw [e])
theorem DsS.row (h : DsS w nm cr fr up cu tv gb n ov O ev W F) {B : Nat} {v : Value} {U : List Int} (hu : ownsR W B 3 v U) (i : Nat) (x : Value) : ownsR (W.setCell ⟨gb, i, none⟩ x) B 3 v U :=
  hu.keep fun k hk => heap_setCell_other W ⟨gb, i, none⟩ k _ fun e => own_other hu h.fl (by decide) hk (by show some gb = _; rw [e])
end
/-- A place that a right plan's task is after. -/
theorem upsA_plD {ts : List Ta} (hr : Rg4 ts) {j : Nat} {t : Ta} (ht : ts[j]? = some t) : ∀ u ∈ upsA ts (j : Int), ∃ x : Nat, u = (x : Int) ∧ x < 4 ∧ x ≠ j := fun u hu => by
  have htm := List.mem_of_getElem? ht
  unfold upsA at hu
  rw [af_at ht] at hu
  obtain ⟨s, hs, e⟩ := (upsC_mem hr.own (hr.lies t htm)).1 hu
  obtain ⟨x, v, hx, e1, ha⟩ := at_find (hr.lies t htm s hs)
  refine ⟨x, by omega, by have := (List.getElem?_eq_some_iff.1 hx).1; have := hr.few; omega, fun exj => ?_⟩
  subst exj
  rw [ht] at hx
  cases hx
  exact hr.self t htm (e1 ▸ hs)
set_option maxRecDepth 10000 in
set_option maxHeartbeats 4000000 in
theorem specDown_yes (ao : Option Addr) (n cap : Nat) (nm cr : ByteArray) (fr up : Int) (cu : Bool) (ts : List Ta) (i : Int) (w : World) (hd : DagAt w (.slice ao n cap) ⟨nm, cr, fr, up, cu, ts⟩) (hq : dagB ⟨nm, cr, fr, up, cu, ts⟩ = true) (hi0 : 0 ≤ i) (hi1 : i < (n : Int)) :
    Calls Tryz.prog 45 #[.agg #[.string nm, .string cr, .int .i64 fr, .int .i64 up, .bool cu, .slice ao n cap], .int .i64 i] w fun e w' => ∃ v, e = .returned v ∧ ownsR w' w.heap.size 3 v (downC ts i) ∧ Below w.heap.size w w' := by
  obtain ⟨i0, hi0', hz0, hz1, hz2⟩ := info_parts infoB
  have hrg := rg_of hq
  have HRG : Hid (Rg4 ts) := hrg
  have HN : Hid (ts.length = n) := by
    obtain ⟨ao', cap', e⟩ := hd.tasks.slice
    injection e with _ e2 _
    exact e2.symm
  have hn4 : n ≤ 4 := by rw [← HN.out]; exact hrg.few
  have HDK : Hid (∀ W, Below w.heap.size w W → Calls Tryz.prog 15 #[.agg #[.string nm, .string cr, .int .i64 fr, .int .i64 up, .bool cu, .slice ao n cap]] W fun e w' => e = .returned (.bool true) ∧ Below W.heap.size W w') := fun W hb => by
    have := dagOk_try _ nm cr fr up cu ts W (hd.below hb)
    rw [hq] at this
    exact this
  have HIN : Hid (∀ W, Calls Tryz.prog 58 #[.int .i64 i, .int .i64 0, .int .i64 ((n : Int) - 1)] W fun e w' => e = .returned (.bool true) ∧ w' = W) := fun W => by
    have := in_any i 0 ((n : Int) - 1) W
    rw [decide_eq_true hi0, decide_eq_true (show i ≤ (n : Int) - 1 by omega)] at this
    exact this
  obtain ⟨O, HOO⟩ : ∃ O, Hid (orderL ts = O) := ⟨_, rfl⟩
  have HOR : Hid (∀ W, Below w.heap.size w W → Calls Tryz.prog 60 #[.slice ao n cap] W fun e w' => ∃ v', e = .returned v' ∧ ownsR w' W.heap.size 3 v' O ∧ Below W.heap.size W w') := fun W hb => by
    rw [← HOO.out]
    exact l12Order_any (hd.tasks.below hb) (Nat.le_trans hrg.few (by decide)) fun t ht => (hd.small t ht).1
  have HPL : Hid (∀ x ∈ O, ∃ (j : Nat) (t : Ta), x = (j : Int) ∧ ts[j]? = some t ∧ j < n) := fun x hx => by
    rw [← HOO.out] at hx
    obtain ⟨j, t, e, hj⟩ := (order_ol hrg).pl x hx
    exact ⟨j, t, e, hj, by rw [← HN.out]; exact (List.getElem?_eq_some_iff.1 hj).1⟩
  have HUP : Hid (∀ (j : Nat) (t : Ta) W, ts[j]? = some t → Below w.heap.size w W → Calls Tryz.prog 80 #[.agg #[.string nm, .string cr, .int .i64 fr, .int .i64 up, .bool cu, .slice ao n cap], .int .i64 j] W fun e w' => ∃ v, e = .returned v ∧ ownsR w' W.heap.size 3 v (upsA ts (j : Int)) ∧ Below W.heap.size W w') := fun j t W ht hb => by
    have htm := List.mem_of_getElem? ht
    have h2 := l13Ups_any ao n cap nm cr fr up cu ts j t W (hd.tasks.below hb) hn4 ht (rg_few hrg htm)
    rw [ups_spec hrg htm] at h2
    unfold upsA
    rw [af_at ht]
    exact h2
  have HUX : Hid (∀ (j : Nat) (t : Ta), ts[j]? = some t → ∀ u ∈ upsA ts (j : Int), ∃ x : Nat, u = (x : Int) ∧ x < n ∧ x ≠ j) := fun j t ht u hu => by
    obtain ⟨x, e, _, hxj⟩ := upsA_plD hrg ht u hu
    refine ⟨x, e, ?_, hxj⟩
    unfold upsA at hu
    obtain ⟨y, hy, _, e2⟩ := ascL_mem.1 hu
    have := HN.out
    omega
  have HOL : Hid (O.length = n) := by show O.length = n; rw [← HOO.out, ← HN.out]; exact hrg.full
  have HRS : Hid (ascL n (fun k => (O.foldl (dsS ts i) (List.replicate n false)).getD k false) = downC ts i) := by rw [← HOO.out, ← HN.out]; exact ds_down hrg i
  rw [← HRS.out]
  clear hd HOO hq hrg HRS
  obtain ⟨W1, hW1⟩ : ∃ W1, (w.alloc (.cells #[.string nm, .string cr, .int .i64 fr, .int .i64 up, .bool cu, .slice ao n cap] 26)).alloc (.cells #[] 3) = W1 := ⟨_, rfl⟩
  have Z1 : P6 W1 w.heap.size nm cr fr up cu (.slice ao n cap) := by rw [← hW1]; exact (P6.new _ _ _ _ _ _ _).on (ba (Below.refl _ _) _)
  have B1 : Below w.heap.size w W1 := by rw [← hW1]; exact ba (ba (Below.refl _ _) _) _
  have HO1 : Hid (ownsR W1 w.heap.size 3 (.slice (some ⟨w.heap.size + 1, 0, none⟩) 0 0) ([] : List Int)) := by
    show ownsR _ _ _ _ _
    rw [← hW1]
    have := ints_made (w.alloc (.cells #[.string nm, .string cr, .int .i64 fr, .int .i64 up, .bool cu, .slice ao n cap] 26)) w.heap.size (by simp)
    simpa using this
  have c0 := Z1.c0
  have c1 := Z1.c1
  have c2 := Z1.c2
  have c3 := Z1.c3
  have c4 := Z1.c4
  have c5 := Z1.c5
  go_enter Tryz.func45, Tryz.ntmps45
  go_wp2_with fail
  refine (HDK.out _ B1).mono ?_
  rintro e w2 ⟨rfl, hb2⟩
  have Z2 := Z1.on hb2
  have B2 := Below.on B1 hb2
  have o2 := HO1.out.all hb2
  clear hb2 c0 c1 c2 c3 c4 c5 Z1 hW1 HO1 B1
  have c5 := Z2.c5
  go_wp2_with fail
  refine (HIN.out _).mono ?_
  rintro e w3 ⟨rfl, hw⟩
  have hw2 := hw.symm
  subst hw2
  go_wp2_with fail
  refine (HOR.out _ B2).mono ?_
  rintro e w3 ⟨ov, rfl, ho3, hb3⟩
  have Z3 := Z2.on hb3
  have B3 := Below.on B2 hb3
  have HO3 : Hid (ownsR w3 w.heap.size 3 ov O) := ho3.mono B2.size
  have HE3 : Hid (ownsR w3 w.heap.size 3 (.slice (some ⟨w.heap.size + 1, 0, none⟩) 0 0) ([] : List Int)) := o2.all hb3
  obtain ⟨oa, oc, eo⟩ := HO3.out.slice
  subst eo
  rw [HOL.out] at HO3
  rw [HOL.out]
  clear ho3 hb3 o2 c5 Z2 B2
  have c5 := Z3.c5
  have hs3 : w.heap.size ≤ w3.heap.size := B3.size
  go_wp2_with (at_make; refine wpList_make_full _ rfl _ _ 98 rfl w.heap.size 4 i0 _ 1 underB hi0' hz0 hz1 .i64 .i64 _ _ n rfl rfl rfl rfl (by rw [hz2]; omega) (by unfold maxLen; omega) hs3 ?_; intro w4 ho4 hg4)
  rw [made_bools] at ho4
  have HS4 : Hid (DsS w nm cr fr up cu (.slice ao n cap) w3.heap.size n (.slice oa n oc) O (.slice (some ⟨w.heap.size + 1, 0, none⟩) 0 0) w4 (List.replicate n false)) := by
    have hbb : Below w3.heap.size w3 w4 := (Below.refl _ _).grown hg4 (Nat.le_refl _) (fun j hj => by cases hj)
    refine ⟨Below.on B3 hbb, Z3.on hbb, ?_, HO3.out.all hbb, HE3.out.all hbb⟩
    unfold ownsR; rw [List.length_replicate]; exact ho4
  clear ho4 hg4 HO3 HE3 Z3 B3 c5
  generalize w3.heap.size = gb at *
  generalize Value.slice (some ⟨w.heap.size + 1, 0, none⟩) 0 0 = ev at *
  obtain ⟨ov, HOV⟩ : ∃ ov, Hid (Value.slice oa n oc = ov) := ⟨_, rfl⟩
  rw [HOV.out] at HS4
  obtain ⟨FF, HFF⟩ : ∃ FF, Hid (O.foldl (dsS ts i) (List.replicate n false) = FF) := ⟨_, rfl⟩
  go_wp2
  go_loopw [8] (fun kv wr => ∃ (k : Nat) (F : List Bool), k ≤ n ∧ kv = .int .i64 k ∧ Hid (F.length = n) ∧ Hid (FF = (O.drop k).foldl (dsS ts i) F) ∧ Hid (DsS w nm cr fr up cu (.slice ao n cap) gb n ov O ev wr F)) (fun kv _ => n - (intOf kv).toNat)
  case atStart => exact ⟨0, List.replicate n false, Nat.zero_le _, rfl, List.length_replicate, (by show FF = _; rw [List.drop_zero, ← HFF.out]), HS4⟩
  case round =>
    clear HS4
    obtain ⟨k, F, hk, rfl, HFL, HE, HS⟩ := hrel
    by_cases hlt : k < n
    · obtain ⟨a, ha⟩ : ∃ a, O[k]? = some a := ⟨_, List.getElem?_eq_getElem (by rw [HOL.out]; exact hlt)⟩
      obtain ⟨j, t, ej, htj, hjn⟩ := HPL.out a (List.mem_of_getElem? ha)
      subst ej
      have HUB : Hid (∀ u ∈ upsA ts (j : Int), ∃ x : Nat, u = (x : Int) ∧ x < n ∧ x ≠ j) := HUX.out j t htj
      have hord := HS.out.ord.reads
      rw [← HOV.out] at hord
      obtain ⟨ob, oo, eoa, hob, ca⟩ := int_at hord ha
      subst eoa
      have HAK : Hid (O[k]? = some (j : Int)) := ha
      have HE2 : Hid (FF = (O.drop (k + 1)).foldl (dsS ts i) (dsS ts i F (j : Int))) := by show FF = _; rw [HE.out, foldD_at ha]
      obtain ⟨U, HUU⟩ : ∃ U, Hid (upsA ts (j : Int) = U) := ⟨_, rfl⟩
      have H1 : Hid (∀ W, Below w.heap.size w W → Calls Tryz.prog 80 #[.agg #[.string nm, .string cr, .int .i64 fr, .int .i64 up, .bool cu, .slice ao n cap], .int .i64 j] W fun e w' => ∃ v, e = .returned v ∧ ownsR w' W.heap.size 3 v U ∧ Below W.heap.size W w') := fun W hb => by
        have := HUP.out j t W htj hb
        rw [HUU.out] at this
        exact this
      rw [HUU.out] at HUB
      have HUL : Hid (U.length ≤ 4) := by
        show U.length ≤ 4
        rw [← HUU.out]
        unfold upsA upsC
        exact Nat.le_trans (ascL_len _ _) HRG.out.few
      clear ha htj hord HE
      have BR := HS.out.bel
      have K0 := Below.cellOf (B := wr.heap.size) (W := wr) (p := ⟨w.heap.size, 0, none⟩) HS.out.dag.lt HS.out.dag.c0
      have K1 := Below.cellOf (B := wr.heap.size) (W := wr) (p := ⟨w.heap.size, 1, none⟩) HS.out.dag.lt HS.out.dag.c1
      have K2 := Below.cellOf (B := wr.heap.size) (W := wr) (p := ⟨w.heap.size, 2, none⟩) HS.out.dag.lt HS.out.dag.c2
      have K3 := Below.cellOf (B := wr.heap.size) (W := wr) (p := ⟨w.heap.size, 3, none⟩) HS.out.dag.lt HS.out.dag.c3
      have K4 := Below.cellOf (B := wr.heap.size) (W := wr) (p := ⟨w.heap.size, 4, none⟩) HS.out.dag.lt HS.out.dag.c4
      have K5 := Below.cellOf (B := wr.heap.size) (W := wr) (p := ⟨w.heap.size, 5, none⟩) HS.out.dag.lt HS.out.dag.c5
      have KA := Below.cellOf (B := wr.heap.size) (W := wr) (p := ⟨ob, oo + k, none⟩) hob ca
      go_wp2_with fail
      go_region_held3 (fun w' => Below wr.heap.size wr w') ((first | exact (Below.refl _ _).drew | exact hS5)) ((go_at_call 80; refine (H1.out _ (Below.on BR (by assumption))).mono ?_; rintro x w5 ⟨uv, rfl, hu5, hb5⟩; have hS5 := keep_on (B := wr.heap.size) (W := wr) hb5 (by assumption) (Nat.le_refl _)))
      have HS5 : Hid (DsS w nm cr fr up cu (.slice ao n cap) gb n ov O ev w5 F) := HS.out.onW hS5
      have HU5 : Hid (ownsR w5 w.heap.size 3 uv U) := hu5.mono HS.out.bel.size
      obtain ⟨ua, uc, eu⟩ := HU5.out.slice
      subst eu
      obtain ⟨ul, HULE⟩ : ∃ ul, Hid (U.length = ul) := ⟨_, rfl⟩
      have hul : ul ≤ 4 := by rw [← HULE.out]; exact HUL.out
      rw [HULE.out] at HU5
      rw [HULE.out]
      clear hu5 hb5 hS5 K0 K1 K2 K3 K4 K5 KA HS BR ca H1
      have hjF : j < F.length := by rw [HFL.out]; exact hjn
      obtain ⟨b0, HB0⟩ : ∃ b0, Hid (F.getD j false = b0) := ⟨_, rfl⟩
      have HF0 : Hid (F.set j b0 = F) := by
        show F.set j b0 = F
        have hj := getB_at hjF
        rw [HB0.out] at hj
        apply List.ext_getElem?
        intro q
        rw [setB_get hjF]
        by_cases e : q = j
        · subst e; rw [if_pos rfl, hj]
        · rw [if_neg e]
      obtain ⟨BB, HBB⟩ : ∃ BB, Hid ((b0 || U.any (ledB i F)) = BB) := ⟨_, rfl⟩
      go_wp2
      go_loopw [10] (fun mv wz => ∃ (m : Nat) (b : Bool), m ≤ ul ∧ mv = .int .i64 m ∧ Hid (BB = (b || (U.drop m).any (ledB i F))) ∧ Hid (DsS w nm cr fr up cu (.slice ao n cap) gb n ov O ev wz (F.set j b)) ∧ Hid (ownsR wz w.heap.size 3 (.slice ua ul uc) U)) (fun mv _ => ul - (intOf mv).toNat)
      case atStart => exact ⟨0, b0, Nat.zero_le _, rfl, (by show BB = _; rw [List.drop_zero, ← HBB.out]), (by show DsS _ _ _ _ _ _ _ _ _ _ _ _ _ _; rw [HF0.out]; exact HS5.out), HU5⟩
      case round =>
        clear HS5 HU5
        obtain ⟨m, b, hm, rfl, HE3, HS, HU⟩ := hrel
        have hjS : j < (F.set j b).length := by rw [List.length_set]; exact hjF
        by_cases hml : m < ul
        · obtain ⟨u, hu⟩ : ∃ u, U[m]? = some u := ⟨_, List.getElem?_eq_getElem (by rw [HULE.out]; exact hml)⟩
          obtain ⟨x, ex, hxn, hxj⟩ := HUB.out u (List.mem_of_getElem? hu)
          subst ex
          obtain ⟨ub, uo, eua, hub, cu1⟩ := int_at HU.out.reads hu
          subst eua
          obtain ⟨y, HY⟩ : ∃ y, Hid (F.getD x false = y) := ⟨_, rfl⟩
          have HE4' : Hid (BB = (b || ((decide ((x : Int) = i) || y) || (U.drop (m + 1)).any (ledB i F)))) := by
            show BB = _
            rw [HE3.out, any_at hu]
            unfold ledB
            rw [Int.toNat_natCast, HY.out]
          obtain ⟨-, cb, fb⟩ := bool_own HS.out.fl (i := j) (x := b) (by rw [setB_get hjF, if_pos rfl])
          obtain ⟨-, cx, -⟩ := bool_own HS.out.fl (i := x) (x := y) (by rw [setB_get hjF, if_neg hxj, getB_at (l := F) (by rw [HFL.out]; exact hxn), HY.out])
          have hord := HS.out.ord.reads
          rw [← HOV.out] at hord
          have HPT : Hid (∀ z, DsS w nm cr fr up cu (.slice ao n cap) gb n ov O ev (wr.setCell ⟨gb, j, none⟩ (.bool z)) (F.set j z) ∧ ownsR (wr.setCell ⟨gb, j, none⟩ (.bool z)) w.heap.size 3 (.slice (some ⟨ub, uo, none⟩) ul uc) U) := fun z => by
            have h1 := HS.out.put hjS z
            rw [List.set_set] at h1
            exact ⟨h1, HS.out.row HU.out j _⟩
          obtain ⟨ob', oo', eo', hob', ca⟩ := int_at hord HAK.out
          injection eo' with eo'
          injection eo' with e1 e2 _
          subst e1 e2
          have hgl : gb < wr.heap.size := (own_low HS.out.fl (k := gb) rfl).2
          clear hu HE3 HS HU hord
          cases b with
          | true =>
            have HE4 : Hid (BB = (true || (U.drop (m + 1)).any (ledB i F))) := HE4'
            go_wp2
            go_region
            go_wp2
            have HP := HPT.out true
            have HP1 : Hid (∀ W', Below (wr.setCell ⟨gb, j, none⟩ (.bool true)).heap.size (wr.setCell ⟨gb, j, none⟩ (.bool true)) W' → DsS w nm cr fr up cu (.slice ao n cap) gb n ov O ev W' (F.set j true) ∧ ownsR W' w.heap.size 3 (.slice (some ⟨ub, uo, none⟩) ul uc) U) := fun W' hb => ⟨HP.1.onW hb, HP.2.all hb⟩
            clear HP cb cx cu1 fb
            go_roundw
            case rel =>
              have HQ := HP1.out _ (Below.refl _ _).drew
              exact ⟨m + 1, true, by omega, by go_num, HE4, HQ.1, HQ.2⟩
            case measure => simp [intOf]; omega

          | false =>
            by_cases hxi : (x : Int) = i
            · have HE4 : Hid (BB = (true || (U.drop (m + 1)).any (ledB i F))) := by show BB = _; rw [HE4'.out, decide_eq_true hxi]; rfl
              have hxi2 : ((x : Int) == i) = true := beq_iff_eq.2 hxi
              clear hxi
              go_wp2
              go_region
              go_wp2
              have HP := HPT.out true
              have HP1 : Hid (∀ W', Below (wr.setCell ⟨gb, j, none⟩ (.bool true)).heap.size (wr.setCell ⟨gb, j, none⟩ (.bool true)) W' → DsS w nm cr fr up cu (.slice ao n cap) gb n ov O ev W' (F.set j true) ∧ ownsR W' w.heap.size 3 (.slice (some ⟨ub, uo, none⟩) ul uc) U) := fun W' hb => ⟨HP.1.onW hb, HP.2.all hb⟩
              clear HP cb cx cu1 fb
              go_roundw
              case rel =>
                have HQ := HP1.out _ (Below.refl _ _).drew
                exact ⟨m + 1, true, by omega, by go_num, HE4, HQ.1, HQ.2⟩
              case measure => simp [intOf]; omega

            · have hxi2 : ((x : Int) == i) = false := beq_eq_false_iff_ne.2 hxi
              have HE4 : Hid (BB = (y || (U.drop (m + 1)).any (ledB i F))) := by show BB = _; rw [HE4'.out, decide_eq_false hxi]; rfl
              clear hxi
              go_wp2
              go_region
              go_wp2
              have HP := HPT.out y
              have HP1 : Hid (∀ W', Below (wr.setCell ⟨gb, j, none⟩ (.bool y)).heap.size (wr.setCell ⟨gb, j, none⟩ (.bool y)) W' → DsS w nm cr fr up cu (.slice ao n cap) gb n ov O ev W' (F.set j y) ∧ ownsR W' w.heap.size 3 (.slice (some ⟨ub, uo, none⟩) ul uc) U) := fun W' hb => ⟨HP.1.onW hb, HP.2.all hb⟩
              clear HP cb cx cu1 fb
              go_roundw
              case rel =>
                have HQ := HP1.out _ (Below.refl _ _).drew
                exact ⟨m + 1, y, by omega, by go_num, HE4, HQ.1, HQ.2⟩
              case measure => simp [intOf]; omega

        · have HE5 : Hid (BB = b) := by show BB = b; rw [HE3.out, any_end (by rw [HULE.out]; omega), Bool.or_false]
          have HSP : Hid (FF = (O.drop (k + 1)).foldl (dsS ts i) (F.set j b)) := by
            show FF = _
            rw [HE2.out]
            unfold dsS
            rw [Int.toNat_natCast, HUU.out, HB0.out, HBB.out, HE5.out]
          have HFL2 : Hid ((F.set j b).length = n) := by show _ = n; rw [List.length_set]; exact HFL.out
          clear HU HE3
          go_wp2
          go_roundw
          case rel => exact ⟨k + 1, F.set j b, by omega, by go_num, HFL2, HSP, HS⟩
          case measure => simp [intOf]; omega
    · have HF : Hid (FF = F) := by show FF = F; rw [HE.out, foldD_end (by rw [HOL.out]; omega)]
      clear HE
      go_wp2
      go_loopw [5, 11] (fun v kv wr => ∃ (k : Nat), k ≤ n ∧ kv = .int .i64 k ∧ Hid (Below w.heap.size w wr ∧ ownsR wr w.heap.size 3 v (ascL k fun q => F.getD q false) ∧ ownsR wr w.heap.size 4 (.slice (some ⟨gb, 0, none⟩) n n) F)) (fun _ kv _ => n - (intOf kv).toNat)
      case atStart => exact ⟨0, Nat.zero_le _, rfl, HS.out.bel, HS.out.emp, HS.out.fl⟩
      case round =>
        clear HS
        obtain ⟨m, hm, rfl, HV⟩ := hrel
        obtain ⟨va, vc, ev2⟩ := HV.out.2.1.slice
        subst ev2
        have hlm := ascL_len m fun q => F.getD q false
        by_cases hml : m < n
        · obtain ⟨b, HB⟩ : ∃ b, Hid (F.getD m false = b) := ⟨_, rfl⟩
          obtain ⟨-, cb, -⟩ := bool_own HV.out.2.2 (i := m) (x := b) (by rw [getB_at (l := F) (by rw [HFL.out]; exact hml), HB.out])
          have HNX : Hid ((ascL (m + 1) fun q => F.getD q false) = if b = true then (ascL m fun q => F.getD q false) ++ [(m : Int)] else ascL m fun q => F.getD q false) := by show _ = _; rw [ascL_succ, HB.out]
          obtain ⟨L, HL⟩ : ∃ L, Hid ((ascL m fun q => F.getD q false) = L) := ⟨_, rfl⟩
          rw [HL.out] at HV HNX hlm
          rw [HL.out]
          obtain ⟨ll, HLL⟩ : ∃ ll, Hid (L.length = ll) := ⟨_, rfl⟩
          rw [HLL.out] at HV hlm
          rw [HLL.out]
          cases b with
          | false =>
            have HV2 : Hid (Below w.heap.size w wr ∧ ownsR wr w.heap.size 3 (.slice va ll vc) (ascL (m + 1) fun q => F.getD q false) ∧ ownsR wr w.heap.size 4 (.slice (some ⟨gb, 0, none⟩) n n) F) := ⟨HV.out.1, by rw [HNX.out]; exact HV.out.2.1, HV.out.2.2⟩
            clear HV
            go_wp2
            go_roundw
            case rel => exact ⟨m + 1, by omega, by go_num, HV2⟩
            case measure => simp [intOf]; omega
          | true =>
            have HVA : Hid (∀ o, Below w.heap.size w (wr.alloc o) ∧ ownsR (wr.alloc o) w.heap.size 3 (.slice va ll vc) L ∧ ownsR (wr.alloc o) w.heap.size 4 (.slice (some ⟨gb, 0, none⟩) n n) F) := fun o => ⟨HV.out.1.alloc HV.out.1.size _, HV.out.2.1.alloc _, HV.out.2.2.alloc _⟩
            have hsr : w.heap.size ≤ wr.heap.size := HV.out.1.size
            clear HV
            go_wp2_with (at_builtin; refine append_recW _ w rfl (.tmp 91) (.tmp 93) 37 rfl w.heap.size 3 _ 8 underI info3 rfl _ L rfl (HVA.out _).2.1 (HVA.out _).1 wr.heap.size 1 (m : Int) rfl (cell_int (by simp [go_sem])) (by rw [HLL.out]; omega) (by decide) (by simp; omega) ?_; intro v6 w6 ho6 hb6 hg6 hl6)
            have hva := HVA.out (.cells #[.int .i64 (m : Int)] 3)
            have HV2 : Hid (Below w.heap.size w w6 ∧ ownsR w6 w.heap.size 3 v6 (ascL (m + 1) fun q => F.getD q false) ∧ ownsR w6 w.heap.size 4 (.slice (some ⟨gb, 0, none⟩) n n) F) := ⟨hb6, by rw [HNX.out]; exact ho6, hva.2.2.keep fun q hq => hg6.block q (own_low hva.2.2 hq).2 fun e => own_other hva.2.2 hva.2.1 (by decide) hq e.symm⟩
            clear hva ho6 hb6 hg6 hl6 HVA
            go_wp2
            go_roundw
            case rel => exact ⟨m + 1, by omega, by go_num, HV2⟩
            case measure => simp [intOf]; omega
        · have emn : m = n := by omega
          have HR : Hid (ownsR wr w.heap.size 3 (.slice va (ascL m fun q => F.getD q false).length vc) (ascL n fun q => FF.getD q false) ∧ Below w.heap.size w wr) := ⟨by rw [HF.out, ← emn]; exact HV.out.2.1, HV.out.1⟩
          clear emn HV
          go_wp2
          go_ret
          exact ⟨_, rfl, by rw [HFF.out]; exact HR.out.1, HR.out.2⟩
set_option maxRecDepth 10000 in
set_option maxHeartbeats 4000000 in
theorem specDown_no (ao : Option Addr) (n cap : Nat) (nm cr : ByteArray) (fr up : Int) (cu : Bool) (ts : List Ta) (i : Int) (w : World) (hd : DagAt w (.slice ao n cap) ⟨nm, cr, fr, up, cu, ts⟩) (hn : ts.length = n) (hno : ¬ (dagB ⟨nm, cr, fr, up, cu, ts⟩ = true ∧ 0 ≤ i ∧ i < (n : Int))) :
    Calls Tryz.prog 45 #[.agg #[.string nm, .string cr, .int .i64 fr, .int .i64 up, .bool cu, .slice ao n cap], .int .i64 i] w fun e w' => ∃ v, e = .returned v ∧ ownsR w' w.heap.size 3 v ([] : List Int) ∧ Below w.heap.size w w' := by
  obtain ⟨q, HQ⟩ : ∃ q, Hid (dagB ⟨nm, cr, fr, up, cu, ts⟩ = q) := ⟨_, rfl⟩
  have hnn : n ≤ 1048577 := by rw [← hn]; exact hd.few
  have HDK : Hid (∀ W, Below w.heap.size w W → Calls Tryz.prog 15 #[.agg #[.string nm, .string cr, .int .i64 fr, .int .i64 up, .bool cu, .slice ao n cap]] W fun e w' => e = .returned (.bool q) ∧ Below W.heap.size W w') := fun W hb => by
    have := dagOk_try _ nm cr fr up cu ts W (hd.below hb)
    rw [HQ.out] at this
    exact this
  rw [HQ.out] at hno
  have HNO : Hid (¬ (q = true ∧ 0 ≤ i ∧ i < (n : Int))) := hno
  clear hd HQ hno hn
  obtain ⟨W1, hW1⟩ : ∃ W1, (w.alloc (.cells #[.string nm, .string cr, .int .i64 fr, .int .i64 up, .bool cu, .slice ao n cap] 26)).alloc (.cells #[] 3) = W1 := ⟨_, rfl⟩
  have Z1 : P6 W1 w.heap.size nm cr fr up cu (.slice ao n cap) := by rw [← hW1]; exact (P6.new _ _ _ _ _ _ _).on (ba (Below.refl _ _) _)
  have B1 : Below w.heap.size w W1 := by rw [← hW1]; exact ba (ba (Below.refl _ _) _) _
  have HO1 : Hid (ownsR W1 w.heap.size 3 (.slice (some ⟨w.heap.size + 1, 0, none⟩) 0 0) ([] : List Int)) := by
    show ownsR _ _ _ _ _
    rw [← hW1]
    have := ints_made (w.alloc (.cells #[.string nm, .string cr, .int .i64 fr, .int .i64 up, .bool cu, .slice ao n cap] 26)) w.heap.size (by simp)
    simpa using this
  have c0 := Z1.c0
  have c1 := Z1.c1
  have c2 := Z1.c2
  have c3 := Z1.c3
  have c4 := Z1.c4
  have c5 := Z1.c5
  cases q with
  | false =>
    go_enter Tryz.func45, Tryz.ntmps45
    go_wp2_with fail
    refine (HDK.out _ B1).mono ?_
    rintro e w2 ⟨rfl, hb2⟩
    have B2 := Below.on B1 hb2
    have o2 := HO1.out.all hb2
    clear hb2 c0 c1 c2 c3 c4 c5
    go_wp2
    go_ret
    exact ⟨_, rfl, o2, B2⟩
  | true =>
    have HIN : Hid (∀ W, Calls Tryz.prog 58 #[.int .i64 i, .int .i64 0, .int .i64 ((n : Int) - 1)] W fun e w' => e = .returned (.bool false) ∧ w' = W) := fun W => by
      have := in_any i 0 ((n : Int) - 1) W
      have e : (decide (0 ≤ i) && decide (i ≤ (n : Int) - 1)) = false := by
        rw [← Bool.decide_and]
        exact decide_eq_false fun h => HNO.out ⟨rfl, h.1, by omega⟩
      rw [e] at this
      exact this
    go_enter Tryz.func45, Tryz.ntmps45
    go_wp2_with fail
    refine (HDK.out _ B1).mono ?_
    rintro e w2 ⟨rfl, hb2⟩
    have Z2 := Z1.on hb2
    have B2 := Below.on B1 hb2
    have o2 := HO1.out.all hb2
    clear hb2 c0 c1 c2 c3 c4 c5 Z1
    have c5 := Z2.c5
    go_wp2_with fail
    refine (HIN.out _).mono ?_
    rintro e w3 ⟨rfl, hw⟩
    have hw2 := hw.symm
    subst hw2
    go_wp2
    go_ret
    exact ⟨_, rfl, o2, B2⟩
theorem specDown_any (ao : Option Addr) (n cap : Nat) (nm cr : ByteArray) (fr up : Int) (cu : Bool) (ts : List Ta) (i : Int) (w : World) (hd : DagAt w (.slice ao n cap) ⟨nm, cr, fr, up, cu, ts⟩) :
    Calls Tryz.prog 45 #[.agg #[.string nm, .string cr, .int .i64 fr, .int .i64 up, .bool cu, .slice ao n cap], .int .i64 i] w fun e w' => ∃ v, e = .returned v ∧ ownsR w' w.heap.size 3 v (dnD ⟨nm, cr, fr, up, cu, ts⟩ i) ∧ Below w.heap.size w w' := by
  have hn : ts.length = n := by
    obtain ⟨ao', cap', e⟩ := hd.tasks.slice
    injection e with _ e2 _
    exact e2.symm
  by_cases h : dagB ⟨nm, cr, fr, up, cu, ts⟩ = true ∧ 0 ≤ i ∧ i < (n : Int)
  · have e : dnD ⟨nm, cr, fr, up, cu, ts⟩ i = downC ts i := by unfold dnD; rw [if_pos h.1]
    rw [e]
    exact specDown_yes ao n cap nm cr fr up cu ts i w hd h.1 h.2.1 h.2.2
  · have e : dnD ⟨nm, cr, fr, up, cu, ts⟩ i = [] := by
      unfold dnD
      by_cases hq : dagB ⟨nm, cr, fr, up, cu, ts⟩ = true
      · rw [if_pos hq]
        exact down_none (by show i < 0 ∨ (ts.length : Int) ≤ i; rw [hn]; by_cases h0 : 0 ≤ i; right; exact Int.not_lt.1 fun h1 => h ⟨hq, h0, h1⟩; left; omega)
      · rw [if_neg hq]
    rw [e]
    exact specDown_no ao n cap nm cr fr up cu ts i w hd hn h
end Go.Proofs.YteefacjjdalncaaGreatDoor

namespace Go.Proofs.YteefacjjdalncaaGreatDoor
open Go Go.RowKit
set_option linter.unusedVariables false

theorem L6.twx {w w' : World} {g B S : Nat} {nm cr : ByteArray} {fr up : Int} {cu : Bool} {tv : Value} (h : L6 w g nm cr fr up cu tv) (ht : Twx B S w w') (hg : g < B ∨ S ≤ g) : L6 w' g nm cr fr up cu tv := (ht.block g h.lt hg).trans h
set_option maxRecDepth 10000 in
set_option maxHeartbeats 8000000 in
theorem law_DownsOf (ao : Option Addr) (n cap : Nat) (nm cr : ByteArray) (fr up : Int) (cu : Bool) (ts : List Ta) (i : Int) (w : World) (hr : Tasks w (.slice ao n cap) ts) (hf : FitD ⟨nm, cr, fr, up, cu, ts⟩ n) (hg : Gl w) :
    Calls Tryz.prog 9 #[.agg #[.string nm, .string cr, .int .i64 fr, .int .i64 up, .bool cu, .slice ao n cap], .int .i64 i] w fun x w' => x = .returned (.bool true) ∧ Below w.heap.size w w' := by
  have HN : Hid (ts.length = n) := by
    obtain ⟨ao', cap', e⟩ := hr.slice
    injection e with _ e2 _
    exact e2.symm
  have HZ : Hid (∀ W, Below w.heap.size w W → Calls Tryz.prog 39 #[.agg #[.string nm, .string cr, .int .i64 fr, .int .i64 up, .bool cu, .slice ao n cap], .int .i64 1048576] W fun e w' => ∃ r : Int, e = .returned (.int .i64 r) ∧ r ≤ 1048576 ∧ -1 ≤ r ∧ (0 ≤ r → (nm.size : Int) ≤ 1048576 ∧ (cr.size : Int) ≤ 1048576 ∧ (ts.length : Int) ≤ 1048576 ∧ ∀ t ∈ ts, Wei t 1048576) ∧ Below W.heap.size W w') := fun W hb => szD_any ao n cap nm cr fr up cu ts 1048576 W (hr.below hb) hf (by decide) (by decide)
  have HR : Hid (∀ W, Below w.heap.size w W → Tasks W (.slice ao n cap) ts) := fun W hb => hr.below hb
  have HG : Hid (∀ W, Below w.heap.size w W → Gl W) := fun W hb => hg.up hb
  clear hr hf hg
  obtain ⟨R, HQ⟩ : ∃ R, Hid (dnD ⟨nm, cr, fr, up, cu, ts⟩ i = R) := ⟨_, rfl⟩
  have HRL : Hid (R.length ≤ 4) := by show R.length ≤ 4; rw [← HQ.out]; exact dnD_len _ i
  go_enter Tryz.func9, Tryz.ntmps9
  go_wp2_with fail
  refine (HZ.out _ (ba (Below.refl _ _) _)).mono ?_
  rintro x w0 ⟨r, rfl, hr1, hr2, hr3, hb0⟩
  have Z0 := (L6.new w nm cr fr up cu (.slice ao n cap)).on hb0
  have B0 := below_new hb0
  have HR3 : Hid (0 ≤ r → (nm.size : Int) ≤ 1048576 ∧ (cr.size : Int) ≤ 1048576 ∧ (ts.length : Int) ≤ 1048576 ∧ ∀ t ∈ ts, Wei t 1048576) := hr3
  clear hb0 hr3 HZ
  by_cases hneg : r < 0
  · go_wp2
    go_ret
    exact ⟨rfl, B0⟩
  have HK := HR3.out (by omega)
  have HK1 : Hid (∀ t ∈ ts, t.after.length ≤ 1048576) := fun t ht => by have := (HK.2.2.2 t ht).2.1; omega
  have hn : n ≤ 1048576 := by have h1 := HK.2.2.1; have h2 := HN.out; omega
  have HSm : Hid (∀ t ∈ ts, Sm t) := fun t ht => by
    obtain ⟨y1, y2, y3⟩ := HK.2.2.2 t ht
    exact ⟨by omega, by omega, fun s hs => by have := y3 s hs; omega⟩
  have HA : Hid (∀ (go : Option Addr) W, Below w.heap.size w W → Tasks W (.slice go n n) ts → Calls Tryz.prog 32 #[.agg #[.string nm, .string cr, .int .i64 fr, .int .i64 up, .bool cu, .slice go n n], .int .i64 i] W fun x w' => ∃ v, x = .returned v ∧ ownsR w' W.heap.size 3 v R ∧ Below W.heap.size W w') := fun go W hb ht => by
    rw [← HQ.out]; exact implDown_any go n n nm cr fr up cu ts i W ⟨ht, Nat.le_refl _, Nat.le_succ_of_le hn, HSm.out, by have := HK.2.1; show cr.size ≤ 1048576; omega, by have := HK.1; show nm.size ≤ 9223372036854775807; omega⟩ (HG.out W hb)
  have HS : Hid (∀ (go : Option Addr) W, Below w.heap.size w W → Tasks W (.slice go n n) ts → Calls Tryz.prog 45 #[.agg #[.string nm, .string cr, .int .i64 fr, .int .i64 up, .bool cu, .slice go n n], .int .i64 i] W fun x w' => ∃ v, x = .returned v ∧ ownsR w' W.heap.size 3 v R ∧ Below W.heap.size W w') := fun go W hb ht => by
    rw [← HQ.out]; exact specDown_any go n n nm cr fr up cu ts i W ⟨ht, by show ts.length ≤ 1048577; rw [HN.out]; exact Nat.le_succ_of_le hn, fun t ht => ⟨(HSm.out t ht).few, (HSm.out t ht).name⟩, by have := HK.2.1; show cr.size ≤ 1048576; omega, by have := HK.1; show nm.size ≤ 9223372036854775807; omega⟩
  clear HK HR3
  have HT : Hid (∀ W, Below w.heap.size w W → Calls Tryz.prog 40 #[.agg #[.string nm, .string cr, .int .i64 fr, .int .i64 up, .bool cu, .slice ao n cap]] W fun e w' => ∃ g, e = .returned (.agg #[.string nm, .string cr, .int .i64 fr, .int .i64 up, .bool cu, .slice (some ⟨g, 0, none⟩) n n]) ∧ TasksO W.heap.size w' (.slice (some ⟨g, 0, none⟩) n n) ts ∧ Below W.heap.size W w') := fun W hb => toD_own ao n cap nm cr fr up cu ts W (HR.out W hb) hn HK1.out
  obtain ⟨rl, HRE⟩ : ∃ rl, Hid (R.length = rl) := ⟨_, rfl⟩
  have hrl : rl ≤ 4 := by rw [← HRE.out]; exact HRL.out
  have c0 := Z0.c0
  have c1 := Z0.c1
  have c2 := Z0.c2
  have c3 := Z0.c3
  have c4 := Z0.c4
  have c5 := Z0.c5
  go_wp2_with fail
  refine (HT.out _ B0).mono ?_
  rintro x w1 ⟨g1, rfl, ht1, hb1⟩
  have Z1 := Z0.on hb1
  have B1 := Below.on B0 hb1
  have HT1 : Hid (Tasks w1 (.slice (some ⟨g1, 0, none⟩) n n) ts) := ht1.tasks
  clear c0 c1 c2 c3 c4 c5 Z0 B0 hb1 ht1
  go_wp2_with fail
  refine (HS.out _ _ B1 HT1.out).mono ?_
  rintro x w2 ⟨sv, rfl, hs2, hb2⟩
  have Z2 := Z1.on hb2
  have B2 := Below.on B1 hb2
  have HSV2 : Hid (ownsR w2 w.heap.size 3 sv R) := hs2.mono B1.size
  obtain ⟨sa, sc, es⟩ := HSV2.out.slice
  subst es
  have HSB : Hid (∀ k, (Value.slice sa R.length sc).ownBlock = some k → k < w2.heap.size) := fun k hk => (own_low HSV2.out hk).2
  rw [HRE.out] at HSV2 HSB
  rw [HRE.out]
  clear Z1 B1 hb2 HT1 HS hs2
  have c0 := Z2.c0
  have c1 := Z2.c1
  have c2 := Z2.c2
  have c3 := Z2.c3
  have c4 := Z2.c4
  have c5 := Z2.c5
  go_wp2_with fail
  refine (HT.out _ B2).mono ?_
  rintro x w3 ⟨g3, rfl, ht3, hb3⟩
  have Z3 := Z2.on hb3
  have B3 := Below.on B2 hb3
  have HSV3 : Hid (ownsR w3 w.heap.size 3 (.slice sa rl sc) R) := HSV2.out.all hb3
  have HO3 : Hid (TasksO w2.heap.size w3 (.slice (some ⟨g3, 0, none⟩) n n) ts) := ht3
  obtain ⟨W4, hW4⟩ : ∃ W4, w3.alloc (.cells #[.string nm, .string cr, .int .i64 fr, .int .i64 up, .bool cu, .slice (some ⟨g3, 0, none⟩) n n] 26) = W4 := ⟨_, rfl⟩
  have BB4 : Below w3.heap.size w3 W4 := by rw [← hW4]; exact ba (Below.refl _ _) _
  have B4 := Below.on B3 BB4
  have HT4 : Hid (Tasks W4 (.slice (some ⟨g3, 0, none⟩) n n) ts) := ht3.tasks.below BB4
  have Z4 := Z3.on BB4
  have X4 : P6 W4 w3.heap.size nm cr fr up cu (.slice (some ⟨g3, 0, none⟩) n n) := by rw [← hW4]; exact P6.new w3 nm cr fr up cu (.slice (some ⟨g3, 0, none⟩) n n)
  have HSV4 : Hid (ownsR W4 w.heap.size 3 (.slice sa rl sc) R) := HSV3.out.all BB4
  have h23 : w2.heap.size ≤ w3.heap.size := hb3.size
  have hzl : w.heap.size < w2.heap.size := Z2.lt
  clear c0 c1 c2 c3 c4 c5 Z2 Z3 B2 B3 hb3 ht3 HSV2 HSV3
  have c0 := X4.c0
  have c1 := X4.c1
  have c2 := X4.c2
  have c3 := X4.c3
  have c4 := X4.c4
  have c5 := X4.c5
  go_wp2_with fail
  refine (HA.out _ _ B4 HT4.out).mono ?_
  rintro x w5 ⟨gv, rfl, hg5, hb5⟩
  have Z5 := Z4.on hb5
  have X5 := X4.on hb5
  have B5' := Below.on B4 hb5
  have HSV5 : Hid (ownsR w5 w.heap.size 3 (.slice sa rl sc) R) := HSV4.out.all hb5
  have hX4 : w3.heap.size < W4.heap.size := X4.lt
  have HGB : Hid (∀ k, gv.ownBlock = some k → w3.heap.size ≤ k) := fun k hk => by have := (own_low hg5 hk).1; omega
  have HGV5 : Hid (ownsR w5 w.heap.size 3 gv R) := hg5.mono B4.size
  have BB5 : Below w3.heap.size w3 w5 := Below.on BB4 hb5
  obtain ⟨ga, gc, eg⟩ := HGV5.out.slice
  subst eg
  rw [HRE.out] at HGV5 HGB
  rw [HRE.out]
  clear c0 c1 c2 c3 c4 c5 Z4 X4 B4 hb5 HT4 hg5 BB4 hW4 HSV4
  have HE5 := eqIntS_any ga sa rl gc sc R w5 HGV5.out.reads HSV5.out.reads (by omega)
  go_wp2_with fail
  refine HE5.mono ?_
  rintro x w6 ⟨rfl, hw6⟩
  have Z6 := Z5.on hw6
  have X6 := X5.on hw6
  have B6' := Below.on B5' hw6
  have HSV6 : Hid (ownsR w6 w.heap.size 3 (.slice sa rl sc) R) := HSV5.out.all hw6
  have HGV6 : Hid (ownsR w6 w.heap.size 3 (.slice ga rl gc) R) := HGV5.out.all hw6
  have BB6 := Below.on BB5 hw6
  clear Z5 X5 B5' HSV5 HGV5 BB5 hw6 HE5
  have HT6 : Hid (Tasks w6 (.slice (some ⟨g3, 0, none⟩) n n) ts) := HO3.out.tasks.below BB6
  have K0 := Below.cellOf (B := w6.heap.size) (W := w6) (p := ⟨w.heap.size, 0, none⟩) Z6.lt Z6.c0
  have J0 := Below.cellOf (B := w6.heap.size) (W := w6) (p := ⟨w3.heap.size, 0, none⟩) X6.lt X6.c0
  have K1 := Below.cellOf (B := w6.heap.size) (W := w6) (p := ⟨w.heap.size, 1, none⟩) Z6.lt Z6.c1
  have J1 := Below.cellOf (B := w6.heap.size) (W := w6) (p := ⟨w3.heap.size, 1, none⟩) X6.lt X6.c1
  have K2 := Below.cellOf (B := w6.heap.size) (W := w6) (p := ⟨w.heap.size, 2, none⟩) Z6.lt Z6.c2
  have J2 := Below.cellOf (B := w6.heap.size) (W := w6) (p := ⟨w3.heap.size, 2, none⟩) X6.lt X6.c2
  have K3 := Below.cellOf (B := w6.heap.size) (W := w6) (p := ⟨w.heap.size, 3, none⟩) Z6.lt Z6.c3
  have J3 := Below.cellOf (B := w6.heap.size) (W := w6) (p := ⟨w3.heap.size, 3, none⟩) X6.lt X6.c3
  have K4 := Below.cellOf (B := w6.heap.size) (W := w6) (p := ⟨w.heap.size, 4, none⟩) Z6.lt Z6.c4
  have J4 := Below.cellOf (B := w6.heap.size) (W := w6) (p := ⟨w3.heap.size, 4, none⟩) X6.lt X6.c4
  have K5 := Below.cellOf (B := w6.heap.size) (W := w6) (p := ⟨w.heap.size, 5, none⟩) Z6.lt Z6.c5
  have J5 := Below.cellOf (B := w6.heap.size) (W := w6) (p := ⟨w3.heap.size, 5, none⟩) X6.lt X6.c5
  go_wp2_with fail
  go_region_held3 (fun w' => Below w6.heap.size w6 w') ((first | exact (Below.refl _ _).drew | exact hS6 | exact hS7)) ((first | (go_at_call 40; refine (HT.out _ (Below.on B6' (by assumption))).mono ?_; rintro x wq ⟨g6, rfl, ht6, hb6⟩; have hS6 := keep_on (B := w6.heap.size) (W := w6) hb6 (by assumption) (Nat.le_refl _)) | (go_at_call 36; refine (eqD_any _ _ _ _ _ _ _ _ _ _ ts _ (HT6.out.below hS6) ht6.tasks (Nat.le_succ_of_le hn) (fun t ht => Nat.le_succ_of_le (HK1.out t ht))).mono ?_; rintro x w7 ⟨rfl, hb7⟩; have hS7 := keep_on (B := w6.heap.size) (W := w6) hb7 hS6 (Nat.le_refl _))))
  have B7 := Below.on B6' hS7
  have Z7 := Z6.on hS7
  have X7 := X6.on hS7
  have HSV7 : Hid (ownsR w7 w.heap.size 3 (.slice sa rl sc) R) := HSV6.out.all hS7
  have HGV7 : Hid (ownsR w7 w.heap.size 3 (.slice ga rl gc) R) := HGV6.out.all hS7
  have HM : Hid (Calls Tryz.prog 37 #[.agg #[.string nm, .string cr, .int .i64 fr, .int .i64 up, .bool cu, .slice (some ⟨g3, 0, none⟩) n n], .int .i64 1] w7 fun e w' => ∃ y : Int, e = .returned (.int .i64 y) ∧ 1 ≤ y ∧ y ≤ 4000000000000000 ∧ Twx w2.heap.size w3.heap.size w7 w') := markD_any nm cr fr up cu HO3.out HN.out hn HK1.out rfl (Below.on BB6 hS7)
  clear ht6 hb6 hb7 hS6 K0 J0 K1 J1 K2 J2 K3 J3 K4 J4 K5 J5 hS7 HT6 HSV6 HGV6 Z6 X6 B6' BB6 HO3
  have c0 := X7.c0
  have c1 := X7.c1
  have c2 := X7.c2
  have c3 := X7.c3
  have c4 := X7.c4
  have c5 := X7.c5
  go_wp2_with fail
  refine HM.out.mono ?_
  rintro x w8 ⟨y, rfl, hy1, hy2, htw⟩
  have Z8 := Z7.twx htw (.inl hzl)
  have HSV8 : Hid (ownsR w8 w.heap.size 3 (.slice sa rl sc) R) := HSV7.out.keep fun k hk => htw.block k (own_low HSV7.out hk).2 (.inl (HSB.out k hk))
  have HGV8 : Hid (ownsR w8 w.heap.size 3 (.slice ga rl gc) R) := HGV7.out.keep fun k hk => htw.block k (own_low HGV7.out hk).2 (.inr (HGB.out k hk))
  have h27 : w2.heap.size ≤ w7.heap.size := Nat.le_of_lt (by have := X7.lt; omega)
  have B8 : Below w.heap.size w w8 := B7.trans ((htw.below h27).mono (by omega))
  have hy0 : decide (y < 0) = false := decide_eq_false (by omega)
  clear c0 c1 c2 c3 c4 c5 Z7 X7 B7 htw HSV7 HGV7 HM
  have HE8 := eqIntS_any ga sa rl gc sc R w8 HGV8.out.reads HSV8.out.reads (by omega)
  go_wp2_with fail
  refine HE8.mono ?_
  rintro x w9 ⟨rfl, hw9⟩
  have Z9 := Z8.on hw9
  have B9 := Below.on B8 hw9
  have HSV9 : Hid (ownsR w9 w.heap.size 3 (.slice sa rl sc) R) := HSV8.out.all hw9
  have HGV9 : Hid (ownsR w9 w.heap.size 3 (.slice ga rl gc) R) := HGV8.out.all hw9
  clear Z8 B8 HSV8 HGV8 hw9 HE8
  have HMI : Hid (Calls Tryz.prog 42 #[.slice ga rl gc, .int .i64 1] w9 fun e w' => e = .returned (.int .i64 (1 + (rl : Int))) ∧ ownsR w' w.heap.size 3 (.slice ga rl gc) (marksR id 1 1 rl) ∧ w9.grownBy w' (Value.slice ga rl gc).ownBlock) := by
    have := markInt_any HGV9.out (by have := HRL.out; omega)
    rw [HRE.out] at this
    exact this
  go_wp2_with fail
  refine HMI.out.mono ?_
  rintro x w10 ⟨rfl, ho10, hg10⟩
  have HGM : Hid (ownsR w10 w.heap.size 3 (.slice ga rl gc) (marksR id 1 1 rl)) := ho10
  have HSV10 : Hid (ownsR w10 w.heap.size 3 (.slice sa rl sc) R) := HSV9.out.keep fun k hk => hg10.block k (own_low HSV9.out hk).2 fun e => by
    have h1 := HSB.out k hk
    have h2 := HGB.out k e.symm
    omega
  have Z10 := Z9.grown hg10 (fun e => not_own HGV9.out Z9 (by decide) e.symm)
  have B10 : Below w.heap.size w w10 := B9.grown hg10 B9.size fun k hk => (own_low HGV9.out hk).1
  clear ho10 hg10 HMI HGV9 HSV9 Z9 B9
  have HH10 := heldInt_any HGM.out.reads (by omega)
  go_wp2_with fail
  refine HH10.mono ?_
  rintro x w11 ⟨rfl, hw11⟩
  have hq11 := hw11.symm
  subst hq11
  have hq0 : decide ((1 : Int) + (rl : Int) < 0) = false := decide_eq_false (by omega)
  have c0 := Z10.c0
  have c1 := Z10.c1
  have c2 := Z10.c2
  have c3 := Z10.c3
  have c4 := Z10.c4
  have c5 := Z10.c5
  go_wp2_with fail
  refine (HT.out _ B10).mono ?_
  rintro x w12 ⟨g12, rfl, ht12, hb12⟩
  have B12 := Below.on B10 hb12
  have HT12 : Hid (Tasks w12 (.slice (some ⟨g12, 0, none⟩) n n) ts) := ht12.tasks
  have HSV12 : Hid (ownsR w12 w.heap.size 3 (.slice sa rl sc) R) := HSV10.out.all hb12
  have HGM12 : Hid (ownsR w12 w.heap.size 3 (.slice ga rl gc) (marksR id 1 1 rl)) := HGM.out.all hb12
  clear c0 c1 c2 c3 c4 c5 Z10 B10 hb12 ht12 HSV10 HGM
  go_wp2_with fail
  refine (HA.out _ _ B12 HT12.out).mono ?_
  rintro x w13 ⟨hv, rfl, hh13, hb13⟩
  have B13 := Below.on B12 hb13
  have HHV : Hid (ownsR w13 w.heap.size 3 hv R) := hh13.mono B12.size
  have HSV13 : Hid (ownsR w13 w.heap.size 3 (.slice sa rl sc) R) := HSV12.out.all hb13
  have HGM13 : Hid (ownsR w13 w.heap.size 3 (.slice ga rl gc) (marksR id 1 1 rl)) := HGM12.out.all hb13
  obtain ⟨ha, hc, eh⟩ := HHV.out.slice
  subst eh
  rw [HRE.out] at HHV
  rw [HRE.out]
  clear hh13 hb13 B12 HT12 HSV12 HGM12 HA
  have HE13 := eqIntS_any ha sa rl hc sc R w13 HHV.out.reads HSV13.out.reads (by omega)
  go_wp2_with fail
  refine HE13.mono ?_
  rintro x w14 ⟨rfl, hw14⟩
  have B14 := Below.on B13 hw14
  have HGM14 : Hid (ownsR w14 w.heap.size 3 (.slice ga rl gc) (marksR id 1 1 rl)) := HGM13.out.all hw14
  clear B13 HGM13 hw14 HE13
  have HH13 := heldInt_any HGM14.out.reads (by omega)
  go_wp2_with fail
  refine HH13.mono ?_
  rintro x w15 ⟨rfl, hw15⟩
  have hq15 := hw15.symm
  subst hq15
  go_wp2
  go_ret
  exact ⟨rfl, B14⟩
end Go.Proofs.YteefacjjdalncaaGreatDoor

