/-
  slices.Contains on rows of numbers, as the library has it: the walks. The places behind a place, as the program tells them: the walks. The places behind a place, as the specification tells them: plain facts and the walk.
-/
import Derived.Test.YtjmclcjhimcehaaGreatDoorG3
import Derived.Test.YtjmclcjhimcehaaGreatDoorG25
namespace Go.Proofs.YtjmclcjhimcehaaGreatDoor
open Go Go.RowKit

set_option maxHeartbeats 1000000 in
theorem index_try (ao : Option Addr) (n c : Nat) (m : List Int) (x : Int) (w : World) (hr : Reads w (.slice ao n c) m) (hn : n ≤ 1048577) :
    Calls Tryz.prog 151 #[.slice ao n c, .int .i64 x] w fun e w' => ∃ r : Int, e = .returned (.int .i64 r) ∧ decide (0 ≤ r) = decide (x ∈ m) ∧ w' = w := by
  have HR : Hid (Reads w (.slice ao n c) m) := hr
  have HN : Hid (n = m.length) := hr.len
  clear hr
  go_enter Tryz.func151, Tryz.ntmps151
  go_wp2
  go_loopw [8] (fun i wr => ∃ k : Nat, k ≤ n ∧ i = .int .i64 k ∧ Hid (x ∈ m ↔ x ∈ m.drop k) ∧ wr = w) (fun i _ => n - (intOf i).toNat)
  case atStart => exact ⟨0, Nat.zero_le _, rfl, (by show x ∈ m ↔ x ∈ m.drop 0; rw [List.drop_zero]), rfl⟩
  case round =>
    obtain ⟨k, hk, rfl, HE, rfl⟩ := hrel
    by_cases hlt : k < n
    · obtain ⟨y, hy⟩ : ∃ y, m[k]? = some y := ⟨_, List.getElem?_eq_getElem (by rw [← HN.out]; exact hlt)⟩
      have HM : Hid (x ∈ m ↔ x = y ∨ x ∈ m.drop (k + 1)) := HE.out.trans (mem_drop_at hy)
      obtain ⟨b, o, rfl, hb, c0⟩ := int_at HR.out hy
      clear hy HE
      by_cases hyx : x = y
      · have HF : Hid (decide (x ∈ m) = true) := decide_eq_true (HM.out.2 (.inl hyx))
        go_wp2
        go_ret
        exact ⟨_, rfl, by rw [HF.out]; exact decide_eq_true (by omega), rfl⟩
      · have HF : Hid (x ∈ m ↔ x ∈ m.drop (k + 1)) := HM.out.trans ⟨fun h => h.resolve_left fun e => hyx e, .inr⟩
        go_wp2
        go_roundw
        case rel => exact ⟨k + 1, by omega, by go_num, HF, trivial⟩
        case measure => simp [intOf]; omega
    · have HF : Hid (decide (x ∈ m) = false) := decide_eq_false fun h => not_mem_end (by rw [← HN.out]; omega) (HE.out.1 h)
      go_wp2
      go_ret
      exact ⟨_, rfl, by rw [HF.out]; rfl, rfl⟩

theorem contains_try (ao : Option Addr) (n c : Nat) (m : List Int) (x : Int) (w : World) (hr : Reads w (.slice ao n c) m) (hn : n ≤ 1048577) :
    Calls Tryz.prog 114 #[.slice ao n c, .int .i64 x] w fun e w' => e = .returned (.bool (decide (x ∈ m))) ∧ w' = w := by
  have HR : Hid (Reads w (.slice ao n c) m) := hr
  clear hr
  go_enter Tryz.func114, Tryz.ntmps114
  go_wp2_with (go_at_call 151; refine (index_try _ _ _ m _ _ HR.out hn).mono ?_; rintro e w1 ⟨r, rfl, hd, hw⟩; have hw2 := hw.symm; subst hw2)
  go_ret
  exact ⟨by rw [← hd]; rfl, rfl⟩

end Go.Proofs.YtjmclcjhimcehaaGreatDoor

namespace Go.Proofs.YtjmclcjhimcehaaGreatDoor
open Go Go.RowKit
set_option linter.unusedVariables false

set_option maxRecDepth 10000 in
set_option maxHeartbeats 1000000 in
theorem leads_any (u i : Int) (bi bd : Nat) (ao : Option Addr) (n c : Nat) (D : List Int) (w : World) (ci : w.cell? ⟨bi, 0, none⟩ = some (.int .i64 i)) (cd : w.cell? ⟨bd, 0, none⟩ = some (.slice ao n c)) (hr : Reads w (.slice ao n c) D) (hn : n ≤ 1048577) :
    Calls Tryz.prog 113 #[.int .i64 u, .pointer (some ⟨bi, 0, none⟩), .pointer (some ⟨bd, 0, none⟩)] w fun e w' => e = .returned (.bool (leadB i D u)) ∧ w' = w := by
  have HC := contains_try ao n c D u w hr hn
  have HL : Hid (leadB i D u = (decide (u = i) || memI D u)) := rfl
  have HM : Hid (decide (u ∈ D) = memI D u) := by
    show decide (u ∈ D) = memI D u
    by_cases h : u ∈ D
    · rw [decide_eq_true h, memI_iff.2 h]
    · rw [decide_eq_false h]
      cases hq : memI D u
      · rfl
      · exact absurd (memI_iff.1 hq) h
  rw [HM.out] at HC
  rw [HL.out]
  clear hr HM HL
  by_cases hq : u = i
  · rw [decide_eq_true hq]
    subst hq
    go_enter Tryz.func113, Tryz.ntmps113
    go_wp2
    go_ret
    exact ⟨rfl, rfl⟩
  · rw [decide_eq_false hq]
    have hq2 : (u == i) = false := beq_eq_false_iff_ne.2 hq
    go_enter Tryz.func113, Tryz.ntmps113
    go_wp2_with fail
    refine HC.mono ?_
    rintro e w1 ⟨rfl, hw⟩
    have hw2 := hw.symm
    subst hw2
    go_wp2
    go_ret
    exact ⟨rfl, rfl⟩
theorem foldD_at {α β : Type} {f : β → α → β} {l : List α} {k : Nat} {x : α} {b : β} (h : l[k]? = some x) : (l.drop k).foldl f b = (l.drop (k + 1)).foldl f (f b x) := by
  obtain ⟨hk, rfl⟩ := List.getElem?_eq_some_iff.1 h
  rw [List.drop_eq_getElem_cons hk]
  rfl
theorem foldD_end {α β : Type} {f : β → α → β} {l : List α} {k : Nat} {b : β} (h : l.length ≤ k) : (l.drop k).foldl f b = b := by
  rw [List.drop_of_length_le h]
  rfl
theorem any_at {p : Int → Bool} {l : List Int} {k : Nat} {x : Int} (h : l[k]? = some x) : (l.drop k).any p = (p x || (l.drop (k + 1)).any p) := by
  obtain ⟨hk, rfl⟩ := List.getElem?_eq_some_iff.1 h
  rw [List.drop_eq_getElem_cons hk]
  rfl
theorem any_end {p : Int → Bool} {l : List Int} {k : Nat} (h : k = l.length) : (l.drop k).any p = false := by subst h; rw [List.drop_length]; rfl
set_option maxRecDepth 10000 in
set_option maxHeartbeats 1000000 in
theorem idxLead_any (uo : Option Addr) (un uc : Nat) (U : List Int) (i : Int) (bi bd : Nat) (ao : Option Addr) (n c : Nat) (D : List Int) (w : World) (ci : w.cell? ⟨bi, 0, none⟩ = some (.int .i64 i)) (cd : w.cell? ⟨bd, 0, none⟩ = some (.slice ao n c)) (hr : Reads w (.slice ao n c) D) (hn : n ≤ 1048577) (hu : Reads w (.slice uo un uc) U) (hun : un ≤ 1048577) :
    Calls Tryz.prog 107 #[.slice uo un uc, .func (.func 113) #[] #[.pointer (some ⟨bi, 0, none⟩), .pointer (some ⟨bd, 0, none⟩)]] w fun e w' => ∃ r : Int, e = .returned (.int .i64 r) ∧ decide (0 ≤ r) = U.any (leadB i D) ∧ w' = w := by
  have HC : Hid (∀ x, Calls Tryz.prog 113 #[.int .i64 x, .pointer (some ⟨bi, 0, none⟩), .pointer (some ⟨bd, 0, none⟩)] w fun e w' => e = .returned (.bool (leadB i D x)) ∧ w' = w) := fun x => leads_any x i bi bd ao n c D w ci cd hr hn
  have HN : Hid (un = U.length) := hu.len
  have HR : Hid (Reads w (.slice uo un uc) U) := hu
  clear ci cd hr hn hu
  go_enter Tryz.func107, Tryz.ntmps107
  go_wp2
  go_loopw [8] (fun iv wr => ∃ k : Nat, k ≤ un ∧ iv = .int .i64 k ∧ Hid (U.any (leadB i D) = (U.drop k).any (leadB i D)) ∧ wr = w) (fun iv _ => un - (intOf iv).toNat)
  case atStart => exact ⟨0, Nat.zero_le _, rfl, (by show _ = (U.drop 0).any _; rw [List.drop_zero]), rfl⟩
  case round =>
    obtain ⟨k, hk, rfl, HE, hw⟩ := hrel
    have hw2 := hw.symm
    subst hw2
    by_cases hlt : k < un
    · obtain ⟨t, ht⟩ : ∃ t, U[k]? = some t := ⟨_, List.getElem?_eq_getElem (by rw [← HN.out]; exact hlt)⟩
      obtain ⟨b', o, eb, hb, c0⟩ := int_at HR.out ht
      subst eb
      obtain ⟨q, HQ⟩ : ∃ q, Hid (leadB i D t = q) := ⟨_, rfl⟩
      have HC2 : Hid (Calls Tryz.prog 113 #[.int .i64 t, .pointer (some ⟨bi, 0, none⟩), .pointer (some ⟨bd, 0, none⟩)] w fun e w' => e = .returned (.bool q) ∧ w' = w) := by
        have := HC.out t
        rwa [HQ.out] at this
      have HA : Hid (U.any (leadB i D) = (q || (U.drop (k + 1)).any (leadB i D))) := HE.out.trans (by rw [any_at ht, HQ.out])
      clear ht HC HQ HE
      cases q with
      | true =>
        have HF : Hid (true = U.any (leadB i D)) := HA.out.symm
        go_wp2_with (go_at_call 113; refine HC2.out.mono ?_; rintro e w1 ⟨rfl, hw⟩; have hw2 := hw.symm; subst hw2)
        go_ret
        exact ⟨_, rfl, (decide_eq_true (by omega)).trans HF.out, rfl⟩
      | false =>
        have HF : Hid (U.any (leadB i D) = (U.drop (k + 1)).any (leadB i D)) := HA.out
        go_wp2_with (go_at_call 113; refine HC2.out.mono ?_; rintro e w1 ⟨rfl, hw⟩; have hw2 := hw.symm; subst hw2)
        go_roundw
        case rel => exact ⟨k + 1, by omega, by go_num, HF, trivial⟩
        case measure => simp [intOf]; omega
    · have HF : Hid (false = U.any (leadB i D)) := (HE.out.trans (any_end (by rw [← HN.out]; omega))).symm
      go_wp2
      go_ret
      exact ⟨_, rfl, (decide_eq_false (by omega)).trans HF.out, rfl⟩
theorem contLead_any (uo : Option Addr) (un uc : Nat) (U : List Int) (i : Int) (bi bd : Nat) (ao : Option Addr) (n c : Nat) (D : List Int) (w : World) (ci : w.cell? ⟨bi, 0, none⟩ = some (.int .i64 i)) (cd : w.cell? ⟨bd, 0, none⟩ = some (.slice ao n c)) (hr : Reads w (.slice ao n c) D) (hn : n ≤ 1048577) (hu : Reads w (.slice uo un uc) U) (hun : un ≤ 1048577) :
    Calls Tryz.prog 53 #[.slice uo un uc, .func (.func 113) #[] #[.pointer (some ⟨bi, 0, none⟩), .pointer (some ⟨bd, 0, none⟩)]] w fun e w' => e = .returned (.bool (U.any (leadB i D))) ∧ w' = w := by
  have HI := idxLead_any uo un uc U i bi bd ao n c D w ci cd hr hn hu hun
  clear ci cd hr hn hu
  go_enter Tryz.func53, Tryz.ntmps53
  go_wp2_with (go_at_call 107; refine HI.mono ?_; rintro e w1 ⟨r, rfl, hd, hw⟩; have hw2 := hw.symm; subst hw2)
  go_ret
  exact ⟨by rw [← hd]; rfl, rfl⟩
/-- What lies there while places are gathered. -/
structure DnS (w : World) (nm cr : ByteArray) (fr up : Int) (cu : Bool) (tv : Value) (i : Int) (bi bd : Nat) (ov : Value) (O : List Int) (W : World) (dv : Value) (D : List Int) : Prop where
  bel : Below w.heap.size w W
  dag : P6 W w.heap.size nm cr fr up cu tv
  ib : W.heap[bi]? = some (.cells #[.int .i64 i] 3)
  box : W.heap[bd]? = some (.cells #[dv] 90)
  row : ownsR W w.heap.size 3 dv D
  ord : ownsR W w.heap.size 3 ov O
  apart : ∀ k, dv.ownBlock = some k → ov.ownBlock ≠ some k
  far : dv.ownBlock ≠ some bi
  some : ∃ k, dv.ownBlock = .some k
  lob : w.heap.size ≤ bd
section
variable {w W W' : World} {nm cr : ByteArray} {fr up i : Int} {cu : Bool} {tv ov dv : Value} {bi bd : Nat} {O D : List Int}
theorem blk_lt {W : World} {b : Nat} {o : Obj} (h : W.heap[b]? = some o) : b < W.heap.size := (Array.getElem?_eq_some_iff.1 h).1
theorem DnS.onW (h : DnS w nm cr fr up cu tv i bi bd ov O W dv D) (hb : Below W.heap.size W W') : DnS w nm cr fr up cu tv i bi bd ov O W' dv D :=
  ⟨Below.on h.bel hb, h.dag.on hb, (hb.block _ (blk_lt h.ib)).trans h.ib, (hb.block _ (blk_lt h.box)).trans h.box, h.row.all hb, h.ord.all hb, h.apart, h.far, h.some, h.lob⟩
theorem DnS.ci (h : DnS w nm cr fr up cu tv i bi bd ov O W dv D) : W.cell? ⟨bi, 0, none⟩ = .some (.int .i64 i) := by simp [World.cell?, h.ib]
theorem DnS.cd (h : DnS w nm cr fr up cu tv i bi bd ov O W dv D) : W.cell? ⟨bd, 0, none⟩ = .some dv := by simp [World.cell?, h.box]
theorem DnS.fd (h : DnS w nm cr fr up cu tv i bi bd ov O W dv D) : W.frozen? ⟨bd, 0, none⟩ = false := by simp [World.frozen?, h.box]
theorem DnS.more (h : DnS w nm cr fr up cu tv i bi bd ov O W dv D) {dv' : Value} {D' : List Int} (ho : ownsR W' w.heap.size 3 dv' D') (hg : W.grownBy W' dv.ownBlock) (hl : dv'.ownBlock = dv.ownBlock ∨ dv'.ownBlock = .some W.heap.size) :
    W'.cell? ⟨bd, 0, none⟩ = .some dv ∧ W'.frozen? ⟨bd, 0, none⟩ = false ∧ DnS w nm cr fr up cu tv i bi bd ov O (W'.setCell ⟨bd, 0, none⟩ dv') dv' D' := by
  have hbk : ∀ k, k < W.heap.size → dv.ownBlock ≠ .some k → W'.heap[k]? = W.heap[k]? := fun k hk h2 => hg.block k hk (fun e => h2 e.symm)
  have hbx : W'.heap[bd]? = .some (.cells #[dv] 90) := (hbk bd (blk_lt h.box) (not_own h.row h.box (by decide))).trans h.box
  have hst : ∀ k, k ≠ bd → (W'.setCell ⟨bd, 0, none⟩ dv').heap[k]? = W'.heap[k]? := fun k hk => heap_setCell_other W' ⟨bd, 0, none⟩ k _ hk
  have hbel : Below w.heap.size w W' := h.bel.grown hg h.bel.size fun k hk => (own_low h.row hk).1
  have hdv : dv'.ownBlock ≠ .some bd := not_own ho hbx (by decide)
  have hid : bi ≠ bd := not_same h.ib h.box (by decide)
  have hdg : w.heap.size ≠ bd := not_same h.dag h.box (by decide)
  refine ⟨by simp [World.cell?, hbx], by simp [World.frozen?, hbx], ⟨hbel.setCell (p := ⟨bd, 0, none⟩) h.lob _, ?_, ?_, ?_, ho.keep fun k hk => hst k fun e => hdv (by rw [hk, e]), (h.ord.keep fun k hk => hbk k (own_low h.ord hk).2 fun e => h.apart k e hk).keep fun k hk => hst k fun e => ?_, fun k hk hf => ?_, fun e => ?_, ?_, h.lob⟩⟩
  · exact (hst _ hdg).trans ((hbk _ h.dag.lt (not_own h.row h.dag (by decide))).trans h.dag)
  · exact (hst _ hid).trans ((hbk _ (blk_lt h.ib) h.far).trans h.ib)
  · simp [World.setCell, Array.getElem?_modify, hbx]
  · exact not_own h.ord h.box (by decide) (by rw [hk, e])
  · rcases hl with e | e
    · exact h.apart k (e ▸ hk) hf
    · have h1 := (own_low h.ord hf).2
      rw [e] at hk
      cases hk
      omega
  · rcases hl with e2 | e2
    · exact h.far (e2 ▸ e)
    · have h1 := blk_lt h.ib
      rw [e2] at e
      cases e
      omega
  · rcases hl with e | e
    · rw [e]; exact h.some
    · exact ⟨_, e⟩
end
/-- The places behind a place of a plan. -/
def dnD (d : Dg) (i : Int) : List Int := if dagB d = true then downC d.tasks i else []
theorem dnD_len (d : Dg) (i : Int) : (dnD d i).length ≤ 4 := by
  unfold dnD
  by_cases hq : dagB d = true
  · rw [if_pos hq]; exact Nat.le_trans (ascL_len _ _) (rg_of hq).few
  · rw [if_neg hq]; exact Nat.zero_le _
theorem dnD_sort (d : Dg) (i : Int) : sortI (dnL d.tasks i (ordC d)) = dnD d i := by
  unfold dnD ordC
  by_cases hq : dagB d = true
  · rw [if_pos hq, if_pos hq]; exact down_sort (rg_of hq) i
  · rw [if_neg hq, if_neg hq]; exact List.eq_nil_of_length_eq_zero ((sortI_perm []).length_eq)
set_option maxRecDepth 10000 in
set_option maxHeartbeats 4000000 in
theorem implDown_any (ao : Option Addr) (n cap : Nat) (nm cr : ByteArray) (fr up : Int) (cu : Bool) (ts : List Ta) (i : Int) (w : World) (hd : DagI w ao n cap ⟨nm, cr, fr, up, cu, ts⟩) (hg : Gl w) :
    Calls Tryz.prog 67 #[.agg #[.string nm, .string cr, .int .i64 fr, .int .i64 up, .bool cu, .slice ao n cap], .int .i64 i] w fun e w' => ∃ v, e = .returned v ∧ ownsR w' w.heap.size 3 v (dnD ⟨nm, cr, fr, up, cu, ts⟩ i) ∧ Below w.heap.size w w' := by
  obtain ⟨O, HOO⟩ : ∃ O, Hid (ordC ⟨nm, cr, fr, up, cu, ts⟩ = O) := ⟨_, rfl⟩
  have HRS : Hid (sortI (dnL ts i O) = dnD ⟨nm, cr, fr, up, cu, ts⟩ i) := by rw [← HOO.out]; exact dnD_sort ⟨nm, cr, fr, up, cu, ts⟩ i
  have HRD : Hid (∀ W, Below w.heap.size w W → Calls Tryz.prog 111 #[.agg #[.string nm, .string cr, .int .i64 fr, .int .i64 up, .bool cu, .slice ao n cap]] W fun e w' => ∃ v, e = .returned v ∧ ownsR w' W.heap.size 3 v O ∧ Below W.heap.size W w') := fun W hb => by
    have := implOrder_any ao n cap nm cr fr up cu ts W (hd.below hb) (hg.up hb)
    rw [HOO.out] at this
    exact this
  have hnn : n ≤ 1048577 := hd.few
  have HRG : Hid (∀ x ∈ O, Rg4 ts ∧ O = orderL ts) := fun x hx => by
    rw [← HOO.out] at hx ⊢
    unfold ordC at hx ⊢
    by_cases hq : dagB ⟨nm, cr, fr, up, cu, ts⟩ = true
    · rw [if_pos hq]; exact ⟨rg_of hq, rfl⟩
    · rw [if_neg hq] at hx; cases hx
  have HPL : Hid (∀ x ∈ O, ∃ (j : Nat) (t : Ta), x = (j : Int) ∧ ts[j]? = some t) := fun x hx => by
    obtain ⟨h1, h2⟩ := HRG.out x hx
    rw [h2] at hx
    exact (order_ol h1).pl x hx
  have HUP : Hid (∀ (j : Nat) (t : Ta) W, ts[j]? = some t → (j : Int) ∈ O → Below w.heap.size w W → Calls Tryz.prog 54 #[.agg #[.string nm, .string cr, .int .i64 fr, .int .i64 up, .bool cu, .slice ao n cap], .int .i64 j] W fun e w' => ∃ v, e = .returned v ∧ ownsR w' W.heap.size 3 v (upsA ts (j : Int)) ∧ Below W.heap.size W w') := fun j t W ht hm hb => by
    have hrg := (HRG.out _ hm).1
    have h2 := upsIn_any ao n cap nm cr fr up cu ts j t W (hd.tasks.below hb) hnn ht (hd.small t (List.mem_of_getElem? ht)).few
    rw [ups_sort hrg (List.mem_of_getElem? ht)] at h2
    unfold upsA
    rw [af_at ht]
    exact h2
  have HOL : Hid (O.length ≤ 4) := by
    show O.length ≤ 4
    by_cases hO : O = []
    · rw [hO]; exact Nat.zero_le _
    · obtain ⟨x, hx⟩ := List.exists_mem_of_ne_nil O hO
      obtain ⟨h1, h2⟩ := HRG.out x hx
      rw [h2, h1.full]
      exact h1.few
  rw [← HRS.out]
  clear hd hg HOO HRS
  go_enter Tryz.func67, Tryz.ntmps67
  obtain ⟨W1, hW1⟩ : ∃ W1, ((w.alloc (.cells #[.string nm, .string cr, .int .i64 fr, .int .i64 up, .bool cu, .slice ao n cap] 36)).alloc (.cells #[.int .i64 i] 3)).alloc (.cells #[] 3) = W1 := ⟨_, rfl⟩
  have HS1 : Hid (W1.heap.size = w.heap.size + 1 + 1 + 1) := by show W1.heap.size = _; rw [← hW1]; simp
  obtain ⟨W2, hW2⟩ : ∃ W2, W1.alloc (.cells #[.slice (some ⟨w.heap.size + 1 + 1, 0, none⟩) 0 0] 90) = W2 := ⟨_, rfl⟩
  have HP : Hid (P6 W2 w.heap.size nm cr fr up cu (.slice ao n cap) ∧ W2.heap[w.heap.size + 1]? = some (.cells #[.int .i64 i] 3) ∧ W2.heap[W1.heap.size]? = some (.cells #[.slice (some ⟨w.heap.size + 1 + 1, 0, none⟩) 0 0] 90) ∧ ownsR W2 w.heap.size 3 (.slice (some ⟨w.heap.size + 1 + 1, 0, none⟩) 0 0) ([] : List Int) ∧ Below w.heap.size w W2) := by
    refine ⟨?_, ?_, ?_, ?_, ?_⟩
    · rw [← hW2, ← hW1]; exact ((P6.new _ _ _ _ _ _ _).on (ba (ba (Below.refl _ _) _) _)).on (ba (Below.refl _ _) _)
    · have h1 : (w.alloc (.cells #[.string nm, .string cr, .int .i64 fr, .int .i64 up, .bool cu, .slice ao n cap] 36)).heap.size = w.heap.size + 1 := by simp
      have h2 : ((w.alloc (.cells #[.string nm, .string cr, .int .i64 fr, .int .i64 up, .bool cu, .slice ao n cap] 36)).alloc (.cells #[.int .i64 i] 3)).heap[w.heap.size + 1]? = some (.cells #[.int .i64 i] 3) := by
        rw [← h1]
        show (Array.push _ _)[_]? = _
        rw [Array.getElem?_push_size]
      have h3 : Below ((w.alloc (.cells #[.string nm, .string cr, .int .i64 fr, .int .i64 up, .bool cu, .slice ao n cap] 36)).alloc (.cells #[.int .i64 i] 3)).heap.size ((w.alloc (.cells #[.string nm, .string cr, .int .i64 fr, .int .i64 up, .bool cu, .slice ao n cap] 36)).alloc (.cells #[.int .i64 i] 3)) W2 := by rw [← hW2, ← hW1]; exact ba (ba (Below.refl _ _) _) _
      exact (h3.block _ (by simp)).trans h2
    · rw [← hW2]
      show (Array.push _ _)[_]? = _
      rw [Array.getElem?_push_size]
    · rw [← hW2, ← hW1]
      have := ints_made ((w.alloc (.cells #[.string nm, .string cr, .int .i64 fr, .int .i64 up, .bool cu, .slice ao n cap] 36)).alloc (.cells #[.int .i64 i] 3)) w.heap.size (by simp; omega)
      have h4 := this.alloc (.cells #[.slice (some ⟨w.heap.size + 1 + 1, 0, none⟩) 0 0] 90)
      simpa using h4
    · rw [← hW2, ← hW1]; exact ba (ba (ba (ba (Below.refl _ _) _) _) _) _
  have B2 := HP.out.2.2.2.2
  have c0 := HP.out.1.c0
  have c1 := HP.out.1.c1
  have c2 := HP.out.1.c2
  have c3 := HP.out.1.c3
  have c4 := HP.out.1.c4
  have c5 := HP.out.1.c5
  go_wp2_with fail
  refine (HRD.out _ B2).mono ?_
  rintro e w3 ⟨ov, rfl, ho3, hb3⟩
  have HS3 : Hid (DnS w nm cr fr up cu (.slice ao n cap) i (w.heap.size + 1) W1.heap.size ov O w3 (.slice (some ⟨w.heap.size + 1 + 1, 0, none⟩) 0 0) []) := by
    obtain ⟨p1, p2, p3, p4, p5⟩ := HP.out
    have hlt := blk_lt p3
    have hs1 := HS1.out
    refine ⟨Below.on B2 hb3, p1.on hb3, (hb3.block _ (blk_lt p2)).trans p2, (hb3.block _ (blk_lt p3)).trans p3, p4.all hb3, ho3.mono B2.size, fun k hk hf => ?_, fun e => ?_, ⟨_, rfl⟩, by omega⟩
    · have h5 := (own_low ho3 hf).1
      have e5 : w.heap.size + 1 + 1 = k := Option.some.inj hk
      omega
    · have e2 : w.heap.size + 1 + 1 = w.heap.size + 1 := Option.some.inj e
      omega
  clear ho3 hb3 c0 c1 c2 c3 c4 c5 HP B2 hW1 hW2
  obtain ⟨oa, oc, eo⟩ := HS3.out.ord.slice
  subst eo
  obtain ⟨ol, HOLE⟩ : ∃ ol, Hid (O.length = ol) := ⟨_, rfl⟩
  have hol : ol ≤ 4 := by rw [← HOLE.out]; exact HOL.out
  rw [HOLE.out] at HS3
  rw [HOLE.out]
  generalize hbi : w.heap.size + 1 = bi at *
  generalize hbd : W1.heap.size = bd at *
  generalize hdv : Value.slice (some ⟨bi + 1, 0, none⟩) 0 0 = dv0 at *
  obtain ⟨ov, HOV⟩ : ∃ ov, Hid (Value.slice oa ol oc = ov) := ⟨_, rfl⟩
  rw [HOV.out] at HS3
  go_wp2
  go_loopw [14] (fun kv wr => ∃ (k : Nat) (dv : Value) (D : List Int), k ≤ ol ∧ kv = .int .i64 k ∧ D.length ≤ k ∧ Hid (dnL ts i O = (O.drop k).foldl (dnS ts i) D) ∧ Hid (DnS w nm cr fr up cu (.slice ao n cap) i bi bd ov O wr dv D)) (fun kv _ => ol - (intOf kv).toNat)
  case atStart => exact ⟨0, dv0, [], Nat.zero_le _, rfl, Nat.le_refl _, (by show dnL ts i O = _; rw [List.drop_zero]; rfl), HS3⟩
  case round =>
    clear HS3
    obtain ⟨k, dv, D, hk, rfl, hD, HE, HS⟩ := hrel
    obtain ⟨da, dc, ed⟩ := HS.out.row.slice
    subst ed
    obtain ⟨dl, HDL⟩ : ∃ dl, Hid (D.length = dl) := ⟨_, rfl⟩
    rw [HDL.out] at HS hD
    by_cases hlt : k < ol
    · obtain ⟨a, ha⟩ : ∃ a, O[k]? = some a := ⟨_, List.getElem?_eq_getElem (by rw [HOLE.out]; exact hlt)⟩
      obtain ⟨j, t, ej, htj⟩ := HPL.out a (List.mem_of_getElem? ha)
      subst ej
      have hmem := List.mem_of_getElem? ha
      have hrg := (HRG.out _ hmem).1
      have hord := HS.out.ord.reads
      rw [← HOV.out] at hord
      obtain ⟨ob, oo, eoa, hob, ca⟩ := int_at hord ha
      subst eoa
      have H1 := HUP.out j t wr htj hmem HS.out.bel
      have HE2 : Hid (dnL ts i O = (O.drop (k + 1)).foldl (dnS ts i) (dnS ts i D (j : Int))) := by show dnL ts i O = _; rw [HE.out, foldD_at ha]
      obtain ⟨U, HUU⟩ : ∃ U, Hid (upsA ts (j : Int) = U) := ⟨_, rfl⟩
      rw [HUU.out] at H1
      have HUL : Hid (U.length ≤ 4) := by
        show U.length ≤ 4
        rw [← HUU.out]
        unfold upsA upsC
        exact Nat.le_trans (ascL_len _ _) hrg.few
      obtain ⟨q, HQ⟩ : ∃ q, Hid (U.any (leadB i D) = q) := ⟨_, rfl⟩
      have HDS : Hid (dnS ts i D (j : Int) = if q = true then D ++ [(j : Int)] else D) := by show dnS _ _ _ _ = _; unfold dnS; rw [HUU.out, HQ.out]
      clear ha htj hrg hmem hord HE
      have c0 := HS.out.dag.c0
      have c1 := HS.out.dag.c1
      have c2 := HS.out.dag.c2
      have c3 := HS.out.dag.c3
      have c4 := HS.out.dag.c4
      have c5 := HS.out.dag.c5
      go_wp2_with fail
      refine H1.mono ?_
      rintro e w4 ⟨uv, rfl, hu4, hb4⟩
      have HS4 : Hid (DnS w nm cr fr up cu (.slice ao n cap) i bi bd ov O w4 (.slice da dl dc) D) := HS.out.onW hb4
      obtain ⟨ua, uc, eu⟩ := hu4.slice
      subst eu
      obtain ⟨ul, HULE⟩ : ∃ ul, Hid (U.length = ul) := ⟨_, rfl⟩
      have hul : ul ≤ 4 := by rw [← HULE.out]; exact HUL.out
      rw [HULE.out] at hu4
      rw [HULE.out]
      have H4 := contLead_any ua ul uc U i bi bd da dl dc D w4 HS4.out.ci HS4.out.cd HS4.out.row.reads (by omega) hu4.reads (by omega)
      rw [HQ.out] at H4
      clear hu4 hb4 HS c0 c1 c2 c3 c4 c5 ca H1
      cases q with
      | false =>
        have HE3 : Hid (dnL ts i O = (O.drop (k + 1)).foldl (dnS ts i) D) := by show dnL ts i O = _; rw [HE2.out, HDS.out]; rfl
        go_wp2_with fail
        refine H4.mono ?_
        rintro e w5 ⟨rfl, hw⟩
        have hw2 := hw.symm
        subst hw2
        go_wp2
        go_roundw
        case rel => exact ⟨k + 1, _, D, by omega, by go_num, by rw [HDL.out]; omega, HE3, HS4⟩
        case measure => simp [intOf]; omega
      | true =>
        have HE3 : Hid (dnL ts i O = (O.drop (k + 1)).foldl (dnS ts i) (D ++ [(j : Int)])) := by show dnL ts i O = _; rw [HE2.out, HDS.out]; rfl
        go_wp2_with fail
        refine H4.mono ?_
        rintro e w5 ⟨rfl, hw⟩
        have hw2 := hw.symm
        subst hw2
        have cd := HS4.out.cd
        have HV : Hid (∀ o, DnS w nm cr fr up cu (.slice ao n cap) i bi bd ov O (w4.alloc o) (.slice da dl dc) D) := fun o => HS4.out.onW (ba (Below.refl _ _) _)
        have hs4 : w.heap.size ≤ w4.heap.size := HS4.out.bel.size
        have hbl : bd < w4.heap.size := blk_lt HS4.out.box
        clear H4
        go_wp2_with (at_builtin; refine append_recW _ w rfl (.tmp 23) (.tmp 25) 90 rfl w.heap.size 3 _ 8 underI info3 rfl _ D rfl (HV.out _).row (HV.out _).bel w4.heap.size 1 (j : Int) rfl (cell_int (by simp [go_sem])) (by rw [HDL.out]; omega) (by decide) (by simp; omega) ?_; intro v6 w6 ho6 hb6 hg6 hl6; obtain ⟨cd6, fd6, hs6⟩ := (HV.out _).more ho6 hg6 hl6; obtain ⟨a6, c6, e6⟩ := ho6.slice; subst e6; have HS6 : Hid (DnS w nm cr fr up cu (.slice ao n cap) i bi bd ov O (w6.setCell ⟨bd, 0, none⟩ (.slice a6 (D ++ [(j : Int)]).length c6)) (.slice a6 (D ++ [(j : Int)]).length c6) (D ++ [(j : Int)])) := hs6; clear hs6 ho6 hb6 hg6 hl6 cd; generalize hD6 : (D ++ [(j : Int)]).length = d6 at *)
        have hd6 : d6 ≤ k + 1 := by rw [← hD6, List.length_append, HDL.out]; show dl + 1 ≤ k + 1; omega
        go_wp2
        go_roundw
        case rel => exact ⟨k + 1, _, D ++ [(j : Int)], by omega, by go_num, by rw [hD6]; exact hd6, HE3, HS6⟩
        case measure => simp [intOf]; omega
    · have HE3 : Hid (dnL ts i O = D) := by show dnL ts i O = D; rw [HE.out, foldD_end (by rw [HOLE.out]; omega)]
      obtain ⟨kk, hkk⟩ := HS.out.some
      obtain ⟨c7, e7, -⟩ := some_at HS.out.row hkk
      injection e7 with e7 e9 e8; clear e9
      subst e7 e8
      have HSO : Hid (Calls Tryz.prog 109 #[.slice (some ⟨kk, 0, none⟩) dl dc] wr fun e w' => e = .returned (.tuple #[]) ∧ ownsR w' w.heap.size 3 (.slice (some ⟨kk, 0, none⟩) dl dc) (sortI D) ∧ Below w.heap.size w w' ∧ w'.cell? ⟨bd, 0, none⟩ = some (.slice (some ⟨kk, 0, none⟩) dl dc)) := by
        refine (sortN_any HS.out.row (by rw [HDL.out]; omega)).mono ?_
        rintro e w' ⟨rfl, h1, h2⟩
        have hne : kk ≠ bd := fun e => not_own HS.out.row HS.out.box (by decide) (by show some kk = _; rw [e])
        refine ⟨rfl, h1, HS.out.bel.grown h2 HS.out.bel.size fun q hq => by cases hq; exact (own_low HS.out.row hkk).1, ?_⟩
        have := (h2.block bd (blk_lt HS.out.box) (fun e => hne (Option.some.inj e).symm)).trans HS.out.box
        simp [World.cell?, this]
      have cd := HS.out.cd
      rw [HE3.out]
      clear HS HE hkk
      go_wp2_with fail
      refine HSO.out.mono ?_
      rintro e w5 ⟨rfl, h5, hb5, c5'⟩
      clear cd
      go_wp2
      go_ret
      exact ⟨_, rfl, by rw [HE3.out]; exact h5, hb5⟩
end Go.Proofs.YtjmclcjhimcehaaGreatDoor

namespace Go.Proofs.YtjmclcjhimcehaaGreatDoor
open Go Go.RowKit
set_option linter.unusedVariables false

/-- What leads there, by flags. -/
def ledB (i : Int) (F : List Bool) (u : Int) : Bool := decide (u = i) || F.getD u.toNat false
def dsS (ts : List Ta) (i : Int) (F : List Bool) (a : Int) : List Bool := F.set a.toNat (F.getD a.toNat false || (upsA ts a).any (ledB i F))
theorem getB_set {F : List Bool} {i j : Nat} {y : Bool} (hi : i < F.length) : (F.set i y).getD j false = if j = i then y else F.getD j false := by
  rw [List.getD_eq_getElem?_getD, List.getElem?_set, List.getD_eq_getElem?_getD]
  by_cases e : j = i
  · subst e
    rw [if_pos rfl, if_pos hi, if_pos rfl]
    rfl
  · rw [if_neg (fun h => e h.symm), if_neg e]
theorem setB_get {F : List Bool} {k i : Nat} {c : Bool} (hk : k < F.length) : (F.set k c)[i]? = if i = k then some c else F[i]? := by
  rw [List.getElem?_set]
  by_cases e : i = k
  · subst e
    rw [if_pos rfl, if_pos rfl, if_pos hk]
  · rw [if_neg (fun h => e h.symm), if_neg e]
theorem getB_at {l : List Bool} {i : Nat} (h : i < l.length) : l[i]? = some (l.getD i false) := by rw [List.getD_eq_getElem?_getD, List.getElem?_eq_getElem h]; rfl
theorem memI_snoc (D : List Int) (a x : Int) : memI (D ++ [a]) x = (memI D x || decide (a = x)) := by
  unfold memI
  rw [List.any_append]
  simp
theorem any_congr {p q : Int → Bool} : ∀ (l : List Int), (∀ x ∈ l, p x = q x) → l.any p = l.any q
  | [], _ => rfl
  | x :: l, h => by rw [List.any_cons, List.any_cons, h x (List.mem_cons_self ..), any_congr l fun y hy => h y (List.mem_cons_of_mem _ hy)]
/-- Flags and places say the same. -/
theorem ds_go {ts : List Ta} (i : Int) : ∀ (O : List Int) (F : List Bool) (D : List Int), O.Nodup → (∀ x ∈ O, ∃ (j : Nat) (t : Ta), x = (j : Int) ∧ ts[j]? = some t) → F.length = ts.length → (∀ k, k < ts.length → F.getD k false = memI D (k : Int)) → (∀ x ∈ O, x ∉ D) → ∀ k, k < ts.length → (O.foldl (dsS ts i) F).getD k false = memI (O.foldl (dnS ts i) D) (k : Int)
  | [], _, _, _, _, _, he, _, k, hk => he k hk
  | a :: O, F, D, hn, hpl, hl, he, hd, k, hk => by
    rw [List.nodup_cons] at hn
    obtain ⟨j, t, rfl, ht⟩ := hpl a (List.mem_cons_self ..)
    have hjl := (List.getElem?_eq_some_iff.1 ht).1
    have haD := hd _ (List.mem_cons_self ..)
    have hm : memI D (j : Int) = false := by
      cases hq : memI D (j : Int)
      · rfl
      · exact absurd (memI_iff.1 hq) haD
    have hany : (upsA ts (j : Int)).any (ledB i F) = (upsA ts (j : Int)).any (leadB i D) := any_congr _ fun u hu => by
      unfold upsA at hu
      obtain ⟨x, hx, _, rfl⟩ := ascL_mem.1 hu
      unfold ledB leadB
      rw [Int.toNat_natCast, he x hx]
    rw [List.foldl_cons, List.foldl_cons]
    refine ds_go i O _ _ hn.2 (fun x hx => hpl x (List.mem_cons_of_mem _ hx)) (by unfold dsS; rw [List.length_set]; exact hl) (fun q hq => ?_) (fun x hx => ?_) k hk
    · unfold dsS dnS
      rw [Int.toNat_natCast, getB_set (by omega), he j hjl, hm, Bool.false_or, hany]
      by_cases e : q = j
      · subst e
        rw [if_pos rfl]
        cases hq2 : (upsA ts (q : Int)).any (leadB i D) with
        | false => simp only [Bool.false_eq_true, if_false]; exact hm.symm
        | true => simp only [if_true]; rw [memI_snoc, decide_eq_true rfl, Bool.or_true]
      · rw [if_neg e]
        cases hq2 : (upsA ts (j : Int)).any (leadB i D) with
        | false => simp only [Bool.false_eq_true, if_false]; exact he q hq
        | true => simp only [if_true]; rw [memI_snoc, decide_eq_false (by omega), Bool.or_false]; exact he q hq
    · unfold dnS
      split
      · rw [List.mem_append, List.mem_singleton]
        rintro (h | h)
        · exact hd x (List.mem_cons_of_mem _ hx) h
        · exact hn.1 (h ▸ hx)
      · exact hd x (List.mem_cons_of_mem _ hx)
theorem ascL_congr {n : Nat} {p q : Nat → Bool} (h : ∀ k, k < n → p k = q k) : ascL n p = ascL n q := by
  unfold ascL
  rw [List.filter_congr fun k hk => h k (List.mem_range.1 hk)]
theorem ds_down {ts : List Ta} (hr : Rg4 ts) (i : Int) : ascL ts.length (fun k => ((orderL ts).foldl (dsS ts i) (List.replicate ts.length false)).getD k false) = downC ts i := by
  have hol := order_ol hr
  refine ascL_congr fun k hk => ds_go i (orderL ts) _ [] hol.nd hol.pl List.length_replicate (fun q hq => ?_) (fun _ _ h => nomatch h) k hk
  rw [List.getD_eq_getElem?_getD, List.getElem?_replicate]
  split <;> rfl
/-- What lies there while flags are set. -/
structure DsS (w : World) (nm cr : ByteArray) (fr up : Int) (cu : Bool) (tv : Value) (gb n : Nat) (ov : Value) (O : List Int) (ev : Value) (W : World) (F : List Bool) : Prop where
  bel : Below w.heap.size w W
  dag : P6 W w.heap.size nm cr fr up cu tv
  fl : ownsR W w.heap.size 4 (.slice (some ⟨gb, 0, none⟩) n n) F
  ord : ownsR W w.heap.size 3 ov O
  emp : ownsR W w.heap.size 3 ev ([] : List Int)
section
variable {w W W' : World} {nm cr : ByteArray} {fr up : Int} {cu : Bool} {tv ov ev : Value} {gb n : Nat} {O : List Int} {F : List Bool}
theorem DsS.onW (h : DsS w nm cr fr up cu tv gb n ov O ev W F) (hb : Below W.heap.size W W') : DsS w nm cr fr up cu tv gb n ov O ev W' F := ⟨Below.on h.bel hb, h.dag.on hb, h.fl.all hb, h.ord.all hb, h.emp.all hb⟩
theorem own_other {α β : Type} [Rec α] [Rec β] {W : World} {B B' : Nat} {e e' : TypeId} {v v' : Value} {l : List α} {l' : List β} (h : ownsR W B e v l) (h' : ownsR W B' e' v' l') (hne : e ≠ e') {k : Nat} (hk : v.ownBlock = some k) : v'.ownBlock ≠ some k := by
  rcases h.2 with ⟨rfl, _⟩ | ⟨g, cap, cur, rfl, _, hg, _⟩
  · cases hk
  · cases hk
    exact not_own h' hg hne
theorem DsS.put (h : DsS w nm cr fr up cu tv gb n ov O ev W F) {i : Nat} (hi : i < F.length) (b : Bool) : DsS w nm cr fr up cu tv gb n ov O ev (W.setCell ⟨gb, i, none⟩ (.bool b)) (F.set i b) := by
  have hbk : ∀ k, k ≠ gb → (W.setCell ⟨gb, i, none⟩ (.bool b)).heap[k]? = W.heap[k]? := fun k hk => heap_setCell_other W ⟨gb, i, none⟩ k _ hk
  have hlow := own_low h.fl (k := gb) rfl
  refine ⟨h.bel.setCell (p := ⟨gb, i, none⟩) hlow.1 _, (hbk _ (fun e => not_own h.fl h.dag (by decide) (by show some gb = _; rw [e]))).trans h.dag, bool_put h.fl b (getB_at hi), h.ord.keep fun k hk => hbk k ?_, h.emp.keep fun k hk => hbk k ?_⟩
  · exact fun e => own_other h.ord h.fl (by decide) hk (by show some gb = _; rw [e])
  · exact fun e => own_other h.emp h.fl (by decide) hk (by show some gb = _; rw [e])
theorem DsS.row (h : DsS w nm cr fr up cu tv gb n ov O ev W F) {B : Nat} {v : Value} {U : List Int} (hu : ownsR W B 3 v U) (i : Nat) (x : Value) : ownsR (W.setCell ⟨gb, i, none⟩ x) B 3 v U :=
  hu.keep fun k hk => heap_setCell_other W ⟨gb, i, none⟩ k _ fun e => own_other hu h.fl (by decide) hk (by show some gb = _; rw [e])
end
/-- A place that a right plan's task is after. -/
theorem upsA_plD {ts : List Ta} (hr : Rg4 ts) {j : Nat} {t : Ta} (ht : ts[j]? = some t) : ∀ u ∈ upsA ts (j : Int), ∃ x : Nat, u = (x : Int) ∧ x < 4 ∧ x ≠ j := fun u hu => by
  have htm := List.mem_of_getElem? ht
  unfold upsA at hu
  rw [af_at ht] at hu
  obtain ⟨s, hs, e⟩ := (upsC_mem hr.own (hr.lies t htm)).1 hu
  obtain ⟨x, v, hx, e1, ha⟩ := at_find (hr.lies t htm s hs)
  refine ⟨x, by omega, by have := (List.getElem?_eq_some_iff.1 hx).1; have := hr.few; omega, fun exj => ?_⟩
  subst exj
  rw [ht] at hx
  cases hx
  exact hr.self t htm (e1 ▸ hs)
set_option maxRecDepth 10000 in
set_option maxHeartbeats 4000000 in
theorem specDown_yes (ao : Option Addr) (n cap : Nat) (nm cr : ByteArray) (fr up : Int) (cu : Bool) (ts : List Ta) (i : Int) (w : World) (hd : DagAt w (.slice ao n cap) ⟨nm, cr, fr, up, cu, ts⟩) (hq : dagB ⟨nm, cr, fr, up, cu, ts⟩ = true) (hi0 : 0 ≤ i) (hi1 : i < (n : Int)) :
    Calls Tryz.prog 66 #[.agg #[.string nm, .string cr, .int .i64 fr, .int .i64 up, .bool cu, .slice ao n cap], .int .i64 i] w fun e w' => ∃ v, e = .returned v ∧ ownsR w' w.heap.size 3 v (downC ts i) ∧ Below w.heap.size w w' := by
  obtain ⟨i0, hi0', hz0, hz1, hz2⟩ := info_parts infoB
  have hrg := rg_of hq
  have HRG : Hid (Rg4 ts) := hrg
  have HN : Hid (ts.length = n) := by
    obtain ⟨ao', cap', e⟩ := hd.tasks.slice
    injection e with _ e2 _
    exact e2.symm
  have hn4 : n ≤ 4 := by rw [← HN.out]; exact hrg.few
  have HDK : Hid (∀ W, Below w.heap.size w W → Calls Tryz.prog 35 #[.agg #[.string nm, .string cr, .int .i64 fr, .int .i64 up, .bool cu, .slice ao n cap]] W fun e w' => e = .returned (.bool true) ∧ Below W.heap.size W w') := fun W hb => by
    have := dagOk_try _ nm cr fr up cu ts W (hd.below hb)
    rw [hq] at this
    exact this
  have HIN : Hid (∀ W, Calls Tryz.prog 56 #[.int .i64 i, .int .i64 0, .int .i64 ((n : Int) - 1)] W fun e w' => e = .returned (.bool true) ∧ w' = W) := fun W => by
    have := in_any i 0 ((n : Int) - 1) W
    rw [decide_eq_true hi0, decide_eq_true (show i ≤ (n : Int) - 1 by omega)] at this
    exact this
  obtain ⟨O, HOO⟩ : ∃ O, Hid (orderL ts = O) := ⟨_, rfl⟩
  have HOR : Hid (∀ W, Below w.heap.size w W → Calls Tryz.prog 93 #[.slice ao n cap] W fun e w' => ∃ v', e = .returned v' ∧ ownsR w' W.heap.size 3 v' O ∧ Below W.heap.size W w') := fun W hb => by
    rw [← HOO.out]
    exact l12Order_any (hd.tasks.below hb) (Nat.le_trans hrg.few (by decide)) fun t ht => (hd.small t ht).1
  have HPL : Hid (∀ x ∈ O, ∃ (j : Nat) (t : Ta), x = (j : Int) ∧ ts[j]? = some t ∧ j < n) := fun x hx => by
    rw [← HOO.out] at hx
    obtain ⟨j, t, e, hj⟩ := (order_ol hrg).pl x hx
    exact ⟨j, t, e, hj, by rw [← HN.out]; exact (List.getElem?_eq_some_iff.1 hj).1⟩
  have HUP : Hid (∀ (j : Nat) (t : Ta) W, ts[j]? = some t → Below w.heap.size w W → Calls Tryz.prog 112 #[.agg #[.string nm, .string cr, .int .i64 fr, .int .i64 up, .bool cu, .slice ao n cap], .int .i64 j] W fun e w' => ∃ v, e = .returned v ∧ ownsR w' W.heap.size 3 v (upsA ts (j : Int)) ∧ Below W.heap.size W w') := fun j t W ht hb => by
    have htm := List.mem_of_getElem? ht
    have h2 := l13Ups_any ao n cap nm cr fr up cu ts j t W (hd.tasks.below hb) hn4 ht (rg_few hrg htm)
    rw [ups_spec hrg htm] at h2
    unfold upsA
    rw [af_at ht]
    exact h2
  have HUX : Hid (∀ (j : Nat) (t : Ta), ts[j]? = some t → ∀ u ∈ upsA ts (j : Int), ∃ x : Nat, u = (x : Int) ∧ x < n ∧ x ≠ j) := fun j t ht u hu => by
    obtain ⟨x, e, _, hxj⟩ := upsA_plD hrg ht u hu
    refine ⟨x, e, ?_, hxj⟩
    unfold upsA at hu
    obtain ⟨y, hy, _, e2⟩ := ascL_mem.1 hu
    have := HN.out
    omega
  have HOL : Hid (O.length = n) := by show O.length = n; rw [← HOO.out, ← HN.out]; exact hrg.full
  have HRS : Hid (ascL n (fun k => (O.foldl (dsS ts i) (List.replicate n false)).getD k false) = downC ts i) := by rw [← HOO.out, ← HN.out]; exact ds_down hrg i
  rw [← HRS.out]
  clear hd HOO hq hrg HRS
  obtain ⟨W1, hW1⟩ : ∃ W1, (w.alloc (.cells #[.string nm, .string cr, .int .i64 fr, .int .i64 up, .bool cu, .slice ao n cap] 36)).alloc (.cells #[] 3) = W1 := ⟨_, rfl⟩
  have Z1 : P6 W1 w.heap.size nm cr fr up cu (.slice ao n cap) := by rw [← hW1]; exact (P6.new _ _ _ _ _ _ _).on (ba (Below.refl _ _) _)
  have B1 : Below w.heap.size w W1 := by rw [← hW1]; exact ba (ba (Below.refl _ _) _) _
  have HO1 : Hid (ownsR W1 w.heap.size 3 (.slice (some ⟨w.heap.size + 1, 0, none⟩) 0 0) ([] : List Int)) := by
    show ownsR _ _ _ _ _
    rw [← hW1]
    have := ints_made (w.alloc (.cells #[.string nm, .string cr, .int .i64 fr, .int .i64 up, .bool cu, .slice ao n cap] 36)) w.heap.size (by simp)
    simpa using this
  have c0 := Z1.c0
  have c1 := Z1.c1
  have c2 := Z1.c2
  have c3 := Z1.c3
  have c4 := Z1.c4
  have c5 := Z1.c5
  go_enter Tryz.func66, Tryz.ntmps66
  go_wp2_with fail
  refine (HDK.out _ B1).mono ?_
  rintro e w2 ⟨rfl, hb2⟩
  have Z2 := Z1.on hb2
  have B2 := Below.on B1 hb2
  have o2 := HO1.out.all hb2
  clear hb2 c0 c1 c2 c3 c4 c5 Z1 hW1 HO1 B1
  have c5 := Z2.c5
  go_wp2_with fail
  refine (HIN.out _).mono ?_
  rintro e w3 ⟨rfl, hw⟩
  have hw2 := hw.symm
  subst hw2
  go_wp2_with fail
  refine (HOR.out _ B2).mono ?_
  rintro e w3 ⟨ov, rfl, ho3, hb3⟩
  have Z3 := Z2.on hb3
  have B3 := Below.on B2 hb3
  have HO3 : Hid (ownsR w3 w.heap.size 3 ov O) := ho3.mono B2.size
  have HE3 : Hid (ownsR w3 w.heap.size 3 (.slice (some ⟨w.heap.size + 1, 0, none⟩) 0 0) ([] : List Int)) := o2.all hb3
  obtain ⟨oa, oc, eo⟩ := HO3.out.slice
  subst eo
  rw [HOL.out] at HO3
  rw [HOL.out]
  clear ho3 hb3 o2 c5 Z2 B2
  have c5 := Z3.c5
  have hs3 : w.heap.size ≤ w3.heap.size := B3.size
  go_wp2_with (at_make; refine wpList_make_full _ rfl _ _ 144 rfl w.heap.size 4 i0 _ 1 underB hi0' hz0 hz1 .i64 .i64 _ _ n rfl rfl rfl rfl (by rw [hz2]; omega) (by unfold maxLen; omega) hs3 ?_; intro w4 ho4 hg4)
  rw [made_bools] at ho4
  have HS4 : Hid (DsS w nm cr fr up cu (.slice ao n cap) w3.heap.size n (.slice oa n oc) O (.slice (some ⟨w.heap.size + 1, 0, none⟩) 0 0) w4 (List.replicate n false)) := by
    have hbb : Below w3.heap.size w3 w4 := (Below.refl _ _).grown hg4 (Nat.le_refl _) (fun j hj => by cases hj)
    refine ⟨Below.on B3 hbb, Z3.on hbb, ?_, HO3.out.all hbb, HE3.out.all hbb⟩
    unfold ownsR; rw [List.length_replicate]; exact ho4
  clear ho4 hg4 HO3 HE3 Z3 B3 c5
  generalize w3.heap.size = gb at *
  generalize Value.slice (some ⟨w.heap.size + 1, 0, none⟩) 0 0 = ev at *
  obtain ⟨ov, HOV⟩ : ∃ ov, Hid (Value.slice oa n oc = ov) := ⟨_, rfl⟩
  rw [HOV.out] at HS4
  obtain ⟨FF, HFF⟩ : ∃ FF, Hid (O.foldl (dsS ts i) (List.replicate n false) = FF) := ⟨_, rfl⟩
  go_wp2
  go_loopw [8] (fun kv wr => ∃ (k : Nat) (F : List Bool), k ≤ n ∧ kv = .int .i64 k ∧ Hid (F.length = n) ∧ Hid (FF = (O.drop k).foldl (dsS ts i) F) ∧ Hid (DsS w nm cr fr up cu (.slice ao n cap) gb n ov O ev wr F)) (fun kv _ => n - (intOf kv).toNat)
  case atStart => exact ⟨0, List.replicate n false, Nat.zero_le _, rfl, List.length_replicate, (by show FF = _; rw [List.drop_zero, ← HFF.out]), HS4⟩
  case round =>
    clear HS4
    obtain ⟨k, F, hk, rfl, HFL, HE, HS⟩ := hrel
    by_cases hlt : k < n
    · obtain ⟨a, ha⟩ : ∃ a, O[k]? = some a := ⟨_, List.getElem?_eq_getElem (by rw [HOL.out]; exact hlt)⟩
      obtain ⟨j, t, ej, htj, hjn⟩ := HPL.out a (List.mem_of_getElem? ha)
      subst ej
      have HUB : Hid (∀ u ∈ upsA ts (j : Int), ∃ x : Nat, u = (x : Int) ∧ x < n ∧ x ≠ j) := HUX.out j t htj
      have hord := HS.out.ord.reads
      rw [← HOV.out] at hord
      obtain ⟨ob, oo, eoa, hob, ca⟩ := int_at hord ha
      subst eoa
      have HAK : Hid (O[k]? = some (j : Int)) := ha
      have HE2 : Hid (FF = (O.drop (k + 1)).foldl (dsS ts i) (dsS ts i F (j : Int))) := by show FF = _; rw [HE.out, foldD_at ha]
      obtain ⟨U, HUU⟩ : ∃ U, Hid (upsA ts (j : Int) = U) := ⟨_, rfl⟩
      have H1 : Hid (∀ W, Below w.heap.size w W → Calls Tryz.prog 112 #[.agg #[.string nm, .string cr, .int .i64 fr, .int .i64 up, .bool cu, .slice ao n cap], .int .i64 j] W fun e w' => ∃ v, e = .returned v ∧ ownsR w' W.heap.size 3 v U ∧ Below W.heap.size W w') := fun W hb => by
        have := HUP.out j t W htj hb
        rw [HUU.out] at this
        exact this
      rw [HUU.out] at HUB
      have HUL : Hid (U.length ≤ 4) := by
        show U.length ≤ 4
        rw [← HUU.out]
        unfold upsA upsC
        exact Nat.le_trans (ascL_len _ _) HRG.out.few
      clear ha htj hord HE
      have BR := HS.out.bel
      have K0 := Below.cellOf (B := wr.heap.size) (W := wr) (p := ⟨w.heap.size, 0, none⟩) HS.out.dag.lt HS.out.dag.c0
      have K1 := Below.cellOf (B := wr.heap.size) (W := wr) (p := ⟨w.heap.size, 1, none⟩) HS.out.dag.lt HS.out.dag.c1
      have K2 := Below.cellOf (B := wr.heap.size) (W := wr) (p := ⟨w.heap.size, 2, none⟩) HS.out.dag.lt HS.out.dag.c2
      have K3 := Below.cellOf (B := wr.heap.size) (W := wr) (p := ⟨w.heap.size, 3, none⟩) HS.out.dag.lt HS.out.dag.c3
      have K4 := Below.cellOf (B := wr.heap.size) (W := wr) (p := ⟨w.heap.size, 4, none⟩) HS.out.dag.lt HS.out.dag.c4
      have K5 := Below.cellOf (B := wr.heap.size) (W := wr) (p := ⟨w.heap.size, 5, none⟩) HS.out.dag.lt HS.out.dag.c5
      have KA := Below.cellOf (B := wr.heap.size) (W := wr) (p := ⟨ob, oo + k, none⟩) hob ca
      go_wp2_with fail
      go_region_held3 (fun w' => Below wr.heap.size wr w') ((first | exact (Below.refl _ _).drew | exact hS5)) ((go_at_call 112; refine (H1.out _ (Below.on BR (by assumption))).mono ?_; rintro x w5 ⟨uv, rfl, hu5, hb5⟩; have hS5 := keep_on (B := wr.heap.size) (W := wr) hb5 (by assumption) (Nat.le_refl _)))
      have HS5 : Hid (DsS w nm cr fr up cu (.slice ao n cap) gb n ov O ev w5 F) := HS.out.onW hS5
      have HU5 : Hid (ownsR w5 w.heap.size 3 uv U) := hu5.mono HS.out.bel.size
      obtain ⟨ua, uc, eu⟩ := HU5.out.slice
      subst eu
      obtain ⟨ul, HULE⟩ : ∃ ul, Hid (U.length = ul) := ⟨_, rfl⟩
      have hul : ul ≤ 4 := by rw [← HULE.out]; exact HUL.out
      rw [HULE.out] at HU5
      rw [HULE.out]
      clear hu5 hb5 hS5 K0 K1 K2 K3 K4 K5 KA HS BR ca H1
      have hjF : j < F.length := by rw [HFL.out]; exact hjn
      obtain ⟨b0, HB0⟩ : ∃ b0, Hid (F.getD j false = b0) := ⟨_, rfl⟩
      have HF0 : Hid (F.set j b0 = F) := by
        show F.set j b0 = F
        have hj := getB_at hjF
        rw [HB0.out] at hj
        apply List.ext_getElem?
        intro q
        rw [setB_get hjF]
        by_cases e : q = j
        · subst e; rw [if_pos rfl, hj]
        · rw [if_neg e]
      obtain ⟨BB, HBB⟩ : ∃ BB, Hid ((b0 || U.any (ledB i F)) = BB) := ⟨_, rfl⟩
      go_wp2
      go_loopw [10] (fun mv wz => ∃ (m : Nat) (b : Bool), m ≤ ul ∧ mv = .int .i64 m ∧ Hid (BB = (b || (U.drop m).any (ledB i F))) ∧ Hid (DsS w nm cr fr up cu (.slice ao n cap) gb n ov O ev wz (F.set j b)) ∧ Hid (ownsR wz w.heap.size 3 (.slice ua ul uc) U)) (fun mv _ => ul - (intOf mv).toNat)
      case atStart => exact ⟨0, b0, Nat.zero_le _, rfl, (by show BB = _; rw [List.drop_zero, ← HBB.out]), (by show DsS _ _ _ _ _ _ _ _ _ _ _ _ _ _; rw [HF0.out]; exact HS5.out), HU5⟩
      case round =>
        clear HS5 HU5
        obtain ⟨m, b, hm, rfl, HE3, HS, HU⟩ := hrel
        have hjS : j < (F.set j b).length := by rw [List.length_set]; exact hjF
        by_cases hml : m < ul
        · obtain ⟨u, hu⟩ : ∃ u, U[m]? = some u := ⟨_, List.getElem?_eq_getElem (by rw [HULE.out]; exact hml)⟩
          obtain ⟨x, ex, hxn, hxj⟩ := HUB.out u (List.mem_of_getElem? hu)
          subst ex
          obtain ⟨ub, uo, eua, hub, cu1⟩ := int_at HU.out.reads hu
          subst eua
          obtain ⟨y, HY⟩ : ∃ y, Hid (F.getD x false = y) := ⟨_, rfl⟩
          have HE4' : Hid (BB = (b || ((decide ((x : Int) = i) || y) || (U.drop (m + 1)).any (ledB i F)))) := by
            show BB = _
            rw [HE3.out, any_at hu]
            unfold ledB
            rw [Int.toNat_natCast, HY.out]
          obtain ⟨-, cb, fb⟩ := bool_own HS.out.fl (i := j) (x := b) (by rw [setB_get hjF, if_pos rfl])
          obtain ⟨-, cx, -⟩ := bool_own HS.out.fl (i := x) (x := y) (by rw [setB_get hjF, if_neg hxj, getB_at (l := F) (by rw [HFL.out]; exact hxn), HY.out])
          have hord := HS.out.ord.reads
          rw [← HOV.out] at hord
          have HPT : Hid (∀ z, DsS w nm cr fr up cu (.slice ao n cap) gb n ov O ev (wr.setCell ⟨gb, j, none⟩ (.bool z)) (F.set j z) ∧ ownsR (wr.setCell ⟨gb, j, none⟩ (.bool z)) w.heap.size 3 (.slice (some ⟨ub, uo, none⟩) ul uc) U) := fun z => by
            have h1 := HS.out.put hjS z
            rw [List.set_set] at h1
            exact ⟨h1, HS.out.row HU.out j _⟩
          obtain ⟨ob', oo', eo', hob', ca⟩ := int_at hord HAK.out
          injection eo' with eo'
          injection eo' with e1 e2 _
          subst e1 e2
          have hgl : gb < wr.heap.size := (own_low HS.out.fl (k := gb) rfl).2
          clear hu HE3 HS HU hord
          cases b with
          | true =>
            have HE4 : Hid (BB = (true || (U.drop (m + 1)).any (ledB i F))) := HE4'
            go_wp2
            go_region
            go_wp2
            have HP := HPT.out true
            have HP1 : Hid (∀ W', Below (wr.setCell ⟨gb, j, none⟩ (.bool true)).heap.size (wr.setCell ⟨gb, j, none⟩ (.bool true)) W' → DsS w nm cr fr up cu (.slice ao n cap) gb n ov O ev W' (F.set j true) ∧ ownsR W' w.heap.size 3 (.slice (some ⟨ub, uo, none⟩) ul uc) U) := fun W' hb => ⟨HP.1.onW hb, HP.2.all hb⟩
            clear HP cb cx cu1 fb
            go_roundw
            case rel =>
              have HQ := HP1.out _ (Below.refl _ _).drew
              exact ⟨m + 1, true, by omega, by go_num, HE4, HQ.1, HQ.2⟩
            case measure => simp [intOf]; omega

          | false =>
            by_cases hxi : (x : Int) = i
            · have HE4 : Hid (BB = (true || (U.drop (m + 1)).any (ledB i F))) := by show BB = _; rw [HE4'.out, decide_eq_true hxi]; rfl
              have hxi2 : ((x : Int) == i) = true := beq_iff_eq.2 hxi
              clear hxi
              go_wp2
              go_region
              go_wp2
              have HP := HPT.out true
              have HP1 : Hid (∀ W', Below (wr.setCell ⟨gb, j, none⟩ (.bool true)).heap.size (wr.setCell ⟨gb, j, none⟩ (.bool true)) W' → DsS w nm cr fr up cu (.slice ao n cap) gb n ov O ev W' (F.set j true) ∧ ownsR W' w.heap.size 3 (.slice (some ⟨ub, uo, none⟩) ul uc) U) := fun W' hb => ⟨HP.1.onW hb, HP.2.all hb⟩
              clear HP cb cx cu1 fb
              go_roundw
              case rel =>
                have HQ := HP1.out _ (Below.refl _ _).drew
                exact ⟨m + 1, true, by omega, by go_num, HE4, HQ.1, HQ.2⟩
              case measure => simp [intOf]; omega

            · have hxi2 : ((x : Int) == i) = false := beq_eq_false_iff_ne.2 hxi
              have HE4 : Hid (BB = (y || (U.drop (m + 1)).any (ledB i F))) := by show BB = _; rw [HE4'.out, decide_eq_false hxi]; rfl
              clear hxi
              go_wp2
              go_region
              go_wp2
              have HP := HPT.out y
              have HP1 : Hid (∀ W', Below (wr.setCell ⟨gb, j, none⟩ (.bool y)).heap.size (wr.setCell ⟨gb, j, none⟩ (.bool y)) W' → DsS w nm cr fr up cu (.slice ao n cap) gb n ov O ev W' (F.set j y) ∧ ownsR W' w.heap.size 3 (.slice (some ⟨ub, uo, none⟩) ul uc) U) := fun W' hb => ⟨HP.1.onW hb, HP.2.all hb⟩
              clear HP cb cx cu1 fb
              go_roundw
              case rel =>
                have HQ := HP1.out _ (Below.refl _ _).drew
                exact ⟨m + 1, y, by omega, by go_num, HE4, HQ.1, HQ.2⟩
              case measure => simp [intOf]; omega

        · have HE5 : Hid (BB = b) := by show BB = b; rw [HE3.out, any_end (by rw [HULE.out]; omega), Bool.or_false]
          have HSP : Hid (FF = (O.drop (k + 1)).foldl (dsS ts i) (F.set j b)) := by
            show FF = _
            rw [HE2.out]
            unfold dsS
            rw [Int.toNat_natCast, HUU.out, HB0.out, HBB.out, HE5.out]
          have HFL2 : Hid ((F.set j b).length = n) := by show _ = n; rw [List.length_set]; exact HFL.out
          clear HU HE3
          go_wp2
          go_roundw
          case rel => exact ⟨k + 1, F.set j b, by omega, by go_num, HFL2, HSP, HS⟩
          case measure => simp [intOf]; omega
    · have HF : Hid (FF = F) := by show FF = F; rw [HE.out, foldD_end (by rw [HOL.out]; omega)]
      clear HE
      go_wp2
      go_loopw [5, 11] (fun v kv wr => ∃ (k : Nat), k ≤ n ∧ kv = .int .i64 k ∧ Hid (Below w.heap.size w wr ∧ ownsR wr w.heap.size 3 v (ascL k fun q => F.getD q false) ∧ ownsR wr w.heap.size 4 (.slice (some ⟨gb, 0, none⟩) n n) F)) (fun _ kv _ => n - (intOf kv).toNat)
      case atStart => exact ⟨0, Nat.zero_le _, rfl, HS.out.bel, HS.out.emp, HS.out.fl⟩
      case round =>
        clear HS
        obtain ⟨m, hm, rfl, HV⟩ := hrel
        obtain ⟨va, vc, ev2⟩ := HV.out.2.1.slice
        subst ev2
        have hlm := ascL_len m fun q => F.getD q false
        by_cases hml : m < n
        · obtain ⟨b, HB⟩ : ∃ b, Hid (F.getD m false = b) := ⟨_, rfl⟩
          obtain ⟨-, cb, -⟩ := bool_own HV.out.2.2 (i := m) (x := b) (by rw [getB_at (l := F) (by rw [HFL.out]; exact hml), HB.out])
          have HNX : Hid ((ascL (m + 1) fun q => F.getD q false) = if b = true then (ascL m fun q => F.getD q false) ++ [(m : Int)] else ascL m fun q => F.getD q false) := by show _ = _; rw [ascL_succ, HB.out]
          obtain ⟨L, HL⟩ : ∃ L, Hid ((ascL m fun q => F.getD q false) = L) := ⟨_, rfl⟩
          rw [HL.out] at HV HNX hlm
          rw [HL.out]
          obtain ⟨ll, HLL⟩ : ∃ ll, Hid (L.length = ll) := ⟨_, rfl⟩
          rw [HLL.out] at HV hlm
          rw [HLL.out]
          cases b with
          | false =>
            have HV2 : Hid (Below w.heap.size w wr ∧ ownsR wr w.heap.size 3 (.slice va ll vc) (ascL (m + 1) fun q => F.getD q false) ∧ ownsR wr w.heap.size 4 (.slice (some ⟨gb, 0, none⟩) n n) F) := ⟨HV.out.1, by rw [HNX.out]; exact HV.out.2.1, HV.out.2.2⟩
            clear HV
            go_wp2
            go_roundw
            case rel => exact ⟨m + 1, by omega, by go_num, HV2⟩
            case measure => simp [intOf]; omega
          | true =>
            have HVA : Hid (∀ o, Below w.heap.size w (wr.alloc o) ∧ ownsR (wr.alloc o) w.heap.size 3 (.slice va ll vc) L ∧ ownsR (wr.alloc o) w.heap.size 4 (.slice (some ⟨gb, 0, none⟩) n n) F) := fun o => ⟨HV.out.1.alloc HV.out.1.size _, HV.out.2.1.alloc _, HV.out.2.2.alloc _⟩
            have hsr : w.heap.size ≤ wr.heap.size := HV.out.1.size
            clear HV
            go_wp2_with (at_builtin; refine append_recW _ w rfl (.tmp 91) (.tmp 93) 90 rfl w.heap.size 3 _ 8 underI info3 rfl _ L rfl (HVA.out _).2.1 (HVA.out _).1 wr.heap.size 1 (m : Int) rfl (cell_int (by simp [go_sem])) (by rw [HLL.out]; omega) (by decide) (by simp; omega) ?_; intro v6 w6 ho6 hb6 hg6 hl6)
            have hva := HVA.out (.cells #[.int .i64 (m : Int)] 3)
            have HV2 : Hid (Below w.heap.size w w6 ∧ ownsR w6 w.heap.size 3 v6 (ascL (m + 1) fun q => F.getD q false) ∧ ownsR w6 w.heap.size 4 (.slice (some ⟨gb, 0, none⟩) n n) F) := ⟨hb6, by rw [HNX.out]; exact ho6, hva.2.2.keep fun q hq => hg6.block q (own_low hva.2.2 hq).2 fun e => own_other hva.2.2 hva.2.1 (by decide) hq e.symm⟩
            clear hva ho6 hb6 hg6 hl6 HVA
            go_wp2
            go_roundw
            case rel => exact ⟨m + 1, by omega, by go_num, HV2⟩
            case measure => simp [intOf]; omega
        · have emn : m = n := by omega
          have HR : Hid (ownsR wr w.heap.size 3 (.slice va (ascL m fun q => F.getD q false).length vc) (ascL n fun q => FF.getD q false) ∧ Below w.heap.size w wr) := ⟨by rw [HF.out, ← emn]; exact HV.out.2.1, HV.out.1⟩
          clear emn HV
          go_wp2
          go_ret
          exact ⟨_, rfl, by rw [HFF.out]; exact HR.out.1, HR.out.2⟩
set_option maxRecDepth 10000 in
set_option maxHeartbeats 4000000 in
theorem specDown_no (ao : Option Addr) (n cap : Nat) (nm cr : ByteArray) (fr up : Int) (cu : Bool) (ts : List Ta) (i : Int) (w : World) (hd : DagAt w (.slice ao n cap) ⟨nm, cr, fr, up, cu, ts⟩) (hn : ts.length = n) (hno : ¬ (dagB ⟨nm, cr, fr, up, cu, ts⟩ = true ∧ 0 ≤ i ∧ i < (n : Int))) :
    Calls Tryz.prog 66 #[.agg #[.string nm, .string cr, .int .i64 fr, .int .i64 up, .bool cu, .slice ao n cap], .int .i64 i] w fun e w' => ∃ v, e = .returned v ∧ ownsR w' w.heap.size 3 v ([] : List Int) ∧ Below w.heap.size w w' := by
  obtain ⟨q, HQ⟩ : ∃ q, Hid (dagB ⟨nm, cr, fr, up, cu, ts⟩ = q) := ⟨_, rfl⟩
  have hnn : n ≤ 1048577 := by rw [← hn]; exact hd.few
  have HDK : Hid (∀ W, Below w.heap.size w W → Calls Tryz.prog 35 #[.agg #[.string nm, .string cr, .int .i64 fr, .int .i64 up, .bool cu, .slice ao n cap]] W fun e w' => e = .returned (.bool q) ∧ Below W.heap.size W w') := fun W hb => by
    have := dagOk_try _ nm cr fr up cu ts W (hd.below hb)
    rw [HQ.out] at this
    exact this
  rw [HQ.out] at hno
  have HNO : Hid (¬ (q = true ∧ 0 ≤ i ∧ i < (n : Int))) := hno
  clear hd HQ hno hn
  obtain ⟨W1, hW1⟩ : ∃ W1, (w.alloc (.cells #[.string nm, .string cr, .int .i64 fr, .int .i64 up, .bool cu, .slice ao n cap] 36)).alloc (.cells #[] 3) = W1 := ⟨_, rfl⟩
  have Z1 : P6 W1 w.heap.size nm cr fr up cu (.slice ao n cap) := by rw [← hW1]; exact (P6.new _ _ _ _ _ _ _).on (ba (Below.refl _ _) _)
  have B1 : Below w.heap.size w W1 := by rw [← hW1]; exact ba (ba (Below.refl _ _) _) _
  have HO1 : Hid (ownsR W1 w.heap.size 3 (.slice (some ⟨w.heap.size + 1, 0, none⟩) 0 0) ([] : List Int)) := by
    show ownsR _ _ _ _ _
    rw [← hW1]
    have := ints_made (w.alloc (.cells #[.string nm, .string cr, .int .i64 fr, .int .i64 up, .bool cu, .slice ao n cap] 36)) w.heap.size (by simp)
    simpa using this
  have c0 := Z1.c0
  have c1 := Z1.c1
  have c2 := Z1.c2
  have c3 := Z1.c3
  have c4 := Z1.c4
  have c5 := Z1.c5
  cases q with
  | false =>
    go_enter Tryz.func66, Tryz.ntmps66
    go_wp2_with fail
    refine (HDK.out _ B1).mono ?_
    rintro e w2 ⟨rfl, hb2⟩
    have B2 := Below.on B1 hb2
    have o2 := HO1.out.all hb2
    clear hb2 c0 c1 c2 c3 c4 c5
    go_wp2
    go_ret
    exact ⟨_, rfl, o2, B2⟩
  | true =>
    have HIN : Hid (∀ W, Calls Tryz.prog 56 #[.int .i64 i, .int .i64 0, .int .i64 ((n : Int) - 1)] W fun e w' => e = .returned (.bool false) ∧ w' = W) := fun W => by
      have := in_any i 0 ((n : Int) - 1) W
      have e : (decide (0 ≤ i) && decide (i ≤ (n : Int) - 1)) = false := by
        rw [← Bool.decide_and]
        exact decide_eq_false fun h => HNO.out ⟨rfl, h.1, by omega⟩
      rw [e] at this
      exact this
    go_enter Tryz.func66, Tryz.ntmps66
    go_wp2_with fail
    refine (HDK.out _ B1).mono ?_
    rintro e w2 ⟨rfl, hb2⟩
    have Z2 := Z1.on hb2
    have B2 := Below.on B1 hb2
    have o2 := HO1.out.all hb2
    clear hb2 c0 c1 c2 c3 c4 c5 Z1
    have c5 := Z2.c5
    go_wp2_with fail
    refine (HIN.out _).mono ?_
    rintro e w3 ⟨rfl, hw⟩
    have hw2 := hw.symm
    subst hw2
    go_wp2
    go_ret
    exact ⟨_, rfl, o2, B2⟩
theorem specDown_any (ao : Option Addr) (n cap : Nat) (nm cr : ByteArray) (fr up : Int) (cu : Bool) (ts : List Ta) (i : Int) (w : World) (hd : DagAt w (.slice ao n cap) ⟨nm, cr, fr, up, cu, ts⟩) :
    Calls Tryz.prog 66 #[.agg #[.string nm, .string cr, .int .i64 fr, .int .i64 up, .bool cu, .slice ao n cap], .int .i64 i] w fun e w' => ∃ v, e = .returned v ∧ ownsR w' w.heap.size 3 v (dnD ⟨nm, cr, fr, up, cu, ts⟩ i) ∧ Below w.heap.size w w' := by
  have hn : ts.length = n := by
    obtain ⟨ao', cap', e⟩ := hd.tasks.slice
    injection e with _ e2 _
    exact e2.symm
  by_cases h : dagB ⟨nm, cr, fr, up, cu, ts⟩ = true ∧ 0 ≤ i ∧ i < (n : Int)
  · have e : dnD ⟨nm, cr, fr, up, cu, ts⟩ i = downC ts i := by unfold dnD; rw [if_pos h.1]
    rw [e]
    exact specDown_yes ao n cap nm cr fr up cu ts i w hd h.1 h.2.1 h.2.2
  · have e : dnD ⟨nm, cr, fr, up, cu, ts⟩ i = [] := by
      unfold dnD
      by_cases hq : dagB ⟨nm, cr, fr, up, cu, ts⟩ = true
      · rw [if_pos hq]
        exact down_none (by show i < 0 ∨ (ts.length : Int) ≤ i; rw [hn]; by_cases h0 : 0 ≤ i; right; exact Int.not_lt.1 fun h1 => h ⟨hq, h0, h1⟩; left; omega)
      · rw [if_neg hq]
    rw [e]
    exact specDown_no ao n cap nm cr fr up cu ts i w hd hn h
end Go.Proofs.YtjmclcjhimcehaaGreatDoor
