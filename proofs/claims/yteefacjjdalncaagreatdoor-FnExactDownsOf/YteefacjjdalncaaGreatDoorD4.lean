/-
  slices.Contains on rows of numbers, as the library has it: the walks. The places behind a place, as the program tells them: the walks.
-/
import Derived.Test.YteefacjjdalncaaGreatDoorA1
import Derived.Test.YteefacjjdalncaaGreatDoorC7
namespace Go.Proofs.YteefacjjdalncaaGreatDoor
open Go Go.RowKit

set_option maxHeartbeats 1000000 in
theorem index_try (ao : Option Addr) (n c : Nat) (m : List Int) (x : Int) (w : World) (hr : Reads w (.slice ao n c) m) (hn : n ≤ 1048577) :
    Calls Tryz.prog 123 #[.slice ao n c, .int .i64 x] w fun e w' => ∃ r : Int, e = .returned (.int .i64 r) ∧ decide (0 ≤ r) = decide (x ∈ m) ∧ w' = w := by
  have HR : Hid (Reads w (.slice ao n c) m) := hr
  have HN : Hid (n = m.length) := hr.len
  clear hr
  go_enter Tryz.func123, Tryz.ntmps123
  go_wp2
  go_loopw [8] (fun i wr => ∃ k : Nat, k ≤ n ∧ i = .int .i64 k ∧ Hid (x ∈ m ↔ x ∈ m.drop k) ∧ wr = w) (fun i _ => n - (intOf i).toNat)
  case atStart => exact ⟨0, Nat.zero_le _, rfl, (by show x ∈ m ↔ x ∈ m.drop 0; rw [List.drop_zero]), rfl⟩
  case round =>
    obtain ⟨k, hk, rfl, HE, rfl⟩ := hrel
    by_cases hlt : k < n
    · obtain ⟨y, hy⟩ : ∃ y, m[k]? = some y := ⟨_, List.getElem?_eq_getElem (by rw [← HN.out]; exact hlt)⟩
      have HM : Hid (x ∈ m ↔ x = y ∨ x ∈ m.drop (k + 1)) := HE.out.trans (mem_drop_at hy)
      obtain ⟨b, o, rfl, hb, c0⟩ := int_at HR.out hy
      clear hy HE
      by_cases hyx : x = y
      · have HF : Hid (decide (x ∈ m) = true) := decide_eq_true (HM.out.2 (.inl hyx))
        go_wp2
        go_ret
        exact ⟨_, rfl, by rw [HF.out]; exact decide_eq_true (by omega), rfl⟩
      · have HF : Hid (x ∈ m ↔ x ∈ m.drop (k + 1)) := HM.out.trans ⟨fun h => h.resolve_left fun e => hyx e, .inr⟩
        go_wp2
        go_roundw
        case rel => exact ⟨k + 1, by omega, by go_num, HF, trivial⟩
        case measure => simp [intOf]; omega
    · have HF : Hid (decide (x ∈ m) = false) := decide_eq_false fun h => not_mem_end (by rw [← HN.out]; omega) (HE.out.1 h)
      go_wp2
      go_ret
      exact ⟨_, rfl, by rw [HF.out]; rfl, rfl⟩

theorem contains_try (ao : Option Addr) (n c : Nat) (m : List Int) (x : Int) (w : World) (hr : Reads w (.slice ao n c) m) (hn : n ≤ 1048577) :
    Calls Tryz.prog 77 #[.slice ao n c, .int .i64 x] w fun e w' => e = .returned (.bool (decide (x ∈ m))) ∧ w' = w := by
  have HR : Hid (Reads w (.slice ao n c) m) := hr
  clear hr
  go_enter Tryz.func77, Tryz.ntmps77
  go_wp2_with (go_at_call 123; refine (index_try _ _ _ m _ _ HR.out hn).mono ?_; rintro e w1 ⟨r, rfl, hd, hw⟩; have hw2 := hw.symm; subst hw2)
  go_ret
  exact ⟨by rw [← hd]; rfl, rfl⟩

end Go.Proofs.YteefacjjdalncaaGreatDoor

namespace Go.Proofs.YteefacjjdalncaaGreatDoor
open Go Go.RowKit
set_option linter.unusedVariables false

set_option maxRecDepth 10000 in
set_option maxHeartbeats 1000000 in
theorem leads_any (u i : Int) (bi bd : Nat) (ao : Option Addr) (n c : Nat) (D : List Int) (w : World) (ci : w.cell? ⟨bi, 0, none⟩ = some (.int .i64 i)) (cd : w.cell? ⟨bd, 0, none⟩ = some (.slice ao n c)) (hr : Reads w (.slice ao n c) D) (hn : n ≤ 1048577) :
    Calls Tryz.prog 76 #[.int .i64 u, .pointer (some ⟨bi, 0, none⟩), .pointer (some ⟨bd, 0, none⟩)] w fun e w' => e = .returned (.bool (leadB i D u)) ∧ w' = w := by
  have HC := contains_try ao n c D u w hr hn
  have HL : Hid (leadB i D u = (decide (u = i) || memI D u)) := rfl
  have HM : Hid (decide (u ∈ D) = memI D u) := by
    show decide (u ∈ D) = memI D u
    by_cases h : u ∈ D
    · rw [decide_eq_true h, memI_iff.2 h]
    · rw [decide_eq_false h]
      cases hq : memI D u
      · rfl
      · exact absurd (memI_iff.1 hq) h
  rw [HM.out] at HC
  rw [HL.out]
  clear hr HM HL
  by_cases hq : u = i
  · rw [decide_eq_true hq]
    subst hq
    go_enter Tryz.func76, Tryz.ntmps76
    go_wp2
    go_ret
    exact ⟨rfl, rfl⟩
  · rw [decide_eq_false hq]
    have hq2 : (u == i) = false := beq_eq_false_iff_ne.2 hq
    go_enter Tryz.func76, Tryz.ntmps76
    go_wp2_with fail
    refine HC.mono ?_
    rintro e w1 ⟨rfl, hw⟩
    have hw2 := hw.symm
    subst hw2
    go_wp2
    go_ret
    exact ⟨rfl, rfl⟩
theorem foldD_at {α β : Type} {f : β → α → β} {l : List α} {k : Nat} {x : α} {b : β} (h : l[k]? = some x) : (l.drop k).foldl f b = (l.drop (k + 1)).foldl f (f b x) := by
  obtain ⟨hk, rfl⟩ := List.getElem?_eq_some_iff.1 h
  rw [List.drop_eq_getElem_cons hk]
  rfl
theorem foldD_end {α β : Type} {f : β → α → β} {l : List α} {k : Nat} {b : β} (h : l.length ≤ k) : (l.drop k).foldl f b = b := by
  rw [List.drop_of_length_le h]
  rfl
theorem any_at {p : Int → Bool} {l : List Int} {k : Nat} {x : Int} (h : l[k]? = some x) : (l.drop k).any p = (p x || (l.drop (k + 1)).any p) := by
  obtain ⟨hk, rfl⟩ := List.getElem?_eq_some_iff.1 h
  rw [List.drop_eq_getElem_cons hk]
  rfl
theorem any_end {p : Int → Bool} {l : List Int} {k : Nat} (h : k = l.length) : (l.drop k).any p = false := by subst h; rw [List.drop_length]; rfl
set_option maxRecDepth 10000 in
set_option maxHeartbeats 1000000 in
theorem idxLead_any (uo : Option Addr) (un uc : Nat) (U : List Int) (i : Int) (bi bd : Nat) (ao : Option Addr) (n c : Nat) (D : List Int) (w : World) (ci : w.cell? ⟨bi, 0, none⟩ = some (.int .i64 i)) (cd : w.cell? ⟨bd, 0, none⟩ = some (.slice ao n c)) (hr : Reads w (.slice ao n c) D) (hn : n ≤ 1048577) (hu : Reads w (.slice uo un uc) U) (hun : un ≤ 1048577) :
    Calls Tryz.prog 124 #[.slice uo un uc, .func (.func 76) #[] #[.pointer (some ⟨bi, 0, none⟩), .pointer (some ⟨bd, 0, none⟩)]] w fun e w' => ∃ r : Int, e = .returned (.int .i64 r) ∧ decide (0 ≤ r) = U.any (leadB i D) ∧ w' = w := by
  have HC : Hid (∀ x, Calls Tryz.prog 76 #[.int .i64 x, .pointer (some ⟨bi, 0, none⟩), .pointer (some ⟨bd, 0, none⟩)] w fun e w' => e = .returned (.bool (leadB i D x)) ∧ w' = w) := fun x => leads_any x i bi bd ao n c D w ci cd hr hn
  have HN : Hid (un = U.length) := hu.len
  have HR : Hid (Reads w (.slice uo un uc) U) := hu
  clear ci cd hr hn hu
  go_enter Tryz.func124, Tryz.ntmps124
  go_wp2
  go_loopw [8] (fun iv wr => ∃ k : Nat, k ≤ un ∧ iv = .int .i64 k ∧ Hid (U.any (leadB i D) = (U.drop k).any (leadB i D)) ∧ wr = w) (fun iv _ => un - (intOf iv).toNat)
  case atStart => exact ⟨0, Nat.zero_le _, rfl, (by show _ = (U.drop 0).any _; rw [List.drop_zero]), rfl⟩
  case round =>
    obtain ⟨k, hk, rfl, HE, hw⟩ := hrel
    have hw2 := hw.symm
    subst hw2
    by_cases hlt : k < un
    · obtain ⟨t, ht⟩ : ∃ t, U[k]? = some t := ⟨_, List.getElem?_eq_getElem (by rw [← HN.out]; exact hlt)⟩
      obtain ⟨b', o, eb, hb, c0⟩ := int_at HR.out ht
      subst eb
      obtain ⟨q, HQ⟩ : ∃ q, Hid (leadB i D t = q) := ⟨_, rfl⟩
      have HC2 : Hid (Calls Tryz.prog 76 #[.int .i64 t, .pointer (some ⟨bi, 0, none⟩), .pointer (some ⟨bd, 0, none⟩)] w fun e w' => e = .returned (.bool q) ∧ w' = w) := by
        have := HC.out t
        rwa [HQ.out] at this
      have HA : Hid (U.any (leadB i D) = (q || (U.drop (k + 1)).any (leadB i D))) := HE.out.trans (by rw [any_at ht, HQ.out])
      clear ht HC HQ HE
      cases q with
      | true =>
        have HF : Hid (true = U.any (leadB i D)) := HA.out.symm
        go_wp2_with (go_at_call 76; refine HC2.out.mono ?_; rintro e w1 ⟨rfl, hw⟩; have hw2 := hw.symm; subst hw2)
        go_ret
        exact ⟨_, rfl, (decide_eq_true (by omega)).trans HF.out, rfl⟩
      | false =>
        have HF : Hid (U.any (leadB i D) = (U.drop (k + 1)).any (leadB i D)) := HA.out
        go_wp2_with (go_at_call 76; refine HC2.out.mono ?_; rintro e w1 ⟨rfl, hw⟩; have hw2 := hw.symm; subst hw2)
        go_roundw
        case rel => exact ⟨k + 1, by omega, by go_num, HF, trivial⟩
        case measure => simp [intOf]; omega
    · have HF : Hid (false = U.any (leadB i D)) := (HE.out.trans (any_end (by rw [← HN.out]; omega))).symm
      go_wp2
      go_ret
      exact ⟨_, rfl, (decide_eq_false (by omega)).trans HF.out, rfl⟩
theorem contLead_any (uo : Option Addr) (un uc : Nat) (U : List Int) (i : Int) (bi bd : Nat) (ao : Option Addr) (n c : Nat) (D : List Int) (w : World) (ci : w.cell? ⟨bi, 0, none⟩ = some (.int .i64 i)) (cd : w.cell? ⟨bd, 0, none⟩ = some (.slice ao n c)) (hr : Reads w (.slice ao n c) D) (hn : n ≤ 1048577) (hu : Reads w (.slice uo un uc) U) (hun : un ≤ 1048577) :
    Calls Tryz.prog 78 #[.slice uo un uc, .func (.func 76) #[] #[.pointer (some ⟨bi, 0, none⟩), .pointer (some ⟨bd, 0, none⟩)]] w fun e w' => e = .returned (.bool (U.any (leadB i D))) ∧ w' = w := by
  have HI := idxLead_any uo un uc U i bi bd ao n c D w ci cd hr hn hu hun
  clear ci cd hr hn hu
  go_enter Tryz.func78, Tryz.ntmps78
  go_wp2_with (go_at_call 124; refine HI.mono ?_; rintro e w1 ⟨r, rfl, hd, hw⟩; have hw2 := hw.symm; subst hw2)
  go_ret
  exact ⟨by rw [← hd]; rfl, rfl⟩
/-- What lies there while places are gathered. -/
structure DnS (w : World) (nm cr : ByteArray) (fr up : Int) (cu : Bool) (tv : Value) (i : Int) (bi bd : Nat) (ov : Value) (O : List Int) (W : World) (dv : Value) (D : List Int) : Prop where
  bel : Below w.heap.size w W
  dag : P6 W w.heap.size nm cr fr up cu tv
  ib : W.heap[bi]? = some (.cells #[.int .i64 i] 3)
  box : W.heap[bd]? = some (.cells #[dv] 37)
  row : ownsR W w.heap.size 3 dv D
  ord : ownsR W w.heap.size 3 ov O
  apart : ∀ k, dv.ownBlock = some k → ov.ownBlock ≠ some k
  far : dv.ownBlock ≠ some bi
  some : ∃ k, dv.ownBlock = .some k
  lob : w.heap.size ≤ bd
section
variable {w W W' : World} {nm cr : ByteArray} {fr up i : Int} {cu : Bool} {tv ov dv : Value} {bi bd : Nat} {O D : List Int}
theorem blk_lt {W : World} {b : Nat} {o : Obj} (h : W.heap[b]? = some o) : b < W.heap.size := (Array.getElem?_eq_some_iff.1 h).1
theorem DnS.onW (h : DnS w nm cr fr up cu tv i bi bd ov O W dv D) (hb : Below W.heap.size W W') : DnS w nm cr fr up cu tv i bi bd ov O W' dv D :=
  ⟨Below.on h.bel hb, h.dag.on hb, (hb.block _ (blk_lt h.ib)).trans h.ib, (hb.block _ (blk_lt h.box)).trans h.box, h.row.all hb, h.ord.all hb, h.apart, h.far, h.some, h.lob⟩
theorem DnS.ci (h : DnS w nm cr fr up cu tv i bi bd ov O W dv D) : W.cell? ⟨bi, 0, none⟩ = .some (.int .i64 i) := by simp [World.cell?, h.ib]
theorem DnS.cd (h : DnS w nm cr fr up cu tv i bi bd ov O W dv D) : W.cell? ⟨bd, 0, none⟩ = .some dv := by simp [World.cell?, h.box]
theorem DnS.fd (h : DnS w nm cr fr up cu tv i bi bd ov O W dv D) : W.frozen? ⟨bd, 0, none⟩ = false := by simp [World.frozen?, h.box]
theorem DnS.more (h : DnS w nm cr fr up cu tv i bi bd ov O W dv D) {dv' : Value} {D' : List Int} (ho : ownsR W' w.heap.size 3 dv' D') (hg : W.grownBy W' dv.ownBlock) (hl : dv'.ownBlock = dv.ownBlock ∨ dv'.ownBlock = .some W.heap.size) :
    W'.cell? ⟨bd, 0, none⟩ = .some dv ∧ W'.frozen? ⟨bd, 0, none⟩ = false ∧ DnS w nm cr fr up cu tv i bi bd ov O (W'.setCell ⟨bd, 0, none⟩ dv') dv' D' := by
  have hbk : ∀ k, k < W.heap.size → dv.ownBlock ≠ .some k → W'.heap[k]? = W.heap[k]? := fun k hk h2 => hg.block k hk (fun e => h2 e.symm)
  have hbx : W'.heap[bd]? = .some (.cells #[dv] 37) := (hbk bd (blk_lt h.box) (not_own h.row h.box (by decide))).trans h.box
  have hst : ∀ k, k ≠ bd → (W'.setCell ⟨bd, 0, none⟩ dv').heap[k]? = W'.heap[k]? := fun k hk => heap_setCell_other W' ⟨bd, 0, none⟩ k _ hk
  have hbel : Below w.heap.size w W' := h.bel.grown hg h.bel.size fun k hk => (own_low h.row hk).1
  have hdv : dv'.ownBlock ≠ .some bd := not_own ho hbx (by decide)
  have hid : bi ≠ bd := not_same h.ib h.box (by decide)
  have hdg : w.heap.size ≠ bd := not_same h.dag h.box (by decide)
  refine ⟨by simp [World.cell?, hbx], by simp [World.frozen?, hbx], ⟨hbel.setCell (p := ⟨bd, 0, none⟩) h.lob _, ?_, ?_, ?_, ho.keep fun k hk => hst k fun e => hdv (by rw [hk, e]), (h.ord.keep fun k hk => hbk k (own_low h.ord hk).2 fun e => h.apart k e hk).keep fun k hk => hst k fun e => ?_, fun k hk hf => ?_, fun e => ?_, ?_, h.lob⟩⟩
  · exact (hst _ hdg).trans ((hbk _ h.dag.lt (not_own h.row h.dag (by decide))).trans h.dag)
  · exact (hst _ hid).trans ((hbk _ (blk_lt h.ib) h.far).trans h.ib)
  · simp [World.setCell, Array.getElem?_modify, hbx]
  · exact not_own h.ord h.box (by decide) (by rw [hk, e])
  · rcases hl with e | e
    · exact h.apart k (e ▸ hk) hf
    · have h1 := (own_low h.ord hf).2
      rw [e] at hk
      cases hk
      omega
  · rcases hl with e2 | e2
    · exact h.far (e2 ▸ e)
    · have h1 := blk_lt h.ib
      rw [e2] at e
      cases e
      omega
  · rcases hl with e | e
    · rw [e]; exact h.some
    · exact ⟨_, e⟩
end
/-- The places behind a place of a plan. -/
def dnD (d : Dg) (i : Int) : List Int := if dagB d = true then downC d.tasks i else []
theorem dnD_len (d : Dg) (i : Int) : (dnD d i).length ≤ 4 := by
  unfold dnD
  by_cases hq : dagB d = true
  · rw [if_pos hq]; exact Nat.le_trans (ascL_len _ _) (rg_of hq).few
  · rw [if_neg hq]; exact Nat.zero_le _
theorem dnD_sort (d : Dg) (i : Int) : sortI (dnL d.tasks i (ordC d)) = dnD d i := by
  unfold dnD ordC
  by_cases hq : dagB d = true
  · rw [if_pos hq, if_pos hq]; exact down_sort (rg_of hq) i
  · rw [if_neg hq, if_neg hq]; exact List.eq_nil_of_length_eq_zero ((sortI_perm []).length_eq)
theorem dnS_len {ts : List Ta} {i : Int} {D : List Int} {a : Int} : (dnS ts i D a).length ≤ D.length + 1 := by
  unfold dnS
  split
  · rw [List.length_append]; exact Nat.le_refl _
  · exact Nat.le_succ _
set_option maxRecDepth 10000 in
set_option maxHeartbeats 4000000 in
theorem implDown_any (ao : Option Addr) (n cap : Nat) (nm cr : ByteArray) (fr up : Int) (cu : Bool) (ts : List Ta) (i : Int) (w : World) (hd : DagI w ao n cap ⟨nm, cr, fr, up, cu, ts⟩) (hg : Gl w) :
    Calls Tryz.prog 32 #[.agg #[.string nm, .string cr, .int .i64 fr, .int .i64 up, .bool cu, .slice ao n cap], .int .i64 i] w fun e w' => ∃ v, e = .returned v ∧ ownsR w' w.heap.size 3 v (dnD ⟨nm, cr, fr, up, cu, ts⟩ i) ∧ Below w.heap.size w w' := by
  obtain ⟨O, HOO⟩ : ∃ O, Hid (ordC ⟨nm, cr, fr, up, cu, ts⟩ = O) := ⟨_, rfl⟩
  have HRS : Hid (sortI (dnL ts i O) = dnD ⟨nm, cr, fr, up, cu, ts⟩ i) := by rw [← HOO.out]; exact dnD_sort ⟨nm, cr, fr, up, cu, ts⟩ i
  have HRD : Hid (∀ W, Below w.heap.size w W → Calls Tryz.prog 27 #[.agg #[.string nm, .string cr, .int .i64 fr, .int .i64 up, .bool cu, .slice ao n cap]] W fun e w' => ∃ v, e = .returned v ∧ ownsR w' W.heap.size 3 v O ∧ Below W.heap.size W w') := fun W hb => by
    have := implOrder_any ao n cap nm cr fr up cu ts W (hd.below hb) (hg.up hb)
    rw [HOO.out] at this
    exact this
  have hnn : n ≤ 1048577 := hd.few
  have HRG : Hid (∀ x ∈ O, Rg4 ts ∧ O = orderL ts) := fun x hx => by
    rw [← HOO.out] at hx ⊢
    unfold ordC at hx ⊢
    by_cases hq : dagB ⟨nm, cr, fr, up, cu, ts⟩ = true
    · rw [if_pos hq]; exact ⟨rg_of hq, rfl⟩
    · rw [if_neg hq] at hx; cases hx
  have HPL : Hid (∀ x ∈ O, ∃ (j : Nat) (t : Ta), x = (j : Int) ∧ ts[j]? = some t) := fun x hx => by
    obtain ⟨h1, h2⟩ := HRG.out x hx
    rw [h2] at hx
    exact (order_ol h1).pl x hx
  have HUP : Hid (∀ (j : Nat) (t : Ta) W, ts[j]? = some t → (j : Int) ∈ O → Below w.heap.size w W → Calls Tryz.prog 75 #[.agg #[.string nm, .string cr, .int .i64 fr, .int .i64 up, .bool cu, .slice ao n cap], .int .i64 j] W fun e w' => ∃ v, e = .returned v ∧ ownsR w' W.heap.size 3 v (upsA ts (j : Int)) ∧ Below W.heap.size W w') := fun j t W ht hm hb => by
    have hrg := (HRG.out _ hm).1
    have h2 := upsIn_any ao n cap nm cr fr up cu ts j t W (hd.tasks.below hb) hnn ht (hd.small t (List.mem_of_getElem? ht)).few
    rw [ups_sort hrg (List.mem_of_getElem? ht)] at h2
    unfold upsA
    rw [af_at ht]
    exact h2
  have HOL : Hid (O.length ≤ 4) := by
    show O.length ≤ 4
    by_cases hO : O = []
    · rw [hO]; exact Nat.zero_le _
    · obtain ⟨x, hx⟩ := List.exists_mem_of_ne_nil O hO
      obtain ⟨h1, h2⟩ := HRG.out x hx
      rw [h2, h1.full]
      exact h1.few
  rw [← HRS.out]
  clear hd hg HOO HRS
  go_enter Tryz.func32, Tryz.ntmps32
  obtain ⟨W1, hW1⟩ : ∃ W1, ((w.alloc (.cells #[.string nm, .string cr, .int .i64 fr, .int .i64 up, .bool cu, .slice ao n cap] 26)).alloc (.cells #[.int .i64 i] 3)).alloc (.cells #[] 3) = W1 := ⟨_, rfl⟩
  have HS1 : Hid (W1.heap.size = w.heap.size + 1 + 1 + 1) := by show W1.heap.size = _; rw [← hW1]; simp
  obtain ⟨W2, hW2⟩ : ∃ W2, W1.alloc (.cells #[.slice (some ⟨w.heap.size + 1 + 1, 0, none⟩) 0 0] 37) = W2 := ⟨_, rfl⟩
  have HP : Hid (P6 W2 w.heap.size nm cr fr up cu (.slice ao n cap) ∧ W2.heap[w.heap.size + 1]? = some (.cells #[.int .i64 i] 3) ∧ W2.heap[W1.heap.size]? = some (.cells #[.slice (some ⟨w.heap.size + 1 + 1, 0, none⟩) 0 0] 37) ∧ ownsR W2 w.heap.size 3 (.slice (some ⟨w.heap.size + 1 + 1, 0, none⟩) 0 0) ([] : List Int) ∧ Below w.heap.size w W2) := by
    refine ⟨?_, ?_, ?_, ?_, ?_⟩
    · rw [← hW2, ← hW1]; exact ((P6.new _ _ _ _ _ _ _).on (ba (ba (Below.refl _ _) _) _)).on (ba (Below.refl _ _) _)
    · have h1 : (w.alloc (.cells #[.string nm, .string cr, .int .i64 fr, .int .i64 up, .bool cu, .slice ao n cap] 26)).heap.size = w.heap.size + 1 := by simp
      have h2 : ((w.alloc (.cells #[.string nm, .string cr, .int .i64 fr, .int .i64 up, .bool cu, .slice ao n cap] 26)).alloc (.cells #[.int .i64 i] 3)).heap[w.heap.size + 1]? = some (.cells #[.int .i64 i] 3) := by
        rw [← h1]
        show (Array.push _ _)[_]? = _
        rw [Array.getElem?_push_size]
      have h3 : Below ((w.alloc (.cells #[.string nm, .string cr, .int .i64 fr, .int .i64 up, .bool cu, .slice ao n cap] 26)).alloc (.cells #[.int .i64 i] 3)).heap.size ((w.alloc (.cells #[.string nm, .string cr, .int .i64 fr, .int .i64 up, .bool cu, .slice ao n cap] 26)).alloc (.cells #[.int .i64 i] 3)) W2 := by rw [← hW2, ← hW1]; exact ba (ba (Below.refl _ _) _) _
      exact (h3.block _ (by simp)).trans h2
    · rw [← hW2]
      show (Array.push _ _)[_]? = _
      rw [Array.getElem?_push_size]
    · rw [← hW2, ← hW1]
      have := ints_made ((w.alloc (.cells #[.string nm, .string cr, .int .i64 fr, .int .i64 up, .bool cu, .slice ao n cap] 26)).alloc (.cells #[.int .i64 i] 3)) w.heap.size (by simp; omega)
      have h4 := this.alloc (.cells #[.slice (some ⟨w.heap.size + 1 + 1, 0, none⟩) 0 0] 37)
      simpa using h4
    · rw [← hW2, ← hW1]; exact ba (ba (ba (ba (Below.refl _ _) _) _) _) _
  have B2 := HP.out.2.2.2.2
  have c0 := HP.out.1.c0
  have c1 := HP.out.1.c1
  have c2 := HP.out.1.c2
  have c3 := HP.out.1.c3
  have c4 := HP.out.1.c4
  have c5 := HP.out.1.c5
  go_wp2_with fail
  refine (HRD.out _ B2).mono ?_
  rintro e w3 ⟨ov, rfl, ho3, hb3⟩
  have HS3 : Hid (DnS w nm cr fr up cu (.slice ao n cap) i (w.heap.size + 1) W1.heap.size ov O w3 (.slice (some ⟨w.heap.size + 1 + 1, 0, none⟩) 0 0) []) := by
    obtain ⟨p1, p2, p3, p4, p5⟩ := HP.out
    have hlt := blk_lt p3
    have hs1 := HS1.out
    refine ⟨Below.on B2 hb3, p1.on hb3, (hb3.block _ (blk_lt p2)).trans p2, (hb3.block _ (blk_lt p3)).trans p3, p4.all hb3, ho3.mono B2.size, fun k hk hf => ?_, fun e => ?_, ⟨_, rfl⟩, by omega⟩
    · have h5 := (own_low ho3 hf).1
      have e5 : w.heap.size + 1 + 1 = k := Option.some.inj hk
      omega
    · have e2 : w.heap.size + 1 + 1 = w.heap.size + 1 := Option.some.inj e
      omega
  clear ho3 hb3 c0 c1 c2 c3 c4 c5 HP B2 hW1 hW2
  obtain ⟨oa, oc, eo⟩ := HS3.out.ord.slice
  subst eo
  obtain ⟨ol, HOLE⟩ : ∃ ol, Hid (O.length = ol) := ⟨_, rfl⟩
  have hol : ol ≤ 4 := by rw [← HOLE.out]; exact HOL.out
  rw [HOLE.out] at HS3
  rw [HOLE.out]
  generalize hbi : w.heap.size + 1 = bi at *
  generalize hbd : W1.heap.size = bd at *
  generalize hdv : Value.slice (some ⟨bi + 1, 0, none⟩) 0 0 = dv0 at *
  obtain ⟨ov, HOV⟩ : ∃ ov, Hid (Value.slice oa ol oc = ov) := ⟨_, rfl⟩
  rw [HOV.out] at HS3
  go_wp2
  go_loopw [14] (fun kv wr => ∃ (k : Nat) (dv : Value) (D : List Int), k ≤ ol ∧ kv = .int .i64 k ∧ D.length ≤ k ∧ Hid (dnL ts i O = (O.drop k).foldl (dnS ts i) D) ∧ Hid (DnS w nm cr fr up cu (.slice ao n cap) i bi bd ov O wr dv D)) (fun kv _ => ol - (intOf kv).toNat)
  case atStart => exact ⟨0, dv0, [], Nat.zero_le _, rfl, Nat.le_refl _, (by show dnL ts i O = _; rw [List.drop_zero]; rfl), HS3⟩
  case round =>
    clear HS3
    obtain ⟨k, dv, D, hk, rfl, hD, HE, HS⟩ := hrel
    obtain ⟨da, dc, ed⟩ := HS.out.row.slice
    subst ed
    obtain ⟨dl, HDL⟩ : ∃ dl, Hid (D.length = dl) := ⟨_, rfl⟩
    rw [HDL.out] at HS hD
    by_cases hlt : k < ol
    · obtain ⟨a, ha⟩ : ∃ a, O[k]? = some a := ⟨_, List.getElem?_eq_getElem (by rw [HOLE.out]; exact hlt)⟩
      obtain ⟨j, t, ej, htj⟩ := HPL.out a (List.mem_of_getElem? ha)
      subst ej
      have hmem := List.mem_of_getElem? ha
      have hrg := (HRG.out _ hmem).1
      have hord := HS.out.ord.reads
      rw [← HOV.out] at hord
      obtain ⟨ob, oo, eoa, hob, ca⟩ := int_at hord ha
      subst eoa
      have H1 := HUP.out j t wr htj hmem HS.out.bel
      have HE2 : Hid (dnL ts i O = (O.drop (k + 1)).foldl (dnS ts i) (dnS ts i D (j : Int))) := by show dnL ts i O = _; rw [HE.out, foldD_at ha]
      obtain ⟨U, HUU⟩ : ∃ U, Hid (upsA ts (j : Int) = U) := ⟨_, rfl⟩
      rw [HUU.out] at H1
      have HUL : Hid (U.length ≤ 4) := by
        show U.length ≤ 4
        rw [← HUU.out]
        unfold upsA upsC
        exact Nat.le_trans (ascL_len _ _) hrg.few
      obtain ⟨q, HQ⟩ : ∃ q, Hid (U.any (leadB i D) = q) := ⟨_, rfl⟩
      have HDS : Hid (dnS ts i D (j : Int) = if q = true then D ++ [(j : Int)] else D) := by show dnS _ _ _ _ = _; unfold dnS; rw [HUU.out, HQ.out]
      clear ha htj hrg hmem hord HE
      have c0 := HS.out.dag.c0
      have c1 := HS.out.dag.c1
      have c2 := HS.out.dag.c2
      have c3 := HS.out.dag.c3
      have c4 := HS.out.dag.c4
      have c5 := HS.out.dag.c5
      go_wp2_with fail
      refine H1.mono ?_
      rintro e w4 ⟨uv, rfl, hu4, hb4⟩
      have HS4 : Hid (DnS w nm cr fr up cu (.slice ao n cap) i bi bd ov O w4 (.slice da dl dc) D) := HS.out.onW hb4
      obtain ⟨ua, uc, eu⟩ := hu4.slice
      subst eu
      obtain ⟨ul, HULE⟩ : ∃ ul, Hid (U.length = ul) := ⟨_, rfl⟩
      have hul : ul ≤ 4 := by rw [← HULE.out]; exact HUL.out
      rw [HULE.out] at hu4
      rw [HULE.out]
      have H4 := contLead_any ua ul uc U i bi bd da dl dc D w4 HS4.out.ci HS4.out.cd HS4.out.row.reads (by omega) hu4.reads (by omega)
      rw [HQ.out] at H4
      clear hu4 hb4 HS c0 c1 c2 c3 c4 c5 ca H1
      cases q with
      | false =>
        have HE3 : Hid (dnL ts i O = (O.drop (k + 1)).foldl (dnS ts i) D) := by show dnL ts i O = _; rw [HE2.out, HDS.out]; rfl
        go_wp2_with fail
        refine H4.mono ?_
        rintro e w5 ⟨rfl, hw⟩
        have hw2 := hw.symm
        subst hw2
        go_wp2
        go_roundw
        case rel => exact ⟨k + 1, _, D, by omega, by go_num, by rw [HDL.out]; omega, HE3, HS4⟩
        case measure => simp [intOf]; omega
      | true =>
        have HE3 : Hid (dnL ts i O = (O.drop (k + 1)).foldl (dnS ts i) (D ++ [(j : Int)])) := by show dnL ts i O = _; rw [HE2.out, HDS.out]; rfl
        go_wp2_with fail
        refine H4.mono ?_
        rintro e w5 ⟨rfl, hw⟩
        have hw2 := hw.symm
        subst hw2
        have cd := HS4.out.cd
        have HV : Hid (∀ o, DnS w nm cr fr up cu (.slice ao n cap) i bi bd ov O (w4.alloc o) (.slice da dl dc) D) := fun o => HS4.out.onW (ba (Below.refl _ _) _)
        have hs4 : w.heap.size ≤ w4.heap.size := HS4.out.bel.size
        have hbl : bd < w4.heap.size := blk_lt HS4.out.box
        clear H4
        go_wp2_with (at_builtin; refine append_recW _ w rfl (.tmp 23) (.tmp 25) 37 rfl w.heap.size 3 _ 8 underI info3 rfl _ D rfl (HV.out _).row (HV.out _).bel w4.heap.size 1 (j : Int) rfl (cell_int (by simp [go_sem])) (by rw [HDL.out]; omega) (by decide) (by simp; omega) ?_; intro v6 w6 ho6 hb6 hg6 hl6; obtain ⟨cd6, fd6, hs6⟩ := (HV.out _).more ho6 hg6 hl6; obtain ⟨a6, c6, e6⟩ := ho6.slice; subst e6; have HS6 : Hid (DnS w nm cr fr up cu (.slice ao n cap) i bi bd ov O (w6.setCell ⟨bd, 0, none⟩ (.slice a6 (D ++ [(j : Int)]).length c6)) (.slice a6 (D ++ [(j : Int)]).length c6) (D ++ [(j : Int)])) := hs6; clear hs6 ho6 hb6 hg6 hl6 cd; generalize hD6 : (D ++ [(j : Int)]).length = d6 at *)
        have hd6 : d6 ≤ k + 1 := by rw [← hD6, List.length_append, HDL.out]; show dl + 1 ≤ k + 1; omega
        go_wp2
        go_roundw
        case rel => exact ⟨k + 1, _, D ++ [(j : Int)], by omega, by go_num, by rw [hD6]; exact hd6, HE3, HS6⟩
        case measure => simp [intOf]; omega
    · have HE3 : Hid (dnL ts i O = D) := by show dnL ts i O = D; rw [HE.out, foldD_end (by rw [HOLE.out]; omega)]
      obtain ⟨kk, hkk⟩ := HS.out.some
      obtain ⟨c7, e7, -⟩ := some_at HS.out.row hkk
      injection e7 with e7 e9 e8; clear e9
      subst e7 e8
      have HSO : Hid (Calls Tryz.prog 79 #[.slice (some ⟨kk, 0, none⟩) dl dc] wr fun e w' => e = .returned (.tuple #[]) ∧ ownsR w' w.heap.size 3 (.slice (some ⟨kk, 0, none⟩) dl dc) (sortI D) ∧ Below w.heap.size w w' ∧ w'.cell? ⟨bd, 0, none⟩ = some (.slice (some ⟨kk, 0, none⟩) dl dc)) := by
        refine (sortN_any HS.out.row (by rw [HDL.out]; omega)).mono ?_
        rintro e w' ⟨rfl, h1, h2⟩
        have hne : kk ≠ bd := fun e => not_own HS.out.row HS.out.box (by decide) (by show some kk = _; rw [e])
        refine ⟨rfl, h1, HS.out.bel.grown h2 HS.out.bel.size fun q hq => by cases hq; exact (own_low HS.out.row hkk).1, ?_⟩
        have := (h2.block bd (blk_lt HS.out.box) (fun e => hne (Option.some.inj e).symm)).trans HS.out.box
        simp [World.cell?, this]
      have cd := HS.out.cd
      rw [HE3.out]
      clear HS HE hkk
      go_wp2_with fail
      refine HSO.out.mono ?_
      rintro e w5 ⟨rfl, h5, hb5, c5'⟩
      clear cd
      go_wp2
      go_ret
      exact ⟨_, rfl, by rw [HE3.out]; exact h5, hb5⟩
end Go.Proofs.YteefacjjdalncaaGreatDoor
