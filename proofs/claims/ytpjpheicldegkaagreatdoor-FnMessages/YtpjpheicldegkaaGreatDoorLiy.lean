/- Liy -/
import Derived.Test.YtpjpheicldegkaaGreatDoorLin
import Derived.Test.YtpjpheicldegkaaGreatDoorGM12
import Derived.Test.YtpjpheicldegkaaGreatDoorGM6
namespace Go.Proofs.YtpjpheicldegkaaGreatDoor
open Go Go.RowKit

theorem qod {P : Program} {l : List Oper} {Q : Exit → Act → World → Prop} {C : World → Prop} {R : Act → World → Prop} {L listed : Array Bool} {fuel i j : Nat} {o p : Oper} {a : Act} {w : World} (hr : Region.ready .any l.toArray listed = [i, j]) (ho : l[i]? = some o) (hp : l[j]? = some p) (hg : o.guard = none) (hgp : p.guard = none)
    (h : ∀ K : Act → World → Prop, Hid (∀ a' w', C w' → qhb P .any l.toArray Q C L R fuel (listed.setIfInBounds i true) a' w' → K a' w') → wpList P l.toArray (Exit.then K Q) [o] a w)
    (h' : ∀ K : Act → World → Prop, Hid (∀ a' w', C w' → qhb P .any l.toArray Q C L R fuel (listed.setIfInBounds j true) a' w' → K a' w') → wpList P l.toArray (Exit.then K Q) [p] a w) : qhb P .any l.toArray Q C L R (fuel + 1) listed a w := wpAnyU_two hr (by simpa using ho) (by simpa using hp) hg hgp h h'
theorem reads_store {w : World} {v : Value} {l : List ByteArray} {a : Addr} {ao : Option Addr} {n c : Nat} (h : Reads w v l) (ha : w.cell? a = some (.slice ao n c)) (u : Value) : Reads (w.setCell a u) v l := by
  obtain ⟨bo, cap, rfl, h⟩ := h
  refine ⟨bo, cap, rfl, fun hne => ?_⟩
  obtain ⟨b, o, rfl, hlt, hc⟩ := h hne
  refine ⟨b, o, rfl, by simpa [World.setCell] using hlt, fun i x hx j z hz => ?_⟩
  have h1 := hc i x hx j z hz
  have hz2 : z = .string x := by
    match j, hz with
    | 0, hz => simpa [Rec.cells] using hz.symm
    | j + 1, hz => simp [Rec.cells] at hz
  rw [World.cell?_setCell_other w a _ u (fun e => by rw [e, h1, hz2] at ha; cases ha)]
  exact h1
theorem tasks_one {w : World} {ks : List Tk} {ts : List Ta} (hl : ks.length = ts.length) (h : ∀ (i : Nat) (t : Ta), ts[i]? = some t → ∃ k : Tk, ks[i]? = some k ∧ OneT w k t) : ∀ x ∈ ks, ∀ u ∈ Rec.cells x, u.oneCell' = true := by
  intro x hx u hu
  obtain ⟨i, hi⟩ := List.getElem?_of_mem hx
  have hit : i < ts.length := by rw [← hl]; exact (List.getElem?_eq_some_iff.1 hi).1
  obtain ⟨k, hk, ho⟩ := h i _ (List.getElem?_eq_getElem hit)
  rw [hi] at hk
  cases hk
  obtain ⟨ao, cap, e, _⟩ := ho.after
  simp only [Rec.cells, List.mem_cons, List.not_mem_nil, or_false] at hu
  rcases hu with rfl | rfl | rfl | rfl | rfl
  · rfl
  · rfl
  · rfl
  · rfl
  · rw [e]; rfl
theorem qoc (w : World) (k : Tk) : Reads (w.alloc (.cells #[.string k.name, .string k.pool, .int .i64 k.ret, .bool k.past, k.after] 192)) (.slice (some ⟨w.heap.size, 0, none⟩) 1 1) [k] := by
  refine ⟨_, _, rfl, fun _ => ⟨w.heap.size, 0, rfl, by simp, fun i x hx j u hu => ?_⟩⟩
  match i, hx with
  | 0, hx =>
    simp only [List.getElem?_cons_zero, Option.some.injEq] at hx
    subst hx
    match j, hu with
    | 0, hu => cases hu; simp [go_sem]
    | 1, hu => cases hu; simp [go_sem]
    | 2, hu => cases hu; simp [go_sem]
    | 3, hu => cases hu; simp [go_sem]
    | 4, hu => cases hu; simp [go_sem]
    | j + 5, hu => simp [Rec.cells] at hu
  | i + 1, hx => simp at hx
theorem qfc {α : Type} [Rec α] {w w' : World} {r : Option Nat} {b o n c : Nat} {l : List α} (h : Reads w (.slice (some ⟨b, o, none⟩) n c) l) (hg : w.grownBy w' r) (hne : some b ≠ r) : Reads w' (.slice (some ⟨b, o, none⟩) n c) l := by
  obtain ⟨ao, cap, e, h⟩ := h
  refine ⟨ao, cap, e, fun hl => ?_⟩
  obtain ⟨b', o', rfl, hlt, hc⟩ := h hl
  simp only [Value.slice.injEq, Option.some.injEq, Addr.mk.injEq, and_true] at e
  obtain ⟨⟨rfl, rfl⟩, _⟩ := e
  exact ⟨b, o, rfl, Nat.lt_of_lt_of_le hlt hg.size, fun i x hx j u hu => (cell_block (hg.block b hlt hne)).trans (hc i x hx j u hu)⟩
theorem tk_made (w : World) (B : Nat) (hB : B ≤ w.heap.size) : ownsR (w.alloc (.cells #[] 192)) B 192 (.slice (some ⟨w.heap.size, 0, none⟩) 0 0) ([] : List Tk) := World.ownsRow_made w #[] 0 hB (by decide) (by simp)
theorem qeb : Tryz.prog.underlying 161 = some (.slice 192) := by kernel_rfl
theorem task_more {w w3 w6 : World} {g nt cap : Nat} {ao : Option Addr} {nm cr : ByteArray} {fr up : Int} {cu : Bool} {ts : List Ta} {ks : List Tk} {v6 : Value} {x : Tk} {t : Ta} (hd : D6 w g nm cr fr up cu (.slice ao nt cap)) (hl : ks.length = ts.length) (h : ∀ (i : Nat) (t : Ta), ts[i]? = some t → ∃ k : Tk, ks[i]? = some k ∧ OneT w k t) (hb3 : Below w.heap.size w w3) (hb6 : Below w3.heap.size w3 w6) (ho : ownsR w6 w3.heap.size 192 v6 (ks ++ [x])) (hx : OneT w6 x t) :
    D6 (w6.setCell ⟨g, 5, none⟩ v6) g nm cr fr up cu v6 ∧ Tasks (w6.setCell ⟨g, 5, none⟩ v6) v6 (ts ++ [t]) ∧ Save g w (w6.setCell ⟨g, 5, none⟩ v6) := by
  have hb : Below w.heap.size w w6 := Below.on hb3 hb6
  have hd6 := hd.on hb hd.lt
  have hgl := hd.lt
  have one : ∀ {k : Tk} {t : Ta}, OneT w6 k t → OneT (w6.setCell ⟨g, 5, none⟩ v6) k t := fun ho => ⟨ho.name, ho.pool, ho.ret, ho.past, reads_store ho.after hd6.c5 v6⟩
  refine ⟨hd6.s5 v6, ⟨ks ++ [x], (ho.qta (by show g < _; have := hb3.size; omega) _).reads, by simp [hl], fun i t' ht => ?_⟩, Save.setCell (p := ⟨g, 5, none⟩) (Save.of_below hb) rfl _⟩
  by_cases hi : i < ts.length
  · rw [List.getElem?_append_left hi] at ht
    obtain ⟨k, hk, hok⟩ := h i t' ht
    refine ⟨k, by rw [List.getElem?_append_left (by omega)]; exact hk, one ⟨hok.name, hok.pool, hok.ret, hok.past, hok.after.below hb⟩⟩
  · have hi2 : i = ts.length := by
      have := (List.getElem?_eq_some_iff.1 ht).1
      simp at this
      omega
    subst hi2
    simp only [List.getElem?_concat_length, Option.some.injEq] at ht
    subst ht
    refine ⟨x, by rw [← hl]; simp, one hx⟩
theorem qtb : (Tryz.prog.info? 192).map (fun i => (i.zero, i.size, i.bytes)) = some (some (.agg #[.string ⟨#[]⟩, .string ⟨#[]⟩, .int .i64 0, .bool false, .slice none 0 0]), 5, 72) := by kernel_rfl

set_option maxRecDepth 10000 in
set_option maxHeartbeats 8000000 in
theorem line_yes5 (g : Nat) (pv tv : Value) (nm cr : ByteArray) (fr up : Int) (cu : Bool) (ts : List Ta) (p0 p1 p2 p3 p4 : ByteArray) (w : World) (hp : Reads w pv [p0, p1, p2, p3, p4]) (hd : D6 w g nm cr fr up cu tv) (ht : Tasks w tv ts) (hn : ts.length ≤ 100000) (hs : ∀ s ∈ [p0, p1, p2, p3, p4], s.size ≤ 100000) (hyes : lineT ts p0 p1 p2 p3 p4 = true) :
    Calls Tryz.prog 113 #[.pointer (some ⟨g, 0, none⟩), pv] w fun e w' => e = .returned (.bool true) ∧ ∃ tv', D6 w' g nm cr fr up cu tv' ∧ Tasks w' tv' (ts ++ [⟨p1, p2, (rd p3).1, decide (p4 = ⟨#[112, 97, 115, 116]⟩), []⟩]) ∧ Save g w w' := by
  obtain ⟨po, pc, rfl, -⟩ := id hp
  obtain ⟨ao, cap, rfl⟩ := ht.slice
  obtain ⟨pb0, pp0, hq0, hlt0, c0⟩ := qka hp (k := 0) rfl
  subst hq0
  rw [Nat.add_zero] at c0
  obtain ⟨pb1, pp1, hq1, hlt1, c1⟩ := qka hp (k := 1) rfl
  simp only [Option.some.injEq, Addr.mk.injEq, and_true] at hq1
  obtain ⟨e1, e2⟩ := hq1
  subst e1 e2
  obtain ⟨pb2, pp2, hq2, hlt2, c2⟩ := qka hp (k := 2) rfl
  simp only [Option.some.injEq, Addr.mk.injEq, and_true] at hq2
  obtain ⟨e1, e2⟩ := hq2
  subst e1 e2
  obtain ⟨pb3, pp3, hq3, hlt3, c3⟩ := qka hp (k := 3) rfl
  simp only [Option.some.injEq, Addr.mk.injEq, and_true] at hq3
  obtain ⟨e1, e2⟩ := hq3
  subst e1 e2
  obtain ⟨pb4, pp4, hq4, hlt4, c4⟩ := qka hp (k := 4) rfl
  simp only [Option.some.injEq, Addr.mk.injEq, and_true] at hq4
  obtain ⟨e1, e2⟩ := hq4
  subst e1 e2
  have c5g := hd.c5
  have hgl := hd.lt
  have HD : Hid (D6 w g nm cr fr up cu (.slice ao ts.length cap)) := hd
  have HTS : Hid (Tasks w (.slice ao ts.length cap) ts) := ht
  unfold lineT at hyes
  simp only [Bool.and_eq_true, Bool.or_eq_true, decide_eq_true_eq, Bool.not_eq_true', decide_eq_false_iff_not] at hyes
  obtain ⟨h0, h1, h2, h3, h4, h5, h6, h7⟩ := hyes
  have HNA : Hid (∀ W, Calls Tryz.prog 102 #[.string p1] W fun e w' => e = .returned (.bool true) ∧ w' = W) := by intro W; rw [← h3]; exact qib p1 W (by have := hs p1 (by simp); omega)
  obtain ⟨A, HA⟩ : ∃ A, Hid (atN ts p1 = A) := ⟨_, rfl⟩
  obtain ⟨PN, HPN⟩ : ∃ A, Hid (poolN p2 = A) := ⟨_, rfl⟩
  obtain ⟨rn, HRN⟩ : ∃ A, Hid ((rd p3).1 = A) := ⟨_, rfl⟩
  have HAT : Hid (∀ x : Wd w, Calls Tryz.prog 123 #[.slice ao ts.length cap, .string p1] x.at' fun e w' => e = .returned (.int .i64 A) ∧ w' = x.at') := by intro x; rw [← HA.out]; exact qzd p1 (ht.below x.ok) (by omega)
  have HPO : Hid (∀ W, Calls Tryz.prog 124 #[.string p2] W fun e w' => e = .returned (.int .i64 PN) ∧ w' = W) := by intro W; rw [← HPN.out]; exact qcd p2 W
  have HRD : Hid (∀ W, Calls Tryz.prog 122 #[.string p3] W fun e w' => e = .returned (.tuple #[.int .i64 rn, .bool true]) ∧ Below W.heap.size W w') := by intro W; have := qla p3 W (by have := hs p3 (by simp); omega); rw [h6, HRN.out] at this; exact this
  rw [HA.out] at h4
  rw [HPN.out] at h5
  rw [HRN.out] at h7
  rw [HRN.out]
  have hr0 : 0 ≤ rn := by rw [← HRN.out]; exact (rd_bd p3).1
  have e0 : (p0.toList == [116, 97, 115, 107]) = true := by rw [← qie]; exact eq_list h0
  have g4 : decide (0 ≤ A) = false := decide_eq_false (by omega)
  have e5 : (PN == 0) = false := beq_eq_false_iff_ne.2 h5
  have hfp : ((p4.toList == [102, 114, 101, 101]) = true ∧ (p4.toList == [112, 97, 115, 116]) = false ∧ decide (p4 = ⟨#[112, 97, 115, 116]⟩) = false) ∨ ((p4.toList == [102, 114, 101, 101]) = false ∧ (p4.toList == [112, 97, 115, 116]) = true ∧ decide (p4 = ⟨#[112, 97, 115, 116]⟩) = true) := by
    rcases h2 with e | e
    · left; subst e; exact ⟨by rw [qtc]; rfl, by rw [qtc]; rfl, by decide⟩
    · right; subst e; exact ⟨by rw [qyb]; rfl, by rw [qyb]; rfl, by decide⟩
  obtain ⟨nt, HNT⟩ : ∃ nt, Hid (ts.length = nt) := ⟨_, rfl⟩
  have e1 : ((nt : Int) == 4) = false := by rw [← HNT.out]; exact beq_eq_false_iff_ne.2 (by omega)
  rw [HNT.out] at HAT hn c5g HD HTS
  obtain ⟨pa, HPA⟩ : ∃ pa, Hid (decide (p4 = ⟨#[112, 97, 115, 116]⟩) = pa) := ⟨_, rfl⟩
  rw [HPA.out] at hfp ⊢
  clear HA HPN HRN HPA h0 h1 h2 h3 h5 h6 hs hp ht hd
  have q5 := Wd.cell c5g
  have k0 := Wd.cell c0
  have k1 := Wd.cell c1
  have k2 := Wd.cell c2
  have k3 := Wd.cell c3
  have k4 := Wd.cell c4
  rcases hfp with ⟨e2, e3, e9⟩ | ⟨e2, e3, e9⟩
  · subst e9
    go_enter Tryz.func113, Tryz.ntmps113
    go_wp2
    refine qba (by kernel_rfl) (by kernel_rfl) ?_
    repeat (go_big_quiet_step (first | (go_at_call 102; refine qaa (v := .bool true) ?_; with_reducible exact HNA.out _) | (go_at_call 123; refine qaa (v := .int .i64 A) ?_; with_reducible exact HAT.out _) | (go_at_call 124; refine qaa (v := .int .i64 PN) ?_; with_reducible exact HPO.out _)))
    refine wpQuiet_nil ?_
    rintro _ ⟨x, rfl⟩
    have m3 := Wd.cell c3 x
    go_wp2_with fail
    refine (HRD.out _).mono ?_
    rintro e w2 ⟨rfl, hb2⟩
    have B2 := Below.on x.ok hb2
    have d1 := (B2.cell hlt0).trans c1
    have d2 := (B2.cell hlt0).trans c2
    have d4 := (B2.cell hlt0).trans c4
    clear q5 k0 k1 k2 k3 k4 m3 hb2 HNA HAT HPO HRD
    clear x
    go_wp2
    have j1 := Wd.cell d1
    have j2 := Wd.cell d2
    have j4 := Wd.cell d4
    refine qha (fun w' => ∃ x : Wd w2, w' = x.at') [0, 1, 2, 3, 4, 5, 6, 7, 8, 9, 10, 11] 13 1 (by kernel_rfl) (by decide) (by decide) (by kernel_rfl) (fun _ _ d _ _ h => by cases d <;> exact h) ⟨⟨w2.drew, (Below.refl _ _).drew⟩, rfl⟩ ?_
    repeat (refine qea rfl (by first | (intro x h; cases h; done) | (intro x h; cases h; exact ⟨_, rfl⟩)) ?_; go_big_quiet_step (fail); refine wpQuiet_nil ?_)
    refine qda ?_
    refine qfa (fuel := 0) (i := 12) (by kernel_rfl) rfl rfl ?_
    intro K hK
    go_wp2
    refine hK.out _ _ ⟨⟨_, ba ((Below.refl _ w2).drew) _⟩, rfl⟩ ⟨by kernel_rfl, ?_⟩
    simp only [List.drop_succ_cons, List.drop_zero]
    go_wp2
    obtain ⟨W3, hW3⟩ : ∃ W3, (w2.alloc (.cells #[.string p1, .string p2, .int .i64 rn, .bool false, .slice none 0 0] 192)).drew = W3 := ⟨_, rfl⟩
    have B3 : Below w.heap.size w W3 := by rw [← hW3]; exact (ba B2 _).drew
    have x0 : W3.cell? ⟨w2.heap.size, 0, none⟩ = some (.string p1) := by rw [← hW3]; simp [go_sem]
    have x1 : W3.cell? ⟨w2.heap.size, 1, none⟩ = some (.string p2) := by rw [← hW3]; simp [go_sem]
    have x2 : W3.cell? ⟨w2.heap.size, 2, none⟩ = some (.int .i64 rn) := by rw [← hW3]; simp [go_sem]
    have x3 : W3.cell? ⟨w2.heap.size, 3, none⟩ = some (.bool false) := by rw [← hW3]; simp [go_sem]
    have x4 : W3.cell? ⟨w2.heap.size, 4, none⟩ = some (.slice none 0 0) := by rw [← hW3]; simp [go_sem]
    have y5 := (B3.cell (p := ⟨g, 5, none⟩) hgl).trans c5g
    rw [hW3]
    clear hW3 d1 d2 d4 j1 j2 j4 B2 K hK
    obtain ⟨ks, hks, hkl, hko⟩ := HTS.out
    have HKS : Hid (∀ W, Below W3.heap.size W3 W → Reads W (.slice ao nt cap) ks) := fun W hb => hks.below (Below.on B3 hb)
    have HK1 : Hid (∀ x ∈ ks, ∀ u ∈ Rec.cells x, u.oneCell' = true) := tasks_one hkl hko
    have HKL : Hid (([] : List Tk).length + ks.length ≤ 1048577) := by show _ ≤ _; rw [hkl, HNT.out]; simp; omega
    have HKL2 : Hid (ks.length + [Tk.mk p1 p2 rn false (.slice none 0 0)].length ≤ 1048577) := by show _ ≤ _; rw [hkl, HNT.out]; simp; omega
    have HX1 : Hid (∀ x ∈ [Tk.mk p1 p2 rn false (.slice none 0 0)], ∀ u ∈ Rec.cells x, u.oneCell' = true) := by
      intro x hx u hu
      simp only [List.mem_singleton] at hx
      subst hx
      simp only [Rec.cells, List.mem_cons, List.not_mem_nil, or_false] at hu
      rcases hu with rfl | rfl | rfl | rfl | rfl <;> rfl
    have HEND : Hid (∀ w6 v6, ownsR w6 W3.heap.size 192 v6 (ks ++ [Tk.mk p1 p2 rn false (.slice none 0 0)]) → Below W3.heap.size W3 w6 → D6 (w6.setCell ⟨g, 5, none⟩ v6) g nm cr fr up cu v6 ∧ Tasks (w6.setCell ⟨g, 5, none⟩ v6) v6 (ts ++ [⟨p1, p2, rn, false, []⟩]) ∧ Save g w (w6.setCell ⟨g, 5, none⟩ v6)) := fun w6 v6 ho hb => task_more HD.out hkl hko B3 hb ho ⟨rfl, rfl, rfl, rfl, reads_none _ _ _⟩
    have HC5 : Hid (∀ w6, Below W3.heap.size W3 w6 → w6.cell? ⟨g, 5, none⟩ = some (.slice ao nt cap) ∧ w6.frozen? ⟨g, 5, none⟩ = false) := fun w6 hb => by
      have h := HD.out.on (Below.on B3 hb) hgl
      exact ⟨h.c5, h.fz 5⟩
    have hg3 : g < W3.heap.size := Nat.lt_of_lt_of_le hgl B3.size
    clear hks hkl hko HTS HD
    have z0 := Wd.cell x0
    have z1 := Wd.cell x1
    have z2 := Wd.cell x2
    have z3 := Wd.cell x3
    have z4 := Wd.cell x4
    have z5 := Wd.cell y5
    refine qha (fun w' => ∃ x : Wd W3, w' = x.at') [0, 2, 3, 4, 5, 7] 10 4 (by kernel_rfl) (by decide) (by decide) (by kernel_rfl) (fun _ _ d _ _ h => by cases d <;> exact h) ⟨⟨W3.drew, (Below.refl _ _).drew⟩, rfl⟩ ?_
    repeat (refine qea rfl (by first | (intro x h; cases h; done) | (intro x h; cases h; exact ⟨_, rfl⟩)) ?_; go_big_quiet_step (fail); refine wpQuiet_nil ?_)
    refine qda ?_
    clear z0 z1 z2 z3 z4 z5
    have BD : Below W3.heap.size W3 W3.drew := (Below.refl _ _).drew
    refine qod (fuel := 3) (i := 1) (j := 8) (by kernel_rfl) rfl rfl rfl rfl ?_ ?_
    · intro K hK
      go_wp2
      obtain ⟨V1, hV1⟩ : ∃ V, (W3.alloc (.cells #[] 192)).drew = V := ⟨_, rfl⟩
      have BV1 : Below W3.heap.size W3 V1 := by rw [← hV1]; exact (ba (Below.refl _ _) _).drew
      have hsV1 : Hid (V1.heap.size = W3.heap.size + 1) := by show _ = _; rw [← hV1]; show (W3.alloc _).heap.size = _; simp
      have own : ownsR V1 W3.heap.size 192 (.slice (some ⟨W3.heap.size, 0, none⟩) 0 0) ([] : List Tk) := by rw [← hV1]; exact (tk_made W3 _ (Nat.le_refl _)).drew
      rw [hV1]
      clear hV1
      refine hK.out _ _ ⟨⟨V1, BV1⟩, rfl⟩ ?_
      clear hK K
      refine qod (fuel := 2) (i := 6) (j := 8) (by kernel_rfl) rfl rfl rfl rfl ?_ ?_
      · intro K hK
        go_wp2_with (at_builtin; refine qca rfl (.tmp 109) (.tmp 113) 161 rfl W3.heap.size 192 _ 72 qeb qtb rfl _ (.slice ao nt cap) ([] : List Tk) ks rfl rfl own (HKS.out _ BV1) HK1.out HKL.out (by decide) BV1.size ?_; intro v5 V2 ho5 hg5)
        have BV2 : Below W3.heap.size W3 V2 := BV1.grown hg5 BV1.size fun k hk => (own.lt k hk).1
        rw [List.nil_append] at ho5
        go_wp2
        refine hK.out _ _ ⟨⟨V2, BV2⟩, rfl⟩ ?_
        clear hK K hg5 own
        refine qfa (fuel := 1) (i := 8) (by kernel_rfl) rfl rfl ?_
        intro K hK
        go_wp2
        obtain ⟨V3, hV3⟩ : ∃ V, V2.alloc (.cells #[.string p1, .string p2, .int .i64 rn, .bool false, .slice none 0 0] 192) = V := ⟨_, rfl⟩
        have BV3 : Below W3.heap.size W3 V3 := by rw [← hV3]; exact BV2.alloc BV2.size _
        have hsV3 : Hid (V3.heap.size = V2.heap.size + 1) := by show _ = _; rw [← hV3]; show (V2.alloc _).heap.size = _; simp
        have bt : Reads V3 (.slice (some ⟨V2.heap.size, 0, none⟩) 1 1) [(Tk.mk p1 p2 rn false (.slice none 0 0))] := by rw [← hV3]; exact (qoc V2 (Tk.mk p1 p2 rn false (.slice none 0 0)))
        replace ho5 : ownsR V3 W3.heap.size 192 v5 ks := by rw [← hV3]; exact ho5.alloc _
        rw [hV3]
        clear hV3
        refine hK.out _ _ ⟨⟨V3, BV3⟩, rfl⟩ ?_
        clear hK K
        refine qfa (fuel := 0) (i := 9) (by kernel_rfl) rfl rfl ?_
        intro K hK
        go_wp2_with (at_builtin; refine qca rfl (.tmp 114) (.tmp 116) 161 rfl W3.heap.size 192 _ 72 qeb qtb rfl _ _ ks [(Tk.mk p1 p2 rn false (.slice none 0 0))] rfl rfl ho5 bt HX1.out HKL2.out (by decide) BV3.size ?_; intro v6 V4 ho6 hg6)
        have BV4 : Below W3.heap.size W3 V4 := BV3.grown hg6 BV3.size fun k hk => (ho5.lt k hk).1
        go_wp2
        refine hK.out _ _ ⟨⟨V4, BV4⟩, rfl⟩ ?_
        clear hK K hg6 ho5 bt
        refine qoa (by kernel_rfl) ?_
        simp only [List.drop_succ_cons, List.drop_zero]
        obtain ⟨a6, c6, e6⟩ := ho6.slice
        obtain ⟨n6, hn6⟩ : ∃ n, (ks ++ [Tk.mk p1 p2 rn false (.slice none 0 0)]).length = n := ⟨_, rfl⟩
        rw [hn6] at e6
        clear hn6
        subst e6
        have r5 := (HC5.out V4 BV4).1
        have r6 := (HC5.out V4 BV4).2
        go_wp2
        go_ret
        exact ⟨rfl, _, HEND.out V4 _ ho6 BV4⟩
      · intro K hK
        go_wp2
        obtain ⟨V2, hV2⟩ : ∃ V, V1.alloc (.cells #[.string p1, .string p2, .int .i64 rn, .bool false, .slice none 0 0] 192) = V := ⟨_, rfl⟩
        have BV2 : Below W3.heap.size W3 V2 := by rw [← hV2]; exact BV1.alloc BV1.size _
        have hsV2 : Hid (V2.heap.size = V1.heap.size + 1) := by show _ = _; rw [← hV2]; show (V1.alloc _).heap.size = _; simp
        have bt : Reads V2 (.slice (some ⟨V1.heap.size, 0, none⟩) 1 1) [(Tk.mk p1 p2 rn false (.slice none 0 0))] := by rw [← hV2]; exact (qoc V1 (Tk.mk p1 p2 rn false (.slice none 0 0)))
        replace own : ownsR V2 W3.heap.size 192 (.slice (some ⟨W3.heap.size, 0, none⟩) 0 0) ([] : List Tk) := by rw [← hV2]; exact own.alloc _
        rw [hV2]
        clear hV2
        refine hK.out _ _ ⟨⟨V2, BV2⟩, rfl⟩ ?_
        clear hK K
        refine qfa (fuel := 1) (i := 6) (by kernel_rfl) rfl rfl ?_
        intro K hK
        go_wp2_with (at_builtin; refine qca rfl (.tmp 109) (.tmp 113) 161 rfl W3.heap.size 192 _ 72 qeb qtb rfl _ (.slice ao nt cap) ([] : List Tk) ks rfl rfl own (HKS.out _ BV2) HK1.out HKL.out (by decide) BV2.size ?_; intro v5 V3 ho5 hg5)
        have BV3 : Below W3.heap.size W3 V3 := BV2.grown hg5 BV2.size fun k hk => (own.lt k hk).1
        rw [List.nil_append] at ho5
        replace bt := qfc bt hg5 (fun e => by have e' : V1.heap.size = W3.heap.size := Option.some.inj e; have := hsV1.out; omega)
        go_wp2
        refine hK.out _ _ ⟨⟨V3, BV3⟩, rfl⟩ ?_
        clear hK K hg5 own
        refine qfa (fuel := 0) (i := 9) (by kernel_rfl) rfl rfl ?_
        intro K hK
        go_wp2_with (at_builtin; refine qca rfl (.tmp 114) (.tmp 116) 161 rfl W3.heap.size 192 _ 72 qeb qtb rfl _ _ ks [(Tk.mk p1 p2 rn false (.slice none 0 0))] rfl rfl ho5 bt HX1.out HKL2.out (by decide) BV3.size ?_; intro v6 V4 ho6 hg6)
        have BV4 : Below W3.heap.size W3 V4 := BV3.grown hg6 BV3.size fun k hk => (ho5.lt k hk).1
        go_wp2
        refine hK.out _ _ ⟨⟨V4, BV4⟩, rfl⟩ ?_
        clear hK K hg6 ho5 bt
        refine qoa (by kernel_rfl) ?_
        simp only [List.drop_succ_cons, List.drop_zero]
        obtain ⟨a6, c6, e6⟩ := ho6.slice
        obtain ⟨n6, hn6⟩ : ∃ n, (ks ++ [Tk.mk p1 p2 rn false (.slice none 0 0)]).length = n := ⟨_, rfl⟩
        rw [hn6] at e6
        clear hn6
        subst e6
        have r5 := (HC5.out V4 BV4).1
        have r6 := (HC5.out V4 BV4).2
        go_wp2
        go_ret
        exact ⟨rfl, _, HEND.out V4 _ ho6 BV4⟩
    · intro K hK
      go_wp2
      obtain ⟨V1, hV1⟩ : ∃ V, (W3.alloc (.cells #[.string p1, .string p2, .int .i64 rn, .bool false, .slice none 0 0] 192)).drew = V := ⟨_, rfl⟩
      have BV1 : Below W3.heap.size W3 V1 := by rw [← hV1]; exact (ba (Below.refl _ _) _).drew
      have hsV1 : Hid (V1.heap.size = W3.heap.size + 1) := by show _ = _; rw [← hV1]; show (W3.alloc _).heap.size = _; simp
      have bt : Reads V1 (.slice (some ⟨W3.heap.size, 0, none⟩) 1 1) [(Tk.mk p1 p2 rn false (.slice none 0 0))] := by rw [← hV1]; exact (qoc W3 (Tk.mk p1 p2 rn false (.slice none 0 0))).drew
      rw [hV1]
      clear hV1
      refine hK.out _ _ ⟨⟨V1, BV1⟩, rfl⟩ ?_
      clear hK K
      refine qfa (fuel := 2) (i := 1) (by kernel_rfl) rfl rfl ?_
      intro K hK
      go_wp2
      obtain ⟨V2, hV2⟩ : ∃ V, V1.alloc (.cells #[] 192) = V := ⟨_, rfl⟩
      have BV2 : Below W3.heap.size W3 V2 := by rw [← hV2]; exact BV1.alloc BV1.size _
      have hsV2 : Hid (V2.heap.size = V1.heap.size + 1) := by show _ = _; rw [← hV2]; show (V1.alloc _).heap.size = _; simp
      have own : ownsR V2 W3.heap.size 192 (.slice (some ⟨V1.heap.size, 0, none⟩) 0 0) ([] : List Tk) := by rw [← hV2]; exact (tk_made V1 _ BV1.size)
      replace bt : Reads V2 (.slice (some ⟨W3.heap.size, 0, none⟩) 1 1) [(Tk.mk p1 p2 rn false (.slice none 0 0))] := by rw [← hV2]; exact bt.alloc _
      rw [hV2]
      clear hV2
      refine hK.out _ _ ⟨⟨V2, BV2⟩, rfl⟩ ?_
      clear hK K
      refine qfa (fuel := 1) (i := 6) (by kernel_rfl) rfl rfl ?_
      intro K hK
      go_wp2_with (at_builtin; refine qca rfl (.tmp 109) (.tmp 113) 161 rfl W3.heap.size 192 _ 72 qeb qtb rfl _ (.slice ao nt cap) ([] : List Tk) ks rfl rfl own (HKS.out _ BV2) HK1.out HKL.out (by decide) BV2.size ?_; intro v5 V3 ho5 hg5)
      have BV3 : Below W3.heap.size W3 V3 := BV2.grown hg5 BV2.size fun k hk => (own.lt k hk).1
      rw [List.nil_append] at ho5
      replace bt := qfc bt hg5 (fun e => by have e' : W3.heap.size = V1.heap.size := Option.some.inj e; have := hsV1.out; omega)
      go_wp2
      refine hK.out _ _ ⟨⟨V3, BV3⟩, rfl⟩ ?_
      clear hK K hg5 own
      refine qfa (fuel := 0) (i := 9) (by kernel_rfl) rfl rfl ?_
      intro K hK
      go_wp2_with (at_builtin; refine qca rfl (.tmp 114) (.tmp 116) 161 rfl W3.heap.size 192 _ 72 qeb qtb rfl _ _ ks [(Tk.mk p1 p2 rn false (.slice none 0 0))] rfl rfl ho5 bt HX1.out HKL2.out (by decide) BV3.size ?_; intro v6 V4 ho6 hg6)
      have BV4 : Below W3.heap.size W3 V4 := BV3.grown hg6 BV3.size fun k hk => (ho5.lt k hk).1
      go_wp2
      refine hK.out _ _ ⟨⟨V4, BV4⟩, rfl⟩ ?_
      clear hK K hg6 ho5 bt
      refine qoa (by kernel_rfl) ?_
      simp only [List.drop_succ_cons, List.drop_zero]
      obtain ⟨a6, c6, e6⟩ := ho6.slice
      obtain ⟨n6, hn6⟩ : ∃ n, (ks ++ [Tk.mk p1 p2 rn false (.slice none 0 0)]).length = n := ⟨_, rfl⟩
      rw [hn6] at e6
      clear hn6
      subst e6
      have r5 := (HC5.out V4 BV4).1
      have r6 := (HC5.out V4 BV4).2
      go_wp2
      go_ret
      exact ⟨rfl, _, HEND.out V4 _ ho6 BV4⟩
  · subst e9
    go_enter Tryz.func113, Tryz.ntmps113
    go_wp2
    refine qba (by kernel_rfl) (by kernel_rfl) ?_
    repeat (go_big_quiet_step (first | (go_at_call 102; refine qaa (v := .bool true) ?_; with_reducible exact HNA.out _) | (go_at_call 123; refine qaa (v := .int .i64 A) ?_; with_reducible exact HAT.out _) | (go_at_call 124; refine qaa (v := .int .i64 PN) ?_; with_reducible exact HPO.out _)))
    refine wpQuiet_nil ?_
    rintro _ ⟨x, rfl⟩
    have m3 := Wd.cell c3 x
    go_wp2_with fail
    refine (HRD.out _).mono ?_
    rintro e w2 ⟨rfl, hb2⟩
    have B2 := Below.on x.ok hb2
    have d1 := (B2.cell hlt0).trans c1
    have d2 := (B2.cell hlt0).trans c2
    have d4 := (B2.cell hlt0).trans c4
    clear q5 k0 k1 k2 k3 k4 m3 hb2 HNA HAT HPO HRD
    clear x
    go_wp2
    have j1 := Wd.cell d1
    have j2 := Wd.cell d2
    have j4 := Wd.cell d4
    refine qha (fun w' => ∃ x : Wd w2, w' = x.at') [0, 1, 2, 3, 4, 5, 6, 7, 8, 9, 10, 11] 13 1 (by kernel_rfl) (by decide) (by decide) (by kernel_rfl) (fun _ _ d _ _ h => by cases d <;> exact h) ⟨⟨w2.drew, (Below.refl _ _).drew⟩, rfl⟩ ?_
    repeat (refine qea rfl (by first | (intro x h; cases h; done) | (intro x h; cases h; exact ⟨_, rfl⟩)) ?_; go_big_quiet_step (fail); refine wpQuiet_nil ?_)
    refine qda ?_
    refine qfa (fuel := 0) (i := 12) (by kernel_rfl) rfl rfl ?_
    intro K hK
    go_wp2
    refine hK.out _ _ ⟨⟨_, ba ((Below.refl _ w2).drew) _⟩, rfl⟩ ⟨by kernel_rfl, ?_⟩
    simp only [List.drop_succ_cons, List.drop_zero]
    go_wp2
    obtain ⟨W3, hW3⟩ : ∃ W3, (w2.alloc (.cells #[.string p1, .string p2, .int .i64 rn, .bool true, .slice none 0 0] 192)).drew = W3 := ⟨_, rfl⟩
    have B3 : Below w.heap.size w W3 := by rw [← hW3]; exact (ba B2 _).drew
    have x0 : W3.cell? ⟨w2.heap.size, 0, none⟩ = some (.string p1) := by rw [← hW3]; simp [go_sem]
    have x1 : W3.cell? ⟨w2.heap.size, 1, none⟩ = some (.string p2) := by rw [← hW3]; simp [go_sem]
    have x2 : W3.cell? ⟨w2.heap.size, 2, none⟩ = some (.int .i64 rn) := by rw [← hW3]; simp [go_sem]
    have x3 : W3.cell? ⟨w2.heap.size, 3, none⟩ = some (.bool true) := by rw [← hW3]; simp [go_sem]
    have x4 : W3.cell? ⟨w2.heap.size, 4, none⟩ = some (.slice none 0 0) := by rw [← hW3]; simp [go_sem]
    have y5 := (B3.cell (p := ⟨g, 5, none⟩) hgl).trans c5g
    rw [hW3]
    clear hW3 d1 d2 d4 j1 j2 j4 B2 K hK
    obtain ⟨ks, hks, hkl, hko⟩ := HTS.out
    have HKS : Hid (∀ W, Below W3.heap.size W3 W → Reads W (.slice ao nt cap) ks) := fun W hb => hks.below (Below.on B3 hb)
    have HK1 : Hid (∀ x ∈ ks, ∀ u ∈ Rec.cells x, u.oneCell' = true) := tasks_one hkl hko
    have HKL : Hid (([] : List Tk).length + ks.length ≤ 1048577) := by show _ ≤ _; rw [hkl, HNT.out]; simp; omega
    have HKL2 : Hid (ks.length + [Tk.mk p1 p2 rn true (.slice none 0 0)].length ≤ 1048577) := by show _ ≤ _; rw [hkl, HNT.out]; simp; omega
    have HX1 : Hid (∀ x ∈ [Tk.mk p1 p2 rn true (.slice none 0 0)], ∀ u ∈ Rec.cells x, u.oneCell' = true) := by
      intro x hx u hu
      simp only [List.mem_singleton] at hx
      subst hx
      simp only [Rec.cells, List.mem_cons, List.not_mem_nil, or_false] at hu
      rcases hu with rfl | rfl | rfl | rfl | rfl <;> rfl
    have HEND : Hid (∀ w6 v6, ownsR w6 W3.heap.size 192 v6 (ks ++ [Tk.mk p1 p2 rn true (.slice none 0 0)]) → Below W3.heap.size W3 w6 → D6 (w6.setCell ⟨g, 5, none⟩ v6) g nm cr fr up cu v6 ∧ Tasks (w6.setCell ⟨g, 5, none⟩ v6) v6 (ts ++ [⟨p1, p2, rn, true, []⟩]) ∧ Save g w (w6.setCell ⟨g, 5, none⟩ v6)) := fun w6 v6 ho hb => task_more HD.out hkl hko B3 hb ho ⟨rfl, rfl, rfl, rfl, reads_none _ _ _⟩
    have HC5 : Hid (∀ w6, Below W3.heap.size W3 w6 → w6.cell? ⟨g, 5, none⟩ = some (.slice ao nt cap) ∧ w6.frozen? ⟨g, 5, none⟩ = false) := fun w6 hb => by
      have h := HD.out.on (Below.on B3 hb) hgl
      exact ⟨h.c5, h.fz 5⟩
    have hg3 : g < W3.heap.size := Nat.lt_of_lt_of_le hgl B3.size
    clear hks hkl hko HTS HD
    have z0 := Wd.cell x0
    have z1 := Wd.cell x1
    have z2 := Wd.cell x2
    have z3 := Wd.cell x3
    have z4 := Wd.cell x4
    have z5 := Wd.cell y5
    refine qha (fun w' => ∃ x : Wd W3, w' = x.at') [0, 2, 3, 4, 5, 7] 10 4 (by kernel_rfl) (by decide) (by decide) (by kernel_rfl) (fun _ _ d _ _ h => by cases d <;> exact h) ⟨⟨W3.drew, (Below.refl _ _).drew⟩, rfl⟩ ?_
    repeat (refine qea rfl (by first | (intro x h; cases h; done) | (intro x h; cases h; exact ⟨_, rfl⟩)) ?_; go_big_quiet_step (fail); refine wpQuiet_nil ?_)
    refine qda ?_
    clear z0 z1 z2 z3 z4 z5
    have BD : Below W3.heap.size W3 W3.drew := (Below.refl _ _).drew
    refine qod (fuel := 3) (i := 1) (j := 8) (by kernel_rfl) rfl rfl rfl rfl ?_ ?_
    · intro K hK
      go_wp2
      obtain ⟨V1, hV1⟩ : ∃ V, (W3.alloc (.cells #[] 192)).drew = V := ⟨_, rfl⟩
      have BV1 : Below W3.heap.size W3 V1 := by rw [← hV1]; exact (ba (Below.refl _ _) _).drew
      have hsV1 : Hid (V1.heap.size = W3.heap.size + 1) := by show _ = _; rw [← hV1]; show (W3.alloc _).heap.size = _; simp
      have own : ownsR V1 W3.heap.size 192 (.slice (some ⟨W3.heap.size, 0, none⟩) 0 0) ([] : List Tk) := by rw [← hV1]; exact (tk_made W3 _ (Nat.le_refl _)).drew
      rw [hV1]
      clear hV1
      refine hK.out _ _ ⟨⟨V1, BV1⟩, rfl⟩ ?_
      clear hK K
      refine qod (fuel := 2) (i := 6) (j := 8) (by kernel_rfl) rfl rfl rfl rfl ?_ ?_
      · intro K hK
        go_wp2_with (at_builtin; refine qca rfl (.tmp 109) (.tmp 113) 161 rfl W3.heap.size 192 _ 72 qeb qtb rfl _ (.slice ao nt cap) ([] : List Tk) ks rfl rfl own (HKS.out _ BV1) HK1.out HKL.out (by decide) BV1.size ?_; intro v5 V2 ho5 hg5)
        have BV2 : Below W3.heap.size W3 V2 := BV1.grown hg5 BV1.size fun k hk => (own.lt k hk).1
        rw [List.nil_append] at ho5
        go_wp2
        refine hK.out _ _ ⟨⟨V2, BV2⟩, rfl⟩ ?_
        clear hK K hg5 own
        refine qfa (fuel := 1) (i := 8) (by kernel_rfl) rfl rfl ?_
        intro K hK
        go_wp2
        obtain ⟨V3, hV3⟩ : ∃ V, V2.alloc (.cells #[.string p1, .string p2, .int .i64 rn, .bool true, .slice none 0 0] 192) = V := ⟨_, rfl⟩
        have BV3 : Below W3.heap.size W3 V3 := by rw [← hV3]; exact BV2.alloc BV2.size _
        have hsV3 : Hid (V3.heap.size = V2.heap.size + 1) := by show _ = _; rw [← hV3]; show (V2.alloc _).heap.size = _; simp
        have bt : Reads V3 (.slice (some ⟨V2.heap.size, 0, none⟩) 1 1) [(Tk.mk p1 p2 rn true (.slice none 0 0))] := by rw [← hV3]; exact (qoc V2 (Tk.mk p1 p2 rn true (.slice none 0 0)))
        replace ho5 : ownsR V3 W3.heap.size 192 v5 ks := by rw [← hV3]; exact ho5.alloc _
        rw [hV3]
        clear hV3
        refine hK.out _ _ ⟨⟨V3, BV3⟩, rfl⟩ ?_
        clear hK K
        refine qfa (fuel := 0) (i := 9) (by kernel_rfl) rfl rfl ?_
        intro K hK
        go_wp2_with (at_builtin; refine qca rfl (.tmp 114) (.tmp 116) 161 rfl W3.heap.size 192 _ 72 qeb qtb rfl _ _ ks [(Tk.mk p1 p2 rn true (.slice none 0 0))] rfl rfl ho5 bt HX1.out HKL2.out (by decide) BV3.size ?_; intro v6 V4 ho6 hg6)
        have BV4 : Below W3.heap.size W3 V4 := BV3.grown hg6 BV3.size fun k hk => (ho5.lt k hk).1
        go_wp2
        refine hK.out _ _ ⟨⟨V4, BV4⟩, rfl⟩ ?_
        clear hK K hg6 ho5 bt
        refine qoa (by kernel_rfl) ?_
        simp only [List.drop_succ_cons, List.drop_zero]
        obtain ⟨a6, c6, e6⟩ := ho6.slice
        obtain ⟨n6, hn6⟩ : ∃ n, (ks ++ [Tk.mk p1 p2 rn true (.slice none 0 0)]).length = n := ⟨_, rfl⟩
        rw [hn6] at e6
        clear hn6
        subst e6
        have r5 := (HC5.out V4 BV4).1
        have r6 := (HC5.out V4 BV4).2
        go_wp2
        go_ret
        exact ⟨rfl, _, HEND.out V4 _ ho6 BV4⟩
      · intro K hK
        go_wp2
        obtain ⟨V2, hV2⟩ : ∃ V, V1.alloc (.cells #[.string p1, .string p2, .int .i64 rn, .bool true, .slice none 0 0] 192) = V := ⟨_, rfl⟩
        have BV2 : Below W3.heap.size W3 V2 := by rw [← hV2]; exact BV1.alloc BV1.size _
        have hsV2 : Hid (V2.heap.size = V1.heap.size + 1) := by show _ = _; rw [← hV2]; show (V1.alloc _).heap.size = _; simp
        have bt : Reads V2 (.slice (some ⟨V1.heap.size, 0, none⟩) 1 1) [(Tk.mk p1 p2 rn true (.slice none 0 0))] := by rw [← hV2]; exact (qoc V1 (Tk.mk p1 p2 rn true (.slice none 0 0)))
        replace own : ownsR V2 W3.heap.size 192 (.slice (some ⟨W3.heap.size, 0, none⟩) 0 0) ([] : List Tk) := by rw [← hV2]; exact own.alloc _
        rw [hV2]
        clear hV2
        refine hK.out _ _ ⟨⟨V2, BV2⟩, rfl⟩ ?_
        clear hK K
        refine qfa (fuel := 1) (i := 6) (by kernel_rfl) rfl rfl ?_
        intro K hK
        go_wp2_with (at_builtin; refine qca rfl (.tmp 109) (.tmp 113) 161 rfl W3.heap.size 192 _ 72 qeb qtb rfl _ (.slice ao nt cap) ([] : List Tk) ks rfl rfl own (HKS.out _ BV2) HK1.out HKL.out (by decide) BV2.size ?_; intro v5 V3 ho5 hg5)
        have BV3 : Below W3.heap.size W3 V3 := BV2.grown hg5 BV2.size fun k hk => (own.lt k hk).1
        rw [List.nil_append] at ho5
        replace bt := qfc bt hg5 (fun e => by have e' : V1.heap.size = W3.heap.size := Option.some.inj e; have := hsV1.out; omega)
        go_wp2
        refine hK.out _ _ ⟨⟨V3, BV3⟩, rfl⟩ ?_
        clear hK K hg5 own
        refine qfa (fuel := 0) (i := 9) (by kernel_rfl) rfl rfl ?_
        intro K hK
        go_wp2_with (at_builtin; refine qca rfl (.tmp 114) (.tmp 116) 161 rfl W3.heap.size 192 _ 72 qeb qtb rfl _ _ ks [(Tk.mk p1 p2 rn true (.slice none 0 0))] rfl rfl ho5 bt HX1.out HKL2.out (by decide) BV3.size ?_; intro v6 V4 ho6 hg6)
        have BV4 : Below W3.heap.size W3 V4 := BV3.grown hg6 BV3.size fun k hk => (ho5.lt k hk).1
        go_wp2
        refine hK.out _ _ ⟨⟨V4, BV4⟩, rfl⟩ ?_
        clear hK K hg6 ho5 bt
        refine qoa (by kernel_rfl) ?_
        simp only [List.drop_succ_cons, List.drop_zero]
        obtain ⟨a6, c6, e6⟩ := ho6.slice
        obtain ⟨n6, hn6⟩ : ∃ n, (ks ++ [Tk.mk p1 p2 rn true (.slice none 0 0)]).length = n := ⟨_, rfl⟩
        rw [hn6] at e6
        clear hn6
        subst e6
        have r5 := (HC5.out V4 BV4).1
        have r6 := (HC5.out V4 BV4).2
        go_wp2
        go_ret
        exact ⟨rfl, _, HEND.out V4 _ ho6 BV4⟩
    · intro K hK
      go_wp2
      obtain ⟨V1, hV1⟩ : ∃ V, (W3.alloc (.cells #[.string p1, .string p2, .int .i64 rn, .bool true, .slice none 0 0] 192)).drew = V := ⟨_, rfl⟩
      have BV1 : Below W3.heap.size W3 V1 := by rw [← hV1]; exact (ba (Below.refl _ _) _).drew
      have hsV1 : Hid (V1.heap.size = W3.heap.size + 1) := by show _ = _; rw [← hV1]; show (W3.alloc _).heap.size = _; simp
      have bt : Reads V1 (.slice (some ⟨W3.heap.size, 0, none⟩) 1 1) [(Tk.mk p1 p2 rn true (.slice none 0 0))] := by rw [← hV1]; exact (qoc W3 (Tk.mk p1 p2 rn true (.slice none 0 0))).drew
      rw [hV1]
      clear hV1
      refine hK.out _ _ ⟨⟨V1, BV1⟩, rfl⟩ ?_
      clear hK K
      refine qfa (fuel := 2) (i := 1) (by kernel_rfl) rfl rfl ?_
      intro K hK
      go_wp2
      obtain ⟨V2, hV2⟩ : ∃ V, V1.alloc (.cells #[] 192) = V := ⟨_, rfl⟩
      have BV2 : Below W3.heap.size W3 V2 := by rw [← hV2]; exact BV1.alloc BV1.size _
      have hsV2 : Hid (V2.heap.size = V1.heap.size + 1) := by show _ = _; rw [← hV2]; show (V1.alloc _).heap.size = _; simp
      have own : ownsR V2 W3.heap.size 192 (.slice (some ⟨V1.heap.size, 0, none⟩) 0 0) ([] : List Tk) := by rw [← hV2]; exact (tk_made V1 _ BV1.size)
      replace bt : Reads V2 (.slice (some ⟨W3.heap.size, 0, none⟩) 1 1) [(Tk.mk p1 p2 rn true (.slice none 0 0))] := by rw [← hV2]; exact bt.alloc _
      rw [hV2]
      clear hV2
      refine hK.out _ _ ⟨⟨V2, BV2⟩, rfl⟩ ?_
      clear hK K
      refine qfa (fuel := 1) (i := 6) (by kernel_rfl) rfl rfl ?_
      intro K hK
      go_wp2_with (at_builtin; refine qca rfl (.tmp 109) (.tmp 113) 161 rfl W3.heap.size 192 _ 72 qeb qtb rfl _ (.slice ao nt cap) ([] : List Tk) ks rfl rfl own (HKS.out _ BV2) HK1.out HKL.out (by decide) BV2.size ?_; intro v5 V3 ho5 hg5)
      have BV3 : Below W3.heap.size W3 V3 := BV2.grown hg5 BV2.size fun k hk => (own.lt k hk).1
      rw [List.nil_append] at ho5
      replace bt := qfc bt hg5 (fun e => by have e' : W3.heap.size = V1.heap.size := Option.some.inj e; have := hsV1.out; omega)
      go_wp2
      refine hK.out _ _ ⟨⟨V3, BV3⟩, rfl⟩ ?_
      clear hK K hg5 own
      refine qfa (fuel := 0) (i := 9) (by kernel_rfl) rfl rfl ?_
      intro K hK
      go_wp2_with (at_builtin; refine qca rfl (.tmp 114) (.tmp 116) 161 rfl W3.heap.size 192 _ 72 qeb qtb rfl _ _ ks [(Tk.mk p1 p2 rn true (.slice none 0 0))] rfl rfl ho5 bt HX1.out HKL2.out (by decide) BV3.size ?_; intro v6 V4 ho6 hg6)
      have BV4 : Below W3.heap.size W3 V4 := BV3.grown hg6 BV3.size fun k hk => (ho5.lt k hk).1
      go_wp2
      refine hK.out _ _ ⟨⟨V4, BV4⟩, rfl⟩ ?_
      clear hK K hg6 ho5 bt
      refine qoa (by kernel_rfl) ?_
      simp only [List.drop_succ_cons, List.drop_zero]
      obtain ⟨a6, c6, e6⟩ := ho6.slice
      obtain ⟨n6, hn6⟩ : ∃ n, (ks ++ [Tk.mk p1 p2 rn true (.slice none 0 0)]).length = n := ⟨_, rfl⟩
      rw [hn6] at e6
      clear hn6
      subst e6
      have r5 := (HC5.out V4 BV4).1
      have r6 := (HC5.out V4 BV4).2
      go_wp2
      go_ret
      exact ⟨rfl, _, HEND.out V4 _ ho6 BV4⟩

end Go.Proofs.YtpjpheicldegkaaGreatDoor
