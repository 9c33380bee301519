/-
  The files behind the map, told as a disk: the walk.
-/
import Derived.Test.YtekflgecfcjjiaaDk
import Derived.Test.YtekflgecfcjjiaaSo
import Derived.Test.YtekflgecfcjjiaaIt
import Derived.Deep.Heap
namespace Go.Proofs.Ytekflgecfcjjiaa
open Go Go.RowKit Go.Maps Go.Sort

instance : Rec (List UInt8) := ⟨1, fun s => [encStr s], fun _ => rfl, by decide⟩
theorem flat_str (l : List (List UInt8)) : l.flatMap Rec.cells = l.map encStr := by
  induction l with
  | nil => rfl
  | cons x r ih => rw [List.flatMap_cons, ih]; rfl
theorem str_at {w : World} {ao : Option Addr} {n cap : Nat} {l : List (List UInt8)} (h : Reads w (.slice ao n cap) l) {k : Nat} {x : List UInt8} (hk : l[k]? = some x) :
    ∃ b o, ao = some ⟨b, o, none⟩ ∧ b < w.heap.size ∧ w.cell? ⟨b, o + k, none⟩ = some (encStr x) := by
  obtain ⟨b, o, rfl, hlt, hc⟩ := h.at hk
  have := hc 0 _ rfl
  refine ⟨b, o, rfl, hlt, ?_⟩
  have e : o + k * Rec.width (List UInt8) + 0 = o + k := by show o + k * 1 + 0 = o + k; omega
  rw [e] at this
  exact this

theorem keys_sorted {w : World} {M n : Nat} {fs : List (Nat × Fl)} {D : DataW Unit} (ha : Asc keyP fs) (hown : w.ownsMap Try.prog 9 ptrR M n D) (hr : Rel D fs) {ss : List (List UInt8)} (hp : ss.Perm (strKeys D)) :
    ss.mergeSort (fun x y => decide (x ≤ y)) = fs.map keyP := by
  obtain ⟨es, hD, hpw, _⟩ := hown.entries law9
  obtain ⟨es', hD', hko⟩ := hown.keysOf
  obtain rfl : es = es' := by rw [hD] at hD'; simpa using hD'
  subst hD
  have ha' : (fs.map keyP).Pairwise (fun x y => x < y) := by
    rw [List.pairwise_map]
    exact ha
  have h1 : (fs.map keyP).Perm (strKeys (.map es)) := perm_strKeys hpw (fun p hp => by obtain ⟨v, hv⟩ := hko p hp; obtain ⟨x, _, hx, _⟩ := Maps.keyOf_str Try.underlying9 hv; exact ⟨x, hx⟩)
    (ha'.imp fun h e => by subst e; exact absurd h (List.lt_irrefl _)) (fun x => by rw [hr.1 x]; simp)
  have h2 := mergeSort_of_perm (hp.trans h1.symm)
  refine h2.trans (List.mergeSort_of_pairwise (ha'.imp fun h => ?_))
  exact decide_eq_true (List.le_of_lt h)

theorem findP_at {fs : List (Nat × Fl)} (ha : Asc keyP fs) {p : Nat × Fl} (hp : p ∈ fs) : findP fs p.2.name = some p := by
  cases hf : findP fs p.2.name with
  | none =>
    have := findP_none hf
    rw [List.any_eq_false] at this
    exact absurd (by simp [keyP, Fl.key]) (this p hp)
  | some q =>
    obtain ⟨hq, hk⟩ := findP_some hf
    exact congrArg some (asc_inj ha hq hp hk)

/-- While nothing of w but block X is turned. -/
def KeptBut (X : Nat) (w w' : World) : Prop := w.heap.size ≤ w'.heap.size ∧ ∀ j, j < w.heap.size → j ≠ X → w'.heap[j]? = w.heap[j]?
theorem KeptBut.refl (X : Nat) (w : World) : KeptBut X w w := ⟨Nat.le_refl _, fun _ _ _ => rfl⟩
theorem KeptBut.below {X : Nat} {w w' w'' : World} (h : KeptBut X w w') (hb : Below w'.heap.size w' w'') : KeptBut X w w'' := ⟨Nat.le_trans h.1 hb.size, fun j hj hx => (hb.block j (Nat.lt_of_lt_of_le hj h.1)).trans (h.2 j hj hx)⟩
theorem KeptBut.alloc {X : Nat} {w w' : World} (h : KeptBut X w w') (o : Obj) : KeptBut X w (w'.alloc o) := h.below ((Below.refl _ _).alloc (Nat.le_refl _) _)
theorem KeptBut.grown {X : Nat} {w w' w'' : World} {r : Option Nat} (h : KeptBut X w w') (hg : w'.grownBy w'' r) (hr : ∀ j, r = some j → w.heap.size ≤ j) : KeptBut X w w'' :=
  ⟨Nat.le_trans h.1 hg.size, fun j hj hx => (hg.block j (Nat.lt_of_lt_of_le hj h.1) (fun e => by have := hr j e.symm; omega)).trans (h.2 j hj hx)⟩
theorem KeptBut.setCell {X : Nat} {w w' : World} (h : KeptBut X w w') (o : Nat) (u : Value) : KeptBut X w (w'.setCell ⟨X, o, none⟩ u) :=
  ⟨by rw [Go.Deep.nblk_setCell]; exact h.1, fun j hj hx => (Go.Deep.blk_setCell_other _ _ _ _ hx).trans (h.2 j hj hx)⟩
theorem KeptBut.reads {α : Type} [Rec α] {X : Nat} {w w' : World} {v : Value} {l : List α} (h : KeptBut X w w') (hr : Reads w v l) (hX : v.ownBlock ≠ some X) : Reads w' v l := by
  obtain ⟨ao, cap, rfl, hr⟩ := hr
  refine ⟨ao, cap, rfl, fun hne => ?_⟩
  obtain ⟨b, o, rfl, hlt, hc⟩ := hr hne
  have hb := h.2 b hlt (fun e => hX (by rw [e]; rfl))
  exact ⟨b, o, rfl, Nat.lt_of_lt_of_le hlt h.1, fun i x hx j u hu => (World.cell?_of_block (a := ⟨b, o + i * Rec.width α + j, none⟩) hb).trans (hc i x hx j u hu)⟩
theorem KeptBut.cell {X : Nat} {w w' : World} (h : KeptBut X w w') {p : Addr} {u : Value} (hc : w.cell? p = some u) (hX : p.block ≠ X) : w'.cell? p = some u :=
  (World.cell?_of_block (h.2 _ (World.block_lt_of_cell? _ _ hc) hX)).trans hc
theorem KeptBut.frozen {X : Nat} {w w' : World} (h : KeptBut X w w') {p : Addr} (hp : p.block < w.heap.size) (hX : p.block ≠ X) : w'.frozen? p = w.frozen? p :=
  World.frozen?_of_block (h.2 _ hp hX)

/-- What a round reads: the row's cell, and the files behind the map. -/
def ShS (X : Nat) (v : Value) (M B : Nat) (fs : List (Nat × Fl)) : World → Prop := fun w => w.cell? ⟨X, 0, none⟩ = some v ∧ ShIs w M B fs
theorem ShS.below {X : Nat} {v : Value} {M B : Nat} {fs : List (Nat × Fl)} {w w' : World} (h : ShS X v M B fs w) (hb : Below w.heap.size w w') : ShS X v M B fs w' :=
  ⟨(hb.cell (World.block_lt_of_cell? _ _ h.1)).trans h.1, h.2.below hb⟩
theorem ShIs.grownBy {w w' : World} {M B : Nat} {fs : List (Nat × Fl)} {r : Option Nat} (h : ShIs w M B fs) (hg : w.grownBy w' r) (hM : some M ≠ r) (hr : ∀ p ∈ fs, some p.1 ≠ r) : ShIs w' M B fs := by
  obtain ⟨⟨D, hown, hrl⟩, ha, hc, hi, hB⟩ := h
  exact ⟨⟨D, hown.kept hg hM, hrl⟩, ha, fun p hp => ⟨(hc p hp).1, (hc p hp).2.1, (hc p hp).2.2.grown hg (hr p hp)⟩, hi, hB⟩
theorem KeptBut.sh {X : Nat} {w w' : World} (h : KeptBut X w w') {M B : Nat} {fs : List (Nat × Fl)} (hs : ShIs w M B fs) (hM : M ≠ X) (hr : ∀ p ∈ fs, p.1 ≠ X) : ShIs w' M B fs := by
  obtain ⟨⟨D, ⟨es, clock, hb, F, hz, hD⟩, hrl⟩, ha, hc, hi, hB⟩ := hs
  have hMlt : M < w.heap.size := (Array.getElem?_eq_some_iff.1 hb).1
  refine ⟨⟨D, ⟨es, clock, (h.2 M hMlt hM).trans hb, F, hz, hD⟩, hrl⟩, ha, fun p hp => ⟨(hc p hp).1, (hc p hp).2.1, ?_⟩, hi, hB⟩
  obtain ⟨⟨c0, c1, c2⟩, f0, f1, f2⟩ := (hc p hp).2.2
  have hlt := (hc p hp).2.2.lt
  have hx := hr p hp
  exact ⟨⟨h.cell c0 hx, h.cell c1 hx, h.cell c2 hx⟩, (h.frozen (p := ⟨p.1, 0, none⟩) hlt hx).trans f0, (h.frozen (p := ⟨p.1, 1, none⟩) hlt hx).trans f1, (h.frozen (p := ⟨p.1, 2, none⟩) hlt hx).trans f2⟩
theorem right_sizes {f : Fl} (h : f.right = true) : f.name.size ≤ 8 ∧ f.text.size ≤ 1048576 := by
  have h1 := right_name h
  unfold nameR at h1
  simp at h1
  have := right_parts h
  omega

theorem sorted_keys {M n : Nat} {D : DataW Unit} {w : World} (hown : w.ownsMap Try.prog 9 ptrR M n D) (hsz : size D ≤ 30) {k : Nat} (hk : w.heap.size = k) {fs : List (Nat × Fl)} (hp : ∀ ss : List (List UInt8), ss.Perm (strKeys D) → ss.mergeSort (fun x y => decide (x ≤ y)) = fs.map keyP) :
    Calls Try.prog 88 #[.func (.func 97) #[] #[.pointer (some ⟨k, 0, none⟩)]] (w.alloc (.cells #[.map (some M)] 85)) fun e w' => ∃ v, e = .returned v ∧ ownsR w' (k + 1) 9 v (fs.map keyP) ∧ Below (k + 1) (w.alloc (.cells #[.map (some M)] 85)) w' := by
  subst hk
  refine (callsIn_wide.1 (Try.slices_Sorted_keys_88_89 M n D ptrR w hown (by unfold maxLen; omega) (by omega))).mono ?_
  rintro e w' ⟨v, ss, he, hperm, hr, _, hb⟩
  have hs := hp ss hperm
  have hl : ss.length = (fs.map keyP).length := by rw [← hs]; simp
  refine ⟨v, he, ?_, by simpa using hb⟩
  unfold ownsR
  rw [flat_str, ← hl, ← hs]
  rw [World.size_alloc] at hr
  exact hr

set_option maxRecDepth 10000 in
set_option maxHeartbeats 4000000 in
theorem diskOf_try (M B : Nat) (fs : List (Nat × Fl)) (w : World) (h : ShIs w M B fs) (hd : diskR (fs.map Prod.snd) = true) :
    Calls Try.prog 63 #[.map (some M)] w fun e w' => ∃ v, e = .returned (.agg #[v]) ∧ ownsR w' w.heap.size 36 v (fs.map Prod.snd) ∧ Below w.heap.size w w' := by
  obtain ⟨D, hown, hrl⟩ := h.1
  have hlen : fs.length ≤ 30 := by have := (diskR_iff.1 hd).1; simpa using this
  have hsz0 : size D ≤ 30 := by rw [hrl.2.2]; exact hlen
  have HO : Hid (((w.alloc (Obj.cells #[.slice none 0 0] 26)).alloc (Obj.cells #[.slice none 0 0] 26)).ownsMap Try.prog 9 ptrR M fs.length D) := (hown.alloc _).alloc _
  have HP : Hid (∀ ss : List (List UInt8), ss.Perm (strKeys D) → ss.mergeSort (fun x y => decide (x ≤ y)) = fs.map keyP) := fun ss hp => keys_sorted h.2.1 hown hrl hp
  have HS : Hid (ShIs w M B fs) := h
  have HT : Hid (∀ f ∈ fs.map Prod.snd, f.right = true) := (diskR_iff.1 hd).2.1
  clear h hd hown hrl
  go_enter Try.func63, Try.ntmps63
  go_wp2_with (first | (go_at_call 89; refine (callsIn_wide.1 (Try.maps_Keys_89 _ _)).mono ?_; rintro e w' ⟨rfl, rfl⟩) | (go_at_call 88; refine (sorted_keys HO.out hsz0 (k := w.heap.size + 1 + 1) (by simp) HP.out).mono ?_; rintro e w1 ⟨v, rfl, hrow, hb1⟩; obtain ⟨na, nc, rfl⟩ := hrow.slice; generalize hNL : (fs.map keyP).length = n at *))
  have HN : Hid (n = fs.length) := by rw [← hNL]; exact List.length_map ..
  clear hNL
  have hn30 : n ≤ 30 := by rw [HN.out]; exact hlen
  have s1 := hb1.size
  simp only [World.size_alloc] at s1
  have hb0 : Below w.heap.size w w1 := (ba (ba (ba (Below.refl _ _) _) _) _).trans (hb1.mono (by omega))
  have q1 : w1.cell? ⟨w.heap.size, 0, none⟩ = some (.slice none 0 0) := (hb1.cell (by simp; omega)).trans (by simp [go_sem])
  have z1 : w1.frozen? ⟨w.heap.size, 0, none⟩ = false := (hb1.frozen (by simp; omega)).trans (by simp [go_sem])
  have x1 : w1.cell? ⟨w.heap.size + 1, 0, none⟩ = some (.slice none 0 0) := (hb1.cell (by simp)).trans (by simp [go_sem])
  have y1 : w1.frozen? ⟨w.heap.size + 1, 0, none⟩ = false := (hb1.frozen (by simp)).trans (by simp [go_sem])
  have S1 : Hid (ShIs w1 M B fs) := HS.out.below hb0
  have N1 : Hid (Reads w1 (.slice na n nc) (fs.map keyP)) := hrow.reads
  have HX : Hid ((Value.slice na n nc).ownBlock ≠ some (w.heap.size + 1)) := fun e => by have := (hrow.lt _ e).1; omega
  have HM : Hid (M < w.heap.size ∧ ∀ p ∈ fs, p.1 < w.heap.size) := ⟨HS.out.lt, fun p hp => (HS.out.2.2.1 p hp).2.2.lt⟩
  clear hrow hb1 HO HP
  go_loopw [10] (fun i wr => ∃ (k : Nat) (bo : Option Addr) (m cp : Nat), k ≤ n ∧ i = .int .i64 k ∧ wr.cell? ⟨w.heap.size + 1, 0, none⟩ = some (.slice bo m cp) ∧ wr.frozen? ⟨w.heap.size + 1, 0, none⟩ = false ∧ ownsR wr w1.heap.size 36 (.slice bo m cp) ((fs.map Prod.snd).take k) ∧ Below (w.heap.size + 1) w1 wr ∧ KeptBut (w.heap.size + 1) w1 wr) (fun i _ => n - (intOf i).toNat)
  case atStart => exact ⟨0, none, 0, 0, Nat.zero_le _, rfl, x1, y1, by rw [List.take_zero]; exact ownsR_nil _ _ _, Below.refl _ _, KeptBut.refl _ _⟩
  case round =>
    clear x1 y1
    obtain ⟨k, bo, m, cp, hk, rfl, x0, f0, hown, hbel, hkb⟩ := hrel
    have HW : Hid (ownsR wr w1.heap.size 36 (.slice bo m cp) ((fs.map Prod.snd).take k)) := hown
    have hsz : w1.heap.size ≤ wr.heap.size := hkb.1
    clear hown
    by_cases hlt : k < n
    · obtain ⟨⟨pb, ⟨nm, tx, kp⟩⟩, hf⟩ : ∃ p, fs[k]? = some p := ⟨_, List.getElem?_eq_getElem (by rw [← HN.out]; exact hlt)⟩
      have hmem := List.mem_of_getElem? hf
      have HF : Hid ((fs.map Prod.snd)[k]? = some ⟨nm, tx, kp⟩) := by show _ = _; rw [List.getElem?_map, hf]; rfl
      have SR : ShIs wr M B fs := hkb.sh S1.out (by have := HM.out.1; omega) (fun p hp => by have := HM.out.2 p hp; omega)
      obtain ⟨b, o, rfl, hb, c0⟩ := str_at (hkb.reads N1.out HX.out) (k := k) (x := nm.data.toList) (by rw [List.getElem?_map, hf]; rfl)
      obtain ⟨t1, t2⟩ := right_sizes (HT.out _ (List.mem_map.2 ⟨_, hmem, rfl⟩))
      have hfind : findP fs nm = some (pb, ⟨nm, tx, kp⟩) := findP_at SR.2.1 hmem
      have hpb := HM.out.2 _ hmem
      obtain ⟨⟨d0, d1, d2⟩, -⟩ := (SR.2.2.1 _ hmem).2.2
      have hlk : ∀ wx, ShIs wx M B fs → (Instr.lookup 85 (.map (some M)) (.string nm) false).run Try.prog wx = .ok (.pointer (some ⟨pb, 0, none⟩)) wx := fun wx hx => by
        rw [sh_look hx (by have : nm.size ≤ 8 := t1; omega), hfind]
        rfl
      dsimp only at t1 t2 hpb d0 d1 d2
      have c9 : wr.cell? ⟨b, o + k, none⟩ = some (.string nm) := c0
      clear c0 hf hmem hfind
      have V0 : ShS (w.heap.size + 1) (.slice bo m cp) M B fs wr := ⟨x0, SR⟩
      have hoX : (Value.slice bo m cp).ownBlock ≠ some (w.heap.size + 1) := fun e => by have := (HW.out.lt _ e).1; omega
      have hoM : ∀ j, j < w.heap.size → some j ≠ (Value.slice bo m cp).ownBlock := fun j hj e => by have := (HW.out.lt _ e.symm).1; omega
      have HL : Hid (((fs.map Prod.snd).take k).length ≤ 1048576) := by show _ ≤ _; rw [List.length_take, List.length_map]; omega
      clear SR
      go_wp2
      have hne : Nonempty (Sw (ShS (w.heap.size + 1) (.slice bo m cp) M B fs)) := ⟨⟨wr, V0⟩⟩
      have e0 : ∀ x : Sw (ShS (w.heap.size + 1) (.slice bo m cp) M B fs), x.at'.cell? ⟨w.heap.size + 1, 0, none⟩ = some (.slice bo m cp) := fun x => x.ok.1
      have e1 : ∀ x : Sw (ShS (w.heap.size + 1) (.slice bo m cp) M B fs), (Instr.lookup 85 (.map (some M)) (.string nm) false).run Try.prog x.at' = .ok (.pointer (some ⟨pb, 0, none⟩)) x.at' := fun x => hlk _ x.ok.2
      clear hlk x0 c9
      refine wp_region_sw (ShS (w.heap.size + 1) (.slice bo m cp) M B fs) 5 10 (by kernel_rfl) (by decide) (by decide) (by kernel_rfl) (fun _ _ d _ _ h => by cases d <;> exact h) (V0.below (Below.refl _ _).drew) ?_
      simp only [List.take_succ_cons, List.take_zero, List.drop_succ_cons, List.drop_zero, Nat.reduceSub]
      repeat (go_big_quiet_step (fail))
      refine wpQuiet_nil ?_
      refine wpForced_cons rfl fun K hK => ?_
      go_wp2
      have hbw : Below wr.heap.size wr wr.drew := (Below.refl _ wr).drew
      have Vd := V0.below hbw
      refine hK.out _ _ (sw_ok Vd) ?_
      refine wpForced_cons rfl fun K hK => ?_
      have g0 : wr.drew.cell? ⟨pb, 0, none⟩ = some (.string nm) := d0
      have g1 : wr.drew.cell? ⟨pb, 1, none⟩ = some (.string tx) := d1
      have g2 : wr.drew.cell? ⟨pb, 2, none⟩ = some (.int .i64 kp) := d2
      go_wp2
      refine hK.out _ _ (sw_ok Vd) ?_
      refine wpForced_cons rfl fun K hK => ?_
      go_wp2_with (go_at_call 77; refine (clonedF_any _ _ _ _ (by omega) t2).mono ?_; rintro e w2 ⟨rfl, hb3⟩)
      have hb4 : Below wr.heap.size wr w2 := hbw.trans hb3
      have V1 := V0.below hb4
      refine hK.out _ _ (sw_ok V1) ?_
      refine wpForced_cons rfl fun K hK => ?_
      go_wp2
      have V2 := V1.below (ba (Below.refl _ w2) (Obj.cells #[.string nm, .string tx, .int .i64 kp] 36))
      refine hK.out _ _ (sw_ok V2) ?_
      refine wpForced_cons rfl fun K hK => ?_
      have hs2 := hb4.size
      have O2 : ownsR (w2.alloc (Obj.cells #[.string nm, .string tx, .int .i64 kp] 36)) w1.heap.size 36 (.slice bo m cp) ((fs.map Prod.snd).take k) := (ownsR.all HW.out hb4).alloc _
      refine wpList_append_recg _ rfl (.tmp 15) (.tmp 22) 24 rfl w1.heap.size 36 _ 40 under24 info36 rfl (.slice bo m cp) ((fs.map Prod.snd).take k) rfl O2 w2.heap.size 1 (Fl.mk nm tx kp) rfl (new_cells w2 nm _ _) HL.out (by decide) (by simp; omega) ?_
      intro v3 w3 ho3 hg3
      obtain ⟨a3, c3, rfl⟩ := ho3.slice
      have V3 : ShS (w.heap.size + 1) (.slice bo m cp) M B fs w3 := ⟨hg3.cell V2.1 (fun e => hoX e.symm), V2.2.grownBy hg3 (hoM _ HM.out.1) (fun p hp => hoM _ (HM.out.2 p hp))⟩
      have y3 := V3.1
      have sX : w.heap.size + 1 < w2.heap.size := by omega
      have yz3 := grown_frozen O2 hg3 (p := ⟨w.heap.size + 1, 0, none⟩) (by simp; omega) (by simp; omega) (((ba (Below.refl _ w2) _).frozen sX).trans ((hb4.frozen (p := ⟨w.heap.size + 1, 0, none⟩) (by simp; omega)).trans f0))
      have B3 : Below (w.heap.size + 1) w1 w3 := ((hbel.trans (hb4.mono (by omega))).alloc (by omega) _).grown hg3 (by simp; omega) (fun j hj => by have := (O2.lt j hj).1; omega)
      have K3 : KeptBut (w.heap.size + 1) w1 w3 := ((hkb.below hb4).alloc _).grown hg3 (fun j hj => (O2.lt j hj).1)
      have s3 := hg3.size
      simp only [World.size_alloc] at s3
      refine hK.out _ _ (sw_ok V3) ?_
      refine wpForced_nil ?_
      clear V0 V1 V2 V3 Vd O2 hg3 hb3 hb4 hbw e0 e1 hne d0 d1 d2 g0 g1 g2 f0 HW hbel hkb
      have R : ownsR (w3.setCell ⟨w.heap.size + 1, 0, none⟩ (.slice a3 ((fs.map Prod.snd).take k ++ [Fl.mk nm tx kp]).length c3)) w1.heap.size 36 (.slice a3 ((fs.map Prod.snd).take k ++ [Fl.mk nm tx kp]).length c3) ((fs.map Prod.snd).take (k + 1)) := by
        rw [take_next HF.out]
        exact ho3.setBelow (by simp; omega) _
      clear ho3
      generalize ((fs.map Prod.snd).take k ++ [Fl.mk nm tx kp]).length = m3 at *
      go_wp2
      go_roundw
      case rel => exact ⟨k + 1, a3, m3, c3, by omega, by go_num, by simp [go_sem, y3], by simp [go_sem, yz3], R, B3.setCell (p := ⟨w.heap.size + 1, 0, none⟩) (Nat.le_refl _) _, K3.setCell 0 _⟩
      case measure => simp [intOf]; omega
    · have hkn : k = n := by omega
      have R : ownsR wr w1.heap.size 36 (.slice bo m cp) (fs.map Prod.snd) := by
        have := HW.out
        rw [hkn, List.take_of_length_le (by rw [List.length_map, HN.out]; exact Nat.le_refl _)] at this
        exact this
      have q2 : wr.cell? ⟨w.heap.size, 0, none⟩ = some (.slice none 0 0) := (hbel.cell (by show w.heap.size < w.heap.size + 1; omega)).trans q1
      have z2 : wr.frozen? ⟨w.heap.size, 0, none⟩ = false := (hbel.frozen (by show w.heap.size < w.heap.size + 1; omega)).trans z1
      clear HW
      go_wp2
      refine bodyPost_ret (ret_disk rfl rfl (World.cell?_setCell_same' _ _ _ (by simp [q2]))) rfl ?_
      exact ⟨_, rfl, (R.setBelow (by show w.heap.size < w1.heap.size; omega) _).mono (by omega), (hb0.trans (hbel.mono (by omega))).setCell (p := ⟨w.heap.size, 0, none⟩) (by simp) _⟩
end Go.Proofs.Ytekflgecfcjjiaa
