/-
  Acts of which the first ones are done, and what the power leaves then: the walks.
-/
import Derived.Test.YtekflgecfcjjiaaLac
namespace Go.Proofs.Ytekflgecfcjjiaa
open Go Go.RowKit

theorem slice_head (bo : Option Addr) (m bc k : Nat) (h : k ≤ bc) (wx : World) :
    (Instr.slice 38 (.slice bo m bc) none (some (.int .i64 (k : Int))) none).run Try.prog wx = .ok (.slice bo k bc) wx := by
  have hu := Try.underlying38
  cases bo <;> simp [Instr.slice, Instr.sliceBounds, Instr.sliceBound, asIntOf, run_underlying hu, h, go_sem]
theorem endsOf_sized (l : List Fl) (acts : List Ac) (h : Sized l) : Sized (endsOf l acts).2 := by
  rcases endsOf_same acts l with e | e
  · rw [e]; exact h
  · intro f hf
    have := (diskR_iff.1 e).2.1 f hf
    simp only [Fl.right, nameR, Bool.and_eq_true, decide_eq_true_eq] at this
    omega
/-- Whether, and what, CutActs answers. -/
def cutOk (l : List Fl) (acts : List Ac) (k : Nat) : Bool := decide ((endsOf l (acts.take k)).1 = k) && diskR (endsOf l (acts.take k)).2
def cutL (l : List Fl) (acts : List Ac) (k : Nat) (left : List Int) : List Fl := if (endsOf l (acts.take k)).1 = k then loseO (endsOf l (acts.take k)).2 left else []

set_option maxRecDepth 10000 in
set_option maxHeartbeats 4000000 in
theorem cutActs_bad (ao bo lo : Option Addr) (n c m bc ln lc : Nat) (wh : Int) (w : World) (hm : m ≤ 1048576) (h : wh < 0 ∨ (m : Int) < wh) :
    Calls Try.prog 26 #[.agg #[.slice ao n c], .slice bo m bc, .int .i64 wh, .slice lo ln lc] w fun e w' => ∃ v', e = .returned (.tuple #[.agg #[v'], .bool false]) ∧ ownsR w' w.heap.size 36 v' ([] : List Fl) ∧ Below w.heap.size w w' := by
  rcases h with h | h
  · go_enter Try.func26, Try.ntmps26
    go_wp2
    refine bodyPost_ret (ret_disk2 rfl rfl rfl (v := .slice none 0 0) (by simp [go_sem])) rfl ?_
    exact ⟨_, rfl, ownsR_nil _ _ _, by first | exact ba (ba (Below.refl _ _) _) _ | exact (ba (ba (Below.refl _ _) _) _).setCell (by simp) _⟩
  · have h0 : ¬ wh < 0 := by omega
    go_enter Try.func26, Try.ntmps26
    go_wp2
    refine bodyPost_ret (ret_disk2 rfl rfl rfl (v := .slice none 0 0) (by simp [go_sem])) rfl ?_
    exact ⟨_, rfl, ownsR_nil _ _ _, by first | exact ba (ba (Below.refl _ _) _) _ | exact (ba (ba (Below.refl _ _) _) _).setCell (by simp) _⟩

set_option maxRecDepth 10000 in
set_option maxHeartbeats 4000000 in
theorem cutActs_in (ao bo lo : Option Addr) (n c m bc ln lc k : Nat) (l : List Fl) (acts : List Ac) (left : List Int) (w : World) (hr : Reads w (.slice ao n c) l) (ha : Reads w (.slice bo m bc) acts) (hlf : Reads w (.slice lo ln lc) left) (hn : n ≤ 1048576) (hm : m ≤ 1048576) (hz : Sized l) (hs : SizedA acts) (hk : k ≤ m) (hbc : m ≤ bc) :
    Calls Try.prog 26 #[.agg #[.slice ao n c], .slice bo m bc, .int .i64 (k : Int), .slice lo ln lc] w fun e w' => ∃ v', e = .returned (.tuple #[.agg #[v'], .bool (cutOk l acts k)]) ∧ ownsR w' w.heap.size 36 v' (cutL l acts k left) ∧ Below w.heap.size w w' := by
  have HR : Hid (Reads w (.slice ao n c) l) := hr
  have HA : Hid (Reads w (.slice bo k bc) (acts.take k)) := ha.take k hk bc
  have HF : Hid (Reads w (.slice lo ln lc) left) := hlf
  have hN := hr.len
  have HLN : Hid (l.length ≤ 1048576) := by show _ ≤ _; omega
  have HKN : Hid ((acts.take k).length ≤ 1048576) := by show _ ≤ _; rw [List.length_take]; omega
  have HZ : Hid (Sized l) := hz
  have HSA : Hid (SizedA (acts.take k)) := fun a ha => hs a (List.mem_of_mem_take ha)
  have hzk : (endsOf l (acts.take k)).1 ≤ k := Nat.le_trans (endsOf_le _ _) (by rw [List.length_take]; omega)
  have HLL : Hid ((endsOf l (acts.take k)).2.length ≤ 1048576) := endsOf_len l _ HLN.out
  have HZZ : Hid (Sized (endsOf l (acts.take k)).2) := endsOf_sized l _ hz
  have CD : Hid (∀ (w : World) (v vi : Value), Reads w v l → Reads w vi (acts.take k) → Calls Try.prog 22 #[.agg #[v], vi] w fun e w' => ∃ v', e = .returned (.tuple #[.agg #[v'], .int .i64 (((endsOf l (acts.take k)).1 : Nat) : Int)]) ∧ ownsR w' w.heap.size 36 v' (endsOf l (acts.take k)).2 ∧ Below w.heap.size w w') := fun w v vi h1 h2 => doActs_is l _ w v vi h1 h2 HLN.out HKN.out HZ.out HSA.out
  have hok : cutOk l acts k = (decide ((endsOf l (acts.take k)).1 = k) && diskR (endsOf l (acts.take k)).2) := rfl
  have hcl : cutL l acts k left = if (endsOf l (acts.take k)).1 = k then loseO (endsOf l (acts.take k)).2 left else [] := rfl
  rw [hok, hcl]
  clear hok hcl hN hr ha hlf hz hs
  generalize (endsOf l (acts.take k)).2 = L at *
  generalize (endsOf l (acts.take k)).1 = z at *
  have h0 : ¬ (k : Int) < 0 := by omega
  have h1 : ¬ (m : Int) < (k : Int) := by omega
  have hsl := slice_head bo m bc k (by omega)
  go_enter Try.func26, Try.ntmps26
  go_wp2_with fail
  obtain ⟨W, hW⟩ : ∃ W, (w.alloc (.cells #[.slice ao n c] 26)).alloc (.cells #[.slice none 0 0] 26) = W := ⟨_, rfl⟩
  have cb : W.cell? ⟨w.heap.size, 0, none⟩ = some (.slice ao n c) := by rw [← hW]; simp [go_sem]
  have cr : W.cell? ⟨w.heap.size + 1, 0, none⟩ = some (.slice none 0 0) := by rw [← hW]; simp [go_sem]
  have fr : W.frozen? ⟨w.heap.size + 1, 0, none⟩ = false := by rw [← hW]; simp [go_sem]
  have BW : Below w.heap.size w W := by rw [← hW]; exact ba (ba (Below.refl _ _) _) _
  have sW : W.heap.size = w.heap.size + 1 + 1 := by rw [← hW]; simp
  have HSW : Hid (W.heap.size = w.heap.size + 1 + 1) := sW
  rw [hW]
  clear hW sW
  have e0 := Below.cellOf (B := W.heap.size) (World.block_lt_of_cell? _ _ cb) cb
  refine wp_puts (α := Nat × Option Addr × Nat) (fun x => [(22, .agg #[.slice ao n c]), (23, .slice bo m bc), (24, .int .i64 (k : Int)), (25, .slice bo k bc), (26, .tuple #[.agg #[.slice x.2.1 L.length x.2.2], .int .i64 (z : Int)]), (21, .tuple #[.agg #[.slice x.2.1 L.length x.2.2], .int .i64 (z : Int)]), (27, .agg #[.slice x.2.1 L.length x.2.2]), (28, .int .i64 (z : Int)), (10, .pointer (some ⟨x.1, 0, none⟩)), (11, .int .i64 (z : Int))]) (fun x w' => NewRow W w' 36 x.1 (.slice x.2.1 L.length x.2.2) L) ?_ ?_
  · go_region_held3 (fun w' => Below W.heap.size W w') ((first | exact (Below.refl _ _).drew | exact (keep_on hb3 (by assumption) (Nat.le_refl _)) | exact (Below.alloc (by assumption) (Below.size (by assumption)) _) | exact (Below.alloc hS3 hS3.size _) | exact (Below.setCell hS3 (Nat.le_refl _) _))) ((go_at_call 22; refine (CD.out _ _ _ (HR.out.below (BW.trans (Below.mono (B := W.heap.size) (by assumption) BW.size))) (HA.out.below (BW.trans (Below.mono (B := W.heap.size) (by assumption) BW.size)))).mono ?_; rintro e w3' ⟨v3', rfl, ho3, hb3⟩; have hS3 := keep_on (B := W.heap.size) (W := W) hb3 (by assumption) (Nat.le_refl _); obtain ⟨a3', d3', rfl⟩ := ho3.slice; first | (have hcx : w3'.cell? ⟨W.heap.size, 0, none⟩ = some (.slice none 0 0) := cell_new (w := W.drew) hb3; have hfx : w3'.frozen? ⟨W.heap.size, 0, none⟩ = false := frozen_new (w := W.drew) hb3) | skip))
    all_goals first | refine ⟨rfl, ⟨_, a3', d3'⟩, ?_, newRow_b (W := W.drew) (Below.refl _ _).drew ho3 hb3⟩ | refine ⟨rfl, ⟨_, a3', d3'⟩, ?_, newRow_m (W := W.drew) (Below.refl _ _).drew ho3 hb3⟩
    all_goals kernel_rfl
  clear e0
  rintro ⟨X2, a2, d2⟩ w2 hN
  simp only [putAll]
  dsimp only at hN
  have cr2 := cell_up hN.below cr
  have fr2 := frozen_up hN.below cr fr
  have B2 : Below w.heap.size w w2 := BW.trans (hN.below.mono BW.size)
  have hO := hN.own
  have cX := hN.cellAt
  have HW2 : Hid (W.heap.size ≤ w2.heap.size) := hN.below.size
  clear hN cr fr cb
  by_cases hzk2 : z < k
  · have hne : ¬ z = k := by omega
    go_wp2_with fail
    refine bodyPost_ret (ret_disk2 rfl rfl rfl (World.cell?_setCell_same' _ _ _ (by simp [cr2]))) rfl ?_
    exact ⟨.slice none 0 0, by first | rfl | (rw [decide_eq_false hne, Bool.false_and]; rfl), by first | exact ownsR_nil _ _ _ | (rw [if_neg hne]; exact ownsR_nil _ _ _), B2.setCell (p := ⟨w.heap.size + 1, 0, none⟩) (by simp) _⟩
  · have heq : z = k := by omega
    have HQ : Hid (z = k) := heq
    clear heq
    go_wp2_with (go_at_call 16; refine (loseDisk_any hO.reads (HF.out.below B2) HLL.out HZZ.out).mono ?_; rintro e w3 ⟨v3, rfl, ho3, hb3⟩; obtain ⟨a3, d3, rfl⟩ := ho3.slice; have cr3 := cell_up hb3 cr2; have fr3 := frozen_up hb3 cr2 fr2)
    refine bodyPost_ret (ret_disk2 rfl rfl rfl (World.cell?_setCell_same' _ _ _ (by simp [cr3]))) rfl ?_
    refine ⟨.slice a3 (loseO L left).length d3, by first | rfl | (rw [decide_eq_true HQ.out, Bool.true_and]; rfl), ?_, (B2.trans (hb3.mono B2.size)).setCell (p := ⟨w.heap.size + 1, 0, none⟩) (by simp) _⟩
    try rw [if_pos HQ.out]
    exact (ho3.setBelow (by show w.heap.size + 1 < _; have := HW2.out; have := HSW.out; omega) _).mono B2.size

set_option maxRecDepth 10000 in
set_option maxHeartbeats 4000000 in
theorem specCut_bad (ao bo lo : Option Addr) (n c m bc ln lc : Nat) (wh : Int) (w : World) (_hm : m ≤ 1048576) (h : wh < 0 ∨ (m : Int) < wh) :
    Calls Try.prog 27 #[.agg #[.slice ao n c], .slice bo m bc, .int .i64 wh, .slice lo ln lc] w fun e w' => ∃ v', e = .returned (.tuple #[.agg #[v'], .bool false]) ∧ ownsR w' w.heap.size 36 v' ([] : List Fl) ∧ Below w.heap.size w w' := by
  have h1 : (decide ((0 : Int) ≤ wh) && decide (wh ≤ (m : Int))) = false := by
    rw [Bool.and_eq_false_iff]
    rcases h with h | h
    · exact .inl (decide_eq_false (by omega))
    · exact .inr (decide_eq_false (by omega))
  clear h
  go_enter Try.func27, Try.ntmps27
  go_wp2_with (go_at_call 65; refine (in_any _ _ _ _).mono ?_; rintro e w' ⟨rfl, hw⟩; have hw2 := hw.symm; subst hw2)
  refine bodyPost_ret (ret_disk2 rfl rfl rfl (v := .slice none 0 0) (by simp [go_sem])) rfl ?_
  exact ⟨_, rfl, ownsR_nil _ _ _, by first | exact ba (ba (Below.refl _ _) _) _ | exact (ba (ba (Below.refl _ _) _) _).setCell (by simp) _⟩

set_option maxRecDepth 10000 in
set_option maxHeartbeats 4000000 in
theorem specCut_in (ao bo lo : Option Addr) (n c m bc ln lc k : Nat) (l : List Fl) (acts : List Ac) (left : List Int) (w : World) (hr : Reads w (.slice ao n c) l) (ha : Reads w (.slice bo m bc) acts) (hlf : Reads w (.slice lo ln lc) left) (hn : n ≤ 1048576) (hm : m ≤ 1048576) (hz : Sized l) (hs : SizedA acts) (hk : k ≤ m) (hbc : m ≤ bc) :
    Calls Try.prog 27 #[.agg #[.slice ao n c], .slice bo m bc, .int .i64 (k : Int), .slice lo ln lc] w fun e w' => ∃ v', e = .returned (.tuple #[.agg #[v'], .bool (cutOk l acts k)]) ∧ ownsR w' w.heap.size 36 v' (cutL l acts k left) ∧ Below w.heap.size w w' := by
  have HR : Hid (Reads w (.slice ao n c) l) := hr
  have HA : Hid (Reads w (.slice bo k bc) (acts.take k)) := ha.take k hk bc
  have HF : Hid (Reads w (.slice lo ln lc) left) := hlf
  have hN := hr.len
  have HLN : Hid (l.length ≤ 1048576) := by show _ ≤ _; omega
  have HKN : Hid ((acts.take k).length ≤ 1048576) := by show _ ≤ _; rw [List.length_take]; omega
  have HZ : Hid (Sized l) := hz
  have HSA : Hid (SizedA (acts.take k)) := fun a ha => hs a (List.mem_of_mem_take ha)
  have hzk : (endsOf l (acts.take k)).1 ≤ k := Nat.le_trans (endsOf_le _ _) (by rw [List.length_take]; omega)
  have HLL : Hid ((endsOf l (acts.take k)).2.length ≤ 1048576) := endsOf_len l _ HLN.out
  have HZZ : Hid (Sized (endsOf l (acts.take k)).2) := endsOf_sized l _ hz
  have CD : Hid (∀ (w : World) (v vi : Value), Reads w v l → Reads w vi (acts.take k) → Calls Try.prog 23 #[.agg #[v], vi] w fun e w' => ∃ v', e = .returned (.tuple #[.agg #[v'], .int .i64 (((endsOf l (acts.take k)).1 : Nat) : Int)]) ∧ ownsR w' w.heap.size 36 v' (endsOf l (acts.take k)).2 ∧ Below w.heap.size w w') := fun w v vi h1 h2 => specActs_is l _ w v vi h1 h2 HLN.out HKN.out HSA.out
  have hok : cutOk l acts k = (decide ((endsOf l (acts.take k)).1 = k) && diskR (endsOf l (acts.take k)).2) := rfl
  have hcl : cutL l acts k left = if (endsOf l (acts.take k)).1 = k then loseO (endsOf l (acts.take k)).2 left else [] := rfl
  rw [hok, hcl]
  clear hok hcl hN hr ha hlf hz hs
  generalize (endsOf l (acts.take k)).2 = L at *
  generalize (endsOf l (acts.take k)).1 = z at *
  have h1 : (decide ((0 : Int) ≤ (k : Int)) && decide ((k : Int) ≤ (m : Int))) = true := by rw [Bool.and_eq_true]; exact ⟨decide_eq_true (by omega), decide_eq_true (by omega)⟩
  have hsl := slice_head bo m bc k (by omega)
  go_enter Try.func27, Try.ntmps27
  go_wp2_with (go_at_call 65; refine (in_any _ _ _ _).mono ?_; rintro e w' ⟨rfl, hw⟩; have hw2 := hw.symm; subst hw2)
  obtain ⟨W, hW⟩ : ∃ W, (w.alloc (.cells #[.slice ao n c] 26)).alloc (.cells #[.slice none 0 0] 26) = W := ⟨_, rfl⟩
  have cb : W.cell? ⟨w.heap.size, 0, none⟩ = some (.slice ao n c) := by rw [← hW]; simp [go_sem]
  have cr : W.cell? ⟨w.heap.size + 1, 0, none⟩ = some (.slice none 0 0) := by rw [← hW]; simp [go_sem]
  have fr : W.frozen? ⟨w.heap.size + 1, 0, none⟩ = false := by rw [← hW]; simp [go_sem]
  have BW : Below w.heap.size w W := by rw [← hW]; exact ba (ba (Below.refl _ _) _) _
  have sW : W.heap.size = w.heap.size + 1 + 1 := by rw [← hW]; simp
  have HSW : Hid (W.heap.size = w.heap.size + 1 + 1) := sW
  rw [hW]
  clear hW sW
  have e0 := Below.cellOf (B := W.heap.size) (World.block_lt_of_cell? _ _ cb) cb
  refine wp_puts (α := Nat × Option Addr × Nat) (fun x => [(19, .agg #[.slice ao n c]), (20, .slice bo m bc), (21, .int .i64 (k : Int)), (22, .slice bo k bc), (23, .tuple #[.agg #[.slice x.2.1 L.length x.2.2], .int .i64 (z : Int)]), (18, .tuple #[.agg #[.slice x.2.1 L.length x.2.2], .int .i64 (z : Int)]), (24, .agg #[.slice x.2.1 L.length x.2.2]), (25, .int .i64 (z : Int)), (10, .pointer (some ⟨x.1, 0, none⟩)), (11, .int .i64 (z : Int))]) (fun x w' => NewRow W w' 36 x.1 (.slice x.2.1 L.length x.2.2) L) ?_ ?_
  · go_region_held3 (fun w' => Below W.heap.size W w') ((first | exact (Below.refl _ _).drew | exact (keep_on hb3 (by assumption) (Nat.le_refl _)) | exact (Below.alloc (by assumption) (Below.size (by assumption)) _) | exact (Below.alloc hS3 hS3.size _) | exact (Below.setCell hS3 (Nat.le_refl _) _))) ((go_at_call 23; refine (CD.out _ _ _ (HR.out.below (BW.trans (Below.mono (B := W.heap.size) (by assumption) BW.size))) (HA.out.below (BW.trans (Below.mono (B := W.heap.size) (by assumption) BW.size)))).mono ?_; rintro e w3' ⟨v3', rfl, ho3, hb3⟩; have hS3 := keep_on (B := W.heap.size) (W := W) hb3 (by assumption) (Nat.le_refl _); obtain ⟨a3', d3', rfl⟩ := ho3.slice; first | (have hcx : w3'.cell? ⟨W.heap.size, 0, none⟩ = some (.slice none 0 0) := cell_new (w := W.drew) hb3; have hfx : w3'.frozen? ⟨W.heap.size, 0, none⟩ = false := frozen_new (w := W.drew) hb3) | skip))
    all_goals first | refine ⟨rfl, ⟨_, a3', d3'⟩, ?_, newRow_b (W := W.drew) (Below.refl _ _).drew ho3 hb3⟩ | refine ⟨rfl, ⟨_, a3', d3'⟩, ?_, newRow_m (W := W.drew) (Below.refl _ _).drew ho3 hb3⟩
    all_goals kernel_rfl
  clear e0
  rintro ⟨X2, a2, d2⟩ w2 hN
  simp only [putAll]
  dsimp only at hN
  have cr2 := cell_up hN.below cr
  have fr2 := frozen_up hN.below cr fr
  have B2 : Below w.heap.size w w2 := BW.trans (hN.below.mono BW.size)
  have hO := hN.own
  have cX := hN.cellAt
  have HW2 : Hid (W.heap.size ≤ w2.heap.size) := hN.below.size
  clear hN cr fr cb
  by_cases hzk2 : z < k
  · have hne : ¬ z = k := by omega
    go_wp2_with fail
    refine bodyPost_ret (ret_disk2 rfl rfl rfl (World.cell?_setCell_same' _ _ _ (by simp [cr2]))) rfl ?_
    exact ⟨.slice none 0 0, by first | rfl | (rw [decide_eq_false hne, Bool.false_and]; rfl), by first | exact ownsR_nil _ _ _ | (rw [if_neg hne]; exact ownsR_nil _ _ _), B2.setCell (p := ⟨w.heap.size + 1, 0, none⟩) (by simp) _⟩
  · have heq : z = k := by omega
    have HQ : Hid (z = k) := heq
    clear heq
    go_wp2_with (go_at_call 42; refine (specLose_any hO.reads (HF.out.below B2) HLL.out HZZ.out).mono ?_; rintro e w3 ⟨v3, rfl, ho3, hb3⟩; obtain ⟨a3, d3, rfl⟩ := ho3.slice; have cr3 := cell_up hb3 cr2; have fr3 := frozen_up hb3 cr2 fr2)
    refine bodyPost_ret (ret_disk2 rfl rfl rfl (World.cell?_setCell_same' _ _ _ (by simp [cr3]))) rfl ?_
    refine ⟨.slice a3 (loseO L left).length d3, by first | rfl | (rw [decide_eq_true HQ.out, Bool.true_and]; rfl), ?_, (B2.trans (hb3.mono B2.size)).setCell (p := ⟨w.heap.size + 1, 0, none⟩) (by simp) _⟩
    try rw [if_pos HQ.out]
    exact (ho3.setBelow (by show w.heap.size + 1 < _; have := HW2.out; have := HSW.out; omega) _).mono B2.size

end Go.Proofs.Ytekflgecfcjjiaa
