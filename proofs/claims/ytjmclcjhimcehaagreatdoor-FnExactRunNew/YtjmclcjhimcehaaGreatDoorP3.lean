/-
  Steps of a region that draws its order: one of two, and several that only yield. A run of a plan is made, on both sides: the walks.
-/
import Derived.Test.YtjmclcjhimcehaaGreatDoorH3
import Derived.Test.YtjmclcjhimcehaaGreatDoorG27
import Derived.Test.YtjmclcjhimcehaaGreatDoorH1
namespace Go.Proofs.YtjmclcjhimcehaaGreatDoor
open Go Go.RowKit

/-- What comes up next, one, whose guard is on. -/
theorem pk_oneW {P : Program} {l : List Oper} {Q : Exit → Act → World → Prop} {C : World → Prop} {R : Act → World → Prop} {L listed : Array Bool} {fuel i : Nat} {o : Oper} {a : Act} {w : World} (hr : Region.ready .any l.toArray listed = [i]) (ho : l[i]? = some o) (hw : Region.wanted o (yielded l.toArray a.tmps) = true)
    (h : ∀ K : Act → World → Prop, Hid (∀ a' w', C w' → wpAnyU P .any l.toArray Q C L R fuel (listed.setIfInBounds i true) a' w' → K a' w') → wpList P l.toArray (Exit.then K Q) [o] a w) : wpAnyU P .any l.toArray Q C L R (fuel + 1) listed a w := by
  refine ⟨by rw [hr]; simp, fun j hj => ?_⟩
  rw [hr] at hj
  simp only [List.mem_singleton] at hj
  subst hj
  have h1 := h (fun a' w' => C w' ∧ wpAnyU P .any l.toArray Q C L R fuel (listed.setIfInBounds j true) a' w') (fun a' w' h1 h2 => ⟨h1, h2⟩)
  have ho' : l.toArray[j]? = some o := by simpa using ho
  unfold wpOp
  simp only [ho']
  unfold wpList at h1
  rw [if_pos hw] at h1 ⊢
  exact h1
/-- One of two, whose guards are on. -/
theorem pk_twoW {P : Program} {l : List Oper} {Q : Exit → Act → World → Prop} {C : World → Prop} {R : Act → World → Prop} {L listed : Array Bool} {fuel i j : Nat} {o p : Oper} {a : Act} {w : World} (hr : Region.ready .any l.toArray listed = [i, j]) (ho : l[i]? = some o) (hp : l[j]? = some p) (hw : Region.wanted o (yielded l.toArray a.tmps) = true) (hv : Region.wanted p (yielded l.toArray a.tmps) = true)
    (h : ∀ K : Act → World → Prop, Hid (∀ a' w', C w' → wpAnyU P .any l.toArray Q C L R fuel (listed.setIfInBounds i true) a' w' → K a' w') → wpList P l.toArray (Exit.then K Q) [o] a w)
    (h' : ∀ K : Act → World → Prop, Hid (∀ a' w', C w' → wpAnyU P .any l.toArray Q C L R fuel (listed.setIfInBounds j true) a' w' → K a' w') → wpList P l.toArray (Exit.then K Q) [p] a w) : wpAnyU P .any l.toArray Q C L R (fuel + 1) listed a w := by
  have ho' : l.toArray[i]? = some o := by simpa using ho
  have hp' : l.toArray[j]? = some p := by simpa using hp
  refine ⟨by rw [hr]; simp, fun k hk => ?_⟩
  rw [hr] at hk
  simp only [List.mem_cons, List.not_mem_nil, or_false] at hk
  rcases hk with hk | hk
  · subst hk
    have h1 := h (fun a' w' => C w' ∧ wpAnyU P .any l.toArray Q C L R fuel (listed.setIfInBounds k true) a' w') (fun a' w' h1 h2 => ⟨h1, h2⟩)
    unfold wpOp
    simp only [ho']
    unfold wpList at h1
    rw [if_pos hw] at h1 ⊢
    exact h1
  · subst hk
    have h1 := h' (fun a' w' => C w' ∧ wpAnyU P .any l.toArray Q C L R fuel (listed.setIfInBounds k true) a' w') (fun a' w' h1 h2 => ⟨h1, h2⟩)
    unfold wpOp
    simp only [hp']
    unfold wpList at h1
    rw [if_pos hv] at h1 ⊢
    exact h1
end Go.Proofs.YtjmclcjhimcehaaGreatDoor

namespace Go.Proofs.YtjmclcjhimcehaaGreatDoor
open Go Go.RowKit
set_option linter.unusedVariables false

def newB (d : Dg) (sf su : Int) : Bool := dagB d && spanB sf su
def newR (d : Dg) (sf su : Int) : Rr := if newB d sf su = true then ⟨d.name, sf, su, 0, List.replicate d.tasks.length default⟩ else noneR
theorem newR_len (d : Dg) (sf su : Int) : (newR d sf su).st.length ≤ 4 := by
  unfold newR
  split
  · rename_i h
    unfold newB at h
    rw [Bool.and_eq_true] at h
    show (List.replicate d.tasks.length default).length ≤ 4
    rw [List.length_replicate]
    exact (rg_of h.1).few
  · exact Nat.zero_le _
/-- A span's block, of the program. -/
def S2i (w : World) (g : Nat) (a b : Int) : Prop := w.heap[g]? = some (.cells #[.int .i64 a, .int .i64 b] 28)
section S2x
variable {w w' : World} {g : Nat} {a b : Int}
theorem S2i.lt (h : S2i w g a b) : g < w.heap.size := (Array.getElem?_eq_some_iff.1 h).1
theorem S2i.c0 (h : S2i w g a b) : w.cell? ⟨g, 0, none⟩ = some (.int .i64 a) := by simp [World.cell?, show w.heap[g]? = _ from h]
theorem S2i.c1 (h : S2i w g a b) : w.cell? ⟨g, 1, none⟩ = some (.int .i64 b) := by simp [World.cell?, show w.heap[g]? = _ from h]
theorem S2i.on (h : S2i w g a b) (hb : Below w.heap.size w w') : S2i w' g a b := (hb.block _ h.lt).trans h
theorem S2i.new (w : World) (a b : Int) : S2i (w.alloc (.cells #[.int .i64 a, .int .i64 b] 28)) w.heap.size a b := by
  show (w.heap.push _)[w.heap.size]? = _; simp
end S2x
theorem made_own (W : World) (n : Nat) {w1 : World} (ho : w1.ownsRow W.heap.size 85 4 (.slice (some ⟨W.heap.size, 0, none⟩) n n) n (madeCells (Value.cells (.agg #[.int .i64 0, .int .i64 0, .int .i64 0, .int .i64 0])) (n * 4)).toList) : ownsR w1 W.heap.size 85 (.slice (some ⟨W.heap.size, 0, none⟩) n n) (List.replicate n (default : Sa)) := by
  rw [madeSa] at ho
  unfold ownsR
  rw [List.length_replicate]
  exact ho
set_option maxRecDepth 10000 in
set_option maxHeartbeats 8000000 in
theorem implRunNew_any (ao : Option Addr) (n cap : Nat) (nm cr : ByteArray) (fr up : Int) (cu : Bool) (ts : List Ta) (sf su : Int) (w : World) (hd : DagI w ao n cap ⟨nm, cr, fr, up, cu, ts⟩) (hg : Gl w) (hz : nm.size ≤ 1048576) (R : Rr) (HRR : Hid (newR ⟨nm, cr, fr, up, cu, ts⟩ sf su = R)) :
    Calls Tryz.prog 13 #[.agg #[.string nm, .string cr, .int .i64 fr, .int .i64 up, .bool cu, .slice ao n cap], .agg #[.int .i64 sf, .int .i64 su]] w fun e w' => ∃ v, e = .returned (.tuple #[.agg #[.string R.nm, .int .i64 R.fr, .int .i64 R.up, .int .i64 R.ep, v], .bool (newB ⟨nm, cr, fr, up, cu, ts⟩ sf su)]) ∧ ownsR w' w.heap.size 85 v R.st ∧ Below w.heap.size w w' := by
  obtain ⟨i0, hi0, hz0, hz1, hz2⟩ := info_parts infoSa
  have HN : Hid (ts.length = n) := by
    obtain ⟨ao', cap', e⟩ := hd.tasks.slice
    injection e with _ e2 _
    exact e2.symm
  obtain ⟨q, HQ⟩ : ∃ q, Hid (dagB ⟨nm, cr, fr, up, cu, ts⟩ = q) := ⟨_, rfl⟩
  have HD : Hid (∀ W, Below w.heap.size w W → Calls Tryz.prog 38 #[.agg #[.string nm, .string cr, .int .i64 fr, .int .i64 up, .bool cu, .slice ao n cap]] W fun e w' => e = .returned (.bool q) ∧ Below W.heap.size W w') := fun W hb => by
    have := implDagOk_any ao n cap nm cr fr up cu ts W (hd.below hb) (hg.up hb)
    rw [HQ.out] at this
    exact this
  obtain ⟨p, HP⟩ : ∃ p, Hid (spanB sf su = p) := ⟨_, rfl⟩
  have HSP : Hid (∀ W, Calls Tryz.prog 39 #[.agg #[.int .i64 sf, .int .i64 su]] W fun e w' => e = .returned (.bool p) ∧ Below W.heap.size W w') := fun W => by
    have := isRunSpan_any sf su W
    rw [HP.out] at this
    exact this
  have HFB : Hid (newB ⟨nm, cr, fr, up, cu, ts⟩ sf su = (q && p)) := by show newB _ _ _ = _; unfold newB; rw [HQ.out, HP.out]
  have HFEW : Hid (q = true → n ≤ 4) := fun h => by rw [← HN.out]; exact (rg_of (HQ.out.trans h)).few
  clear hd hg
  obtain ⟨W1, hW1⟩ : ∃ W1, ((w.alloc (.cells #[.string nm, .string cr, .int .i64 fr, .int .i64 up, .bool cu, .slice ao n cap] 36)).alloc (.cells #[.int .i64 sf, .int .i64 su] 28)).alloc (.cells #[.string ⟨#[]⟩, .int .i64 0, .int .i64 0, .int .i64 0, .slice none 0 0] 31) = W1 := ⟨_, rfl⟩
  have Z1 : P6 W1 w.heap.size nm cr fr up cu (.slice ao n cap) := by rw [← hW1]; exact (P6.new _ _ _ _ _ _ _).on (ba (ba (Below.refl _ _) (.cells #[.int .i64 sf, .int .i64 su] 28)) (.cells #[.string ⟨#[]⟩, .int .i64 0, .int .i64 0, .int .i64 0, .slice none 0 0] 31))
  have S1 : S2i W1 (w.heap.size + 1) sf su := by
    rw [← hW1]
    have := (S2i.new (w.alloc (.cells #[.string nm, .string cr, .int .i64 fr, .int .i64 up, .bool cu, .slice ao n cap] 36)) sf su).on (ba (Below.refl _ _) (.cells #[.string ⟨#[]⟩, .int .i64 0, .int .i64 0, .int .i64 0, .slice none 0 0] 31))
    simpa using this
  have Y1 : R5 W1 (w.heap.size + 1 + 1) ⟨#[]⟩ 0 0 0 (.slice none 0 0) := by
    rw [← hW1]
    have := R5.new ((w.alloc (.cells #[.string nm, .string cr, .int .i64 fr, .int .i64 up, .bool cu, .slice ao n cap] 36)).alloc (.cells #[.int .i64 sf, .int .i64 su] 28)) ⟨#[]⟩ 0 0 0 (.slice none 0 0)
    simpa using this
  have B1 : Below w.heap.size w W1 := by rw [← hW1]; exact ba (ba (ba (Below.refl _ _) _) _) _
  have c0 := Z1.c0
  have c1 := Z1.c1
  have c2 := Z1.c2
  have c3 := Z1.c3
  have c4 := Z1.c4
  have c5 := Z1.c5
  go_enter Tryz.func13, Tryz.ntmps13
  go_wp2_with fail
  refine (HD.out _ B1).mono ?_
  rintro e w2 ⟨rfl, hb2⟩
  have Z2 := Z1.on hb2
  have S2 := S1.on hb2
  have Y2 := Y1.on hb2
  have B2 := Below.on B1 hb2
  clear c0 c1 c2 c3 c4 c5 Z1 S1 Y1 B1 hb2 HD hW1
  cases q with
  | false =>
    have HF : Hid (newB ⟨nm, cr, fr, up, cu, ts⟩ sf su = false) := HFB.out
    have HR0 : Hid (R = noneR) := by show R = _; rw [← HRR.out]; exact if_neg (by rw [HF.out]; decide)
    have y0 := Y2.c0
    have y1 := Y2.c1
    have y2 := Y2.c2
    have y3 := Y2.c3
    have y4 := Y2.c4
    have yf := Y2.fz
    go_wp2
    refine bodyPost_ret (ret_run2 rfl rfl rfl (Y2.set ⟨#[]⟩ 0 0 0 (.slice none 0 0))) rfl ⟨.slice none 0 0, ?_, ?_, below_putR5 B2 (by omega) ⟨#[]⟩ 0 0 0 (.slice none 0 0)⟩
    · rw [HR0.out, HF.out]; rfl
    · rw [HR0.out]; exact ownsR_nil _ _ _
  | true =>
  have s0 := S2.c0
  have s1 := S2.c1
  go_wp2_with fail
  refine (HSP.out _).mono ?_
  rintro e w3 ⟨rfl, hb3⟩
  have Z3 := Z2.on hb3
  have S3 := S2.on hb3
  have Y3 := Y2.on hb3
  have B3 := Below.on B2 hb3
  clear s0 s1 Z2 S2 Y2 B2 hb3 HSP
  cases p with
  | false =>
    have HF : Hid (newB ⟨nm, cr, fr, up, cu, ts⟩ sf su = false) := HFB.out
    have HR0 : Hid (R = noneR) := by show R = _; rw [← HRR.out]; exact if_neg (by rw [HF.out]; decide)
    have y0 := Y3.c0
    have y1 := Y3.c1
    have y2 := Y3.c2
    have y3 := Y3.c3
    have y4 := Y3.c4
    have yf := Y3.fz
    go_wp2
    refine bodyPost_ret (ret_run2 rfl rfl rfl (Y3.set ⟨#[]⟩ 0 0 0 (.slice none 0 0))) rfl ⟨.slice none 0 0, ?_, ?_, below_putR5 B3 (by omega) ⟨#[]⟩ 0 0 0 (.slice none 0 0)⟩
    · rw [HR0.out, HF.out]; rfl
    · rw [HR0.out]; exact ownsR_nil _ _ _
  | true =>
  have HF : Hid (newB ⟨nm, cr, fr, up, cu, ts⟩ sf su = true) := HFB.out
  have HR0 : Hid (R = ⟨nm, sf, su, 0, List.replicate n default⟩) := by
    show R = _
    rw [← HRR.out]
    unfold newR
    rw [HF.out, if_pos rfl]
    show Rr.mk nm sf su 0 (List.replicate ts.length default) = _
    rw [HN.out]
  have hn4 : n ≤ 4 := HFEW.out (by first | rfl | trivial)
  clear HRR HFB HQ HP HFEW
  have q0 := Wd.cell Z3.c0
  have q1 := Wd.cell Z3.c1
  have q2 := Wd.cell Z3.c2
  have q3 := Wd.cell Z3.c3
  have q4 := Wd.cell Z3.c4
  have q5 := Wd.cell Z3.c5
  have p0 := Wd.cell S3.c0
  have p1 := Wd.cell S3.c1
  go_wp2_with fail
  have hdr : Below w3.heap.size w3 w3.drew := (Below.refl _ _).drew
  obtain ⟨U0, hU0⟩ : ∃ V, w3.drew = V := ⟨_, rfl⟩
  have BU0 : Below w3.heap.size w3 U0 := by rw [← hU0]; exact hdr
  refine wp_region_pick (fun w' => ∃ x : Wd w3, w' = x.at') [0, 1, 3, 4, 5] 9 4 (by kernel_rfl) (by decide) (by decide) (by kernel_rfl) (fun _ _ d _ _ h => by cases d <;> exact h) ⟨⟨w3.drew, hdr⟩, rfl⟩ ?_
  (repeat (refine wpTakes_l rfl (by first | (intro x h; cases h; done) | (intro x h; cases h; exact ⟨_, rfl⟩)) ?_; go_big_quiet_step (fail); refine wpQuiet_nil ?_)); refine takes_nil ?_
  rw [hU0]
  clear hU0 hdr
  refine pk_two (fuel := 3) (i := 2) (j := 6) (by kernel_rfl) rfl rfl rfl rfl ?_ ?_
  · skip
    intro K hK
    go_wp2_with fail
    refine (clone_any nm _ hz).mono ?_
    rintro e U1 ⟨rfl, hbU1⟩
    have BU1 : Below w3.heap.size w3 U1 := Below.on BU0 hbU1
    clear hbU1
    go_wp2
    refine hK.out _ _ ⟨⟨U1, BU1⟩, rfl⟩ ?_
    clear hK K
    refine any_one (fuel := 2) (i := 6) (by kernel_rfl) rfl rfl ?_
    intro K hK
    go_wp2
    refine hK.out _ _ ⟨⟨U1, BU1⟩, rfl⟩ ?_
    clear hK K
    refine any_one (fuel := 1) (i := 7) (by kernel_rfl) rfl rfl ?_
    intro K hK
    go_wp2_with (at_make; refine wpList_make_full _ rfl _ _ 29 rfl U1.heap.size 85 i0 _ 4 underSa hi0 hz0 hz1 .i64 .i64 _ _ n rfl rfl rfl rfl (by rw [hz2]; omega) (by unfold maxLen; omega) (Nat.le_refl _) ?_; intro U2 hoU2 hgU2)
    have hbU2 : Below U1.heap.size U1 U2 := (Below.refl _ U1).grown hgU2 (Nat.le_refl _) (fun j hj => by cases hj)
    have BU2 : Below w3.heap.size w3 U2 := Below.on BU1 hbU2
    have HOU2 : Hid (ownsR U2 w.heap.size 85 (.slice (some ⟨U1.heap.size, 0, none⟩) n n) (List.replicate n (default : Sa))) := (made_own U1 n hoU2).mono (Nat.le_trans B3.size BU1.size)
    obtain ⟨g, HGG⟩ : ∃ g, Hid (U1.heap.size = g) := ⟨_, rfl⟩
    have hgl : w.heap.size + 1 + 1 < g := by rw [← HGG.out]; exact Nat.lt_of_lt_of_le Y3.lt BU1.size
    rw [HGG.out] at HOU2
    rw [HGG.out]
    clear hoU2 hgU2 hbU2 HGG
    refine hK.out _ _ ⟨⟨U2, BU2⟩, rfl⟩ ?_
    clear hK K
    refine any_one (fuel := 0) (i := 8) (by kernel_rfl) rfl rfl ?_
    intro K hK
    go_wp2
    refine hK.out _ _ ⟨⟨U2, BU2⟩, rfl⟩ ?_
    clear hK K
    refine any_done (by kernel_rfl) ?_
    simp only [List.drop_succ_cons, List.drop_zero]
    have B9 := Below.on B3 BU2
    have Y9 := Y3.on BU2
    clear q0 q1 q2 q3 q4 q5 p0 p1
    have y0 := Y9.c0
    have y1 := Y9.c1
    have y2 := Y9.c2
    have y3 := Y9.c3
    have y4 := Y9.c4
    have yf := Y9.fz
    go_wp2
    refine bodyPost_ret (ret_run2 rfl rfl rfl (Y9.set nm sf su 0 (.slice (some ⟨g, 0, none⟩) n n))) rfl ⟨(.slice (some ⟨g, 0, none⟩) n n), ?_, ?_, below_putR5 B9 (by omega) nm sf su 0 (.slice (some ⟨g, 0, none⟩) n n)⟩
    · rw [HR0.out, HF.out]; rfl
    · rw [HR0.out]; exact own_putR5 HOU2.out (not_rowR5 Y9 HOU2.out) nm sf su 0 (.slice (some ⟨g, 0, none⟩) n n)
  · skip
    intro K hK
    go_wp2
    refine hK.out _ _ ⟨⟨U0, BU0⟩, rfl⟩ ?_
    clear hK K
    refine pk_two (fuel := 2) (i := 2) (j := 7) (by kernel_rfl) rfl rfl rfl rfl ?_ ?_
    · skip
      intro K hK
      go_wp2_with fail
      refine (clone_any nm _ hz).mono ?_
      rintro e U1 ⟨rfl, hbU1⟩
      have BU1 : Below w3.heap.size w3 U1 := Below.on BU0 hbU1
      clear hbU1
      go_wp2
      refine hK.out _ _ ⟨⟨U1, BU1⟩, rfl⟩ ?_
      clear hK K
      refine any_one (fuel := 1) (i := 7) (by kernel_rfl) rfl rfl ?_
      intro K hK
      go_wp2_with (at_make; refine wpList_make_full _ rfl _ _ 29 rfl U1.heap.size 85 i0 _ 4 underSa hi0 hz0 hz1 .i64 .i64 _ _ n rfl rfl rfl rfl (by rw [hz2]; omega) (by unfold maxLen; omega) (Nat.le_refl _) ?_; intro U2 hoU2 hgU2)
      have hbU2 : Below U1.heap.size U1 U2 := (Below.refl _ U1).grown hgU2 (Nat.le_refl _) (fun j hj => by cases hj)
      have BU2 : Below w3.heap.size w3 U2 := Below.on BU1 hbU2
      have HOU2 : Hid (ownsR U2 w.heap.size 85 (.slice (some ⟨U1.heap.size, 0, none⟩) n n) (List.replicate n (default : Sa))) := (made_own U1 n hoU2).mono (Nat.le_trans B3.size BU1.size)
      obtain ⟨g, HGG⟩ : ∃ g, Hid (U1.heap.size = g) := ⟨_, rfl⟩
      have hgl : w.heap.size + 1 + 1 < g := by rw [← HGG.out]; exact Nat.lt_of_lt_of_le Y3.lt BU1.size
      rw [HGG.out] at HOU2
      rw [HGG.out]
      clear hoU2 hgU2 hbU2 HGG
      refine hK.out _ _ ⟨⟨U2, BU2⟩, rfl⟩ ?_
      clear hK K
      refine any_one (fuel := 0) (i := 8) (by kernel_rfl) rfl rfl ?_
      intro K hK
      go_wp2
      refine hK.out _ _ ⟨⟨U2, BU2⟩, rfl⟩ ?_
      clear hK K
      refine any_done (by kernel_rfl) ?_
      simp only [List.drop_succ_cons, List.drop_zero]
      have B9 := Below.on B3 BU2
      have Y9 := Y3.on BU2
      clear q0 q1 q2 q3 q4 q5 p0 p1
      have y0 := Y9.c0
      have y1 := Y9.c1
      have y2 := Y9.c2
      have y3 := Y9.c3
      have y4 := Y9.c4
      have yf := Y9.fz
      go_wp2
      refine bodyPost_ret (ret_run2 rfl rfl rfl (Y9.set nm sf su 0 (.slice (some ⟨g, 0, none⟩) n n))) rfl ⟨(.slice (some ⟨g, 0, none⟩) n n), ?_, ?_, below_putR5 B9 (by omega) nm sf su 0 (.slice (some ⟨g, 0, none⟩) n n)⟩
      · rw [HR0.out, HF.out]; rfl
      · rw [HR0.out]; exact own_putR5 HOU2.out (not_rowR5 Y9 HOU2.out) nm sf su 0 (.slice (some ⟨g, 0, none⟩) n n)
    · skip
      intro K hK
      go_wp2_with (at_make; refine wpList_make_full _ rfl _ _ 29 rfl U0.heap.size 85 i0 _ 4 underSa hi0 hz0 hz1 .i64 .i64 _ _ n rfl rfl rfl rfl (by rw [hz2]; omega) (by unfold maxLen; omega) (Nat.le_refl _) ?_; intro U1 hoU1 hgU1)
      have hbU1 : Below U0.heap.size U0 U1 := (Below.refl _ U0).grown hgU1 (Nat.le_refl _) (fun j hj => by cases hj)
      have BU1 : Below w3.heap.size w3 U1 := Below.on BU0 hbU1
      have HOU1 : Hid (ownsR U1 w.heap.size 85 (.slice (some ⟨U0.heap.size, 0, none⟩) n n) (List.replicate n (default : Sa))) := (made_own U0 n hoU1).mono (Nat.le_trans B3.size BU0.size)
      obtain ⟨g, HGG⟩ : ∃ g, Hid (U0.heap.size = g) := ⟨_, rfl⟩
      have hgl : w.heap.size + 1 + 1 < g := by rw [← HGG.out]; exact Nat.lt_of_lt_of_le Y3.lt BU0.size
      rw [HGG.out] at HOU1
      rw [HGG.out]
      clear hoU1 hgU1 hbU1 HGG
      refine hK.out _ _ ⟨⟨U1, BU1⟩, rfl⟩ ?_
      clear hK K
      refine any_one (fuel := 1) (i := 2) (by kernel_rfl) rfl rfl ?_
      intro K hK
      go_wp2_with fail
      refine (clone_any nm _ hz).mono ?_
      rintro e U2 ⟨rfl, hbU2⟩
      have BU2 : Below w3.heap.size w3 U2 := Below.on BU1 hbU2
      have HOU2 : Hid (ownsR U2 w.heap.size 85 (.slice (some ⟨g, 0, none⟩) n n) (List.replicate n (default : Sa))) := HOU1.out.all hbU2
      clear hbU2
      go_wp2
      refine hK.out _ _ ⟨⟨U2, BU2⟩, rfl⟩ ?_
      clear hK K
      refine any_one (fuel := 0) (i := 8) (by kernel_rfl) rfl rfl ?_
      intro K hK
      go_wp2
      refine hK.out _ _ ⟨⟨U2, BU2⟩, rfl⟩ ?_
      clear hK K
      refine any_done (by kernel_rfl) ?_
      simp only [List.drop_succ_cons, List.drop_zero]
      have B9 := Below.on B3 BU2
      have Y9 := Y3.on BU2
      clear q0 q1 q2 q3 q4 q5 p0 p1
      have y0 := Y9.c0
      have y1 := Y9.c1
      have y2 := Y9.c2
      have y3 := Y9.c3
      have y4 := Y9.c4
      have yf := Y9.fz
      go_wp2
      refine bodyPost_ret (ret_run2 rfl rfl rfl (Y9.set nm sf su 0 (.slice (some ⟨g, 0, none⟩) n n))) rfl ⟨(.slice (some ⟨g, 0, none⟩) n n), ?_, ?_, below_putR5 B9 (by omega) nm sf su 0 (.slice (some ⟨g, 0, none⟩) n n)⟩
      · rw [HR0.out, HF.out]; rfl
      · rw [HR0.out]; exact own_putR5 HOU2.out (not_rowR5 Y9 HOU2.out) nm sf su 0 (.slice (some ⟨g, 0, none⟩) n n)
set_option maxRecDepth 10000 in
set_option maxHeartbeats 8000000 in
theorem specRunNew_any (ao : Option Addr) (n cap : Nat) (nm cr : ByteArray) (fr up : Int) (cu : Bool) (ts : List Ta) (sf su : Int) (w : World) (hd : DagAt w (.slice ao n cap) ⟨nm, cr, fr, up, cu, ts⟩) (R : Rr) (HRR : Hid (newR ⟨nm, cr, fr, up, cu, ts⟩ sf su = R)) :
    Calls Tryz.prog 10 #[.agg #[.string nm, .string cr, .int .i64 fr, .int .i64 up, .bool cu, .slice ao n cap], .agg #[.int .i64 sf, .int .i64 su]] w fun e w' => ∃ v, e = .returned (.tuple #[.agg #[.string R.nm, .int .i64 R.fr, .int .i64 R.up, .int .i64 R.ep, v], .bool (newB ⟨nm, cr, fr, up, cu, ts⟩ sf su)]) ∧ ownsR w' w.heap.size 85 v R.st ∧ Below w.heap.size w w' := by
  obtain ⟨i0, hi0, hz0, hz1, hz2⟩ := info_parts infoSa
  have HN : Hid (ts.length = n) := by
    obtain ⟨ao', cap', e⟩ := hd.tasks.slice
    injection e with _ e2 _
    exact e2.symm
  obtain ⟨q, HQ⟩ : ∃ q, Hid (dagB ⟨nm, cr, fr, up, cu, ts⟩ = q) := ⟨_, rfl⟩
  have HD : Hid (∀ W, Below w.heap.size w W → Calls Tryz.prog 35 #[.agg #[.string nm, .string cr, .int .i64 fr, .int .i64 up, .bool cu, .slice ao n cap]] W fun e w' => e = .returned (.bool q) ∧ Below W.heap.size W w') := fun W hb => by
    have := dagOk_try _ nm cr fr up cu ts W (hd.below hb)
    rw [HQ.out] at this
    exact this
  obtain ⟨p, HP⟩ : ∃ p, Hid (spanB sf su = p) := ⟨_, rfl⟩
  have HSP : Hid (∀ W, Calls Tryz.prog 36 #[.agg #[.int .i64 sf, .int .i64 su]] W fun e w' => e = .returned (.bool p) ∧ Below W.heap.size W w') := fun W => by
    have := l14Span_any sf su W
    rw [HP.out] at this
    exact this
  have HFB : Hid (newB ⟨nm, cr, fr, up, cu, ts⟩ sf su = (q && p)) := by show newB _ _ _ = _; unfold newB; rw [HQ.out, HP.out]
  have HFEW : Hid (q = true → n ≤ 4) := fun h => by rw [← HN.out]; exact (rg_of (HQ.out.trans h)).few
  clear hd
  obtain ⟨W1, hW1⟩ : ∃ W1, ((w.alloc (.cells #[.string nm, .string cr, .int .i64 fr, .int .i64 up, .bool cu, .slice ao n cap] 36)).alloc (.cells #[.int .i64 sf, .int .i64 su] 28)).alloc (.cells #[.string ⟨#[]⟩, .int .i64 0, .int .i64 0, .int .i64 0, .slice none 0 0] 31) = W1 := ⟨_, rfl⟩
  have Z1 : P6 W1 w.heap.size nm cr fr up cu (.slice ao n cap) := by rw [← hW1]; exact (P6.new _ _ _ _ _ _ _).on (ba (ba (Below.refl _ _) (.cells #[.int .i64 sf, .int .i64 su] 28)) (.cells #[.string ⟨#[]⟩, .int .i64 0, .int .i64 0, .int .i64 0, .slice none 0 0] 31))
  have S1 : S2i W1 (w.heap.size + 1) sf su := by
    rw [← hW1]
    have := (S2i.new (w.alloc (.cells #[.string nm, .string cr, .int .i64 fr, .int .i64 up, .bool cu, .slice ao n cap] 36)) sf su).on (ba (Below.refl _ _) (.cells #[.string ⟨#[]⟩, .int .i64 0, .int .i64 0, .int .i64 0, .slice none 0 0] 31))
    simpa using this
  have Y1 : R5 W1 (w.heap.size + 1 + 1) ⟨#[]⟩ 0 0 0 (.slice none 0 0) := by
    rw [← hW1]
    have := R5.new ((w.alloc (.cells #[.string nm, .string cr, .int .i64 fr, .int .i64 up, .bool cu, .slice ao n cap] 36)).alloc (.cells #[.int .i64 sf, .int .i64 su] 28)) ⟨#[]⟩ 0 0 0 (.slice none 0 0)
    simpa using this
  have B1 : Below w.heap.size w W1 := by rw [← hW1]; exact ba (ba (ba (Below.refl _ _) _) _) _
  have c0 := Z1.c0
  have c1 := Z1.c1
  have c2 := Z1.c2
  have c3 := Z1.c3
  have c4 := Z1.c4
  have c5 := Z1.c5
  go_enter Tryz.func10, Tryz.ntmps10
  go_wp2_with fail
  refine (HD.out _ B1).mono ?_
  rintro e w2 ⟨rfl, hb2⟩
  have Z2 := Z1.on hb2
  have S2 := S1.on hb2
  have Y2 := Y1.on hb2
  have B2 := Below.on B1 hb2
  clear c0 c1 c2 c3 c4 c5 Z1 S1 Y1 B1 hb2 HD hW1
  cases q with
  | false =>
    have HF : Hid (newB ⟨nm, cr, fr, up, cu, ts⟩ sf su = false) := HFB.out
    have HR0 : Hid (R = noneR) := by show R = _; rw [← HRR.out]; exact if_neg (by rw [HF.out]; decide)
    have y0 := Y2.c0
    have y1 := Y2.c1
    have y2 := Y2.c2
    have y3 := Y2.c3
    have y4 := Y2.c4
    have yf := Y2.fz
    go_wp2
    refine bodyPost_ret (ret_run2 rfl rfl rfl (Y2.set ⟨#[]⟩ 0 0 0 (.slice none 0 0))) rfl ⟨.slice none 0 0, ?_, ?_, below_putR5 B2 (by omega) ⟨#[]⟩ 0 0 0 (.slice none 0 0)⟩
    · rw [HR0.out, HF.out]; rfl
    · rw [HR0.out]; exact ownsR_nil _ _ _
  | true =>
  have s0 := S2.c0
  have s1 := S2.c1
  go_wp2_with fail
  refine (HSP.out _).mono ?_
  rintro e w3 ⟨rfl, hb3⟩
  have Z3 := Z2.on hb3
  have S3 := S2.on hb3
  have Y3 := Y2.on hb3
  have B3 := Below.on B2 hb3
  clear s0 s1 Z2 S2 Y2 B2 hb3 HSP
  cases p with
  | false =>
    have HF : Hid (newB ⟨nm, cr, fr, up, cu, ts⟩ sf su = false) := HFB.out
    have HR0 : Hid (R = noneR) := by show R = _; rw [← HRR.out]; exact if_neg (by rw [HF.out]; decide)
    have y0 := Y3.c0
    have y1 := Y3.c1
    have y2 := Y3.c2
    have y3 := Y3.c3
    have y4 := Y3.c4
    have yf := Y3.fz
    go_wp2
    refine bodyPost_ret (ret_run2 rfl rfl rfl (Y3.set ⟨#[]⟩ 0 0 0 (.slice none 0 0))) rfl ⟨.slice none 0 0, ?_, ?_, below_putR5 B3 (by omega) ⟨#[]⟩ 0 0 0 (.slice none 0 0)⟩
    · rw [HR0.out, HF.out]; rfl
    · rw [HR0.out]; exact ownsR_nil _ _ _
  | true =>
  have HF : Hid (newB ⟨nm, cr, fr, up, cu, ts⟩ sf su = true) := HFB.out
  have HR0 : Hid (R = ⟨nm, sf, su, 0, List.replicate n default⟩) := by
    show R = _
    rw [← HRR.out]
    unfold newR
    rw [HF.out, if_pos rfl]
    show Rr.mk nm sf su 0 (List.replicate ts.length default) = _
    rw [HN.out]
  have hn4 : n ≤ 4 := HFEW.out (by first | rfl | trivial)
  clear HRR HFB HQ HP HFEW
  have q0 := Wd.cell Z3.c0
  have q1 := Wd.cell Z3.c1
  have q2 := Wd.cell Z3.c2
  have q3 := Wd.cell Z3.c3
  have q4 := Wd.cell Z3.c4
  have q5 := Wd.cell Z3.c5
  have p0 := Wd.cell S3.c0
  have p1 := Wd.cell S3.c1
  go_wp2_with fail
  have hdr : Below w3.heap.size w3 w3.drew := (Below.refl _ _).drew
  obtain ⟨U0, hU0⟩ : ∃ V, w3.drew = V := ⟨_, rfl⟩
  have BU0 : Below w3.heap.size w3 U0 := by rw [← hU0]; exact hdr
  refine wp_region_pick (fun w' => ∃ x : Wd w3, w' = x.at') [0, 1, 2, 3, 4] 8 3 (by kernel_rfl) (by decide) (by decide) (by kernel_rfl) (fun _ _ d _ _ h => by cases d <;> exact h) ⟨⟨w3.drew, hdr⟩, rfl⟩ ?_
  (repeat (refine wpTakes_l rfl (by first | (intro x h; cases h; done) | (intro x h; cases h; exact ⟨_, rfl⟩)) ?_; go_big_quiet_step (fail); refine wpQuiet_nil ?_)); refine takes_nil ?_
  rw [hU0]
  clear hU0 hdr
  refine any_one (fuel := 2) (i := 5) (by kernel_rfl) rfl rfl ?_
  intro K hK
  go_wp2
  refine hK.out _ _ ⟨⟨U0, BU0⟩, rfl⟩ ?_
  clear hK K
  refine any_one (fuel := 1) (i := 6) (by kernel_rfl) rfl rfl ?_
  intro K hK
  go_wp2_with (at_make; refine wpList_make_full _ rfl _ _ 29 rfl U0.heap.size 85 i0 _ 4 underSa hi0 hz0 hz1 .i64 .i64 _ _ n rfl rfl rfl rfl (by rw [hz2]; omega) (by unfold maxLen; omega) (Nat.le_refl _) ?_; intro U1 hoU1 hgU1)
  have hbU1 : Below U0.heap.size U0 U1 := (Below.refl _ U0).grown hgU1 (Nat.le_refl _) (fun j hj => by cases hj)
  have BU1 : Below w3.heap.size w3 U1 := Below.on BU0 hbU1
  have HOU1 : Hid (ownsR U1 w.heap.size 85 (.slice (some ⟨U0.heap.size, 0, none⟩) n n) (List.replicate n (default : Sa))) := (made_own U0 n hoU1).mono (Nat.le_trans B3.size BU0.size)
  obtain ⟨g, HGG⟩ : ∃ g, Hid (U0.heap.size = g) := ⟨_, rfl⟩
  have hgl : w.heap.size + 1 + 1 < g := by rw [← HGG.out]; exact Nat.lt_of_lt_of_le Y3.lt BU0.size
  rw [HGG.out] at HOU1
  rw [HGG.out]
  clear hoU1 hgU1 hbU1 HGG
  refine hK.out _ _ ⟨⟨U1, BU1⟩, rfl⟩ ?_
  clear hK K
  refine any_one (fuel := 0) (i := 7) (by kernel_rfl) rfl rfl ?_
  intro K hK
  go_wp2
  refine hK.out _ _ ⟨⟨U1, BU1⟩, rfl⟩ ?_
  clear hK K
  refine any_done (by kernel_rfl) ?_
  simp only [List.drop_succ_cons, List.drop_zero]
  have B9 := Below.on B3 BU1
  have Y9 := Y3.on BU1
  clear q0 q1 q2 q3 q4 q5 p0 p1
  have y0 := Y9.c0
  have y1 := Y9.c1
  have y2 := Y9.c2
  have y3 := Y9.c3
  have y4 := Y9.c4
  have yf := Y9.fz
  go_wp2
  refine bodyPost_ret (ret_run2 rfl rfl rfl (Y9.set nm sf su 0 (.slice (some ⟨g, 0, none⟩) n n))) rfl ⟨(.slice (some ⟨g, 0, none⟩) n n), ?_, ?_, below_putR5 B9 (by omega) nm sf su 0 (.slice (some ⟨g, 0, none⟩) n n)⟩
  · rw [HR0.out, HF.out]; rfl
  · rw [HR0.out]; exact own_putR5 HOU1.out (not_rowR5 Y9 HOU1.out) nm sf su 0 (.slice (some ⟨g, 0, none⟩) n n)
end Go.Proofs.YtjmclcjhimcehaaGreatDoor
