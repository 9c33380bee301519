/-
  The newest snapshot of a disk: the walk of the program's NewestSnap. The newest snapshot of a disk, as the specification tells it: the walk.
-/
import Derived.Test.YtgpojfkdcdgloaaDoorP2
import Derived.Test.YtgpojfkdcdgloaaDoorP4
import Derived.Test.YtgpojfkdcdgloaaDoorP3
namespace Go.Proofs.YtgpojfkdcdgloaaDoor
open Go Go.RowKit

/-- What NewestSnap comes to. -/
def NsP (l : List Fl) (w : World) (e : Ending) (w' : World) : Prop := ∃ v, e = .returned (rsV (nsP l) v) ∧ ownsR w' w.heap.size 3 v (nsP l).l ∧ Below w.heap.size w w'
theorem nsP_no {l : List Fl} (h : diskR l = false) : nsP l = zeroS := by unfold nsP; rw [if_neg (by rw [h]; decide)]
theorem nsP_yes {l : List Fl} (h : diskR l = true) : nsP l = newP l := by unfold nsP; rw [if_pos h]
theorem pstep_less {P : Rsd} {f : Fl} {x : Int} (hx : idxOf f.name = x) (h : x < P.i) : pstep P f = P := by unfold pstep; rw [hx, if_pos h]
theorem pstep_not {P r : Rsd} {f : Fl} {x : Int} (hx : idxOf f.name = x) (hr : rsP f.text = r) (h : ¬ x < P.i) (hn : r.z = false ∨ r.i ≠ x) : pstep P f = P := by
  unfold pstep
  rw [hx, if_neg h, hr, if_neg]
  rintro ⟨h1, h2⟩
  rcases hn with h3 | h3
  · rw [h1] at h3; cases h3
  · exact h3 h2
theorem pstep_new {P r : Rsd} {f : Fl} {x : Int} (hx : idxOf f.name = x) (hr : rsP f.text = r) (h : ¬ x < P.i) (h1 : r.z = true) (h2 : r.i = x) : pstep P f = r := by
  unfold pstep
  rw [hx, if_neg h, hr, if_pos ⟨h1, h2⟩]

set_option maxRecDepth 10000 in
set_option maxHeartbeats 2000000 in
theorem newestSnap_no (ao : Option Addr) (n c : Nat) (l : List Fl) (w : World) (hd : diskR l = false) (CD : Hid (∀ W, Below w.heap.size w W → Calls Tryd.prog 59 #[.agg #[.slice ao n c]] W fun e w' => e = .returned (.bool false) ∧ Below W.heap.size W w')) :
    Calls Tryd.prog 30 #[.agg #[.slice ao n c]] w (NsP l w) := by
  have HZ : Hid (nsP l = zeroS) := nsP_no hd
  clear hd
  go_enter Tryd.func30, Tryd.ntmps30
  go_wp2_with fail
  refine Calls.mono (CD.out _ (ba (ba (Below.refl _ _) _) _)) ?_
  rintro e w1 ⟨rfl, hb1⟩
  have B1 : Below w.heap.size w w1 := (ba (ba (Below.refl _ _) _) _).trans (hb1.mono (by simp; omega))
  have G1 := blk_upD (heap_next w (.cells #[.slice ao n c] 47) (.cells #[.int .i64 0, .int .i64 0, .slice none 0 0, .string { data := #[] }] 30)) hb1
  clear hb1
  obtain ⟨c0, c1, c2, c3⟩ := sb_cells G1
  have f1 := sb_frozen G1
  go_wp2
  have F1 := sb_set3 (sb_set2 (sb_set1 (sb_set0 G1 (.int .i64 0)) (.int .i64 0)) (.slice none 0 0)) (.string { data := #[] })
  have FB := (((B1.setCell (p := ⟨w.heap.size + 1, 0, none⟩) (Nat.le_succ _) (.int .i64 0)).setCell (p := ⟨w.heap.size + 1, 1, none⟩) (Nat.le_succ _) (.int .i64 0)).setCell (p := ⟨w.heap.size + 1, 2, none⟩) (Nat.le_succ _) (.slice none 0 0)).setCell (p := ⟨w.heap.size + 1, 3, none⟩) (Nat.le_succ _) (.string { data := #[] })
  exact bodyPost_ret (ret_snap2 rfl rfl rfl F1) rfl ⟨_, by rw [HZ.out]; rfl, by rw [HZ.out]; exact ownsR_nil _ _ _, FB⟩

set_option maxRecDepth 10000 in
set_option maxHeartbeats 4000000 in
theorem newestSnap_go (ao : Option Addr) (n c : Nat) (l : List Fl) (w : World) (hr : Reads w (.slice ao n c) l) (hd : diskR l = true) (hp : PowIs w) (ht : TableIs w) (CD : Hid (∀ W, Below w.heap.size w W → Calls Tryd.prog 59 #[.agg #[.slice ao n c]] W fun e w' => e = .returned (.bool true) ∧ Below W.heap.size W w')) :
    Calls Tryd.prog 30 #[.agg #[.slice ao n c]] w (NsP l w) := by
  have HR : Hid (Reads w (.slice ao n c) l) := hr
  have HN : Hid (n = l.length) := hr.len
  have hn : n ≤ 30 := by rw [hr.len]; exact diskR_len hd
  have HM : Hid (NamesL l) := names_right hd
  have HX : Hid (TextsL l) := texts_right hd
  have HZ : Hid (nsP l = newP l) := nsP_yes hd
  have HP : Hid (PowIs w) := hp
  have HT : Hid (TableIs w) := ht
  clear hr hd hp ht
  go_enter Tryd.func30, Tryd.ntmps30
  go_wp2_with fail
  refine Calls.mono (CD.out _ (ba (ba (Below.refl _ _) _) _)) ?_
  rintro e w1 ⟨rfl, hb1⟩
  have B1 : Below w.heap.size w w1 := (ba (ba (Below.refl _ _) _) _).trans (hb1.mono (by simp; omega))
  have G1 := blk_upD (heap_next w (.cells #[.slice ao n c] 47) (.cells #[.int .i64 0, .int .i64 0, .slice none 0 0, .string { data := #[] }] 30)) hb1
  have d0 := one_cellD (blk_upD (heap_old (heap_last w (.cells #[.slice ao n c] 47)) (.cells #[.int .i64 0, .int .i64 0, .slice none 0 0, .string { data := #[] }] 30)) hb1)
  have hwg : w.heap.size + 1 < w1.heap.size := (Array.getElem?_eq_some_iff.1 G1).1
  have hwg0 : w.heap.size < w1.heap.size := by omega
  clear hb1
  go_wp2
  clear hwg0
  have GP : Hid ((w1.alloc (.cells #[.int .i64 0, .int .i64 0, .slice none 0 0, .string { data := #[] }] 30)).heap[w.heap.size + 1]? = some (.cells #[.int .i64 0, .int .i64 0, .slice none 0 0, .string { data := #[] }] 30)) := heap_old G1 _
  have GH : Hid ((w1.alloc (.cells #[.int .i64 0, .int .i64 0, .slice none 0 0, .string { data := #[] }] 30)).heap[w1.heap.size]? = some (.cells #[.int .i64 0, .int .i64 0, .slice none 0 0, .string { data := #[] }] 30)) := heap_last _ _
  have BB : Hid (Below w.heap.size w (w1.alloc (.cells #[.int .i64 0, .int .i64 0, .slice none 0 0, .string { data := #[] }] 30))) := ba B1 _
  generalize w1.heap.size = g at hwg GH ⊢
  generalize w1.alloc (.cells #[.int .i64 0, .int .i64 0, .slice none 0 0, .string { data := #[] }] 30) = W1 at GP GH BB ⊢
  clear B1 G1 d0
  go_loopw [5, 19] (fun fo i wr => ∃ k : Nat, k ≤ n ∧ i = .int .i64 k ∧ ∃ (P : Rsd) (v : Value), fo = .bool P.z ∧ newP (l.take k) = P ∧ wr.heap[g]? = some (.cells #[.int .i64 P.i, .int .i64 P.t, v, .string P.b] 30) ∧ wr.heap[w.heap.size + 1]? = some (.cells #[.int .i64 0, .int .i64 0, .slice none 0 0, .string { data := #[] }] 30) ∧ ownsR wr (g + 1) 3 v P.l ∧ Below w.heap.size w wr) (fun _ i _ => n - (intOf i).toNat)
  case atStart => exact ⟨0, Nat.zero_le _, rfl, zeroS, .slice none 0 0, rfl, rfl, GH.out, GP.out, ownsR_nil _ _ _, BB.out⟩
  case round =>
    obtain ⟨k, hk, rfl, ⟨Pi, Pt, Pl, Pb, Pz⟩, v, rfl, hP, gh, gp, ow, hbel⟩ := hrel
    dsimp only at gh ow ⊢
    obtain ⟨va, vn, vc, rfl⟩ := ow.slice3
    have hsz := hbel.size
    have HPP : Hid (newP (l.take k) = ⟨Pi, Pt, Pl, Pb, Pz⟩) := hP
    have hgw : g < wr.heap.size := (Array.getElem?_eq_some_iff.1 gh).1
    clear hP
    by_cases hlt : k < n
    · obtain ⟨⟨nm, tx, kp⟩, hf⟩ : ∃ f, l[k]? = some f := ⟨_, List.getElem?_eq_getElem (by rw [← HN.out]; exact hlt)⟩
      have HF : Hid (l[k]? = some ⟨nm, tx, kp⟩) := hf
      obtain ⟨b, o, rfl, hb, c0, c1, c2⟩ := fl_at (HR.out.below hbel) hf
      have hts : Hid (nm.size ≤ 8) := HM.out _ (List.mem_of_getElem? hf)
      have htt : Hid (tx.size ≤ 1048576) := HX.out _ (List.mem_of_getElem? hf)
      obtain ⟨x, HXX⟩ : ∃ x, Hid (idxOf nm = x) := ⟨_, rfl⟩
      have HNN : Hid (newP (l.take (k + 1)) = pstep ⟨Pi, Pt, Pl, Pb, Pz⟩ ⟨nm, tx, kp⟩) := by show _ = _; rw [newP_take HF.out, HPP.out]
      have CN : Hid (∀ W, Below wr.heap.size wr W → Calls Tryd.prog 68 #[.string nm] W fun e w' => e = .returned (.int .i64 x) ∧ Below W.heap.size W w') := fun W hW => by
        rw [← HXX.out]
        exact indexOf_any nm W (Nat.le_trans hts.out (by decide)) ((HP.out.below hbel).below hW)
      have CR : Hid (∀ W, Below wr.heap.size wr W → Calls Tryd.prog 17 #[.string tx] W (RsP tx W)) := fun W hW => readSnap_any tx W htt.out ((HT.out.below hbel).below hW)
      clear hf
      dsimp only at c0 c1 c2
      go_wp2_with fail
      refine Calls.mono (CN.out _ (ba (Below.refl _ _) _)) ?_
      rintro e w2 ⟨rfl, hb2⟩
      have hb3 : Below wr.heap.size wr w2 := (ba (Below.refl _ wr) _).trans (hb2.mono (by simp))
      have fb := blk_upD (heap_last wr (.cells #[.string nm, .string tx, .int .i64 kp] 84)) hb2
      have gh2 := blk_upD gh hb3
      have gp2 := blk_upD gp hb3
      have ow2 := ow.all hb3
      have hbel2 : Below w.heap.size w w2 := hbel.trans (hb3.mono hsz)
      have hgw2 : g < w2.heap.size := Nat.lt_of_lt_of_le hgw hb3.size
      clear gh gp ow hbel hb2 c0 c1 c2
      obtain ⟨fb0, fb1, fb2, fbf⟩ := cur_cells fb
      obtain ⟨h0, h1, h2, h3⟩ := sb_cells gh2
      by_cases hless : x < Pi
      · have HE : Hid (newP (l.take (k + 1)) = ⟨Pi, Pt, Pl, Pb, Pz⟩) := HNN.out.trans (pstep_less HXX.out hless)
        have hk1 : k + 1 ≤ n := by omega
        clear CR
        go_wp2
        go_roundw
        case rel => exact ⟨k + 1, hk1, by go_num, ⟨Pi, Pt, Pl, Pb, Pz⟩, _, rfl, HE.out, gh2, gp2, ow2, hbel2⟩
        case measure => simp [intOf]; omega
      · go_wp2_with fail
        refine Calls.mono (CR.out _ hb3) ?_
        rintro e w3 ⟨v3, rfl, o3, hb4⟩
        obtain ⟨oa, on, oc, rfl⟩ := o3.slice3
        rcases hrs : rsP tx with ⟨si, st, sl, sb, sz⟩
        rw [hrs] at o3
        have HRS : Hid (rsP tx = ⟨si, st, sl, sb, sz⟩) := hrs
        clear hrs
        unfold rsV
        dsimp only at o3 ⊢
        have gh3 := blk_upD gh2 hb4
        have gp3 := blk_upD gp2 hb4
        have ow3 := ow2.all hb4
        have hbel3 := Below.on hbel2 hb4
        have o3 : Hid (ownsR w3 (g + 1) 3 (.slice oa on oc) sl) := o3.mono hgw2
        have hgw3 : g < w3.heap.size := Nat.lt_of_lt_of_le hgw2 hb4.size
        have hk1 : k + 1 ≤ n := by omega
        clear gh2 gp2 ow2 hbel2 hb4 h0 h1 h2 h3 fb0 fb1 fb2 fbf fb hb3
        by_cases hnew : sz = true ∧ si = x
        · obtain ⟨rfl, rfl⟩ := hnew
          have HE : Hid (newP (l.take (k + 1)) = ⟨si, st, sl, sb, true⟩) := HNN.out.trans (pstep_new HXX.out HRS.out (by show ¬ si < Pi; omega) rfl rfl)
          have gs := heap_last w3 (.cells #[.int .i64 si, .int .i64 st, .slice oa on oc, .string sb] 30)
          have gh4 := heap_old gh3 (.cells #[.int .i64 si, .int .i64 st, .slice oa on oc, .string sb] 30)
          have gp4 := heap_old gp3 (.cells #[.int .i64 si, .int .i64 st, .slice oa on oc, .string sb] 30)
          have o4 := o3.out.alloc (.cells #[.int .i64 si, .int .i64 st, .slice oa on oc, .string sb] 30)
          have b4 := ba hbel3 (.cells #[.int .i64 si, .int .i64 st, .slice oa on oc, .string sb] 30)
          obtain ⟨WX, hWX⟩ : ∃ WX, w3.alloc (.cells #[.int .i64 si, .int .i64 st, .slice oa on oc, .string sb] 30) = WX := ⟨_, rfl⟩
          rw [hWX] at gs gh4 gp4 o4 b4
          obtain ⟨s0, s1, s2, s3⟩ := sb_cells gs
          obtain ⟨h0, h1, h2, h3⟩ := sb_cells gh4
          have hf := sb_frozen gh4
          clear ow3 gh3 gp3 hbel3 o3
          go_wp2
          have hlt1 : g < g + 1 := by omega
          have hgl : w.heap.size ≤ g := by omega
          have hgn : g ≠ w.heap.size + 1 := by omega
          have FH := sb_set3 (sb_set2 (sb_set1 (sb_set0 gh4 (.int .i64 si)) (.int .i64 st)) (.slice oa on oc)) (.string sb)
          have FP := heap_far (heap_far (heap_far (heap_far gp4 (p := ⟨g, 0, none⟩) hgn (.int .i64 si)) (p := ⟨g, 1, none⟩) hgn (.int .i64 st)) (p := ⟨g, 2, none⟩) hgn (.slice oa on oc)) (p := ⟨g, 3, none⟩) hgn (.string sb)
          have FO := (((o4.setBelow (a := ⟨g, 0, none⟩) hlt1 (.int .i64 si)).setBelow (a := ⟨g, 1, none⟩) hlt1 (.int .i64 st)).setBelow (a := ⟨g, 2, none⟩) hlt1 (.slice oa on oc)).setBelow (a := ⟨g, 3, none⟩) hlt1 (.string sb)
          have FB := (((b4.setCell (p := ⟨g, 0, none⟩) hgl (.int .i64 si)).setCell (p := ⟨g, 1, none⟩) hgl (.int .i64 st)).setCell (p := ⟨g, 2, none⟩) hgl (.slice oa on oc)).setCell (p := ⟨g, 3, none⟩) hgl (.string sb)
          go_roundw
          case rel => exact ⟨k + 1, hk1, by go_num, ⟨si, st, sl, sb, true⟩, _, rfl, HE.out, FH, FP, FO, FB⟩
          case measure => simp [intOf]; omega
        · have hnot : sz = false ∨ si ≠ x := by
            cases sz with
            | false => exact .inl rfl
            | true => exact .inr fun e => hnew ⟨rfl, e⟩
          have HE : Hid (newP (l.take (k + 1)) = ⟨Pi, Pt, Pl, Pb, Pz⟩) := HNN.out.trans (pstep_not HXX.out HRS.out (by show ¬ x < Pi; omega) hnot)
          have gh4 := heap_old gh3 (.cells #[.int .i64 si, .int .i64 st, .slice oa on oc, .string sb] 30)
          have gp4 := heap_old gp3 (.cells #[.int .i64 si, .int .i64 st, .slice oa on oc, .string sb] 30)
          have o4 := ow3.alloc (.cells #[.int .i64 si, .int .i64 st, .slice oa on oc, .string sb] 30)
          have b4 := ba hbel3 (.cells #[.int .i64 si, .int .i64 st, .slice oa on oc, .string sb] 30)
          clear ow3 gh3 gp3 hbel3 o3 hnew
          cases sz with
          | false =>
            clear hnot
            go_wp2
            go_roundw
            case rel => exact ⟨k + 1, hk1, by go_num, ⟨Pi, Pt, Pl, Pb, Pz⟩, _, rfl, HE.out, gh4, gp4, o4, b4⟩
            case measure => simp [intOf]; omega
          | true =>
            have hne : ¬ si = x := hnot.resolve_left (fun h => by cases h)
            have hne2 : (si == x) = false := by rw [beq_eq_false_iff_ne]; exact hne
            clear hnot
            go_wp2
            go_roundw
            case rel => exact ⟨k + 1, hk1, by go_num, ⟨Pi, Pt, Pl, Pb, Pz⟩, _, rfl, HE.out, gh4, gp4, o4, b4⟩
            case measure => simp [intOf]; omega
    · have hkn : k = n := by omega
      have HE : Hid (nsP l = ⟨Pi, Pt, Pl, Pb, Pz⟩) := by
        show nsP l = _
        rw [HZ.out]
        have := HPP.out
        rwa [hkn, HN.out, List.take_length] at this
      obtain ⟨h0, h1, h2, h3⟩ := sb_cells gh
      obtain ⟨p0, p1, p2, p3⟩ := sb_cells gp
      have pf := sb_frozen gp
      subst hkn
      go_wp2
      have F1 := sb_set3 (sb_set2 (sb_set1 (sb_set0 gp (.int .i64 Pi)) (.int .i64 Pt)) (.slice va vn vc)) (.string Pb)
      have hlt1 : w.heap.size + 1 < g + 1 := by omega
      have FO := (((ow.setBelow (a := ⟨w.heap.size + 1, 0, none⟩) hlt1 (.int .i64 Pi)).setBelow (a := ⟨w.heap.size + 1, 1, none⟩) hlt1 (.int .i64 Pt)).setBelow (a := ⟨w.heap.size + 1, 2, none⟩) hlt1 (.slice va vn vc)).setBelow (a := ⟨w.heap.size + 1, 3, none⟩) hlt1 (.string Pb)
      have FB := (((hbel.setCell (p := ⟨w.heap.size + 1, 0, none⟩) (Nat.le_succ _) (.int .i64 Pi)).setCell (p := ⟨w.heap.size + 1, 1, none⟩) (Nat.le_succ _) (.int .i64 Pt)).setCell (p := ⟨w.heap.size + 1, 2, none⟩) (Nat.le_succ _) (.slice va vn vc)).setCell (p := ⟨w.heap.size + 1, 3, none⟩) (Nat.le_succ _) (.string Pb)
      exact bodyPost_ret (ret_snap2 rfl rfl rfl F1) rfl ⟨_, by rw [HE.out]; rfl, by rw [HE.out]; exact FO.mono (by omega), FB⟩
/-- The program's NewestSnap. -/
theorem newestSnap_any {w : World} {v : Value} {l : List Fl} (hr : Reads w v l) (hp : PowIs w) (ht : TableIs w) : Calls Tryd.prog 30 #[.agg #[v]] w (NsP l w) := by
  obtain ⟨ao, c, rfl, _⟩ := id hr
  have CD : Hid (∀ W, Below w.heap.size w W → Calls Tryd.prog 59 #[.agg #[.slice ao l.length c]] W fun e w' => e = .returned (.bool (diskR l)) ∧ Below W.heap.size W w') := fun W h => diskOk_any (hr.below h)
  cases hd : diskR l with
  | false => rw [hd] at CD; exact newestSnap_no ao _ c l w hd CD
  | true => rw [hd] at CD; exact newestSnap_go ao _ c l w hr hd hp ht CD
end Go.Proofs.YtgpojfkdcdgloaaDoor

namespace Go.Proofs.YtgpojfkdcdgloaaDoor
open Go Go.RowKit

theorem nstep_not {P r : Rsd} {f : Fl} {x : Int} (hx : idxOf f.name = x) (hr : rsP f.text = r) (h : x < 0 ∨ r.z = false ∨ r.i ≠ x ∨ ¬ P.i < x) : nstep P f = P := by
  unfold nstep
  rw [hx, hr, if_neg]
  rintro ⟨h1, h2, h3, h4⟩
  rcases h with h | h | h | h
  · omega
  · rw [h2] at h; cases h
  · exact h h3
  · exact h h4
theorem nstep_new {P r : Rsd} {f : Fl} {x : Int} (hx : idxOf f.name = x) (hr : rsP f.text = r) (h0 : 0 ≤ x) (h1 : r.z = true) (h2 : r.i = x) (h3 : P.i < x) : nstep P f = r := by
  unfold nstep
  rw [hx, hr, if_pos ⟨h0, h1, h2, h3⟩]
/-- Zero is told. -/
theorem nsP_zero {l : List Fl} {w W : World} (hz : nsP l = zeroS) (hb : Below w.heap.size w W) : NsP l w (.returned (.tuple #[.agg #[.int .i64 0, .int .i64 0, .slice none 0 0, .string { data := #[] }], .bool false])) ((((W.setCell ⟨w.heap.size + 1, 0, none⟩ (.int .i64 0)).setCell ⟨w.heap.size + 1, 1, none⟩ (.int .i64 0)).setCell ⟨w.heap.size + 1, 2, none⟩ (.slice none 0 0)).setCell ⟨w.heap.size + 1, 3, none⟩ (.string { data := #[] })) := by
  refine ⟨.slice none 0 0, by rw [hz]; rfl, by rw [hz]; exact ownsR_nil _ _ _, ?_⟩
  exact (((hb.setCell (p := ⟨w.heap.size + 1, 0, none⟩) (Nat.le_succ _) _).setCell (p := ⟨w.heap.size + 1, 1, none⟩) (Nat.le_succ _) _).setCell (p := ⟨w.heap.size + 1, 2, none⟩) (Nat.le_succ _) _).setCell (p := ⟨w.heap.size + 1, 3, none⟩) (Nat.le_succ _) _

set_option maxRecDepth 10000 in
set_option maxHeartbeats 2000000 in
theorem specNewest_no (ao : Option Addr) (n c : Nat) (l : List Fl) (w : World) (hd : diskR l = false) (CD : Hid (∀ W, Below w.heap.size w W → Calls Tryd.prog 55 #[.agg #[.slice ao n c]] W fun e w' => e = .returned (.bool false) ∧ Below W.heap.size W w')) (hn : n ≤ 9223372036854775807) :
    Calls Tryd.prog 29 #[.agg #[.slice ao n c]] w (NsP l w) := by
  have HZ : Hid (nsP l = zeroS) := nsP_no hd
  clear hd
  have gp3 := heap_old (heap_next w (.cells #[.slice ao n c] 47) (.cells #[.int .i64 0, .int .i64 0, .slice none 0 0, .string { data := #[] }] 30)) (.cells #[.int .i64 (-1), .int .i64 0, .slice none 0 0, .string { data := #[] }] 30)
  have gh3 : (((w.alloc (.cells #[.slice ao n c] 47)).alloc (.cells #[.int .i64 0, .int .i64 0, .slice none 0 0, .string { data := #[] }] 30)).alloc (.cells #[.int .i64 (-1), .int .i64 0, .slice none 0 0, .string { data := #[] }] 30)).heap[w.heap.size + 2]? = some (.cells #[.int .i64 (-1), .int .i64 0, .slice none 0 0, .string { data := #[] }] 30) := by
    have := heap_last ((w.alloc (.cells #[.slice ao n c] 47)).alloc (.cells #[.int .i64 0, .int .i64 0, .slice none 0 0, .string { data := #[] }] 30)) (.cells #[.int .i64 (-1), .int .i64 0, .slice none 0 0, .string { data := #[] }] 30)
    rwa [World.size_alloc, World.size_alloc] at this
  have gd3 := heap_old (heap_old (heap_last w (.cells #[.slice ao n c] 47)) (.cells #[.int .i64 0, .int .i64 0, .slice none 0 0, .string { data := #[] }] 30)) (.cells #[.int .i64 (-1), .int .i64 0, .slice none 0 0, .string { data := #[] }] 30)
  have b3 : Below w.heap.size w (((w.alloc (.cells #[.slice ao n c] 47)).alloc (.cells #[.int .i64 0, .int .i64 0, .slice none 0 0, .string { data := #[] }] 30)).alloc (.cells #[.int .i64 (-1), .int .i64 0, .slice none 0 0, .string { data := #[] }] 30)) := ba (ba (ba (Below.refl _ _) _) _) _
  go_enter Tryd.func29, Tryd.ntmps29
  go_wp2
  generalize ((w.alloc (.cells #[.slice ao n c] 47)).alloc (.cells #[.int .i64 0, .int .i64 0, .slice none 0 0, .string { data := #[] }] 30)).alloc (.cells #[.int .i64 (-1), .int .i64 0, .slice none 0 0, .string { data := #[] }] 30) = W at gp3 gh3 gd3 b3 ⊢
  have d0 := one_cellD gd3
  obtain ⟨h0, h1, h2, h3⟩ := sb_cells gh3
  refine wp_loop_rounds 1 ?_
  rw [rounds_succ]
  by_cases hn0 : n = 0
  · subst hn0
    obtain ⟨p0, p1, p2, p3⟩ := sb_cells gp3
    have pf := sb_frozen gp3
    go_wp2
    exact bodyPost_ret (ret_snap2 rfl rfl rfl (sb_set3 (sb_set2 (sb_set1 (sb_set0 gp3 _) _) _) _)) rfl (nsP_zero HZ.out b3)
  · have hpos : 0 < n := by omega
    have hposi : (0 : Int) < (n : Int) := by omega
    go_wp2_with fail
    refine Calls.mono (CD.out _ b3) ?_
    rintro e w1 ⟨rfl, hb1⟩
    have gp := blk_upD gp3 hb1
    have gh := blk_upD gh3 hb1
    have b1 := Below.on b3 hb1
    clear gp3 gh3 gd3 b3 d0 h0 h1 h2 h3 hb1
    obtain ⟨p0, p1, p2, p3⟩ := sb_cells gp
    have pf := sb_frozen gp
    obtain ⟨h0, h1, h2, h3⟩ := sb_cells gh
    go_wp2
    exact bodyPost_ret (ret_snap2 rfl rfl rfl (sb_set3 (sb_set2 (sb_set1 (sb_set0 gp _) _) _) _)) rfl (nsP_zero HZ.out b1)

set_option maxRecDepth 10000 in
set_option maxHeartbeats 4000000 in
theorem specNewest_go (ao : Option Addr) (n c : Nat) (l : List Fl) (w : World) (hr : Reads w (.slice ao n c) l) (hd : diskR l = true) (CD : Hid (∀ W, Below w.heap.size w W → Calls Tryd.prog 55 #[.agg #[.slice ao n c]] W fun e w' => e = .returned (.bool true) ∧ Below W.heap.size W w')) :
    Calls Tryd.prog 29 #[.agg #[.slice ao n c]] w (NsP l w) := by
  have HR : Hid (Reads w (.slice ao n c) l) := hr
  have HN : Hid (n = l.length) := hr.len
  have hn : n ≤ 30 := by rw [hr.len]; exact diskR_len hd
  have HM : Hid (NamesL l) := names_right hd
  have HX : Hid (TextsL l) := texts_right hd
  have HZ : Hid (nsP l = progOf (newS l)) := nsP_spec hd
  clear hr hd
  have gp3 := heap_old (heap_next w (.cells #[.slice ao n c] 47) (.cells #[.int .i64 0, .int .i64 0, .slice none 0 0, .string { data := #[] }] 30)) (.cells #[.int .i64 (-1), .int .i64 0, .slice none 0 0, .string { data := #[] }] 30)
  have gh3 : (((w.alloc (.cells #[.slice ao n c] 47)).alloc (.cells #[.int .i64 0, .int .i64 0, .slice none 0 0, .string { data := #[] }] 30)).alloc (.cells #[.int .i64 (-1), .int .i64 0, .slice none 0 0, .string { data := #[] }] 30)).heap[w.heap.size + 2]? = some (.cells #[.int .i64 (-1), .int .i64 0, .slice none 0 0, .string { data := #[] }] 30) := by
    have := heap_last ((w.alloc (.cells #[.slice ao n c] 47)).alloc (.cells #[.int .i64 0, .int .i64 0, .slice none 0 0, .string { data := #[] }] 30)) (.cells #[.int .i64 (-1), .int .i64 0, .slice none 0 0, .string { data := #[] }] 30)
    rwa [World.size_alloc, World.size_alloc] at this
  have gd3 := heap_old (heap_old (heap_last w (.cells #[.slice ao n c] 47)) (.cells #[.int .i64 0, .int .i64 0, .slice none 0 0, .string { data := #[] }] 30)) (.cells #[.int .i64 (-1), .int .i64 0, .slice none 0 0, .string { data := #[] }] 30)
  have b3 : Below w.heap.size w (((w.alloc (.cells #[.slice ao n c] 47)).alloc (.cells #[.int .i64 0, .int .i64 0, .slice none 0 0, .string { data := #[] }] 30)).alloc (.cells #[.int .i64 (-1), .int .i64 0, .slice none 0 0, .string { data := #[] }] 30)) := ba (ba (ba (Below.refl _ _) _) _) _
  go_enter Tryd.func29, Tryd.ntmps29
  go_wp2
  generalize ((w.alloc (.cells #[.slice ao n c] 47)).alloc (.cells #[.int .i64 0, .int .i64 0, .slice none 0 0, .string { data := #[] }] 30)).alloc (.cells #[.int .i64 (-1), .int .i64 0, .slice none 0 0, .string { data := #[] }] 30) = W at gp3 gh3 gd3 b3 ⊢
  have GP : Hid (W.heap[w.heap.size + 1]? = some (.cells #[.int .i64 0, .int .i64 0, .slice none 0 0, .string { data := #[] }] 30)) := gp3
  have GH : Hid (W.heap[w.heap.size + 2]? = some (.cells #[.int .i64 (-1), .int .i64 0, .slice none 0 0, .string { data := #[] }] 30)) := gh3
  have GD : Hid (W.heap[w.heap.size]? = some (.cells #[.slice ao n c] 47)) := gd3
  have BB : Hid (Below w.heap.size w W) := b3
  clear gp3 gh3 gd3 b3
  go_loopw [5] (fun i wr => ∃ k : Nat, k ≤ n ∧ i = .int .i64 k ∧ ∃ (P : Rsd) (v : Value), newS (l.take k) = P ∧ wr.heap[w.heap.size + 2]? = some (.cells #[.int .i64 P.i, .int .i64 P.t, v, .string P.b] 30) ∧ wr.heap[w.heap.size + 1]? = some (.cells #[.int .i64 0, .int .i64 0, .slice none 0 0, .string { data := #[] }] 30) ∧ wr.heap[w.heap.size]? = some (.cells #[.slice ao n c] 47) ∧ ownsR wr (w.heap.size + 3) 3 v P.l ∧ Below w.heap.size w wr) (fun i _ => n - (intOf i).toNat)
  case atStart => exact ⟨0, Nat.zero_le _, rfl, noneS, .slice none 0 0, rfl, GH.out, GP.out, GD.out, ownsR_nil _ _ _, BB.out⟩
  case round =>
    obtain ⟨k, hk, rfl, ⟨Pi, Pt, Pl, Pb, Pz⟩, v, hP, gh, gp, gd, ow, hbel⟩ := hrel
    dsimp only at gh ow ⊢
    obtain ⟨va, vn, vc, rfl⟩ := ow.slice3
    have HPP : Hid (newS (l.take k) = ⟨Pi, Pt, Pl, Pb, Pz⟩) := hP
    clear hP
    have d0 := one_cellD gd
    by_cases hlt : k < n
    · obtain ⟨⟨nm, tx, kp⟩, hf⟩ : ∃ f, l[k]? = some f := ⟨_, List.getElem?_eq_getElem (by rw [← HN.out]; exact hlt)⟩
      have HF : Hid (l[k]? = some ⟨nm, tx, kp⟩) := hf
      have hts : Hid (nm.size ≤ 8) := HM.out _ (List.mem_of_getElem? hf)
      have htt : Hid (tx.size ≤ 1048576) := HX.out _ (List.mem_of_getElem? hf)
      obtain ⟨x, HXX⟩ : ∃ x, Hid (idxOf nm = x) := ⟨_, rfl⟩
      have HNN : Hid (newS (l.take (k + 1)) = nstep ⟨Pi, Pt, Pl, Pb, Pz⟩ ⟨nm, tx, kp⟩) := by show _ = _; rw [newS_take HF.out, HPP.out]
      have CN : Hid (∀ W, Calls Tryd.prog 67 #[.string nm] W fun e w' => e = .returned (.int .i64 x) ∧ Below W.heap.size W w') := fun W => by
        rw [← HXX.out]
        exact specIndex_any nm W (Nat.le_trans hts.out (by decide))
      have CR : Hid (∀ W, Calls Tryd.prog 16 #[.string tx] W (RsP tx W)) := fun W => specReadSnap_any tx W htt.out
      clear hf
      go_wp2_with fail
      refine Calls.mono (CD.out _ hbel) ?_
      rintro e w1 ⟨rfl, hb1⟩
      replace gh := blk_upD gh hb1
      replace gp := blk_upD gp hb1
      replace gd := blk_upD gd hb1
      replace ow := ow.all hb1
      replace hbel := Below.on hbel hb1
      clear hb1 d0
      have d0 := one_cellD gd
      obtain ⟨b, o, rfl, hb, c0, c1, c2⟩ := fl_at (HR.out.below hbel) HF.out
      dsimp only at c0 c1 c2
      go_wp2_with fail
      refine Calls.mono (CN.out _) ?_
      rintro e w2 ⟨rfl, hb2⟩
      replace gh := blk_upD gh hb2
      replace gp := blk_upD gp hb2
      replace gd := blk_upD gd hb2
      replace ow := ow.all hb2
      replace hbel := Below.on hbel hb2
      replace c1 := cell_up hb2 c1
      clear d0 c0 c2 hb hb2
      have d0 := one_cellD gd
      go_wp2_with fail
      refine Calls.mono (CR.out _) ?_
      rintro e w3 ⟨v3, rfl, o3, hb4⟩
      obtain ⟨oa, on, oc, rfl⟩ := o3.slice3
      rcases hrs : rsP tx with ⟨si, st, sl, sb, sz⟩
      rw [hrs] at o3
      have HRS : Hid (rsP tx = ⟨si, st, sl, sb, sz⟩) := hrs
      clear hrs
      unfold rsV
      dsimp only at o3 ⊢
      have hgw2 : w.heap.size + 3 ≤ w2.heap.size := (Array.getElem?_eq_some_iff.1 gh).1
      have hgw3 : w.heap.size + 2 < w3.heap.size := Nat.lt_of_lt_of_le (Array.getElem?_eq_some_iff.1 gh).1 hb4.size
      have o3 : Hid (ownsR w3 (w.heap.size + 3) 3 (.slice oa on oc) sl) := o3.mono hgw2
      replace gh := blk_upD gh hb4
      replace gp := blk_upD gp hb4
      replace gd := blk_upD gd hb4
      replace ow := ow.all hb4
      replace hbel := Below.on hbel hb4
      have hk1 : k + 1 ≤ n := by omega
      clear hb4 d0 c1 CN CR
      have gs := heap_last w3 (.cells #[.int .i64 si, .int .i64 st, .slice oa on oc, .string sb] 30)
      have gh4 := heap_old gh (.cells #[.int .i64 si, .int .i64 st, .slice oa on oc, .string sb] 30)
      have gp4 := heap_old gp (.cells #[.int .i64 si, .int .i64 st, .slice oa on oc, .string sb] 30)
      have gd4 := heap_old gd (.cells #[.int .i64 si, .int .i64 st, .slice oa on oc, .string sb] 30)
      have b4 := ba hbel (.cells #[.int .i64 si, .int .i64 st, .slice oa on oc, .string sb] 30)
      have o4o := ow.alloc (.cells #[.int .i64 si, .int .i64 st, .slice oa on oc, .string sb] 30)
      have o4n := o3.out.alloc (.cells #[.int .i64 si, .int .i64 st, .slice oa on oc, .string sb] 30)
      clear ow gh gp gd hbel o3
      obtain ⟨WX, hWX⟩ : ∃ WX, w3.alloc (.cells #[.int .i64 si, .int .i64 st, .slice oa on oc, .string sb] 30) = WX := ⟨_, rfl⟩
      rw [hWX] at gs gh4 gp4 gd4 b4 o4o o4n
      obtain ⟨s0, s1, s2, s3⟩ := sb_cells gs
      obtain ⟨h0, h1, h2, h3⟩ := sb_cells gh4
      have hf := sb_frozen gh4
      by_cases hx0 : 0 ≤ x
      · cases sz with
        | false =>
          have HE : Hid (newS (l.take (k + 1)) = ⟨Pi, Pt, Pl, Pb, Pz⟩) := HNN.out.trans (nstep_not HXX.out HRS.out (.inr (.inl rfl)))
          have o4 := o4o
          clear o4n o4o
          go_wp2
          go_roundw
          case rel => exact ⟨k + 1, hk1, by go_num, ⟨Pi, Pt, Pl, Pb, Pz⟩, _, HE.out, gh4, gp4, gd4, o4, b4⟩
          case measure => simp [intOf]; omega
        | true =>
          by_cases hsx : si = x
          · by_cases hless : Pi < x
            · have HE : Hid (newS (l.take (k + 1)) = ⟨si, st, sl, sb, true⟩) := HNN.out.trans (nstep_new HXX.out HRS.out hx0 rfl hsx hless)
              subst hsx
              clear o4o
              go_wp2
              have hlt1 : w.heap.size + 2 < w.heap.size + 3 := by omega
              have hgl : w.heap.size ≤ w.heap.size + 2 := by omega
              have hgn : w.heap.size + 2 ≠ w.heap.size + 1 := by omega
              have hgn0 : w.heap.size + 2 ≠ w.heap.size := by omega
              have FH := sb_set3 (sb_set2 (sb_set1 (sb_set0 gh4 (.int .i64 si)) (.int .i64 st)) (.slice oa on oc)) (.string sb)
              have FP := heap_far (heap_far (heap_far (heap_far gp4 (p := ⟨w.heap.size + 2, 0, none⟩) hgn (.int .i64 si)) (p := ⟨w.heap.size + 2, 1, none⟩) hgn (.int .i64 st)) (p := ⟨w.heap.size + 2, 2, none⟩) hgn (.slice oa on oc)) (p := ⟨w.heap.size + 2, 3, none⟩) hgn (.string sb)
              have FD := heap_far (heap_far (heap_far (heap_far gd4 (p := ⟨w.heap.size + 2, 0, none⟩) hgn0 (.int .i64 si)) (p := ⟨w.heap.size + 2, 1, none⟩) hgn0 (.int .i64 st)) (p := ⟨w.heap.size + 2, 2, none⟩) hgn0 (.slice oa on oc)) (p := ⟨w.heap.size + 2, 3, none⟩) hgn0 (.string sb)
              have FO := (((o4n.setBelow (a := ⟨w.heap.size + 2, 0, none⟩) hlt1 (.int .i64 si)).setBelow (a := ⟨w.heap.size + 2, 1, none⟩) hlt1 (.int .i64 st)).setBelow (a := ⟨w.heap.size + 2, 2, none⟩) hlt1 (.slice oa on oc)).setBelow (a := ⟨w.heap.size + 2, 3, none⟩) hlt1 (.string sb)
              have FB := (((b4.setCell (p := ⟨w.heap.size + 2, 0, none⟩) hgl (.int .i64 si)).setCell (p := ⟨w.heap.size + 2, 1, none⟩) hgl (.int .i64 st)).setCell (p := ⟨w.heap.size + 2, 2, none⟩) hgl (.slice oa on oc)).setCell (p := ⟨w.heap.size + 2, 3, none⟩) hgl (.string sb)
              go_roundw
              case rel => exact ⟨k + 1, hk1, by go_num, ⟨si, st, sl, sb, true⟩, _, HE.out, FH, FP, FD, FO, FB⟩
              case measure => simp [intOf]; omega
            · have HE : Hid (newS (l.take (k + 1)) = ⟨Pi, Pt, Pl, Pb, Pz⟩) := HNN.out.trans (nstep_not HXX.out HRS.out (.inr (.inr (.inr hless))))
              subst hsx
              have o4 := o4o
              clear o4n o4o
              go_wp2
              go_roundw
              case rel => exact ⟨k + 1, hk1, by go_num, ⟨Pi, Pt, Pl, Pb, Pz⟩, _, HE.out, gh4, gp4, gd4, o4, b4⟩
              case measure => simp [intOf]; omega
          · have HE : Hid (newS (l.take (k + 1)) = ⟨Pi, Pt, Pl, Pb, Pz⟩) := HNN.out.trans (nstep_not HXX.out HRS.out (.inr (.inr (.inl hsx))))
            have hne2 : (si == x) = false := by rw [beq_eq_false_iff_ne]; exact hsx
            have o4 := o4o
            clear o4n o4o
            go_wp2
            go_roundw
            case rel => exact ⟨k + 1, hk1, by go_num, ⟨Pi, Pt, Pl, Pb, Pz⟩, _, HE.out, gh4, gp4, gd4, o4, b4⟩
            case measure => simp [intOf]; omega
      · have HE : Hid (newS (l.take (k + 1)) = ⟨Pi, Pt, Pl, Pb, Pz⟩) := HNN.out.trans (nstep_not HXX.out HRS.out (.inl (by omega)))
        have o4 := o4o
        clear o4n o4o
        go_wp2
        go_roundw
        case rel => exact ⟨k + 1, hk1, by go_num, ⟨Pi, Pt, Pl, Pb, Pz⟩, _, HE.out, gh4, gp4, gd4, o4, b4⟩
        case measure => simp [intOf]; omega
    · have hkn : k = n := by omega
      have hP2 : newS l = ⟨Pi, Pt, Pl, Pb, Pz⟩ := by
        have := HPP.out
        rwa [hkn, HN.out, List.take_length] at this
      have hsd := newS_sound l l.length (Nat.le_refl _)
      rw [List.take_length, hP2] at hsd
      have HZ2 := HZ.out
      rw [hP2] at HZ2
      subst hkn
      obtain ⟨h0, h1, h2, h3⟩ := sb_cells gh
      obtain ⟨p0, p1, p2, p3⟩ := sb_cells gp
      have pf := sb_frozen gp
      rcases hsd with ⟨hz, hno⟩ | ⟨hz, h0i, _⟩
      · have hz : Pz = false := hz
        subst hz
        have HE : Hid (nsP l = zeroS) := HZ2
        have hlt0 : Pi < 0 := by
          have : Pi = -1 := congrArg Rsd.i hno
          omega
        clear hno HZ2 hP2
        go_wp2
        exact bodyPost_ret (ret_snap2 rfl rfl rfl (sb_set3 (sb_set2 (sb_set1 (sb_set0 gp _) _) _) _)) rfl (nsP_zero HE.out hbel)
      · have hz : Pz = true := hz
        subst hz
        have HE : Hid (nsP l = ⟨Pi, Pt, Pl, Pb, true⟩) := HZ2
        have hge : 0 ≤ Pi := h0i
        clear h0i HZ2 hP2
        go_wp2
        have F1 := sb_set3 (sb_set2 (sb_set1 (sb_set0 gp (.int .i64 Pi)) (.int .i64 Pt)) (.slice va vn vc)) (.string Pb)
        have hlt1 : w.heap.size + 1 < w.heap.size + 3 := by omega
        have FO := (((ow.setBelow (a := ⟨w.heap.size + 1, 0, none⟩) hlt1 (.int .i64 Pi)).setBelow (a := ⟨w.heap.size + 1, 1, none⟩) hlt1 (.int .i64 Pt)).setBelow (a := ⟨w.heap.size + 1, 2, none⟩) hlt1 (.slice va vn vc)).setBelow (a := ⟨w.heap.size + 1, 3, none⟩) hlt1 (.string Pb)
        have FB := (((hbel.setCell (p := ⟨w.heap.size + 1, 0, none⟩) (Nat.le_succ _) (.int .i64 Pi)).setCell (p := ⟨w.heap.size + 1, 1, none⟩) (Nat.le_succ _) (.int .i64 Pt)).setCell (p := ⟨w.heap.size + 1, 2, none⟩) (Nat.le_succ _) (.slice va vn vc)).setCell (p := ⟨w.heap.size + 1, 3, none⟩) (Nat.le_succ _) (.string Pb)
        exact bodyPost_ret (ret_snap2 rfl rfl rfl F1) rfl ⟨_, by rw [HE.out]; rfl, by rw [HE.out]; exact FO.mono (by omega), FB⟩
/-- The specification's NewestSnap. -/
theorem specNewest_any {w : World} {v : Value} {l : List Fl} (hr : Reads w v l) (hn : l.length ≤ 1048577) : Calls Tryd.prog 29 #[.agg #[v]] w (NsP l w) := by
  obtain ⟨ao, c, rfl, _⟩ := id hr
  have CD : Hid (∀ W, Below w.heap.size w W → Calls Tryd.prog 55 #[.agg #[.slice ao l.length c]] W fun e w' => e = .returned (.bool (diskR l)) ∧ Below W.heap.size W w') := fun W h => specDiskOk_any (hr.below h)
  cases hd : diskR l with
  | false => rw [hd] at CD; exact specNewest_no ao _ c l w hd CD (by omega)
  | true => rw [hd] at CD; exact specNewest_go ao _ c l w hr hd CD
end Go.Proofs.YtgpojfkdcdgloaaDoor
