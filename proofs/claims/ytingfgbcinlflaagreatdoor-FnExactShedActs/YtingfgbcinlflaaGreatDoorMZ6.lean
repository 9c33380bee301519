/-
  The newest snapshot of a disk, as the specification tells it: the walk. Files marked, and found marked: the walks. The law's helpers on acts, by what they read; a box of one cell. The acts that shed all snapshots but the newest one: the walks of ShedActs on both sides. The law on the acts that shed: the walk.
-/
import Derived.Test.YtingfgbcinlflaaGreatDoorMZ5
import Derived.Test.YtingfgbcinlflaaGreatDoorMZ4
import Derived.Test.YtingfgbcinlflaaGreatDoorMt
import Derived.Test.YtingfgbcinlflaaGreatDoorMZ3
import Derived.Test.YtingfgbcinlflaaGreatDoorWd
import Derived.Deep.RegionHeld3
import Derived.Deep.RegionHeldLaw
namespace Go.Proofs.YtingfgbcinlflaaGreatDoor
open Go Go.RowKit

theorem nstep_not {P r : Rsd} {f : Fl} {x : Int} (hx : idxOf f.name = x) (hr : rsP f.text = r) (h : x < 0 ∨ r.z = false ∨ r.i ≠ x ∨ ¬ P.i < x) : nstep P f = P := by
  unfold nstep
  rw [hx, hr, if_neg]
  rintro ⟨h1, h2, h3, h4⟩
  rcases h with h | h | h | h
  · omega
  · rw [h2] at h; cases h
  · exact h h3
  · exact h h4
theorem nstep_new {P r : Rsd} {f : Fl} {x : Int} (hx : idxOf f.name = x) (hr : rsP f.text = r) (h0 : 0 ≤ x) (h1 : r.z = true) (h2 : r.i = x) (h3 : P.i < x) : nstep P f = r := by
  unfold nstep
  rw [hx, hr, if_pos ⟨h0, h1, h2, h3⟩]
/-- Zero is told. -/
theorem nsP_zero {l : List Fl} {w W : World} (hz : nsP l = zeroS) (hb : Below w.heap.size w W) : NsP l w (.returned (.tuple #[.agg #[.int .i64 0, .int .i64 0, .slice none 0 0, .string { data := #[] }], .bool false])) ((((W.setCell ⟨w.heap.size + 1, 0, none⟩ (.int .i64 0)).setCell ⟨w.heap.size + 1, 1, none⟩ (.int .i64 0)).setCell ⟨w.heap.size + 1, 2, none⟩ (.slice none 0 0)).setCell ⟨w.heap.size + 1, 3, none⟩ (.string { data := #[] })) := by
  refine ⟨.slice none 0 0, by rw [hz]; rfl, by rw [hz]; exact ownsR_nil _ _ _, ?_⟩
  exact (((hb.setCell (p := ⟨w.heap.size + 1, 0, none⟩) (Nat.le_succ _) _).setCell (p := ⟨w.heap.size + 1, 1, none⟩) (Nat.le_succ _) _).setCell (p := ⟨w.heap.size + 1, 2, none⟩) (Nat.le_succ _) _).setCell (p := ⟨w.heap.size + 1, 3, none⟩) (Nat.le_succ _) _

set_option maxRecDepth 10000 in
set_option maxHeartbeats 2000000 in
theorem specNewest_no (ao : Option Addr) (n c : Nat) (l : List Fl) (w : World) (hd : diskR l = false) (CD : Hid (∀ W, Below w.heap.size w W → Calls Tryz.prog 26 #[.agg #[.slice ao n c]] W fun e w' => e = .returned (.bool false) ∧ Below W.heap.size W w')) (hn : n ≤ 9223372036854775807) :
    Calls Tryz.prog 14 #[.agg #[.slice ao n c]] w (NsP l w) := by
  have HZ : Hid (nsP l = zeroS) := nsP_no hd
  clear hd
  have gp3 := heap_old (heap_next w (.cells #[.slice ao n c] 30) (.cells #[.int .i64 0, .int .i64 0, .slice none 0 0, .string { data := #[] }] 40)) (.cells #[.int .i64 (-1), .int .i64 0, .slice none 0 0, .string { data := #[] }] 40)
  have gh3 : (((w.alloc (.cells #[.slice ao n c] 30)).alloc (.cells #[.int .i64 0, .int .i64 0, .slice none 0 0, .string { data := #[] }] 40)).alloc (.cells #[.int .i64 (-1), .int .i64 0, .slice none 0 0, .string { data := #[] }] 40)).heap[w.heap.size + 2]? = some (.cells #[.int .i64 (-1), .int .i64 0, .slice none 0 0, .string { data := #[] }] 40) := by
    have := heap_last ((w.alloc (.cells #[.slice ao n c] 30)).alloc (.cells #[.int .i64 0, .int .i64 0, .slice none 0 0, .string { data := #[] }] 40)) (.cells #[.int .i64 (-1), .int .i64 0, .slice none 0 0, .string { data := #[] }] 40)
    rwa [World.size_alloc, World.size_alloc] at this
  have gd3 := heap_old (heap_old (heap_last w (.cells #[.slice ao n c] 30)) (.cells #[.int .i64 0, .int .i64 0, .slice none 0 0, .string { data := #[] }] 40)) (.cells #[.int .i64 (-1), .int .i64 0, .slice none 0 0, .string { data := #[] }] 40)
  have b3 : Below w.heap.size w (((w.alloc (.cells #[.slice ao n c] 30)).alloc (.cells #[.int .i64 0, .int .i64 0, .slice none 0 0, .string { data := #[] }] 40)).alloc (.cells #[.int .i64 (-1), .int .i64 0, .slice none 0 0, .string { data := #[] }] 40)) := ba (ba (ba (Below.refl _ _) _) _) _
  go_enter Tryz.func14, Tryz.ntmps14
  go_wp2
  generalize ((w.alloc (.cells #[.slice ao n c] 30)).alloc (.cells #[.int .i64 0, .int .i64 0, .slice none 0 0, .string { data := #[] }] 40)).alloc (.cells #[.int .i64 (-1), .int .i64 0, .slice none 0 0, .string { data := #[] }] 40) = W at gp3 gh3 gd3 b3 ⊢
  have d0 := one_cellD gd3
  obtain ⟨h0, h1, h2, h3⟩ := sb_cells gh3
  refine wp_loop_rounds 1 ?_
  rw [rounds_succ]
  by_cases hn0 : n = 0
  · subst hn0
    obtain ⟨p0, p1, p2, p3⟩ := sb_cells gp3
    have pf := sb_frozen gp3
    go_wp2
    exact bodyPost_ret (ret_snap2 rfl rfl rfl (sb_set3 (sb_set2 (sb_set1 (sb_set0 gp3 _) _) _) _)) rfl (nsP_zero HZ.out b3)
  · have hpos : 0 < n := by omega
    have hposi : (0 : Int) < (n : Int) := by omega
    go_wp2_with fail
    refine Calls.mono (CD.out _ b3) ?_
    rintro e w1 ⟨rfl, hb1⟩
    have gp := blk_upD gp3 hb1
    have gh := blk_upD gh3 hb1
    have b1 := Below.on b3 hb1
    clear gp3 gh3 gd3 b3 d0 h0 h1 h2 h3 hb1
    obtain ⟨p0, p1, p2, p3⟩ := sb_cells gp
    have pf := sb_frozen gp
    obtain ⟨h0, h1, h2, h3⟩ := sb_cells gh
    go_wp2
    exact bodyPost_ret (ret_snap2 rfl rfl rfl (sb_set3 (sb_set2 (sb_set1 (sb_set0 gp _) _) _) _)) rfl (nsP_zero HZ.out b1)

set_option maxRecDepth 10000 in
set_option maxHeartbeats 4000000 in
theorem specNewest_go (ao : Option Addr) (n c : Nat) (l : List Fl) (w : World) (hr : Reads w (.slice ao n c) l) (hd : diskR l = true) (CD : Hid (∀ W, Below w.heap.size w W → Calls Tryz.prog 26 #[.agg #[.slice ao n c]] W fun e w' => e = .returned (.bool true) ∧ Below W.heap.size W w')) :
    Calls Tryz.prog 14 #[.agg #[.slice ao n c]] w (NsP l w) := by
  have HR : Hid (Reads w (.slice ao n c) l) := hr
  have HN : Hid (n = l.length) := hr.len
  have hn : n ≤ 30 := by rw [hr.len]; exact diskR_len hd
  have HM : Hid (NamesL l) := names_right hd
  have HX : Hid (TextsL l) := texts_right hd
  have HZ : Hid (nsP l = progOf (newS l)) := nsP_spec hd
  clear hr hd
  have gp3 := heap_old (heap_next w (.cells #[.slice ao n c] 30) (.cells #[.int .i64 0, .int .i64 0, .slice none 0 0, .string { data := #[] }] 40)) (.cells #[.int .i64 (-1), .int .i64 0, .slice none 0 0, .string { data := #[] }] 40)
  have gh3 : (((w.alloc (.cells #[.slice ao n c] 30)).alloc (.cells #[.int .i64 0, .int .i64 0, .slice none 0 0, .string { data := #[] }] 40)).alloc (.cells #[.int .i64 (-1), .int .i64 0, .slice none 0 0, .string { data := #[] }] 40)).heap[w.heap.size + 2]? = some (.cells #[.int .i64 (-1), .int .i64 0, .slice none 0 0, .string { data := #[] }] 40) := by
    have := heap_last ((w.alloc (.cells #[.slice ao n c] 30)).alloc (.cells #[.int .i64 0, .int .i64 0, .slice none 0 0, .string { data := #[] }] 40)) (.cells #[.int .i64 (-1), .int .i64 0, .slice none 0 0, .string { data := #[] }] 40)
    rwa [World.size_alloc, World.size_alloc] at this
  have gd3 := heap_old (heap_old (heap_last w (.cells #[.slice ao n c] 30)) (.cells #[.int .i64 0, .int .i64 0, .slice none 0 0, .string { data := #[] }] 40)) (.cells #[.int .i64 (-1), .int .i64 0, .slice none 0 0, .string { data := #[] }] 40)
  have b3 : Below w.heap.size w (((w.alloc (.cells #[.slice ao n c] 30)).alloc (.cells #[.int .i64 0, .int .i64 0, .slice none 0 0, .string { data := #[] }] 40)).alloc (.cells #[.int .i64 (-1), .int .i64 0, .slice none 0 0, .string { data := #[] }] 40)) := ba (ba (ba (Below.refl _ _) _) _) _
  go_enter Tryz.func14, Tryz.ntmps14
  go_wp2
  generalize ((w.alloc (.cells #[.slice ao n c] 30)).alloc (.cells #[.int .i64 0, .int .i64 0, .slice none 0 0, .string { data := #[] }] 40)).alloc (.cells #[.int .i64 (-1), .int .i64 0, .slice none 0 0, .string { data := #[] }] 40) = W at gp3 gh3 gd3 b3 ⊢
  have GP : Hid (W.heap[w.heap.size + 1]? = some (.cells #[.int .i64 0, .int .i64 0, .slice none 0 0, .string { data := #[] }] 40)) := gp3
  have GH : Hid (W.heap[w.heap.size + 2]? = some (.cells #[.int .i64 (-1), .int .i64 0, .slice none 0 0, .string { data := #[] }] 40)) := gh3
  have GD : Hid (W.heap[w.heap.size]? = some (.cells #[.slice ao n c] 30)) := gd3
  have BB : Hid (Below w.heap.size w W) := b3
  clear gp3 gh3 gd3 b3
  go_loopw [5] (fun i wr => ∃ k : Nat, k ≤ n ∧ i = .int .i64 k ∧ ∃ (P : Rsd) (v : Value), newS (l.take k) = P ∧ wr.heap[w.heap.size + 2]? = some (.cells #[.int .i64 P.i, .int .i64 P.t, v, .string P.b] 40) ∧ wr.heap[w.heap.size + 1]? = some (.cells #[.int .i64 0, .int .i64 0, .slice none 0 0, .string { data := #[] }] 40) ∧ wr.heap[w.heap.size]? = some (.cells #[.slice ao n c] 30) ∧ ownsR wr (w.heap.size + 3) 3 v P.l ∧ Below w.heap.size w wr) (fun i _ => n - (intOf i).toNat)
  case atStart => exact ⟨0, Nat.zero_le _, rfl, noneS, .slice none 0 0, rfl, GH.out, GP.out, GD.out, ownsR_nil _ _ _, BB.out⟩
  case round =>
    obtain ⟨k, hk, rfl, ⟨Pi, Pt, Pl, Pb, Pz⟩, v, hP, gh, gp, gd, ow, hbel⟩ := hrel
    dsimp only at gh ow ⊢
    obtain ⟨va, vn, vc, rfl⟩ := ow.slice3
    have HPP : Hid (newS (l.take k) = ⟨Pi, Pt, Pl, Pb, Pz⟩) := hP
    clear hP
    have d0 := one_cellD gd
    by_cases hlt : k < n
    · obtain ⟨⟨nm, tx, kp⟩, hf⟩ : ∃ f, l[k]? = some f := ⟨_, List.getElem?_eq_getElem (by rw [← HN.out]; exact hlt)⟩
      have HF : Hid (l[k]? = some ⟨nm, tx, kp⟩) := hf
      have hts : Hid (nm.size ≤ 8) := HM.out _ (List.mem_of_getElem? hf)
      have htt : Hid (tx.size ≤ 1048576) := HX.out _ (List.mem_of_getElem? hf)
      obtain ⟨x, HXX⟩ : ∃ x, Hid (idxOf nm = x) := ⟨_, rfl⟩
      have HNN : Hid (newS (l.take (k + 1)) = nstep ⟨Pi, Pt, Pl, Pb, Pz⟩ ⟨nm, tx, kp⟩) := by show _ = _; rw [newS_take HF.out, HPP.out]
      have CN : Hid (∀ W, Calls Tryz.prog 27 #[.string nm] W fun e w' => e = .returned (.int .i64 x) ∧ Below W.heap.size W w') := fun W => by
        rw [← HXX.out]
        exact specIndex_any nm W (Nat.le_trans hts.out (by decide))
      have CR : Hid (∀ W, Calls Tryz.prog 28 #[.string tx] W (RsP tx W)) := fun W => specReadSnap_any tx W htt.out
      clear hf
      go_wp2_with fail
      refine Calls.mono (CD.out _ hbel) ?_
      rintro e w1 ⟨rfl, hb1⟩
      replace gh := blk_upD gh hb1
      replace gp := blk_upD gp hb1
      replace gd := blk_upD gd hb1
      replace ow := ow.all hb1
      replace hbel := Below.on hbel hb1
      clear hb1 d0
      have d0 := one_cellD gd
      obtain ⟨b, o, rfl, hb, c0, c1, c2⟩ := fl_at (HR.out.below hbel) HF.out
      dsimp only at c0 c1 c2
      go_wp2_with fail
      refine Calls.mono (CN.out _) ?_
      rintro e w2 ⟨rfl, hb2⟩
      replace gh := blk_upD gh hb2
      replace gp := blk_upD gp hb2
      replace gd := blk_upD gd hb2
      replace ow := ow.all hb2
      replace hbel := Below.on hbel hb2
      replace c1 := cell_up hb2 c1
      clear d0 c0 c2 hb hb2
      have d0 := one_cellD gd
      go_wp2_with fail
      refine Calls.mono (CR.out _) ?_
      rintro e w3 ⟨v3, rfl, o3, hb4⟩
      obtain ⟨oa, on, oc, rfl⟩ := o3.slice3
      rcases hrs : rsP tx with ⟨si, st, sl, sb, sz⟩
      rw [hrs] at o3
      have HRS : Hid (rsP tx = ⟨si, st, sl, sb, sz⟩) := hrs
      clear hrs
      unfold rsV
      dsimp only at o3 ⊢
      have hgw2 : w.heap.size + 3 ≤ w2.heap.size := (Array.getElem?_eq_some_iff.1 gh).1
      have hgw3 : w.heap.size + 2 < w3.heap.size := Nat.lt_of_lt_of_le (Array.getElem?_eq_some_iff.1 gh).1 hb4.size
      have o3 : Hid (ownsR w3 (w.heap.size + 3) 3 (.slice oa on oc) sl) := o3.mono hgw2
      replace gh := blk_upD gh hb4
      replace gp := blk_upD gp hb4
      replace gd := blk_upD gd hb4
      replace ow := ow.all hb4
      replace hbel := Below.on hbel hb4
      have hk1 : k + 1 ≤ n := by omega
      clear hb4 d0 c1 CN CR
      have gs := heap_last w3 (.cells #[.int .i64 si, .int .i64 st, .slice oa on oc, .string sb] 40)
      have gh4 := heap_old gh (.cells #[.int .i64 si, .int .i64 st, .slice oa on oc, .string sb] 40)
      have gp4 := heap_old gp (.cells #[.int .i64 si, .int .i64 st, .slice oa on oc, .string sb] 40)
      have gd4 := heap_old gd (.cells #[.int .i64 si, .int .i64 st, .slice oa on oc, .string sb] 40)
      have b4 := ba hbel (.cells #[.int .i64 si, .int .i64 st, .slice oa on oc, .string sb] 40)
      have o4o := ow.alloc (.cells #[.int .i64 si, .int .i64 st, .slice oa on oc, .string sb] 40)
      have o4n := o3.out.alloc (.cells #[.int .i64 si, .int .i64 st, .slice oa on oc, .string sb] 40)
      clear ow gh gp gd hbel o3
      obtain ⟨WX, hWX⟩ : ∃ WX, w3.alloc (.cells #[.int .i64 si, .int .i64 st, .slice oa on oc, .string sb] 40) = WX := ⟨_, rfl⟩
      rw [hWX] at gs gh4 gp4 gd4 b4 o4o o4n
      obtain ⟨s0, s1, s2, s3⟩ := sb_cells gs
      obtain ⟨h0, h1, h2, h3⟩ := sb_cells gh4
      have hf := sb_frozen gh4
      by_cases hx0 : 0 ≤ x
      · cases sz with
        | false =>
          have HE : Hid (newS (l.take (k + 1)) = ⟨Pi, Pt, Pl, Pb, Pz⟩) := HNN.out.trans (nstep_not HXX.out HRS.out (.inr (.inl rfl)))
          have o4 := o4o
          clear o4n o4o
          go_wp2
          go_roundw
          case rel => exact ⟨k + 1, hk1, by go_num, ⟨Pi, Pt, Pl, Pb, Pz⟩, _, HE.out, gh4, gp4, gd4, o4, b4⟩
          case measure => simp [intOf]; omega
        | true =>
          by_cases hsx : si = x
          · by_cases hless : Pi < x
            · have HE : Hid (newS (l.take (k + 1)) = ⟨si, st, sl, sb, true⟩) := HNN.out.trans (nstep_new HXX.out HRS.out hx0 rfl hsx hless)
              subst hsx
              clear o4o
              go_wp2
              have hlt1 : w.heap.size + 2 < w.heap.size + 3 := by omega
              have hgl : w.heap.size ≤ w.heap.size + 2 := by omega
              have hgn : w.heap.size + 2 ≠ w.heap.size + 1 := by omega
              have hgn0 : w.heap.size + 2 ≠ w.heap.size := by omega
              have FH := sb_set3 (sb_set2 (sb_set1 (sb_set0 gh4 (.int .i64 si)) (.int .i64 st)) (.slice oa on oc)) (.string sb)
              have FP := heap_far (heap_far (heap_far (heap_far gp4 (p := ⟨w.heap.size + 2, 0, none⟩) hgn (.int .i64 si)) (p := ⟨w.heap.size + 2, 1, none⟩) hgn (.int .i64 st)) (p := ⟨w.heap.size + 2, 2, none⟩) hgn (.slice oa on oc)) (p := ⟨w.heap.size + 2, 3, none⟩) hgn (.string sb)
              have FD := heap_far (heap_far (heap_far (heap_far gd4 (p := ⟨w.heap.size + 2, 0, none⟩) hgn0 (.int .i64 si)) (p := ⟨w.heap.size + 2, 1, none⟩) hgn0 (.int .i64 st)) (p := ⟨w.heap.size + 2, 2, none⟩) hgn0 (.slice oa on oc)) (p := ⟨w.heap.size + 2, 3, none⟩) hgn0 (.string sb)
              have FO := (((o4n.setBelow (a := ⟨w.heap.size + 2, 0, none⟩) hlt1 (.int .i64 si)).setBelow (a := ⟨w.heap.size + 2, 1, none⟩) hlt1 (.int .i64 st)).setBelow (a := ⟨w.heap.size + 2, 2, none⟩) hlt1 (.slice oa on oc)).setBelow (a := ⟨w.heap.size + 2, 3, none⟩) hlt1 (.string sb)
              have FB := (((b4.setCell (p := ⟨w.heap.size + 2, 0, none⟩) hgl (.int .i64 si)).setCell (p := ⟨w.heap.size + 2, 1, none⟩) hgl (.int .i64 st)).setCell (p := ⟨w.heap.size + 2, 2, none⟩) hgl (.slice oa on oc)).setCell (p := ⟨w.heap.size + 2, 3, none⟩) hgl (.string sb)
              go_roundw
              case rel => exact ⟨k + 1, hk1, by go_num, ⟨si, st, sl, sb, true⟩, _, HE.out, FH, FP, FD, FO, FB⟩
              case measure => simp [intOf]; omega
            · have HE : Hid (newS (l.take (k + 1)) = ⟨Pi, Pt, Pl, Pb, Pz⟩) := HNN.out.trans (nstep_not HXX.out HRS.out (.inr (.inr (.inr hless))))
              subst hsx
              have o4 := o4o
              clear o4n o4o
              go_wp2
              go_roundw
              case rel => exact ⟨k + 1, hk1, by go_num, ⟨Pi, Pt, Pl, Pb, Pz⟩, _, HE.out, gh4, gp4, gd4, o4, b4⟩
              case measure => simp [intOf]; omega
          · have HE : Hid (newS (l.take (k + 1)) = ⟨Pi, Pt, Pl, Pb, Pz⟩) := HNN.out.trans (nstep_not HXX.out HRS.out (.inr (.inr (.inl hsx))))
            have hne2 : (si == x) = false := by rw [beq_eq_false_iff_ne]; exact hsx
            have o4 := o4o
            clear o4n o4o
            go_wp2
            go_roundw
            case rel => exact ⟨k + 1, hk1, by go_num, ⟨Pi, Pt, Pl, Pb, Pz⟩, _, HE.out, gh4, gp4, gd4, o4, b4⟩
            case measure => simp [intOf]; omega
      · have HE : Hid (newS (l.take (k + 1)) = ⟨Pi, Pt, Pl, Pb, Pz⟩) := HNN.out.trans (nstep_not HXX.out HRS.out (.inl (by omega)))
        have o4 := o4o
        clear o4n o4o
        go_wp2
        go_roundw
        case rel => exact ⟨k + 1, hk1, by go_num, ⟨Pi, Pt, Pl, Pb, Pz⟩, _, HE.out, gh4, gp4, gd4, o4, b4⟩
        case measure => simp [intOf]; omega
    · have hkn : k = n := by omega
      have hP2 : newS l = ⟨Pi, Pt, Pl, Pb, Pz⟩ := by
        have := HPP.out
        rwa [hkn, HN.out, List.take_length] at this
      have hsd := newS_sound l l.length (Nat.le_refl _)
      rw [List.take_length, hP2] at hsd
      have HZ2 := HZ.out
      rw [hP2] at HZ2
      subst hkn
      obtain ⟨h0, h1, h2, h3⟩ := sb_cells gh
      obtain ⟨p0, p1, p2, p3⟩ := sb_cells gp
      have pf := sb_frozen gp
      rcases hsd with ⟨hz, hno⟩ | ⟨hz, h0i, _⟩
      · have hz : Pz = false := hz
        subst hz
        have HE : Hid (nsP l = zeroS) := HZ2
        have hlt0 : Pi < 0 := by
          have : Pi = -1 := congrArg Rsd.i hno
          omega
        clear hno HZ2 hP2
        go_wp2
        exact bodyPost_ret (ret_snap2 rfl rfl rfl (sb_set3 (sb_set2 (sb_set1 (sb_set0 gp _) _) _) _)) rfl (nsP_zero HE.out hbel)
      · have hz : Pz = true := hz
        subst hz
        have HE : Hid (nsP l = ⟨Pi, Pt, Pl, Pb, true⟩) := HZ2
        have hge : 0 ≤ Pi := h0i
        clear h0i HZ2 hP2
        go_wp2
        have F1 := sb_set3 (sb_set2 (sb_set1 (sb_set0 gp (.int .i64 Pi)) (.int .i64 Pt)) (.slice va vn vc)) (.string Pb)
        have hlt1 : w.heap.size + 1 < w.heap.size + 3 := by omega
        have FO := (((ow.setBelow (a := ⟨w.heap.size + 1, 0, none⟩) hlt1 (.int .i64 Pi)).setBelow (a := ⟨w.heap.size + 1, 1, none⟩) hlt1 (.int .i64 Pt)).setBelow (a := ⟨w.heap.size + 1, 2, none⟩) hlt1 (.slice va vn vc)).setBelow (a := ⟨w.heap.size + 1, 3, none⟩) hlt1 (.string Pb)
        have FB := (((hbel.setCell (p := ⟨w.heap.size + 1, 0, none⟩) (Nat.le_succ _) (.int .i64 Pi)).setCell (p := ⟨w.heap.size + 1, 1, none⟩) (Nat.le_succ _) (.int .i64 Pt)).setCell (p := ⟨w.heap.size + 1, 2, none⟩) (Nat.le_succ _) (.slice va vn vc)).setCell (p := ⟨w.heap.size + 1, 3, none⟩) (Nat.le_succ _) (.string Pb)
        exact bodyPost_ret (ret_snap2 rfl rfl rfl F1) rfl ⟨_, by rw [HE.out]; rfl, by rw [HE.out]; exact FO.mono (by omega), FB⟩
/-- The specification's NewestSnap. -/
theorem specNewest_any {w : World} {v : Value} {l : List Fl} (hr : Reads w v l) (hn : l.length ≤ 1048577) : Calls Tryz.prog 14 #[.agg #[v]] w (NsP l w) := by
  obtain ⟨ao, c, rfl, _⟩ := id hr
  have CD : Hid (∀ W, Below w.heap.size w W → Calls Tryz.prog 26 #[.agg #[.slice ao l.length c]] W fun e w' => e = .returned (.bool (diskR l)) ∧ Below W.heap.size W w') := fun W h => specDiskOk_any (hr.below h)
  cases hd : diskR l with
  | false => rw [hd] at CD; exact specNewest_no ao _ c l w hd CD (by omega)
  | true => rw [hd] at CD; exact specNewest_go ao _ c l w hr hd CD
end Go.Proofs.YtingfgbcinlflaaGreatDoor

namespace Go.Proofs.YtingfgbcinlflaaGreatDoor
open Go Go.RowKit

/-- A file of marks from x on. -/
def mkF (x : Int) : Fl := ⟨mkT x, mkT (x + 1), x + 1 + 1⟩
/-- The first j marked, the rest as they were. -/
def markedF (x : Int) (l : List Fl) (j : Nat) : List Fl := (List.range j).map (fun i : Nat => mkF (x + 3 * (i : Int))) ++ l.drop j
def marksF (x : Int) (n : Nat) : List Fl := (List.range n).map (fun i : Nat => mkF (x + 3 * (i : Int)))
theorem markedF_length {x : Int} {l : List Fl} {j : Nat} (h : j ≤ l.length) : (markedF x l j).length = l.length := by simp [markedF]; omega
theorem markedF_at {x : Int} {l : List Fl} {j : Nat} {f : Fl} (h : l[j]? = some f) : (markedF x l j)[j]? = some f := by
  unfold markedF
  rw [List.getElem?_append_right (by simp)]
  simp [h]
theorem markedF_set {x : Int} {l : List Fl} {j : Nat} {f : Fl} (h : l[j]? = some f) : (markedF x l j).set j (mkF (x + 3 * (j : Int))) = markedF x l (j + 1) := by
  have hj : j < l.length := (List.getElem?_eq_some_iff.1 h).1
  unfold markedF
  rw [List.set_append_right _ _ (by simp), List.drop_eq_getElem_cons hj, List.range_succ]
  simp
  rw [List.drop_eq_getElem_cons hj]
  rfl
theorem markedF_zero {w : World} {B : Nat} {e : TypeId} {v : Value} {x : Int} {l : List Fl} (h : Hid (ownsR w B e v l)) : Hid (ownsR w B e v (markedF x l 0)) := by
  have e : markedF x l 0 = l := by simp [markedF]
  rw [e]
  exact h
theorem markedF_all (x : Int) (l : List Fl) : markedF x l l.length = marksF x l.length := by simp [markedF, marksF]
theorem marksF_at {x : Int} {n j : Nat} (h : j < n) : (marksF x n)[j]? = some (mkF (x + 3 * (j : Int))) := by simp [marksF, h]
theorem marksF_length (x : Int) (n : Nat) : (marksF x n).length = n := by simp [marksF]

theorem fl_own {w : World} {B : Nat} {g n cap : Nat} {l : List Fl} (h : ownsR w B 56 (.slice (some ⟨g, 0, none⟩) n cap) l) {i : Nat} {x : Fl} (hi : l[i]? = some x) :
    g < w.heap.size ∧ (w.cell? ⟨g, i * 3, none⟩ = some (.string x.name) ∧ w.cell? ⟨g, i * 3 + 1, none⟩ = some (.string x.text) ∧ w.cell? ⟨g, i * 3 + 2, none⟩ = some (.int .i64 x.kept)) ∧ w.frozen? ⟨g, i * 3, none⟩ = false ∧ w.frozen? ⟨g, i * 3 + 1, none⟩ = false ∧ w.frozen? ⟨g, i * 3 + 2, none⟩ = false := by
  obtain ⟨h1, _, _, h2⟩ := h.at hi
  exact ⟨h1, ⟨(h2 0 (by decide)).1, (h2 1 (by decide)).1, (h2 2 (by decide)).1⟩, (h2 0 (by decide)).2, (h2 1 (by decide)).2, (h2 2 (by decide)).2⟩


set_option maxHeartbeats 1000000 in
theorem markFileS_none (ao : Option Addr) (c : Nat) (x : Int) (w : World) :
    Calls Tryz.prog 23 #[.slice ao 0 c, .int .i64 x] w fun e w' => e = .returned (.int .i64 x) ∧ Below w.heap.size w w' := by
  go_enter Tryz.func23, Tryz.ntmps23
  go_wp2
  refine wp_loop_rounds 1 ?_
  rw [rounds_succ]
  go_wp2
  go_ret
  exact ⟨rfl, Below.refl _ _⟩

set_option maxHeartbeats 2000000 in
theorem markFileS_some (g n c B : Nat) (x : Int) (l : List Fl) (w : World) (ho : ownsR w B 56 (.slice (some ⟨g, 0, none⟩) n c) l) (hn : n ≤ 1048577) (hx0 : 0 < x) (hx : x ≤ 100000000) :
    Calls Tryz.prog 23 #[.slice (some ⟨g, 0, none⟩) n c, .int .i64 x] w fun e w' => e = .returned (.int .i64 (x + 3 * (n : Int))) ∧ ownsR w' B 56 (.slice (some ⟨g, 0, none⟩) n c) (marksF x n) ∧ w.grownBy w' (some g) := by
  have HN : Hid (n = l.length) := ho.reads.len
  have HO : Hid (ownsR w B 56 (.slice (some ⟨g, 0, none⟩) n c) l) := ho
  clear ho
  go_enter Tryz.func23, Tryz.ntmps23
  go_wp2
  go_loopw [1, 5] (fun q i wr => ∃ k : Nat, k ≤ n ∧ i = .int .i64 k ∧ q = .int .i64 (x + 3 * (k : Int)) ∧ Hid (ownsR wr B 56 (.slice (some ⟨g, 0, none⟩) n c) (markedF x l k)) ∧ w.grownBy wr (some g)) (fun _ i _ => n - (intOf i).toNat)
  case atStart => exact ⟨0, Nat.zero_le _, rfl, by simp, markedF_zero HO, grown_refl _ _⟩
  case round =>
    obtain ⟨k, hk, rfl, rfl, HL, hbel⟩ := hrel
    by_cases hlt : k < n
    · obtain ⟨f, hf⟩ : ∃ f, l[k]? = some f := ⟨_, List.getElem?_eq_getElem (by rw [← HN.out]; exact hlt)⟩
      have HF : Hid (l[k]? = some f) := hf
      clear hf
      go_wp2_with fail
      refine (markText_int _ _ (by omega) (by omega)).mono ?_
      rintro e w2 ⟨rfl, hb2⟩
      have O2 : Hid (ownsR w2 B 56 (.slice (some ⟨g, 0, none⟩) n c) (markedF x l k)) := HL.out.all hb2
      obtain ⟨hg2, ⟨d0, d1, d2⟩, f0, f1, f2⟩ := fl_own O2.out (markedF_at HF.out)
      have O3 : Hid (ownsR (w2.setCell ⟨g, k * 3, none⟩ (.string (mkT (x + 3 * (k : Int))))) B 56 (.slice (some ⟨g, 0, none⟩) n c) ((markedF x l k).set k { f with name := mkT (x + 3 * (k : Int)) })) := O2.out.put (j := 0) (u := .string (mkT (x + 3 * (k : Int)))) { f with name := mkT (x + 3 * (k : Int)) } (markedF_at HF.out) (by decide) rfl
      clear d1 d2 f1 f2
      go_wp2_with fail
      refine (markText_int _ _ (by omega) (by omega)).mono ?_
      rintro e w4 ⟨rfl, hb4⟩
      have O4 : Hid (ownsR w4 B 56 (.slice (some ⟨g, 0, none⟩) n c) ((markedF x l k).set k { f with name := mkT (x + 3 * (k : Int)) })) := O3.out.all hb4
      have at4 : ((markedF x l k).set k { f with name := mkT (x + 3 * (k : Int)) })[k]? = some { f with name := mkT (x + 3 * (k : Int)) } := List.getElem?_set_self (by rw [markedF_length (by rw [← HN.out]; omega), ← HN.out]; exact hlt)
      obtain ⟨hg4, ⟨d0', d1, d2⟩, f0', f1, f2⟩ := fl_own O4.out at4
      have O5 : Hid (ownsR (w4.setCell ⟨g, k * 3 + 1, none⟩ (.string (mkT (x + 3 * (k : Int) + 1)))) B 56 (.slice (some ⟨g, 0, none⟩) n c) ((markedF x l k).set k { f with name := mkT (x + 3 * (k : Int)), text := mkT (x + 3 * (k : Int) + 1) })) := by
        have := O4.out.put (j := 1) (u := .string (mkT (x + 3 * (k : Int) + 1))) { f with name := mkT (x + 3 * (k : Int)), text := mkT (x + 3 * (k : Int) + 1) } at4 (by decide) rfl
        rw [List.set_set] at this
        exact this
      have at5 : ((markedF x l k).set k { f with name := mkT (x + 3 * (k : Int)), text := mkT (x + 3 * (k : Int) + 1) })[k]? = some { f with name := mkT (x + 3 * (k : Int)), text := mkT (x + 3 * (k : Int) + 1) } := List.getElem?_set_self (by rw [markedF_length (by rw [← HN.out]; omega), ← HN.out]; exact hlt)
      have O6 : Hid (ownsR ((w4.setCell ⟨g, k * 3 + 1, none⟩ (.string (mkT (x + 3 * (k : Int) + 1)))).setCell ⟨g, k * 3 + 2, none⟩ (.int .i64 (x + 3 * (k : Int) + 1 + 1))) B 56 (.slice (some ⟨g, 0, none⟩) n c) (markedF x l (k + 1))) := by
        have := O5.out.put (j := 2) (u := .int .i64 (x + 3 * (k : Int) + 1 + 1)) (mkF (x + 3 * (k : Int))) at5 (by decide) rfl
        rw [List.set_set, markedF_set HF.out] at this
        exact this
      have B4 : w.grownBy w4 (some g) := grown_trans (grown_trans (grown_trans hbel (grown_of_below hb2 _)) (grown_set _ _ _ _)) (grown_of_below hb4 _)
      clear d0' f0' at4 at5 O5 O4 O3 O2 HL d0 f0
      go_wp2
      go_roundw
      case rel => exact ⟨k + 1, by omega, by go_num, by go_num, O6, grown_trans (grown_trans B4 (grown_set _ _ _ _)) (grown_set _ _ _ _)⟩
      case measure => simp [intOf]; omega
    · have hkn : k = n := by omega
      have R : ownsR wr B 56 (.slice (some ⟨g, 0, none⟩) n c) (marksF x n) := by
        have h := HL.out
        have e := markedF_all x l
        rw [← HN.out] at e
        rw [hkn, e] at h
        exact h
      subst hkn
      go_wp2
      go_ret
      exact ⟨rfl, R, hbel⟩

theorem markFileS_any {w : World} {B : Nat} {x : Int} {v : Value} {l : List Fl} (ho : ownsR w B 56 v l) (hn : l.length ≤ 1048577) (hx0 : 0 < x) (hx : x ≤ 100000000) :
    Calls Tryz.prog 23 #[v, .int .i64 x] w fun e w' => e = .returned (.int .i64 (x + 3 * (l.length : Int))) ∧ ownsR w' B 56 v (marksF x l.length) ∧ w.grownBy w' v.ownBlock := by
  have ho2 := ho
  rcases ho.2 with ⟨rfl, h0⟩ | ⟨g, cap, cur, rfl, _⟩
  · have hl : l = [] := List.eq_nil_of_length_eq_zero h0
    subst hl
    exact (markFileS_none none 0 x w).mono fun e w' ⟨he, h⟩ => ⟨by simpa using he, ownsR_nil _ _ _, grown_of_below h _⟩
  · exact markFileS_some g l.length cap B x l w ho2 hn hx0 hx

set_option maxHeartbeats 1000000 in
theorem markDisk_any {w : World} {B : Nat} {x : Int} {v : Value} {l : List Fl} (ho : ownsR w B 56 v l) (hn : l.length ≤ 1048577) (hx0 : 0 < x) (hx : x ≤ 100000000) :
    Calls Tryz.prog 10 #[.agg #[v], .int .i64 x] w fun e w' => e = .returned (.int .i64 (x + 3 * (l.length : Int))) ∧ ownsR w' B 56 v (marksF x l.length) ∧ w.grownBy w' v.ownBlock := by
  obtain ⟨ao, c, rfl⟩ := ho.slice
  have HO : Hid (ownsR w B 56 (.slice ao l.length c) l) := ho
  clear ho
  go_enter Tryz.func10, Tryz.ntmps10
  go_wp2_with (go_at_call 23; refine (markFileS_any (HO.out.alloc _) hn hx0 hx).mono ?_; rintro e w2 ⟨rfl, ho2, hb2⟩)
  go_ret
  exact ⟨rfl, ho2, grown_trans (World.grownBy_alloc w _ _) hb2⟩

end Go.Proofs.YtingfgbcinlflaaGreatDoor

namespace Go.Proofs.YtingfgbcinlflaaGreatDoor
open Go Go.RowKit

theorem eqActS_val {w : World} {va vb : Value} {l : List Ac} (ha : Reads w va l) (hb : Reads w vb l) (hn : l.length ≤ 1048577) :
    Calls Tryz.prog 8 #[va, vb] w fun e w' => e = .returned (.bool true) ∧ Below w.heap.size w w' := by
  obtain ⟨ao, c, rfl, _⟩ := id ha
  obtain ⟨bo, d, rfl, _⟩ := id hb
  exact eqActS_any ao bo _ c d l w ha hb hn
theorem heldActS_val {w : World} {v : Value} {x : Int} {n : Nat} (hr : Reads w v (marksAc x n)) (hn : n ≤ 1048577) (hx0 : 0 < x) (hx : x ≤ 100000000) :
    Calls Tryz.prog 12 #[v, .int .i64 x] w fun e w' => e = .returned (.int .i64 (x + 4 * (n : Int))) ∧ Below w.heap.size w w' := by
  obtain ⟨ao, c, rfl, _⟩ := id hr
  rw [marksAc_length] at hr ⊢
  exact heldActS_any ao n c x w hr hn hx0 hx
theorem cells1_new {w w' : World} {a : Value} {t : TypeId} (hb : Below (w.alloc (.cells #[a] t)).heap.size (w.alloc (.cells #[a] t)) w') : w'.cell? ⟨w.heap.size, 0, none⟩ = some a :=
  (hb.cell (by simp)).trans (by simp [go_sem])
end Go.Proofs.YtingfgbcinlflaaGreatDoor

namespace Go.Proofs.YtingfgbcinlflaaGreatDoor
open Go Go.RowKit

/-- The acts that shed. -/
def shedL (l : List Fl) : List Ac := if (nsP l).z = true then newDrop l ++ dropsS (nsP l).i l else []
theorem nsP_right (l : List Fl) : (nsP l).z = true → diskR l = true := fun h => by
  unfold nsP at h
  split at h
  · rename_i hd
    exact hd
  · cases h

set_option maxRecDepth 10000 in
set_option maxHeartbeats 4000000 in
theorem shedActs_any {w : World} {v : Value} {l : List Fl} (hr : Reads w v l) (hn : l.length ≤ 1048577) (hp : PowIs w) (ht : TableIs w) :
    Calls Tryz.prog 7 #[.agg #[v]] w fun e w' => ∃ x, e = .returned x ∧ ownsR w' w.heap.size 47 x (shedL l) ∧ Below w.heap.size w w' := by
  obtain ⟨ao, c, rfl, _⟩ := id hr
  have HR : Hid (Reads w (.slice ao l.length c) l) := hr
  have HL : Hid (l.length ≤ 1048577) := hn
  have HP : Hid (PowIs w) := hp
  have HT : Hid (TableIs w) := ht
  clear hp ht
  clear hr hn
  go_enter Tryz.func7, Tryz.ntmps7
  go_wp2_with fail
  refine Calls.mono (newestSnap_any (HR.out.alloc _) (HP.out.below (ba (Below.refl _ _) _)) (HT.out.below (ba (Below.refl _ _) _))) ?_
  rintro e w3 ⟨v3, rfl, o3, hb3⟩
  obtain ⟨oa, on, oc, rfl⟩ := o3.slice3
  have gd := blk_upD (heap_last w (.cells #[.slice ao l.length c] 30)) hb3
  have B3 : Below w.heap.size w w3 := below_new hb3
  have HD : Hid ((nsP l).z = true → diskR l = true) := nsP_right l
  rcases hns : nsP l with ⟨si, st, sl, sb, sz⟩
  have HNS : Hid (nsP l = ⟨si, st, sl, sb, sz⟩) := hns
  clear hns o3 hb3
  unfold rsV
  dsimp only
  have gs := heap_last w3 (.cells #[.int .i64 si, .int .i64 st, .slice oa on oc, .string sb] 40)
  have gd2 := heap_old gd (.cells #[.int .i64 si, .int .i64 st, .slice oa on oc, .string sb] 40)
  have B4 := ba B3 (.cells #[.int .i64 si, .int .i64 st, .slice oa on oc, .string sb] 40)
  clear B3 gd
  cases sz with
  | false =>
    have HE : Hid (shedL l = []) := by show _ = _; unfold shedL; rw [HNS.out]; rfl
    clear gs gd2
    go_wp2
    go_ret
    have o5 := ownsA_made (w3.alloc (.cells #[.int .i64 si, .int .i64 st, .slice oa on oc, .string sb] 40)) w.heap.size 0 #[] B4.size (by decide) rfl
    rw [World.size_alloc] at o5
    exact ⟨_, rfl, by rw [HE.out]; exact o5, ba B4 _⟩
  | true =>
    have HE : Hid (shedL l = newDrop l ++ dropsS si l) := by show _ = _; unfold shedL; rw [HNS.out]; rfl
    have hd : diskR l = true := HD.out (by rw [HNS.out])
    have HM : Hid (NamesL l) := names_right hd
    have HX : Hid (TextsL l) := texts_right hd
    have H30 : Hid (l.length ≤ 30) := diskR_len hd
    have HLL : Hid ((newDrop l).length + (dropsS si l).length ≤ 1048577) := by
      have h1 := newDrop_length l
      have h2 := dropsS_length si l
      have h3 := diskR_len hd
      show _ ≤ _
      omega
    clear hd
    go_wp2
    generalize w3.heap.size = g at gs ⊢
    generalize w3.alloc (.cells #[.int .i64 si, .int .i64 st, .slice oa on oc, .string sb] 40) = W at gs gd2 B4 ⊢
    obtain ⟨s0, _, _, _⟩ := sb_cells gs
    have d0 := one_cellD gd2
    have K0 := Below.cellOf (B := W.heap.size) (W := W) (p := ⟨w.heap.size, 0, none⟩) (v := .slice ao l.length c) (World.block_lt_of_cell? _ _ d0) d0
    have K1 := Below.cellOf (B := W.heap.size) (W := W) (p := ⟨g, 0, none⟩) (v := .int .i64 si) (World.block_lt_of_cell? _ _ s0) s0
    have BW : Hid (Below w.heap.size w W) := B4
    clear B4 gs gd2
    go_region_held_law (fun w' => Below W.heap.size W w') ((first | exact (Below.refl _ _).drew | exact hS1 | exact hS2 | exact hS3)) ((first
      | (refine step_append_recs rfl (.tmp 14) (.tmp 18) 26 rfl W.heap.size 47 _ 56 underAc infoAc rfl (.slice a1 n1 e1) (.slice a2 n2 e2) (newDrop l) (dropsS si l) rfl rfl (ho1.all hb2) ho2.reads (ac_one _) HLL.out (by decide) hS2.size ?_; intro v3 w3' ho3 hg3; have hS3 : Below W.heap.size W w3' := hS2.grown hg3 hS2.size (fun k hk => (ho1.lt k hk).1))
      | (go_at_call 19; refine Calls.mono (newSnapDrops_any (HR.out.below (Below.on BW.out (by assumption))) HL.out HX.out) ?_; rintro e w1 ⟨v1, rfl, ho1, hb1⟩; obtain ⟨a1, n1, e1, rfl⟩ := ho1.slice3; have hS1 := keep_on (B := W.heap.size) (W := W) hb1 (by assumption) (Nat.le_refl _); replace ho1 := ho1.mono (B' := W.heap.size) (Below.size (by assumption)))
      | (go_at_call 20; refine Calls.mono (otherSnapDrops_any (HR.out.below (Below.on BW.out hS1)) H30.out HM.out (HP.out.below (Below.on BW.out hS1))) ?_; rintro e w2 ⟨v2, rfl, ho2, hb2⟩; obtain ⟨a2, n2, e2, rfl⟩ := ho2.slice3; have hS2 := keep_on (B := W.heap.size) (W := W) hb2 hS1 (Nat.le_refl _))))
    have BF : Below w.heap.size w w3' := Below.on BW.out hS3
    have OF : Hid (ownsR w3' w.heap.size 47 v3 (shedL l)) := by show ownsR _ _ _ _ _; rw [HE.out]; exact ho3.mono BW.out.size
    clear ho1 ho2 ho3 hg3 hb1 hb2 hS1 hS2 hS3 K0 K1 s0 d0
    go_wp2
    go_ret
    refine ⟨v3, ?_, OF.out, BF⟩
    simp

set_option maxRecDepth 10000 in
set_option maxHeartbeats 4000000 in
theorem specShed_any {w : World} {v : Value} {l : List Fl} (hr : Reads w v l) (hn : l.length ≤ 1048577) :
    Calls Tryz.prog 5 #[.agg #[v]] w fun e w' => ∃ x, e = .returned x ∧ ownsR w' w.heap.size 47 x (shedL l) ∧ Below w.heap.size w w' := by
  obtain ⟨ao, c, rfl, _⟩ := id hr
  have HR : Hid (Reads w (.slice ao l.length c) l) := hr
  have HL : Hid (l.length ≤ 1048577) := hn
  clear hr hn
  go_enter Tryz.func5, Tryz.ntmps5
  go_wp2_with fail
  refine Calls.mono (specNewest_any (HR.out.alloc _) HL.out) ?_
  rintro e w3 ⟨v3, rfl, o3, hb3⟩
  obtain ⟨oa, on, oc, rfl⟩ := o3.slice3
  have gd := blk_upD (heap_last w (.cells #[.slice ao l.length c] 30)) hb3
  have B3 : Below w.heap.size w w3 := below_new hb3
  have HD : Hid ((nsP l).z = true → diskR l = true) := nsP_right l
  rcases hns : nsP l with ⟨si, st, sl, sb, sz⟩
  have HNS : Hid (nsP l = ⟨si, st, sl, sb, sz⟩) := hns
  clear hns o3 hb3
  unfold rsV
  dsimp only
  have gs := heap_last w3 (.cells #[.int .i64 si, .int .i64 st, .slice oa on oc, .string sb] 40)
  have gd2 := heap_old gd (.cells #[.int .i64 si, .int .i64 st, .slice oa on oc, .string sb] 40)
  have B4 := ba B3 (.cells #[.int .i64 si, .int .i64 st, .slice oa on oc, .string sb] 40)
  clear B3 gd
  cases sz with
  | false =>
    have HE : Hid (shedL l = []) := by show _ = _; unfold shedL; rw [HNS.out]; rfl
    clear gs gd2
    go_wp2
    go_ret
    have o5 := ownsA_made (w3.alloc (.cells #[.int .i64 si, .int .i64 st, .slice oa on oc, .string sb] 40)) w.heap.size 0 #[] B4.size (by decide) rfl
    rw [World.size_alloc] at o5
    exact ⟨_, rfl, by rw [HE.out]; exact o5, ba B4 _⟩
  | true =>
    have HE : Hid (shedL l = newDrop l ++ dropsS si l) := by show _ = _; unfold shedL; rw [HNS.out]; rfl
    have hd : diskR l = true := HD.out (by rw [HNS.out])
    have HM : Hid (NamesL l) := names_right hd
    have HX : Hid (TextsL l) := texts_right hd
    have H30 : Hid (l.length ≤ 30) := diskR_len hd
    have HLL : Hid ((newDrop l).length + (dropsS si l).length ≤ 1048577) := by
      have h1 := newDrop_length l
      have h2 := dropsS_length si l
      have h3 := diskR_len hd
      show _ ≤ _
      omega
    clear hd
    go_wp2
    generalize w3.heap.size = g at gs ⊢
    generalize w3.alloc (.cells #[.int .i64 si, .int .i64 st, .slice oa on oc, .string sb] 40) = W at gs gd2 B4 ⊢
    obtain ⟨s0, _, _, _⟩ := sb_cells gs
    have d0 := one_cellD gd2
    have K0 := Below.cellOf (B := W.heap.size) (W := W) (p := ⟨w.heap.size, 0, none⟩) (v := .slice ao l.length c) (World.block_lt_of_cell? _ _ d0) d0
    have K1 := Below.cellOf (B := W.heap.size) (W := W) (p := ⟨g, 0, none⟩) (v := .int .i64 si) (World.block_lt_of_cell? _ _ s0) s0
    have BW : Hid (Below w.heap.size w W) := B4
    clear B4 gs gd2
    go_region_held_law (fun w' => Below W.heap.size W w') ((first | exact (Below.refl _ _).drew | exact hS1 | exact hS2 | exact hS3)) ((first
      | (refine step_append_recs rfl (.tmp 14) (.tmp 18) 26 rfl W.heap.size 47 _ 56 underAc infoAc rfl (.slice a1 n1 e1) (.slice a2 n2 e2) (newDrop l) (dropsS si l) rfl rfl (ho1.all hb2) ho2.reads (ac_one _) HLL.out (by decide) hS2.size ?_; intro v3 w3' ho3 hg3; have hS3 : Below W.heap.size W w3' := hS2.grown hg3 hS2.size (fun k hk => (ho1.lt k hk).1))
      | (go_at_call 15; refine Calls.mono (specNew_any (HR.out.below (Below.on BW.out (by assumption))) HL.out) ?_; rintro e w1 ⟨v1, rfl, ho1, hb1⟩; obtain ⟨a1, n1, e1, rfl⟩ := ho1.slice3; have hS1 := keep_on (B := W.heap.size) (W := W) hb1 (by assumption) (Nat.le_refl _); replace ho1 := ho1.mono (B' := W.heap.size) (Below.size (by assumption)))
      | (go_at_call 16; refine Calls.mono (specDrops_any (HR.out.below (Below.on BW.out hS1)) H30.out HM.out) ?_; rintro e w2 ⟨v2, rfl, ho2, hb2⟩; obtain ⟨a2, n2, e2, rfl⟩ := ho2.slice3; have hS2 := keep_on (B := W.heap.size) (W := W) hb2 hS1 (Nat.le_refl _))))
    have BF : Below w.heap.size w w3' := Below.on BW.out hS3
    have OF : Hid (ownsR w3' w.heap.size 47 v3 (shedL l)) := by show ownsR _ _ _ _ _; rw [HE.out]; exact ho3.mono BW.out.size
    clear ho1 ho2 ho3 hg3 hb1 hb2 hS1 hS2 hS3 K0 K1 s0 d0
    go_wp2
    go_ret
    refine ⟨v3, ?_, OF.out, BF⟩
    simp
end Go.Proofs.YtingfgbcinlflaaGreatDoor

namespace Go.Proofs.YtingfgbcinlflaaGreatDoor
open Go Go.RowKit

theorem shedL_length (l : List Fl) : (shedL l).length ≤ 1048577 := by
  unfold shedL
  split
  · rename_i h
    have h1 := newDrop_length l
    have h2 := dropsS_length (nsP l).i l
    have h3 := diskR_len (nsP_right l h)
    rw [List.length_append]
    omega
  · exact Nat.zero_le _
set_option maxRecDepth 10000 in
set_option maxHeartbeats 4000000 in
theorem law_ShedActs (ao : Option Addr) (n cap : Nat) (l : List Fl) (w : World) (hr : Reads w (.slice ao n cap) l) (hs : Small l) (hn : n ≤ 9223372036854775807) (hp : PowIs w) (ht : TableIs w) :
    Calls Tryz.prog 3 #[.agg #[.slice ao n cap]] w fun e w' => e = .returned (.bool true) ∧ Below w.heap.size w w' := by
  have HR : Hid (Reads w (.slice ao n cap) l) := hr
  have HN : Hid (n = l.length) := hr.len
  have HS : Hid (Small l) := hs
  have HP : Hid (PowIs w) := hp
  have HT : Hid (TableIs w) := ht
  clear hr hs hp ht
  obtain ⟨L, HX⟩ : ∃ q, Hid (shedL l = q) := ⟨_, rfl⟩
  have HO : Hid (L.length ≤ 1048577) := by show _ ≤ _; rw [← HX.out]; exact shedL_length l
  go_enter Tryz.func3, Tryz.ntmps3
  go_wp2_with fail
  refine (szDisk_any _ l _ _ (HR.out.alloc _) HS.out (by decide) (by decide) (by rw [← HN.out]; exact hn)).mono ?_
  rintro e w0 ⟨r, rfl, hr, hb0⟩
  have c_a0_0 := cells1_new hb0
  have B0 := below_new hb0
  clear hb0
  rcases hr with rfl | ⟨hr0, hr1⟩
  · go_wp2
    go_ret
    exact ⟨rfl, B0⟩
  · have HL : Hid (l.length ≤ 1048576) := by show l.length ≤ 1048576; omega
    clear hr1
    have CS : Hid (∀ (W : World) (B : Nat) (x : Value), ownsR W B 56 x l → Calls Tryz.prog 5 #[.agg #[x]] W fun e w' => ∃ v, e = .returned v ∧ ownsR w' W.heap.size 47 v L ∧ Below W.heap.size W w') := fun W B x h1 => by rw [← HX.out]; exact specShed_any h1.reads (Nat.le_trans HL.out (by decide))
    have CI : Hid (∀ (W : World) (B : Nat) (x : Value), ownsR W B 56 x l → PowIs W → TableIs W → Calls Tryz.prog 7 #[.agg #[x]] W fun e w' => ∃ v, e = .returned v ∧ ownsR w' W.heap.size 47 v L ∧ Below W.heap.size W w') := fun W B x h1 h2 h3 => by rw [← HX.out]; exact shedActs_any h1.reads (Nat.le_trans HL.out (by decide)) h2 h3
    go_wp2_with fail
    refine (toDisk_any _ l _ (HR.out.below B0) HL.out).mono ?_
    rintro e w1 ⟨v1, rfl, ho1, hb1⟩
    obtain ⟨a1, n1, d1, rfl⟩ := ho1.slice3
    have ac_a_d := cell_apart c_a0_0 ho1
    have c_a0_1 := cell_up hb1 c_a0_0
    have B1 : Below w.heap.size w w1 := B0.trans (hb1.mono B0.size)
    have O_d_1 : Hid (ownsR w1 w.heap.size 56 (.slice a1 n1 d1) (l)) := ho1.mono B0.size
    clear c_a0_0 B0 hb1 ho1
    go_wp2_with fail
    refine (CS.out _ _ _ O_d_1.out).mono ?_
    rintro e w2 ⟨v2, rfl, ho2, hb2⟩
    obtain ⟨a2, n2, d2, rfl⟩ := ho2.slice3
    have ap_d_w := apart_new O_d_1.out ho2
    have ap_w_d := apart_old O_d_1.out ho2
    have ac_a_w := cell_apart c_a0_1 ho2
    have c_a0_2 := cell_up hb2 c_a0_1
    have O_d_2 : Hid (ownsR w2 w.heap.size 56 (.slice a1 n1 d1) (l)) := O_d_1.out.all hb2
    have B2 : Below w.heap.size w w2 := B1.trans (hb2.mono B1.size)
    have O_w_2 : Hid (ownsR w2 w.heap.size 47 (.slice a2 n2 d2) (L)) := ho2.mono B1.size
    clear c_a0_1 O_d_1 B1 hb2 ho2
    go_wp2_with fail
    refine (toDisk_any _ l _ (HR.out.below B2) HL.out).mono ?_
    rintro e w3 ⟨v3, rfl, ho3, hb3⟩
    obtain ⟨a3, n3, d3, rfl⟩ := ho3.slice3
    have ap_w_x := apart_new O_w_2.out ho3
    have ap_x_w := apart_old O_w_2.out ho3
    have ac_a_x := cell_apart c_a0_2 ho3
    have c_a0_3 := cell_up hb3 c_a0_2
    have O_w_3 : Hid (ownsR w3 w.heap.size 47 (.slice a2 n2 d2) (L)) := O_w_2.out.all hb3
    have B3 : Below w.heap.size w w3 := B2.trans (hb3.mono B2.size)
    have O_x_3 : Hid (ownsR w3 w.heap.size 56 (.slice a3 n3 d3) (l)) := ho3.mono B2.size
    clear c_a0_2 O_w_2 B2 hb3 ho3
    have sz_a : w.heap.size < w3.heap.size := World.block_lt_of_cell? _ _ c_a0_3
    go_wp2_with fail
    refine (CI.out _ _ _ (O_x_3.out.alloc _) ((HP.out.below B3).below (ba (Below.refl _ _) _)) ((HT.out.below B3).below (ba (Below.refl _ _) _))).mono ?_
    rintro e w4 ⟨v4, rfl, ho4, hb4⟩
    obtain ⟨a4, n4, d4, rfl⟩ := ho4.slice3
    have ap_w_g := apart_new (O_w_3.out.alloc _) ho4
    have ap_g_w := apart_old (O_w_3.out.alloc _) ho4
    have ap_x_g := apart_new (O_x_3.out.alloc _) ho4
    have ap_g_x := apart_old (O_x_3.out.alloc _) ho4
    have ac_a_g := cell_apart (cell_up (ba (Below.refl _ w3) _) c_a0_3) ho4
    have ac_x_g := cell_apart (p := ⟨w3.heap.size, 0, none⟩) (u := .slice a3 n3 d3) (w := (w3.alloc (Obj.cells #[.slice a3 n3 d3] 30))) (by simp [go_sem]) ho4
    have c_x0_4 := cells1_new hb4
    have ac_x_w := cell_apart_new O_w_3.out
    have ac_x_x := cell_apart_new O_x_3.out
    have hb4 := below_new hb4
    have c_a0_4 := cell_up hb4 c_a0_3
    have O_w_4 : Hid (ownsR w4 w.heap.size 47 (.slice a2 n2 d2) (L)) := O_w_3.out.all hb4
    have O_x_4 : Hid (ownsR w4 w.heap.size 56 (.slice a3 n3 d3) (l)) := O_x_3.out.all hb4
    have B4 : Below w.heap.size w w4 := B3.trans (hb4.mono B3.size)
    have O_g_4 : Hid (ownsR w4 w.heap.size 47 (.slice a4 n4 d4) (L)) := ho4.mono (by have := B3.size; simp; omega)
    clear c_a0_3 sz_a O_w_3 O_x_3 B3 hb4 ho4
    go_wp2_with fail
    refine (eqActS_val (ownsR.reads O_g_4.out) (ownsR.reads O_w_4.out) HO.out).mono ?_
    rintro e w5 ⟨rfl, hb5⟩
    have c_a0_5 := cell_up hb5 c_a0_4
    have c_x0_5 := cell_up hb5 c_x0_4
    have O_w_5 : Hid (ownsR w5 w.heap.size 47 (.slice a2 n2 d2) (L)) := O_w_4.out.all hb5
    have O_x_5 : Hid (ownsR w5 w.heap.size 56 (.slice a3 n3 d3) (l)) := O_x_4.out.all hb5
    have O_g_5 : Hid (ownsR w5 w.heap.size 47 (.slice a4 n4 d4) (L)) := O_g_4.out.all hb5
    have B5 : Below w.heap.size w w5 := B4.trans (hb5.mono B4.size)
    clear c_a0_4 c_x0_4 O_w_4 O_x_4 O_g_4 B4 hb5
    have K_x0 := Below.cellOf (B := w5.heap.size) (W := w5) (p := ⟨w3.heap.size, 0, none⟩) (v := .slice a3 n3 d3) (World.block_lt_of_cell? _ _ c_x0_5) c_x0_5
    have K_a0 := Below.cellOf (B := w5.heap.size) (W := w5) (p := ⟨w.heap.size, 0, none⟩) (v := .slice ao n cap) (World.block_lt_of_cell? _ _ c_a0_5) c_a0_5
    go_wp2_with fail
    go_region_held3 (fun w' => Below w5.heap.size w5 w') ((first | exact (Below.refl _ _).drew | exact hS6 | exact hS7)) ((first | (go_at_call 6; refine (toDisk_any _ l _ (HR.out.below (Below.on B5 (by assumption))) HL.out).mono ?_; rintro e w6 ⟨v6, rfl, ho6, hb6⟩; obtain ⟨a6, n6, d6, rfl⟩ := ho6.slice3; have hS6 := keep_on (B := w5.heap.size) (W := w5) hb6 (by assumption) (Nat.le_refl _)) | (go_at_call 9; refine (eqDisk_any _ _ l _ ((ownsR.reads O_x_5.out).below hS6) ho6.reads (Nat.le_trans HL.out (by decide))).mono ?_; rintro e w7 ⟨rfl, hb7⟩; have hS7 := keep_on (B := w5.heap.size) (W := w5) hb7 hS6 (Nat.le_refl _))))
    clear ho6 hb6 hb7 hS6 K_x0 K_a0
    have c_a0_7 := cell_up hS7 c_a0_5
    have c_x0_7 := cell_up hS7 c_x0_5
    have O_w_7 : Hid (ownsR w7 w.heap.size 47 (.slice a2 n2 d2) (L)) := O_w_5.out.all hS7
    have O_x_7 : Hid (ownsR w7 w.heap.size 56 (.slice a3 n3 d3) (l)) := O_x_5.out.all hS7
    have O_g_7 : Hid (ownsR w7 w.heap.size 47 (.slice a4 n4 d4) (L)) := O_g_5.out.all hS7
    have B7 : Below w.heap.size w w7 := B5.trans (hS7.mono B5.size)
    clear c_a0_5 c_x0_5 O_w_5 O_x_5 O_g_5 B5 hS7
    go_wp2_with fail
    refine (markDisk_any (x := 1) O_x_7.out (Nat.le_trans HL.out (by decide)) (by decide) (by decide)).mono ?_
    rintro e w8 ⟨rfl, hm8, hg8⟩
    have c_a0_8 := cell_other c_a0_7 hg8 ac_a_x
    have c_x0_8 := cell_other c_x0_7 hg8 ac_x_x
    have O_w_8 : Hid (ownsR w8 w.heap.size 47 (.slice a2 n2 d2) (L)) := O_w_7.out.other hg8 ap_w_x
    have O_g_8 : Hid (ownsR w8 w.heap.size 47 (.slice a4 n4 d4) (L)) := O_g_7.out.other hg8 ap_g_x
    have B8 : Below w.heap.size w w8 := below_marked B7 O_x_7.out hg8
    have O_x_8 : Hid (ownsR w8 w.heap.size 56 (.slice a3 n3 d3) (marksF 1 l.length)) := hm8
    clear c_a0_7 c_x0_7 O_w_7 O_g_7 B7 hm8 O_x_7 hg8
    go_wp2_with fail
    refine (eqActS_val (ownsR.reads O_g_8.out) (ownsR.reads O_w_8.out) HO.out).mono ?_
    rintro e w9 ⟨rfl, hb9⟩
    have c_a0_9 := cell_up hb9 c_a0_8
    have c_x0_9 := cell_up hb9 c_x0_8
    have O_w_9 : Hid (ownsR w9 w.heap.size 47 (.slice a2 n2 d2) (L)) := O_w_8.out.all hb9
    have O_g_9 : Hid (ownsR w9 w.heap.size 47 (.slice a4 n4 d4) (L)) := O_g_8.out.all hb9
    have B9 : Below w.heap.size w w9 := B8.trans (hb9.mono B8.size)
    clear c_a0_8 c_x0_8 O_w_8 O_g_8 B8 hb9
    go_wp2_with fail
    refine (markActS_any (x := 1) O_g_9.out HO.out (by decide) (by decide)).mono ?_
    rintro e w10 ⟨rfl, hm10, hg10⟩
    have c_a0_10 := cell_other c_a0_9 hg10 ac_a_g
    have c_x0_10 := cell_other c_x0_9 hg10 ac_x_g
    have O_w_10 : Hid (ownsR w10 w.heap.size 47 (.slice a2 n2 d2) (L)) := O_w_9.out.other hg10 ap_w_g
    have B10 : Below w.heap.size w w10 := below_marked B9 O_g_9.out hg10
    have O_g_10 : Hid (ownsR w10 w.heap.size 47 (.slice a4 n4 d4) (marksAc 1 L.length)) := hm10
    clear c_a0_9 c_x0_9 O_w_9 B9 hm10 O_g_9 hg10
    go_wp2_with fail
    refine (heldActS_val (x := 1) (ownsR.reads O_g_10.out) HO.out (by decide) (by decide)).mono ?_
    rintro e w11 ⟨rfl, hb11⟩
    have c_a0_11 := cell_up hb11 c_a0_10
    have c_x0_11 := cell_up hb11 c_x0_10
    have O_w_11 : Hid (ownsR w11 w.heap.size 47 (.slice a2 n2 d2) (L)) := O_w_10.out.all hb11
    have O_g_11 : Hid (ownsR w11 w.heap.size 47 (.slice a4 n4 d4) (marksAc 1 L.length)) := O_g_10.out.all hb11
    have B11 : Below w.heap.size w w11 := B10.trans (hb11.mono B10.size)
    clear c_a0_10 c_x0_10 O_w_10 O_g_10 B10 hb11
    go_wp2_with fail
    refine (toDisk_any _ l _ (HR.out.below B11) HL.out).mono ?_
    rintro e w12 ⟨v12, rfl, ho12, hb12⟩
    obtain ⟨a12, n12, d12, rfl⟩ := ho12.slice3
    have ap_w_e := apart_new O_w_11.out ho12
    have ap_e_w := apart_old O_w_11.out ho12
    have ap_g_e := apart_new O_g_11.out ho12
    have ap_e_g := apart_old O_g_11.out ho12
    have ac_a_e := cell_apart c_a0_11 ho12
    have ac_x_e := cell_apart c_x0_11 ho12
    have c_a0_12 := cell_up hb12 c_a0_11
    have c_x0_12 := cell_up hb12 c_x0_11
    have O_w_12 : Hid (ownsR w12 w.heap.size 47 (.slice a2 n2 d2) (L)) := O_w_11.out.all hb12
    have O_g_12 : Hid (ownsR w12 w.heap.size 47 (.slice a4 n4 d4) (marksAc 1 L.length)) := O_g_11.out.all hb12
    have B12 : Below w.heap.size w w12 := B11.trans (hb12.mono B11.size)
    have O_e_12 : Hid (ownsR w12 w.heap.size 56 (.slice a12 n12 d12) (l)) := ho12.mono B11.size
    clear c_a0_11 c_x0_11 O_w_11 O_g_11 B11 hb12 ho12
    go_wp2_with fail
    refine (CI.out _ _ _ O_e_12.out (HP.out.below B12) (HT.out.below B12)).mono ?_
    rintro e w13 ⟨v13, rfl, ho13, hb13⟩
    obtain ⟨a13, n13, d13, rfl⟩ := ho13.slice3
    have ap_w_h := apart_new O_w_12.out ho13
    have ap_h_w := apart_old O_w_12.out ho13
    have ap_g_h := apart_new O_g_12.out ho13
    have ap_h_g := apart_old O_g_12.out ho13
    have ap_e_h := apart_new O_e_12.out ho13
    have ap_h_e := apart_old O_e_12.out ho13
    have ac_a_h := cell_apart c_a0_12 ho13
    have ac_x_h := cell_apart c_x0_12 ho13
    have c_a0_13 := cell_up hb13 c_a0_12
    have c_x0_13 := cell_up hb13 c_x0_12
    have O_w_13 : Hid (ownsR w13 w.heap.size 47 (.slice a2 n2 d2) (L)) := O_w_12.out.all hb13
    have O_g_13 : Hid (ownsR w13 w.heap.size 47 (.slice a4 n4 d4) (marksAc 1 L.length)) := O_g_12.out.all hb13
    have O_e_13 : Hid (ownsR w13 w.heap.size 56 (.slice a12 n12 d12) (l)) := O_e_12.out.all hb13
    have B13 : Below w.heap.size w w13 := B12.trans (hb13.mono B12.size)
    have O_h_13 : Hid (ownsR w13 w.heap.size 47 (.slice a13 n13 d13) (L)) := ho13.mono B12.size
    clear c_a0_12 c_x0_12 O_w_12 O_g_12 O_e_12 B12 hb13 ho13
    go_wp2_with fail
    refine (eqActS_val (ownsR.reads O_h_13.out) (ownsR.reads O_w_13.out) HO.out).mono ?_
    rintro e w14 ⟨rfl, hb14⟩
    have c_a0_14 := cell_up hb14 c_a0_13
    have c_x0_14 := cell_up hb14 c_x0_13
    have O_w_14 : Hid (ownsR w14 w.heap.size 47 (.slice a2 n2 d2) (L)) := O_w_13.out.all hb14
    have O_g_14 : Hid (ownsR w14 w.heap.size 47 (.slice a4 n4 d4) (marksAc 1 L.length)) := O_g_13.out.all hb14
    have O_h_14 : Hid (ownsR w14 w.heap.size 47 (.slice a13 n13 d13) (L)) := O_h_13.out.all hb14
    have B14 : Below w.heap.size w w14 := B13.trans (hb14.mono B13.size)
    clear c_a0_13 c_x0_13 O_w_13 O_g_13 O_h_13 B13 hb14
    go_wp2_with fail
    refine (heldActS_val (x := 1) (ownsR.reads O_g_14.out) HO.out (by decide) (by decide)).mono ?_
    rintro e w15 ⟨rfl, hb15⟩
    have c_a0_15 := cell_up hb15 c_a0_14
    have c_x0_15 := cell_up hb15 c_x0_14
    have O_w_15 : Hid (ownsR w15 w.heap.size 47 (.slice a2 n2 d2) (L)) := O_w_14.out.all hb15
    have O_g_15 : Hid (ownsR w15 w.heap.size 47 (.slice a4 n4 d4) (marksAc 1 L.length)) := O_g_14.out.all hb15
    have O_h_15 : Hid (ownsR w15 w.heap.size 47 (.slice a13 n13 d13) (L)) := O_h_14.out.all hb15
    have B15 : Below w.heap.size w w15 := B14.trans (hb15.mono B14.size)
    clear c_a0_14 c_x0_14 O_w_14 O_g_14 O_h_14 B14 hb15
    go_wp2
    go_ret
    exact ⟨rfl, B15⟩
end Go.Proofs.YtingfgbcinlflaaGreatDoor
