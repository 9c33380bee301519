/-
  A snapshot read from its text, as the specification reads it: the walk.
-/
import Derived.Test.YtgpojfkdcdgloaaDoorP2
namespace Go.Proofs.YtgpojfkdcdgloaaDoor
open Go Go.RowKit

theorem takeS_size {s t : ByteArray} {a a' n : Nat} {b b' : Bool} (h : takeS s a b n = (t, a', b')) : t.size ≤ s.size := by
  unfold takeS at h
  split at h
  · simp only [Prod.mk.injEq] at h
    rw [← h.1, ByteArray.size_extract]
    omega
  · simp only [Prod.mk.injEq] at h
    rw [← h.1]
    exact Nat.zero_le _
set_option maxHeartbeats 1000000 in
theorem readShortC_any (g : Nat) (s : ByteArray) (a : Nat) (b : Bool) (w : World) (hc : Cur w g s a b) (hs : s.size ≤ 1048576) (ha : a ≤ s.size) :
    Calls Tryd.prog 50 #[.pointer (some ⟨g, 0, none⟩)] w fun e w' => ∃ (n a1 : Nat) (b1 : Bool) (c : ByteArray) (a2 : Nat) (b2 : Bool), e = .returned (.string c) ∧ varS s a b = (n, a1, b1) ∧ takeS s a1 b1 n = (c, a2, b2) ∧ a2 ≤ s.size ∧ c.size ≤ s.size ∧ Cur w' g s a2 b2 ∧ Save g w w' := by
  have HC : Hid (Cur w g s a b) := hc
  clear hc
  go_enter Tryd.func50, Tryd.ntmps50
  go_wp2_with fail
  refine Calls.mono (var_any g s a b _ HC.out hs ha) ?_
  rintro e w1 ⟨n, a1, b1, rfl, hv, ha1, hn, C1, S1⟩
  have HV : Hid (varS s a b = (n, a1, b1)) := hv
  have C1 : Hid (Cur w1 g s a1 b1) := C1
  clear hv
  go_wp2_with fail
  refine Calls.mono (take_any g s a1 n b1 _ C1.out hs ha1) ?_
  rintro e w2 ⟨c, a2, b2, rfl, ht, ha2, C2, S2⟩
  have HT : Hid (takeS s a1 b1 n = (c, a2, b2)) := ht
  clear ht
  go_wp2
  go_ret
  exact ⟨n, a1, b1, c, a2, b2, rfl, HV.out, HT.out, ha2, takeS_size HT.out, C2, S1.trans S2⟩

set_option maxRecDepth 10000 in
set_option maxHeartbeats 2000000 in
theorem specReadSnap_go (s x : ByteArray) (ok : Bool) (w : World) (hin : inS s = (x, !ok))
    (HU : Hid (∀ W, Calls Tryd.prog 47 #[.string s] W fun e w' => e = .returned (.tuple #[.string x, .bool ok]) ∧ Below W.heap.size W w')) :
    Calls Tryd.prog 16 #[.string s] w (RsP s w) := by
  have HS : Hid (x.size ≤ 1048576) := by
    have := inS_size s
    rw [hin] at this
    exact Nat.le_trans this (by decide)
  have HI : Hid (inS s = (x, !ok)) := hin
  clear hin
  go_enter Tryd.func16, Tryd.ntmps16
  go_wp2_with fail
  refine Calls.mono (HU.out _) ?_
  rintro e w1 ⟨rfl, hb1⟩
  have GP := blk_on hb1
  have BB := below_new hb1
  have hwg : w.heap.size < w1.heap.size := (Array.getElem?_eq_some_iff.1 GP).1
  clear hb1
  go_wp2_with fail
  have GC : Hid (Cur ((w1.alloc (.cells #[.string x, .int .i64 0, .bool (!ok)] 67)).alloc (.cells #[.int .i64 0, .int .i64 0, .slice none 0 0, .string { data := #[] }] 30)) w1.heap.size x 0 (!ok)) := heap_old (heap_last _ _) _
  have GH : Hid (((w1.alloc (.cells #[.string x, .int .i64 0, .bool (!ok)] 67)).alloc (.cells #[.int .i64 0, .int .i64 0, .slice none 0 0, .string { data := #[] }] 30)).heap[w1.heap.size + 1]? = some (.cells #[.int .i64 0, .int .i64 0, .slice none 0 0, .string { data := #[] }] 30)) := heap_next _ _ _
  replace GP : Hid (((w1.alloc (.cells #[.string x, .int .i64 0, .bool (!ok)] 67)).alloc (.cells #[.int .i64 0, .int .i64 0, .slice none 0 0, .string { data := #[] }] 30)).heap[w.heap.size]? = some (.cells #[.int .i64 0, .int .i64 0, .slice none 0 0, .string { data := #[] }] 30)) := heap_old (heap_old GP _) _
  replace BB : Hid (Below w.heap.size w ((w1.alloc (.cells #[.string x, .int .i64 0, .bool (!ok)] 67)).alloc (.cells #[.int .i64 0, .int .i64 0, .slice none 0 0, .string { data := #[] }] 30))) := ba (ba BB _) _
  generalize w1.heap.size = g at hwg GC GH ⊢
  generalize (w1.alloc (.cells #[.string x, .int .i64 0, .bool (!ok)] 67)).alloc (.cells #[.int .i64 0, .int .i64 0, .slice none 0 0, .string { data := #[] }] 30) = W0 at GC GH GP BB ⊢
  refine Calls.mono (var_any g x 0 (!ok) _ GC.out HS.out (Nat.zero_le _)) ?_
  rintro e v1 ⟨i, a1, b1, rfl, s1, ha1, hi, R1, S1⟩
  have S_1 : Hid (varS x 0 (!ok) = (i, a1, b1)) := s1
  clear s1
  have gp1 := S1.heap (k := w.heap.size) (by omega) GP.out
  have gh1 := S1.heap (k := g + 1) (by omega) GH.out
  have hb1 := Save.under (B := w.heap.size) BB.out S1 (by omega) BB.out.size
  clear GP GH BB GC S1
  obtain ⟨c0, c1, c2, c3⟩ := sb_cells gh1
  have f1 := sb_frozen gh1
  have GH := sb_set0 gh1 (.int .i64 (i : Int))
  have GP := heap_far gp1 (p := ⟨g + 1, 0, none⟩) (by show g + 1 ≠ w.heap.size; omega) (.int .i64 (i : Int))
  have GC := heap_far R1 (p := ⟨g + 1, 0, none⟩) (by show g + 1 ≠ g; omega) (.int .i64 (i : Int))
  have BB := hb1.setCell (p := ⟨g + 1, 0, none⟩) (by show w.heap.size ≤ g + 1; omega) (.int .i64 (i : Int))
  go_wp2_with fail
  generalize v1.setCell ⟨g + 1, 0, none⟩ (.int .i64 (i : Int)) = W1 at GP GH GC BB ⊢
  have GP : Hid (W1.heap[w.heap.size]? = some (.cells #[.int .i64 0, .int .i64 0, .slice none 0 0, .string { data := #[] }] 30)) := GP
  have GH : Hid (W1.heap[g + 1]? = some (.cells #[.int .i64 (i : Int), .int .i64 0, .slice none 0 0, .string { data := #[] }] 30)) := GH
  have GC : Hid (Cur W1 g x a1 b1) := GC
  have BB : Hid (Below w.heap.size w W1) := BB
  clear c0 c1 c2 c3 f1 gp1 gh1 hb1 R1
  refine Calls.mono (var_any g x a1 b1 _ GC.out HS.out ha1) ?_
  rintro e v2 ⟨t, a2, b2, rfl, s2, ha2, hti, R2, S2⟩
  have S_2 : Hid (varS x a1 b1 = (t, a2, b2)) := s2
  clear s2
  have gp2 := S2.heap (k := w.heap.size) (by omega) GP.out
  have gh2 := S2.heap (k := g + 1) (by omega) GH.out
  have hb2 := Save.under (B := w.heap.size) BB.out S2 (by omega) BB.out.size
  clear GP GH BB GC S2
  obtain ⟨c0, c1, c2, c3⟩ := sb_cells gh2
  have f1 := sb_frozen gh2
  have GH := sb_set1 gh2 (.int .i64 (t : Int))
  have GP := heap_far gp2 (p := ⟨g + 1, 1, none⟩) (by show g + 1 ≠ w.heap.size; omega) (.int .i64 (t : Int))
  have GC := heap_far R2 (p := ⟨g + 1, 1, none⟩) (by show g + 1 ≠ g; omega) (.int .i64 (t : Int))
  have BB := hb2.setCell (p := ⟨g + 1, 1, none⟩) (by show w.heap.size ≤ g + 1; omega) (.int .i64 (t : Int))
  go_wp2_with fail
  generalize v2.setCell ⟨g + 1, 1, none⟩ (.int .i64 (t : Int)) = W2 at GP GH GC BB ⊢
  have GP : Hid (W2.heap[w.heap.size]? = some (.cells #[.int .i64 0, .int .i64 0, .slice none 0 0, .string { data := #[] }] 30)) := GP
  have GH : Hid (W2.heap[g + 1]? = some (.cells #[.int .i64 (i : Int), .int .i64 (t : Int), .slice none 0 0, .string { data := #[] }] 30)) := GH
  have GC : Hid (Cur W2 g x a2 b2) := GC
  have BB : Hid (Below w.heap.size w W2) := BB
  clear c0 c1 c2 c3 f1 gp2 gh2 hb2 R2
  refine Calls.mono (readShortC_any g x a2 b2 _ GC.out HS.out ha2) ?_
  rintro e v3 ⟨n, a3, b3, c, a4, b4, rfl, s3, s4, ha4, hc, R3, S3⟩
  have S_3 : Hid (varS x a2 b2 = (n, a3, b3)) := s3
  have S_4 : Hid (takeS x a3 b3 n = (c, a4, b4)) := s4
  clear s3 s4
  have gp3 := S3.heap (k := w.heap.size) (by omega) GP.out
  have gh3 := S3.heap (k := g + 1) (by omega) GH.out
  have hb3 := Save.under (B := w.heap.size) BB.out S3 (by omega) BB.out.size
  clear GP GH BB GC S3
  go_wp2_with fail
  have hle3 := hb3.size
  have hgl3 := (Array.getElem?_eq_some_iff.1 gh3).1
  have hRC := specReadConf_any c v3 (Nat.le_trans hc (Nat.le_trans HS.out (by decide)))
  refine Calls.mono hRC ?_
  clear hRC
  rintro e u3 ⟨x3, rfl, O3, hu3⟩
  obtain ⟨oa, on, oc, rfl⟩ := O3.slice3
  replace gp3 := blk_up gp3 hu3
  replace gh3 := blk_up gh3 hu3
  replace R3 := R3.up hu3
  replace hb3 := Below.on hb3 hu3
  obtain ⟨bb, hbb⟩ : ∃ bb, v3.heap.size = bb := ⟨_, rfl⟩
  rw [hbb] at O3 hgl3
  clear hbb hu3 hle3
  have hgb : g < bb := by omega
  obtain ⟨c0, c1, c2, c3⟩ := sb_cells gh3
  have f1 := sb_frozen gh3
  have GH := sb_set2 gh3 (.slice oa on oc)
  have GP := heap_far gp3 (p := ⟨g + 1, 2, none⟩) (by show g + 1 ≠ w.heap.size; omega) (.slice oa on oc)
  have GC := heap_far R3 (p := ⟨g + 1, 2, none⟩) (by show g + 1 ≠ g; omega) (.slice oa on oc)
  have BB := hb3.setCell (p := ⟨g + 1, 2, none⟩) (by show w.heap.size ≤ g + 1; omega) (.slice oa on oc)
  have OO : Hid (ownsR (u3.setCell ⟨g + 1, 2, none⟩ (.slice oa on oc)) bb 3 (.slice oa on oc) (confT c)) := ownsR.setBelow O3 (by show g + 1 < bb; omega) _
  go_wp2_with fail
  generalize u3.setCell ⟨g + 1, 2, none⟩ (.slice oa on oc) = W3 at GP GH GC BB OO ⊢
  have GP : Hid (W3.heap[w.heap.size]? = some (.cells #[.int .i64 0, .int .i64 0, .slice none 0 0, .string { data := #[] }] 30)) := GP
  have GH : Hid (W3.heap[g + 1]? = some (.cells #[.int .i64 (i : Int), .int .i64 (t : Int), .slice oa on oc, .string { data := #[] }] 30)) := GH
  have GC : Hid (Cur W3 g x a4 b4) := GC
  have BB : Hid (Below w.heap.size w W3) := BB
  clear c0 c1 c2 c3 f1 gp3 gh3 hb3 R3 O3
  refine Calls.mono (readShortC_any g x a4 b4 _ GC.out HS.out ha4) ?_
  rintro e v4 ⟨m, a5, b5, d, a6, b6, rfl, s5, s6, ha6, hd, R4, S4⟩
  have S_5 : Hid (varS x a4 b4 = (m, a5, b5)) := s5
  have S_6 : Hid (takeS x a5 b5 m = (d, a6, b6)) := s6
  clear s5 s6
  have gp4 := S4.heap (k := w.heap.size) (by omega) GP.out
  have gh4 := S4.heap (k := g + 1) (by omega) GH.out
  have hb4 := Save.under (B := w.heap.size) BB.out S4 (by omega) BB.out.size
  have O4 := ownsR.saveB OO.out S4 hgb
  clear GP GH BB GC S4 OO
  obtain ⟨c0, c1, c2, c3⟩ := sb_cells gh4
  have f1 := sb_frozen gh4
  have GH := sb_set3 gh4 (.string d)
  have GP := heap_far gp4 (p := ⟨g + 1, 3, none⟩) (by show g + 1 ≠ w.heap.size; omega) (.string d)
  have GC := heap_far R4 (p := ⟨g + 1, 3, none⟩) (by show g + 1 ≠ g; omega) (.string d)
  have BB := hb4.setCell (p := ⟨g + 1, 3, none⟩) (by show w.heap.size ≤ g + 1; omega) (.string d)
  have OO : Hid (ownsR (v4.setCell ⟨g + 1, 3, none⟩ (.string d)) bb 3 (.slice oa on oc) (confT c)) := ownsR.setBelow O4 (by show g + 1 < bb; omega) _
  obtain ⟨C0, C1, C2, C3⟩ := sb_cells GH
  go_wp2_with fail
  clear C0 C1 C2 C3
  generalize v4.setCell ⟨g + 1, 3, none⟩ (.string d) = W4 at GP GH GC BB OO ⊢
  have GP : Hid (W4.heap[w.heap.size]? = some (.cells #[.int .i64 0, .int .i64 0, .slice none 0 0, .string { data := #[] }] 30)) := GP
  have GH : Hid (W4.heap[g + 1]? = some (.cells #[.int .i64 (i : Int), .int .i64 (t : Int), .slice oa on oc, .string d] 30)) := GH
  have GC : Hid (Cur W4 g x a6 b6) := GC
  have BB : Hid (Below w.heap.size w W4) := BB
  clear c0 c1 c2 c3 f1 gp4 gh4 hb4 R4 O4
  have HRS : Hid (rsP s = rsF s i t c d b6) := rsP_steps (by rw [HI.out]; exact ⟨S_1.out, S_2.out, S_3.out, S_4.out, S_5.out, S_6.out⟩)
  clear S_1 S_2 S_3 S_4 S_5 S_6 ha1 ha2 ha4 ha6
  refine Calls.mono (specSnapText_any OO.out.reads (Nat.le_trans (confT_len c) (by decide)) (Nat.le_trans hd HS.out)) ?_
  rintro e w6 ⟨rfl, hb6⟩
  obtain ⟨q, HQ⟩ : ∃ q, Hid (okS (i : Int) (t : Int) (confT c) d = q) := ⟨_, rfl⟩
  obtain ⟨tx, HX⟩ : ∃ q, Hid (textS (i : Int) (t : Int) (confT c) d = q) := ⟨_, rfl⟩
  have HV : Hid (textSV (i : Int) (t : Int) (confT c) d = .tuple #[.string tx, .bool q]) := by show textSV _ _ _ _ = _; rw [textSV, HQ.out, HX.out]
  rw [HV.out]
  have G6 := blk_up GP.out hb6
  have H6 := blk_up GH.out hb6
  have C6 := GC.out.up hb6
  have O6 : Hid (ownsR w6 bb 3 (.slice oa on oc) (confT c)) := OO.out.all hb6
  have B6 := Below.on BB.out hb6
  clear GP GH GC OO BB hb6 HV
  obtain ⟨c0, c1, c2, cf⟩ := cur_cells C6
  obtain ⟨p0, p1, p2, p3⟩ := sb_cells G6
  have pf := sb_frozen G6
  obtain ⟨h0, h1, h2, h3⟩ := sb_cells H6
  have zend : ∀ (HZ : rsP s = zeroS), RsP s w (.returned (.tuple #[.agg #[.int .i64 0, .int .i64 0, .slice none 0 0, .string { data := #[] }], .bool false])) ((((w6.setCell ⟨w.heap.size, 0, none⟩ (.int .i64 0)).setCell ⟨w.heap.size, 1, none⟩ (.int .i64 0)).setCell ⟨w.heap.size, 2, none⟩ (.slice none 0 0)).setCell ⟨w.heap.size, 3, none⟩ (.string { data := #[] })) := fun HZ => by
    refine ⟨.slice none 0 0, by rw [HZ]; rfl, by rw [HZ]; exact ownsR_nil _ _ _, ?_⟩
    exact (((B6.setCell (p := ⟨w.heap.size, 0, none⟩) (Nat.le_refl _) _).setCell (p := ⟨w.heap.size, 1, none⟩) (Nat.le_refl _) _).setCell (p := ⟨w.heap.size, 2, none⟩) (Nat.le_refl _) _).setCell (p := ⟨w.heap.size, 3, none⟩) (Nat.le_refl _) _
  have ZEND : Hid (∀ (HZ : rsP s = zeroS), RsP s w (.returned (.tuple #[.agg #[.int .i64 0, .int .i64 0, .slice none 0 0, .string { data := #[] }], .bool false])) ((((w6.setCell ⟨w.heap.size, 0, none⟩ (.int .i64 0)).setCell ⟨w.heap.size, 1, none⟩ (.int .i64 0)).setCell ⟨w.heap.size, 2, none⟩ (.slice none 0 0)).setCell ⟨w.heap.size, 3, none⟩ (.string { data := #[] }))) := zend
  clear zend
  have FZ := sb_set3 (sb_set2 (sb_set1 (sb_set0 G6 (.int .i64 0)) (.int .i64 0)) (.slice none 0 0)) (.string { data := #[] })
  have FZ : Hid (((((w6.setCell ⟨w.heap.size, 0, none⟩ (.int .i64 0)).setCell ⟨w.heap.size, 1, none⟩ (.int .i64 0)).setCell ⟨w.heap.size, 2, none⟩ (.slice none 0 0)).setCell ⟨w.heap.size, 3, none⟩ (.string { data := #[] })).heap[w.heap.size]? = some (.cells #[.int .i64 0, .int .i64 0, .slice none 0 0, .string { data := #[] }] 30)) := FZ
  cases b6 with
  | true =>
    have HZ : Hid (rsP s = zeroS) := HRS.out.trans rsF_bad
    go_wp2
    exact bodyPost_ret (ret_snap2 rfl rfl rfl FZ.out) rfl (ZEND.out HZ.out)
  | false =>
    cases q with
    | false =>
      have HZ : Hid (rsP s = zeroS) := HRS.out.trans (rsF_none HQ.out)
      go_wp2
      exact bodyPost_ret (ret_snap2 rfl rfl rfl FZ.out) rfl (ZEND.out HZ.out)
    | true =>
      by_cases htx : tx = s
      · have HZ : Hid (rsP s = ⟨i, t, confT c, d, true⟩) := by
          show rsP s = _
          rw [HRS.out, rsF, if_pos ⟨rfl, HQ.out, HX.out.trans htx⟩]
        have HE := eq_list htx
        clear htx HX
        go_wp2
        have F1 := sb_set3 (sb_set2 (sb_set1 (sb_set0 G6 (.int .i64 (i : Int))) (.int .i64 (t : Int))) (.slice oa on oc)) (.string d)
        have hlt : w.heap.size < bb := by omega
        have FO := (((O6.out.setBelow (a := ⟨w.heap.size, 0, none⟩) hlt (.int .i64 (i : Int))).setBelow (a := ⟨w.heap.size, 1, none⟩) hlt (.int .i64 (t : Int))).setBelow (a := ⟨w.heap.size, 2, none⟩) hlt (.slice oa on oc)).setBelow (a := ⟨w.heap.size, 3, none⟩) hlt (.string d)
        have FB := (((B6.setCell (p := ⟨w.heap.size, 0, none⟩) (Nat.le_refl _) (.int .i64 (i : Int))).setCell (p := ⟨w.heap.size, 1, none⟩) (Nat.le_refl _) (.int .i64 (t : Int))).setCell (p := ⟨w.heap.size, 2, none⟩) (Nat.le_refl _) (.slice oa on oc)).setCell (p := ⟨w.heap.size, 3, none⟩) (Nat.le_refl _) (.string d)
        exact bodyPost_ret (ret_snap2 rfl rfl rfl F1) rfl ⟨_, by rw [HZ.out]; rfl, by rw [HZ.out]; exact FO.mono (by omega), FB⟩
      · have HZ : Hid (rsP s = zeroS) := by
          show rsP s = _
          rw [HRS.out, rsF, if_neg (fun h => htx (HX.out.symm.trans h.2.2))]
        have HE := ne_list htx
        clear htx HX
        go_wp2
        exact bodyPost_ret (ret_snap2 rfl rfl rfl FZ.out) rfl (ZEND.out HZ.out)

/-- The specification's ReadSnap. -/
theorem specReadSnap_any (s : ByteArray) (w : World) (hs : s.size ≤ 1048576) : Calls Tryd.prog 16 #[.string s] w (RsP s w) := by
  by_cases hu : 4 ≤ s.size ∧ s.size ≤ 20004 ∧ lastT s = tail4 (headT s)
  · exact specReadSnap_go s (headT s) true w (inS_yes hu.1 hu.2.1 hu.2.2) (fun W => specUnsealed_yes s W hu.1 hu.2.1 hu.2.2)
  · refine specReadSnap_go s ByteArray.empty false w (inS_no hu) (fun W => ?_)
    by_cases h0 : s.size < 4
    · exact specUnsealed_short s W h0
    · by_cases h1 : 20004 < s.size
      · exact specUnsealed_long s W (by omega) h1
      · exact specUnsealed_no s W (by omega) (by omega) (fun e => hu ⟨by omega, by omega, e⟩)
end Go.Proofs.YtgpojfkdcdgloaaDoor
