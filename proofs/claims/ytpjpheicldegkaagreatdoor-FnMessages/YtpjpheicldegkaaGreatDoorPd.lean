/- Pd -/
import Derived.Test.YtpjpheicldegkaaGreatDoorGM16
namespace Go.Proofs.YtpjpheicldegkaaGreatDoor
open Go Go.RowKit

section
variable {W : World} {b : Nat} {nm cr : ByteArray} {fr up : Int} {cu : Bool} {tv : Value}
theorem ret_d2 {fn : Func} {p u : Tmp} {x : Value} {tmps : Array Value} (h : fn.results = #[.cell p 163, .tmp u]) (hp : tmps.getD p undef = .pointer (some ⟨b, 0, none⟩)) (hu : tmps.getD u undef = x) (hb : D6 W b nm cr fr up cu tv) :
    (results fn tmps).run Tryz.prog W = .ok (.tuple #[.agg #[.string nm, .string cr, .int .i64 fr, .int .i64 up, .bool cu, tv], x]) W := by
  have hp' : tmps[p]?.getD undef = .pointer (some ⟨b, 0, none⟩) := by simpa using hp
  have hu' : tmps[u]?.getD undef = x := by simpa using hu
  simp [results, h, hp', hu', hb.c0, hb.c1, hb.c2, hb.c3, hb.c4, hb.c5, asAddr, go_sem]
theorem d6_new (w : World) (nm cr : ByteArray) (fr up : Int) (cu : Bool) (tv : Value) : D6 (w.alloc (.cells #[.string nm, .string cr, .int .i64 fr, .int .i64 up, .bool cu, tv] 163)) w.heap.size nm cr fr up cu tv := by
  show (w.heap.push _)[w.heap.size]? = _; simp
abbrev set6 (W : World) (b : Nat) (u0 u1 : ByteArray) (u2 u3 : Int) (u4 : Bool) (u5 : Value) : World := (((((W.setCell ⟨b, 0, none⟩ (.string u0)).setCell ⟨b, 1, none⟩ (.string u1)).setCell ⟨b, 2, none⟩ (.int .i64 u2)).setCell ⟨b, 3, none⟩ (.int .i64 u3)).setCell ⟨b, 4, none⟩ (.bool u4)).setCell ⟨b, 5, none⟩ u5
theorem D6.set (h : D6 W b nm cr fr up cu tv) (u0 u1 : ByteArray) (u2 u3 : Int) (u4 : Bool) (u5 : Value) : D6 (set6 W b u0 u1 u2 u3 u4 u5) b u0 u1 u2 u3 u4 u5 := (((((h.s0 u0).s1 u1).s2 u2).s3 u3).s4 u4).s5 u5
theorem below_set6 {B : Nat} {V : World} (h : Below B V W) (hb : B ≤ b) (u0 u1 : ByteArray) (u2 u3 : Int) (u4 : Bool) (u5 : Value) : Below B V (set6 W b u0 u1 u2 u3 u4 u5) :=
  Below.setCell (Below.setCell (Below.setCell (Below.setCell (Below.setCell (Below.setCell h hb _) hb _) hb _) hb _) hb _) hb _
end
theorem far6 {W : World} {b k : Nat} {u0 u1 : ByteArray} {u2 u3 : Int} {u4 : Bool} {u5 : Value} (hk : k ≠ b) : (set6 W b u0 u1 u2 u3 u4 u5).heap[k]? = W.heap[k]? := by
  unfold set6
  rw [heap_setCell_other _ _ k _ hk, heap_setCell_other _ _ k _ hk, heap_setCell_other _ _ k _ hk, heap_setCell_other _ _ k _ hk, heap_setCell_other _ _ k _ hk, heap_setCell_other _ _ k _ hk]
theorem first_at {y : ByteArray} (h : 0 < y.size) : skipB [y] = (y[0].toNat == 35) := by
  show ((y.data.toList.getD 0 0).toNat == 35) = _
  rw [first_is h]
theorem skip_first (y : ByteArray) (r : List ByteArray) : skipB (y :: r) = skipB [y] := rfl

set_option maxRecDepth 10000 in
set_option maxHeartbeats 8000000 in
theorem parseDag_any (s : ByteArray) (w : World) (hs : s.size ≤ 1048576) : Calls Tryz.prog 104 #[.string s] w (PdP s w) := by
  by_cases hl : 800 < s.size
  · have HO : Hid (dagO s = (zeroD, -1)) := by show _ = _; unfold dagO; rw [if_pos hl]
    go_enter Tryz.func104, Tryz.ntmps104
    go_wp2
    refine bodyPost_ret (ret_d2 rfl rfl rfl (d6_new w ⟨#[]⟩ ⟨#[]⟩ 0 0 false (.slice none 0 0))) rfl ?_
    exact pd_no HO.out (ba (Below.refl _ _) _)
  have hl8 : s.size ≤ 800 := by omega
  obtain ⟨ls, HLS⟩ : ∃ l, Hid (qxc s = l) := ⟨_, rfl⟩
  have hll : ls.length ≤ 801 := by rw [← HLS.out]; have := lines_len s; omega
  have HSZ : Hid (∀ t ∈ ls, t.size ≤ 800) := by intro t ht; rw [← HLS.out] at ht; have := lines_sz s t ht; omega
  have HL : Hid (∀ W, Calls Tryz.prog 110 #[.string s] W fun e w' => ∃ lo lc, e = .returned (.slice lo ls.length lc) ∧ Reads w' (.slice lo ls.length lc) ls ∧ Below W.heap.size W w') := by
    intro W
    refine (l12Lines_any s W hs).mono ?_
    rintro e w' ⟨v, rfl, ho, hb⟩
    rw [HLS.out] at ho
    have hr := qpd ho
    obtain ⟨lo, lc, rfl, -⟩ := id hr
    exact ⟨lo, lc, rfl, hr, hb⟩
  go_enter Tryz.func104, Tryz.ntmps104
  go_wp2_with fail
  refine (HL.out _).mono ?_
  rintro e w1 ⟨lo, lc, rfl, hr, hb1⟩
  have B1 : Below w.heap.size w w1 := qma hb1
  have DR : Hid (D6 w1 w.heap.size ⟨#[]⟩ ⟨#[]⟩ 0 0 false (.slice none 0 0)) := (d6_new w ⟨#[]⟩ ⟨#[]⟩ 0 0 false (.slice none 0 0)).on hb1 (by simp)
  have hz : w.heap.size < w1.heap.size := DR.out.lt
  have HR : Hid (Reads w1 (.slice lo ls.length lc) ls) := hr
  clear hr hb1 HL
  go_wp2
  go_loopw [6, 7] (fun av iv wr => ∃ (k a : Nat) (d : Dg), k ≤ ls.length ∧ av = .int .i64 a ∧ iv = .int .i64 k ∧ a ≤ k ∧ (a ≤ 5 → d.tasks = []) ∧ Hid (Gd d) ∧ Hid (Fu d) ∧ Hid (∃ tv, Dv wr w1.heap.size d tv ∧ Tasks wr tv d.tasks) ∧ Hid (dagGo ls 0 0 zeroD = dagGo (ls.drop k) k a d) ∧ Below w1.heap.size w1 wr) (fun _ iv _ => ls.length - (intOf iv).toNat)
  case atStart => exact ⟨0, 0, zeroD, Nat.zero_le _, rfl, rfl, Nat.le_refl _, fun _ => rfl, gd_zero, (fun _ h => nomatch h), ⟨_, d6_new w1 ⟨#[]⟩ ⟨#[]⟩ 0 0 false (.slice none 0 0), tasks_zero _ _ _⟩, (by show _ = _; rw [List.drop_zero]), ba (Below.refl _ _) _⟩
  case round =>
    obtain ⟨k, a, d, hk, rfl, rfl, hak, h5, HG, HFU, HDT, HE, hb⟩ := hrel
    by_cases hkn : k < ls.length
    · obtain ⟨x, hx⟩ : ∃ x, ls[k]? = some x := ⟨_, List.getElem?_eq_getElem hkn⟩
      have hxs := HSZ.out x (List.mem_of_getElem? hx)
      obtain ⟨lb, lp, rfl, hlt, cx⟩ := qka (HR.out.below hb) hx
      have HST := dagGo_at (i := k) (a := a) (d := d) hx
      have HPS : Hid (∀ W, Calls Tryz.prog 111 #[.string x] W (qqc x W)) := fun W => specParts_any x W (by omega)
      clear hx
      go_wp2_with fail
      refine (HPS.out _).mono ?_
      rintro e w2 ⟨pv, rfl, hop, hb2⟩
      have hb12 : Below w1.heap.size w1 w2 := hb.trans (hb2.mono hb.size)
      have BW2 : Below w.heap.size w w2 := Below.on B1 hb12
      have DR2 := DR.out.on hb12 hz
      have cx2 := (hb2.cell hlt).trans cx
      obtain ⟨hA, hA10⟩ := parts_all x
      have HDT2 : Hid (∃ tv, Dv w2 w1.heap.size d tv ∧ Tasks w2 tv d.tasks) := by
        obtain ⟨tv, h1, h2⟩ := HDT.out
        exact ⟨tv, h1.on hb2 h1.lt, h2.below hb2⟩
      have hgw : w1.heap.size < wr.heap.size := by obtain ⟨tv, h1, _⟩ := HDT.out; exact h1.lt
      clear HPS HDT
      cases hok : (qfb x).2 with
      | false =>
        rw [hok, if_neg (by decide)] at HST
        have HE2 : Hid (dagGo ls 0 0 zeroD = .error (k + 1)) := HE.out.trans HST
        have hrp := qpd hop
        obtain ⟨po, pc, rfl, -⟩ := id hrp
        generalize (texts (qfb x).1).length = np at *
        clear HST hok hop hrp hA hA10 HE HDT2
        clear DR2
        have HO : Hid (dagO s = (zeroD, (k : Int) + 1)) := by
          show _ = _
          unfold dagO
          rw [if_neg hl, HLS.out, HE2.out]
          rfl
        have DX := DR.out.on hb12 hz
        have BX : Below w.heap.size w w2 := Below.on B1 hb12
        have hgz : w.heap.size < w2.heap.size := DX.lt
        have r0 := DX.c0
        have r1 := DX.c1
        have r2 := DX.c2
        have r3 := DX.c3
        have r4 := DX.c4
        have r5 := DX.c5
        have rf0 := DX.fz 0
        have rf1 := DX.fz 1
        have rf2 := DX.fz 2
        have rf3 := DX.fz 3
        have rf4 := DX.fz 4
        have rf5 := DX.fz 5
        have HS6 : Hid (D6 (set6 w2 w.heap.size ⟨#[]⟩ ⟨#[]⟩ 0 0 false (.slice none 0 0)) w.heap.size ⟨#[]⟩ ⟨#[]⟩ 0 0 false (.slice none 0 0)) := DX.set ⟨#[]⟩ ⟨#[]⟩ 0 0 false (.slice none 0 0)
        clear DX
        go_wp2
        refine bodyPost_ret (ret_d2 rfl rfl rfl HS6.out) rfl ?_
        exact pd_no HO.out (below_set6 BX (Nat.le_refl _) ⟨#[]⟩ ⟨#[]⟩ 0 0 false (.slice none 0 0))
      | true =>
        rw [hok, if_pos rfl] at HST
        cases hp : texts (qfb x).1 with
        | nil =>
          rw [hp] at HST hop
          have HE2 : Hid (dagGo ls 0 0 zeroD = dagGo (ls.drop (k + 1)) (k + 1) a d) := HE.out.trans HST
          obtain ⟨po, pc, rfl⟩ := ownsS_empty hop
          clear HST hok hop hA hA10 HE hp
          go_wp2
          go_roundw
          case rel => exact ⟨k + 1, a, d, by omega, rfl, by go_num, by omega, h5, HG, HFU, HDT2, HE2, hb12⟩
          case measure => simp [intOf]; omega
        | cons y r =>
          rw [hp] at HST hop hA hA10
          obtain ⟨pb, pc, rfl, hpB, -⟩ := ownsS_form hop (by simp)
          have hrp := qpd hop
          obtain ⟨pb', pp', hq, hplt, c0⟩ := qka hrp (k := 0) rfl
          simp only [Option.some.injEq, Addr.mk.injEq, and_true] at hq
          obtain ⟨e1, e2⟩ := hq
          subst e1 e2
          rw [Nat.add_zero] at c0
          have hy0 := (hA y (by simp)).2
          have HRP : Hid (Reads w2 (.slice (some ⟨pb, 0, none⟩) (y :: r).length pc) (y :: r)) := hrp
          have HA : Hid (∀ t ∈ y :: r, t.size ≤ 600) := fun t ht => (hA t ht).1
          have HPG : Hid (∀ b o n c, Value.slice (some ⟨pb, 0, none⟩) (y :: r).length pc = .slice (some ⟨b, o, none⟩) n c → b ≠ w1.heap.size) := by
            rintro b o n c e
            simp only [Value.slice.injEq, Option.some.injEq, Addr.mk.injEq] at e
            omega
          rw [skip_first, first_at hy0] at HST
          have HNP : Hid ((y :: r).length ≤ 10) := hA10
          obtain ⟨np, HN⟩ : ∃ n, Hid ((y :: r).length = n) := ⟨_, rfl⟩
          have hn0 : ((np : Int) == 0) = false := beq_eq_false_iff_ne.2 (by rw [← HN.out]; simp; omega)
          have hn1 : 0 < np := by rw [← HN.out]; simp
          clear hop hrp hA hA10 hp hok
          cases hc : (y[0].toNat == 35) with
          | true =>
            rw [hc, if_pos rfl] at HST
            have HE2 : Hid (dagGo ls 0 0 zeroD = dagGo (ls.drop (k + 1)) (k + 1) a d) := HE.out.trans HST
            rw [HN.out] at HRP HPG ⊢
            have hc2 : y[0].toNat = 35 := by simpa using hc
            have hc3 : ((y[0].toNat : Int) == 35) = true := by rw [hc2]; rfl
            clear HST HE
            go_wp2
            go_roundw
            case rel => exact ⟨k + 1, a, d, by omega, rfl, by go_num, by omega, h5, HG, HFU, HDT2, HE2, hb12⟩
            case measure => simp [intOf]; omega
          | false =>
            rw [hc, if_neg (by decide)] at HST
            have hc2 : ¬ y[0].toNat = 35 := by simpa using hc
            have hc3 : ((y[0].toNat : Int) == 35) = false := beq_eq_false_iff_ne.2 (by omega)
            by_cases ha : a < 5
            · have ha1 : decide ((a : Int) < 5) = true := decide_eq_true (by omega)
              have ha2 : decide (5 ≤ (a : Int)) = false := decide_eq_false (by omega)
              have ha3 : (a : Int) < 5 := by omega
              have e9 : stepO a d (y :: r) = headO a d (y :: r) := if_pos ha
              rw [e9] at HST
              obtain ⟨tv, hD, hT⟩ := HDT2.out
              have HH : Hid (Calls Tryz.prog 112 #[.pointer (some ⟨w1.heap.size, 0, none⟩), .int .i64 (a : Int), .string x, .slice (some ⟨pb, 0, none⟩) np pc] w2 (HeadE w1.heap.size tv w2 (headO a d (y :: r)))) := by
                have := head_any w1.heap.size _ tv x d (y :: r) w2 HRP.out hD (by simp) HNP.out HA.out HPG.out a ha
                rw [HN.out] at this
                exact this
              rw [HN.out] at ⊢
              have hT0 : d.tasks = [] := h5 (by omega)
              cases hq : headO a d (y :: r) with
              | some d' =>
                rw [hq] at HST HH
                obtain ⟨hg', ht'⟩ := headO_good hq HG.out HA.out
                have HG2 : Hid (Gd d') := hg'
                have HT2 : Hid (d'.tasks = []) := ht'.trans hT0
                have HE2 : Hid (dagGo ls 0 0 zeroD = dagGo (ls.drop (k + 1)) (k + 1) (a + 1) d') := HE.out.trans HST
                have HTS : Hid (Tasks w2 tv []) := by rw [hT0] at hT; exact hT
                clear HST hq e9 hD hT HE HG hT0 h5 hg' ht' HDT2 DR2
                go_wp2_with (go_at_call 112; refine HH.out.mono ?_; rintro e w3 ⟨rfl, hD3, hS3⟩)
                have hb13 : Below w1.heap.size w1 w3 := hb12.trans (hS3.below (Nat.le_refl _) hb12.size)
                go_roundw
                case rel => exact ⟨k + 1, a + 1, d', by omega, by go_num, by go_num, by omega, fun _ => HT2.out, HG2, (fun t ht => by rw [HT2.out] at ht; cases ht), ⟨tv, hD3, by rw [HT2.out]; obtain ⟨qo, qc, rfl⟩ := HTS.out.slice; exact tasks_zero _ _ _⟩, HE2, hb13⟩
                case measure => simp [intOf]; omega
              | none =>
                rw [hq] at HST HH
                have HE2 : Hid (dagGo ls 0 0 zeroD = .error (k + 1)) := HE.out.trans HST
                clear HST hq e9 hD hT HE HG h5 HDT2 DR2
                go_wp2_with fail
                refine HH.out.mono ?_
                rintro e w3 ⟨rfl, hS3⟩
                have hb13 : Below w1.heap.size w1 w3 := hb12.trans (hS3.below (Nat.le_refl _) hb12.size)
                have HO : Hid (dagO s = (zeroD, (k : Int) + 1)) := by
                  show _ = _
                  unfold dagO
                  rw [if_neg hl, HLS.out, HE2.out]
                  rfl
                have DX := DR.out.on hb13 hz
                have BX : Below w.heap.size w w3 := Below.on B1 hb13
                have hgz : w.heap.size < w3.heap.size := DX.lt
                have r0 := DX.c0
                have r1 := DX.c1
                have r2 := DX.c2
                have r3 := DX.c3
                have r4 := DX.c4
                have r5 := DX.c5
                have rf0 := DX.fz 0
                have rf1 := DX.fz 1
                have rf2 := DX.fz 2
                have rf3 := DX.fz 3
                have rf4 := DX.fz 4
                have rf5 := DX.fz 5
                have HS6 : Hid (D6 (set6 w3 w.heap.size ⟨#[]⟩ ⟨#[]⟩ 0 0 false (.slice none 0 0)) w.heap.size ⟨#[]⟩ ⟨#[]⟩ 0 0 false (.slice none 0 0)) := DX.set ⟨#[]⟩ ⟨#[]⟩ 0 0 false (.slice none 0 0)
                clear DX
                go_wp2
                refine bodyPost_ret (ret_d2 rfl rfl rfl HS6.out) rfl ?_
                exact pd_no HO.out (below_set6 BX (Nat.le_refl _) ⟨#[]⟩ ⟨#[]⟩ 0 0 false (.slice none 0 0))
            · have ha1 : decide ((a : Int) < 5) = false := decide_eq_false (by omega)
              have ha2 : decide (5 ≤ (a : Int)) = true := decide_eq_true (by omega)
              have ha3 : ¬ (a : Int) < 5 := by omega
              have e9 : stepO a d (y :: r) = lineO d (y :: r) := if_neg ha
              rw [e9] at HST
              obtain ⟨tv, hD, hT⟩ := HDT2.out
              have HH : Hid (Calls Tryz.prog 113 #[.pointer (some ⟨w1.heap.size, 0, none⟩), .slice (some ⟨pb, 0, none⟩) np pc] w2 (LineE w1.heap.size w2 (lineO d (y :: r)))) := by
                have := line_any w1.heap.size _ tv d (y :: r) w2 HRP.out hD hT (by have := HG.out.few; omega) HA.out
                rw [HN.out] at this
                exact this
              rw [HN.out] at ⊢
              cases hq : lineO d (y :: r) with
              | some d' =>
                rw [hq] at HST HH
                have HG2 : Hid (Gd d') := lineO_good hq HG.out HA.out
                have HFU2 : Hid (Fu d') := lineO_full hq HFU.out
                have HE2 : Hid (dagGo ls 0 0 zeroD = dagGo (ls.drop (k + 1)) (k + 1) (a + 1) d') := HE.out.trans HST
                clear HST hq e9 hD hT HE HG h5 HDT2 DR2
                go_wp2_with (go_at_call 113; refine HH.out.mono ?_; rintro e w3 ⟨rfl, hD3, hS3⟩)
                have hb13 : Below w1.heap.size w1 w3 := hb12.trans (hS3.below (Nat.le_refl _) hb12.size)
                go_roundw
                case rel => exact ⟨k + 1, a + 1, d', by omega, by go_num, by go_num, by omega, fun _ => by omega, HG2, HFU2, hD3, HE2, hb13⟩
                case measure => simp [intOf]; omega
              | none =>
                rw [hq] at HST HH
                have HE2 : Hid (dagGo ls 0 0 zeroD = .error (k + 1)) := HE.out.trans HST
                clear HST hq e9 hD hT HE HG h5 HDT2 DR2
                go_wp2_with fail
                refine HH.out.mono ?_
                rintro e w3 ⟨rfl, hS3⟩
                have hb13 : Below w1.heap.size w1 w3 := hb12.trans (hS3.below (Nat.le_refl _) hb12.size)
                have HO : Hid (dagO s = (zeroD, (k : Int) + 1)) := by
                  show _ = _
                  unfold dagO
                  rw [if_neg hl, HLS.out, HE2.out]
                  rfl
                have DX := DR.out.on hb13 hz
                have BX : Below w.heap.size w w3 := Below.on B1 hb13
                have hgz : w.heap.size < w3.heap.size := DX.lt
                have r0 := DX.c0
                have r1 := DX.c1
                have r2 := DX.c2
                have r3 := DX.c3
                have r4 := DX.c4
                have r5 := DX.c5
                have rf0 := DX.fz 0
                have rf1 := DX.fz 1
                have rf2 := DX.fz 2
                have rf3 := DX.fz 3
                have rf4 := DX.fz 4
                have rf5 := DX.fz 5
                have HS6 : Hid (D6 (set6 w3 w.heap.size ⟨#[]⟩ ⟨#[]⟩ 0 0 false (.slice none 0 0)) w.heap.size ⟨#[]⟩ ⟨#[]⟩ 0 0 false (.slice none 0 0)) := DX.set ⟨#[]⟩ ⟨#[]⟩ 0 0 false (.slice none 0 0)
                clear DX
                go_wp2
                refine bodyPost_ret (ret_d2 rfl rfl rfl HS6.out) rfl ?_
                exact pd_no HO.out (below_set6 BX (Nat.le_refl _) ⟨#[]⟩ ⟨#[]⟩ 0 0 false (.slice none 0 0))
    · have hke : k = ls.length := by omega
      have HE2 : Hid (dagGo ls 0 0 zeroD = .ok d) := HE.out.trans (dagGo_end hke)
      obtain ⟨tv, hD, hT⟩ := HDT.out
      obtain ⟨to, tc, rfl⟩ := hT.slice
      have HDO : Hid (Calls Tryz.prog 114 #[.agg #[.string d.name, .string d.cron, .int .i64 d.fr, .int .i64 d.up, .bool d.cu, .slice to d.tasks.length tc]] wr fun e w' => e = .returned (.bool (dagB d)) ∧ Below wr.heap.size wr w') := dagOk_try _ d.name d.cron d.fr d.up d.cu d.tasks wr (HG.out.at hT)
      have HTT : Hid (Tasks wr (.slice to d.tasks.length tc) d.tasks) := hT
      have HDF : Hid (dagO s = if dagB d = true then (d, 0) else (zeroD, (ls.length : Int) + 1)) := by
        show _ = _
        unfold dagO
        rw [if_neg hl, HLS.out, HE2.out]
      have HD6 : Hid (D6 wr w1.heap.size d.name d.cron d.fr d.up d.cu (.slice to d.tasks.length tc)) := hD
      obtain ⟨dn, dc, df, du, dcu, dts⟩ := d
      have hgl := HD6.out.lt
      have g0 := HD6.out.c0
      have g1 := HD6.out.c1
      have g2 := HD6.out.c2
      have g3 := HD6.out.c3
      have g4 := HD6.out.c4
      have g5 := HD6.out.c5
      clear hD hT HE HDT
      simp only at g0 g1 g2 g3 g4 g5
      subst hke
      go_wp2_with fail
      refine HDO.out.mono ?_
      rintro e w3 ⟨rfl, hb3⟩
      have hb13 : Below w1.heap.size w1 w3 := hb.trans (hb3.mono hb.size)
      have DX := DR.out.on hb13 hz
      have BX : Below w.heap.size w w3 := Below.on B1 hb13
      have hgz : w.heap.size < w3.heap.size := DX.lt
      have r0 := DX.c0
      have r1 := DX.c1
      have r2 := DX.c2
      have r3 := DX.c3
      have r4 := DX.c4
      have r5 := DX.c5
      have rf0 := DX.fz 0
      have rf1 := DX.fz 1
      have rf2 := DX.fz 2
      have rf3 := DX.fz 3
      have rf4 := DX.fz 4
      have rf5 := DX.fz 5
      have HD3 : Hid (D6 w3 w1.heap.size dn dc df du dcu (.slice to dts.length tc)) := HD6.out.on hb3 hgl
      have s0 := HD3.out.c0
      have s1 := HD3.out.c1
      have s2 := HD3.out.c2
      have s3 := HD3.out.c3
      have s4 := HD3.out.c4
      have s5 := HD3.out.c5
      cases hq : dagB ⟨dn, dc, df, du, dcu, dts⟩ with
      | false =>
        have HO : Hid (dagO s = (zeroD, (ls.length : Int) + 1)) := by
          show _ = _
          rw [HDF.out, hq]
          rfl
        have HS6 : Hid (D6 (set6 w3 w.heap.size ⟨#[]⟩ ⟨#[]⟩ 0 0 false (.slice none 0 0)) w.heap.size ⟨#[]⟩ ⟨#[]⟩ 0 0 false (.slice none 0 0)) := DX.set ⟨#[]⟩ ⟨#[]⟩ 0 0 false (.slice none 0 0)
        clear DX hq HDF
        go_wp2
        refine bodyPost_ret (ret_d2 rfl rfl rfl HS6.out) rfl ?_
        exact pd_no HO.out (below_set6 BX (Nat.le_refl _) ⟨#[]⟩ ⟨#[]⟩ 0 0 false (.slice none 0 0))
      | true =>
        have HO : Hid (dagO s = (⟨dn, dc, df, du, dcu, dts⟩, 0)) := by
          show _ = _
          rw [HDF.out, hq]
          rfl
        have HS6 : Hid (D6 (set6 w3 w.heap.size dn dc df du dcu (.slice to dts.length tc)) w.heap.size dn dc df du dcu (.slice to dts.length tc)) := DX.set dn dc df du dcu (.slice to dts.length tc)
        have HTF : Hid (Tasks (set6 w3 w.heap.size dn dc df du dcu (.slice to dts.length tc)) (.slice to dts.length tc) dts) := tasks_far (b := w.heap.size) DX (HTT.out.below hb3) HFU.out (by simp [set6, World.setCell]) (fun k hk => far6 hk)
        clear DX hq HDF
        go_wp2
        refine bodyPost_ret (ret_d2 rfl rfl rfl HS6.out) rfl ?_
        exact ⟨.slice to dts.length tc, by rw [HO.out]; rfl, by rw [HO.out]; exact HTF.out, below_set6 BX (Nat.le_refl _) _ _ _ _ _ _⟩

end Go.Proofs.YtpjpheicldegkaaGreatDoor
