/- Ens8 -/
import Derived.Test.YtpjpheicldegkaaGreatDoorMgs
import Derived.Test.YtpjpheicldegkaaGreatDoorEs
import Derived.Test.YtpjpheicldegkaaGreatDoorGM5
import Derived.Test.YtpjpheicldegkaaGreatDoorGM11
import Derived.Test.YtpjpheicldegkaaGreatDoorGM19
import Derived.Test.YtpjpheicldegkaaGreatDoorGM16
namespace Go.Proofs.YtpjpheicldegkaaGreatDoor
open Go Go.RowKit

theorem conv3_at {w : World} {X : Nat} {x y z : Int} (h : w.heap[X]? = some (.cells #[.int .u8 x, .int .u8 y, .int .u8 z] 5)) : (convert 22 9 (.slice (some ⟨X, 0, none⟩) 3 3)).run Tryz.prog w = .ok (.string (bstr [x, y, z])) w :=
  qdb (P := Tryz.prog) (B := 0) (e := 5) 22 9 (show ownsB w 0 5 (.slice (some ⟨X, 0, none⟩) 3 3) [x, y, z] from
    ⟨rfl, .inr ⟨X, 3, #[.int .u8 x, .int .u8 y, .int .u8 z], rfl, Nat.zero_le _, h, Nat.le_refl _, by unfold maxLen; omega, rfl, rfl⟩⟩) Tryz.underlying22 Tryz.underlying5 Tryz.underlying9

theorem l05ShortM_any (s : ByteArray) (w : World) (hs : s.size ≤ 1048576) :
    Calls Tryz.prog 65 #[.string s] w fun e w' => e = .returned (.string (qsa s)) ∧ Below w.heap.size w w' := by
  have hadd : ∀ wx, (Op.stringOp .add (bstr (varI s.size)) s).run Tryz.prog wx = .ok (.string (qsa s)) wx := fun wx => run_string_add_sum wx _ s (by
    have hl := qxb s.size
    omega)
  go_enter Tryz.func65, Tryz.ntmps65
  go_wp2_with (go_at_call 62; refine (qpc _ _ (by omega)).mono ?_; rintro e w1 ⟨rfl, hb1⟩)
  go_ret
  exact ⟨rfl, hb1⟩

set_option maxRecDepth 10000 in
set_option maxHeartbeats 20000000 in
theorem specEncode_go (kd fr up tm ix lt cm : Int) (ok : Bool) (da : ByteArray) (la : Bool) (ao bo : Option Addr) (n cap m cbp : Nat) (es : List En) (tc : ByteArray) (qc : Bool) (s0 v1 v2 v3 v4 f1 f2 v5 s1 s2 s3 s4 s5 s6 s7 : ByteArray) (w : World)
    (HE : Hid (Reads w (.slice ao n cap) es)) (HZ : Hid (qsc es)) (Hn : Hid (n ≤ 4)) (H7 : Hid (s7.size ≤ 10000000000)) (Htc : Hid (tc.size ≤ 4)) (Hda : Hid (da.size ≤ 60)) (HCT : Hid (∀ W, Below w.heap.size w W → Calls Tryz.prog 66 #[.slice bo m cbp] W fun e w' => e = .returned (.tuple #[.string tc, .bool qc]) ∧ Below W.heap.size W w'))
    (hq : Hid (∀ W, Below w.heap.size w W → Calls Tryz.prog 8 #[.agg #[.int .i64 kd, .int .i64 fr, .int .i64 up, .int .i64 tm, .int .i64 ix, .int .i64 lt, .int .i64 cm, .bool ok, (.slice ao n cap), (.slice bo m cbp), .string da, .bool la]] W fun e w' => e = .returned (.bool true) ∧ Below W.heap.size W w')) (hu0 : IntKind.u8.wrap kd = kd) (hu1 : IntKind.u8.wrap fr = fr) (hu2 : IntKind.u8.wrap up = up)
    (V1 : Hid (∀ W, Calls Tryz.prog 62 #[.int .i64 tm] W fun e w' => e = .returned (.string v1) ∧ Below W.heap.size W w'))
    (V2 : Hid (∀ W, Calls Tryz.prog 62 #[.int .i64 ix] W fun e w' => e = .returned (.string v2) ∧ Below W.heap.size W w'))
    (V3 : Hid (∀ W, Calls Tryz.prog 62 #[.int .i64 lt] W fun e w' => e = .returned (.string v3) ∧ Below W.heap.size W w'))
    (V4 : Hid (∀ W, Calls Tryz.prog 62 #[.int .i64 cm] W fun e w' => e = .returned (.string v4) ∧ Below W.heap.size W w'))
    (V5 : Hid (∀ W, Calls Tryz.prog 62 #[.int .i64 (n : Int)] W fun e w' => e = .returned (.string v5) ∧ Below W.heap.size W w'))
    (F1 : Hid (∀ W, Calls Tryz.prog 63 #[.bool ok] W fun e w' => e = .returned (.string f1) ∧ Below W.heap.size W w'))
    (F2 : Hid (∀ W, Calls Tryz.prog 63 #[.bool la] W fun e w' => e = .returned (.string f2) ∧ Below W.heap.size W w'))
    (CV : Hid (∀ (w : World) (X : Nat), w.heap[X]? = some (.cells #[.int .u8 kd, .int .u8 fr, .int .u8 up] 5) → (convert 22 9 (.slice (some ⟨X, 0, none⟩) 3 3)).run Tryz.prog w = .ok (.string s0) w))
    (a1 : ∀ wx, (Op.stringOp .add s0 v1).run Tryz.prog wx = .ok (.string s1) wx) (a2 : ∀ wx, (Op.stringOp .add s1 v2).run Tryz.prog wx = .ok (.string s2) wx) (a3 : ∀ wx, (Op.stringOp .add s2 v3).run Tryz.prog wx = .ok (.string s3) wx) (a4 : ∀ wx, (Op.stringOp .add s3 v4).run Tryz.prog wx = .ok (.string s4) wx) (a5 : ∀ wx, (Op.stringOp .add s4 f1).run Tryz.prog wx = .ok (.string s5) wx) (a6 : ∀ wx, (Op.stringOp .add s5 f2).run Tryz.prog wx = .ok (.string s6) wx) (a7 : ∀ wx, (Op.stringOp .add s6 v5).run Tryz.prog wx = .ok (.string s7) wx) :
    Calls Tryz.prog 33 #[.agg #[.int .i64 kd, .int .i64 fr, .int .i64 up, .int .i64 tm, .int .i64 ix, .int .i64 lt, .int .i64 cm, .bool ok, (.slice ao n cap), (.slice bo m cbp), .string da, .bool la]] w fun e w' => e = .returned (.tuple #[.string (s7 ++ shoS (es.map tx8) ++ qsa tc ++ qsa da), .bool true]) ∧ Below w.heap.size w w' := by
  go_enter Tryz.func33, Tryz.ntmps33
  go_wp2_with (go_at_call 8; refine (hq.out _ (ba (Below.refl _ _) _)).mono ?_; rintro e w1 ⟨rfl, hb1⟩)
  have B1 := qma hb1
  have K1 := (Kc12.new 27 w (.int .i64 kd) (.int .i64 fr) (.int .i64 up) (.int .i64 tm) (.int .i64 ix) (.int .i64 lt) (.int .i64 cm) (.bool ok) (.slice ao n cap) (.slice bo m cbp) (.string da) (.bool la)).up hb1
  have hlt : w.heap.size < w1.heap.size := K1.lt
  clear hb1
  have k0 := Wd.cell K1.c0
  have k1 := Wd.cell K1.c1
  have k2 := Wd.cell K1.c2
  have k3 := Wd.cell K1.c3
  have k4 := Wd.cell K1.c4
  have k5 := Wd.cell K1.c5
  have k6 := Wd.cell K1.c6
  have k7 := Wd.cell K1.c7
  have k8 := Wd.cell K1.c8
  have k9 := Wd.cell K1.c9
  have k10 := Wd.cell K1.c10
  have k11 := Wd.cell K1.c11
  refine Code.wp_mono (Q := fun e a' w' => e = .normal ∧ ∃ X : Nat, a' = (⟨#[.agg #[.int .i64 kd, .int .i64 fr, .int .i64 up, .int .i64 tm, .int .i64 ix, .int .i64 lt, .int .i64 cm, .bool ok, (.slice ao n cap), (.slice bo m cbp), .string da, .bool la], .pointer (some ⟨w.heap.size, 0, none⟩), .string { data := #[] }, .bool false, .string s7, undef, undef, undef, undef, undef, .agg #[.int .i64 kd, .int .i64 fr, .int .i64 up, .int .i64 tm, .int .i64 ix, .int .i64 lt, .int .i64 cm, .bool ok, (.slice ao n cap), (.slice bo m cbp), .string da, .bool la], .bool true, .bool false, .pointer (some ⟨w.heap.size, 0, none⟩), .int .i64 kd, .int .u8 kd, .pointer (some ⟨w.heap.size, 1, none⟩), .int .i64 fr, .int .u8 fr, .pointer (some ⟨w.heap.size, 2, none⟩), .int .i64 up, .int .u8 up, .slice (some ⟨X, 0, none⟩) 3 3, .string s0, .pointer (some ⟨w.heap.size, 3, none⟩), .int .i64 tm, .string v1, .string s1, .pointer (some ⟨w.heap.size, 4, none⟩), .int .i64 ix, .string v2, .string s2, .pointer (some ⟨w.heap.size, 5, none⟩), .int .i64 lt, .string v3, .string s3, .pointer (some ⟨w.heap.size, 6, none⟩), .int .i64 cm, .string v4, .string s4, .pointer (some ⟨w.heap.size, 7, none⟩), .bool ok, .string f1, .string s5, .pointer (some ⟨w.heap.size, 11, none⟩), .bool la, .string f2, .string s6, .pointer (some ⟨w.heap.size, 8, none⟩), .slice ao n cap, .int .i64 (n : Int), .string v5, .string s7, undef, undef, undef, undef, undef, undef, undef, undef, undef, undef, undef, undef, undef, undef, undef, undef, undef, undef, undef, undef, undef, undef, undef, undef, undef, undef, undef, undef, undef, undef, undef, undef, undef, undef], []⟩ : Act) ∧ Below w1.heap.size w1 w') ?_ ?_
  · rintro e a' w' ⟨rfl, X, rfl, hbx⟩
    have k9' := k9
    clear k0 k1 k2 k3 k4 k5 k6 k7 k9 k11 a1 a2 a3 a4 a5 a6 a7 V1 V2 V3 V4 V5 F1 F2 CV hu0 hu1 hu2 hq K1
    have hn4 : n ≤ 4 := Hn.out
    go_wp2
    go_loopw [4, 5] (fun x i wr => ∃ k : Nat, k ≤ n ∧ i = .int .i64 k ∧ x = .string (s7 ++ shoS ((es.map tx8).take k)) ∧ Hid (Below w1.heap.size w1 wr)) (fun _ i _ => n - (intOf i).toNat)
    case atStart => exact ⟨0, Nat.zero_le _, rfl, by simp [shoS], hbx⟩
    case round =>
      obtain ⟨k, hk, rfl, rfl, HB⟩ := hrel
      have c8 : wr.cell? ⟨w.heap.size, 8, none⟩ = some (.slice ao n cap) := k8 ⟨wr, HB.out⟩
      have c9 : wr.cell? ⟨w.heap.size, 9, none⟩ = some (.slice bo m cbp) := k9' ⟨wr, HB.out⟩
      have HLE : Hid (es.length = n) := HE.out.len.symm
      have HBW : Hid (Below w.heap.size w wr) := B1.trans (HB.out.mono B1.size)
      by_cases hlt : k < n
      · obtain ⟨f, hf⟩ : ∃ f, es[k]? = some f := ⟨_, List.getElem?_eq_getElem (by rw [HLE.out]; exact hlt)⟩
        have HM : Hid (f.data.size ≤ maxLen) := by have := HZ.out f (List.mem_of_getElem? hf); show _ ≤ maxLen; unfold maxLen; omega
        obtain ⟨g, o, rfl, hg, e0, e1, e2⟩ := en_at (HE.out.below HBW.out) hf
        have hfm : (es.map tx8)[k]? = some (tx8 f) := by rw [List.getElem?_map, hf]; rfl
        have HT : Hid (shoS ((es.map tx8).take (k + 1)) = shoS ((es.map tx8).take k) ++ qsa (tx8 f)) := shoS_take hfm
        have HSZ : Hid ((s7 ++ shoS ((es.map tx8).take k)).size ≤ 20000000000 ∧ (tx8 f).size ≤ 20000) := by
          have h1 := shoS_size ((es.map tx8).take k) fun x hx => by
            obtain ⟨y, hy, rfl⟩ := List.mem_map.1 (List.mem_of_mem_take hx)
            have := tx8_size y (HZ.out y hy); omega
          have h2 : ((es.map tx8).take k).length ≤ 4 := by have := Hn.out; rw [List.length_take]; omega
          have h3 := tx8_size f (HZ.out f (List.mem_of_getElem? hf))
          have h4 := H7.out
          refine ⟨?_, by omega⟩
          rw [ByteArray.size_append]
          omega
        have HET : Hid (∀ W, Calls Tryz.prog 64 #[.int .i64 1, .agg #[.int .i64 f.term, .int .i64 f.kind, .string f.data]] W fun e w' => e = .returned (.tuple #[.string (tx8 f), .bool (okX 1 f.term f.kind f.data)]) ∧ Below W.heap.size W w') := fun W => specEntryText_any 1 f.term f.kind f.data W HM.out
        obtain ⟨T, HTT⟩ : ∃ T : ByteArray, Hid (tx8 f = T) := ⟨_, rfl⟩
        obtain ⟨q, HQ⟩ : ∃ q, Hid (okX 1 f.term f.kind f.data = q) := ⟨_, rfl⟩
        rw [HTT.out, HQ.out] at HET
        rw [HTT.out] at HT HSZ
        have HSH : Hid (∀ W, Calls Tryz.prog 65 #[.string T] W fun e w' => e = .returned (.string (qsa T)) ∧ Below W.heap.size W w') := fun W => l05ShortM_any T W (by have := HSZ.out; omega)
        have hadd : ∀ wx, (Op.stringOp .add (s7 ++ shoS ((es.map tx8).take k)) (qsa T)).run Tryz.prog wx = .ok (.string (s7 ++ shoS ((es.map tx8).take (k + 1)))) wx := fun wx => by
          rw [HT.out, ← ByteArray.append_assoc]
          exact run_string_add_sum wx _ _ (by have h1 := HSZ.out; have h2 := qwb T; omega)
        clear hf hfm HT
        go_wp2_with fail
        refine (HET.out _).mono ?_
        rintro e w3 ⟨rfl, hb3⟩
        have HB3 : Hid (Below w1.heap.size w1 w3) := Below.on HB.out hb3
        clear e0 e1 e2 c8 c9 hb3 HB HBW HET
        go_wp2_with fail
        refine (HSH.out _).mono ?_
        rintro e w4 ⟨rfl, hb4⟩
        have HB4 : Hid (Below w1.heap.size w1 w4) := Below.on HB3.out hb4
        clear hb4 HB3 HSH
        go_wp2
        go_roundw
        case rel => exact ⟨k + 1, by omega, by go_num, rfl, HB4⟩
        case measure => simp [intOf]; omega
      · have hkn : k = n := by omega
        subst hkn
        have he : (es.map tx8).take k = es.map tx8 := List.take_of_length_le (by rw [List.length_map, HLE.out]; omega)
        rw [he]
        have HSZ : Hid ((s7 ++ shoS (es.map tx8)).size ≤ 20000000000) := by
          have h1 := shoS_size (es.map tx8) fun x hx => by
            obtain ⟨y, hy, rfl⟩ := List.mem_map.1 hx
            have := tx8_size y (HZ.out y hy); omega
          have h2 : (es.map tx8).length ≤ 4 := by have := Hn.out; rw [List.length_map, HLE.out]; omega
          have h4 := H7.out
          show _ ≤ _
          rw [ByteArray.size_append]
          omega
        obtain ⟨P0, HP0⟩ : ∃ P, Hid (s7 ++ shoS (es.map tx8) = P) := ⟨_, rfl⟩
        rw [HP0.out] at HSZ ⊢
        obtain ⟨P1, HP1⟩ : ∃ P, Hid (P0 ++ qsa tc = P) := ⟨_, rfl⟩
        have hadd1 : ∀ wx, (Op.stringOp .add P0 (qsa tc)).run Tryz.prog wx = .ok (.string P1) wx := fun wx => by
          rw [← HP1.out]
          exact run_string_add_sum wx _ _ (by have h1 := HSZ.out; have h2 := qwb tc; have h3 := Htc.out; omega)
        have HSZ1 : Hid (P1.size ≤ 30000000000) := by
          have h1 := HSZ.out; have h2 := qwb tc; have h3 := Htc.out
          show _ ≤ _
          rw [← HP1.out, ByteArray.size_append]; omega
        obtain ⟨P2, HP2⟩ : ∃ P, Hid (P1 ++ qsa da = P) := ⟨_, rfl⟩
        have hadd2 : ∀ wx, (Op.stringOp .add P1 (qsa da)).run Tryz.prog wx = .ok (.string P2) wx := fun wx => by
          rw [← HP2.out]
          exact run_string_add_sum wx _ _ (by have h1 := HSZ1.out; have h2 := qwb da; have h3 := Hda.out; omega)
        have HRES : Hid (s7 ++ shoS (es.map tx8) ++ qsa tc ++ qsa da = P2) := by show _ = _; rw [HP0.out, HP1.out, HP2.out]
        have HS1 : Hid (∀ W, Calls Tryz.prog 65 #[.string tc] W fun e w' => e = .returned (.string (qsa tc)) ∧ Below W.heap.size W w') := fun W => l05ShortM_any tc W (by have := Htc.out; omega)
        have HS2 : Hid (∀ W, Calls Tryz.prog 65 #[.string da] W fun e w' => e = .returned (.string (qsa da)) ∧ Below W.heap.size W w') := fun W => l05ShortM_any da W (by have := Hda.out; omega)
        clear he
        go_wp2_with fail
        refine (HCT.out _ HBW.out).mono ?_
        rintro e w5 ⟨rfl, hb5⟩
        have HB5 : Hid (Below w1.heap.size w1 w5) := Below.on HB.out hb5
        have d10 : w5.cell? ⟨w.heap.size, 10, none⟩ = some (.string da) := k10 ⟨w5, HB5.out⟩
        have q10 := Wd.cell d10
        clear c8 c9 hb5 HB HBW HCT
        go_wp2
        refine qba (by kernel_rfl) (by kernel_rfl) ?_
        repeat (go_big_quiet_step ((go_at_call 65; first | (refine qwa (v := .string (qsa tc)) ?_; with_reducible exact HS1.out _) | (refine qwa (v := .string (qsa da)) ?_; with_reducible exact HS2.out _))))
        refine wpQuiet_nil ?_
        rintro _ ⟨x1, rfl⟩
        go_wp2
        go_ret2
        exact ⟨by rw [HRES.out]; rfl, (B1.trans (HB5.out.mono B1.size)).trans (x1.ok.mono (B1.trans (HB5.out.mono B1.size)).size)⟩

  refine qha (fun w' => ∃ x : Wd w1, w' = x.at') [0, 1, 2, 3, 4, 5, 6, 7, 8, 11, 12, 15, 16, 19, 20, 23, 24, 27, 28, 31, 32, 35, 36] 40 17 (by kernel_rfl) (by decide) (by decide) (by kernel_rfl) (fun _ _ _ _ _ h => by cases h.1) ⟨⟨w1.drew, (Below.refl _ _).drew⟩, rfl⟩ ?_
  (repeat (refine qea rfl (by first | (intro x h; cases h; done) | (intro x h; cases h; exact ⟨_, rfl⟩)) ?_; go_big_quiet_step (fail); refine wpQuiet_nil ?_)); refine qda ?_
  obtain ⟨y, hy⟩ : ∃ y, w1.drew = y := ⟨_, rfl⟩
  have D : Below w1.heap.size w1 y := by rw [← hy]; exact (Below.refl _ _).drew
  rw [hy]
  clear hy
  refine any_first (fuel := 16) 37 40 (.int .i64 (n : Int)) rfl (by kernel_rfl) (fun _ _ _ _ _ h => by cases h.1) ⟨⟨y, D⟩, rfl⟩ rfl (fun w _ => by simp [go_sem]) ?_
  dsimp only [Act.put, List.setIfInBounds_toArray, List.set_cons_zero, List.set_cons_succ]
  refine pk_two (fuel := 15) (i := 9) (j := 13) (by kernel_rfl) rfl rfl rfl rfl ?_ ?_
  · skip
    intro K hK
    go_wp2
    obtain ⟨V, hV⟩ : ∃ V, y.alloc (.cells #[.int .u8 kd, .int .u8 fr, .int .u8 up] 5) = V := ⟨_, rfl⟩
    have HX0 : V.heap[y.heap.size]? = some (.cells #[.int .u8 kd, .int .u8 fr, .int .u8 up] 5) := by rw [← hV]; show (y.heap.push _)[y.heap.size]? = _; simp
    have BV : Below w1.heap.size w1 V := by rw [← hV]; exact Below.alloc D (Below.size D) _
    rw [hV]
    obtain ⟨X, hX⟩ : ∃ X, y.heap.size = X := ⟨_, rfl⟩
    have HX : Hid (V.heap[X]? = some (.cells #[.int .u8 kd, .int .u8 fr, .int .u8 up] 5)) := by rw [← hX]; exact HX0
    rw [hX]
    clear HX0 hX hV
    refine hK.out _ _ ⟨⟨V, BV⟩, rfl⟩ ?_
    clear hK K
    haveI : Nonempty (Wx w1 X (.cells #[.int .u8 kd, .int .u8 fr, .int .u8 up] 5)) := ⟨⟨V, BV, HX.out⟩⟩
    refine qgb (C' := fun w' => ∃ x : Wx w1 X (.cells #[.int .u8 kd, .int .u8 fr, .int .u8 up] 5), w' = x.at') (fun w' h => by obtain ⟨x, rfl⟩ := h; exact ⟨⟨x.at', x.ok⟩, rfl⟩) _ _ _ _ ?_
    have hcv : ∀ x : Wx w1 X (.cells #[.int .u8 kd, .int .u8 fr, .int .u8 up] 5), (convert 22 9 (.slice (some ⟨X, 0, none⟩) 3 3)).run Tryz.prog x.at' = .ok (.string s0) x.at' := fun x => CV.out _ _ x.blk
    obtain ⟨S, hS⟩ : ∃ S : Wx w1 X (.cells #[.int .u8 kd, .int .u8 fr, .int .u8 up] 5), S.at' = V := ⟨⟨V, BV, HX.out⟩, rfl⟩
    rw [← hS]
    clear hS BV HX
    refine qqa [10] 40 14 ⟨S, rfl⟩ (by kernel_rfl) (fun _ _ _ _ _ h => by cases h.1) ?_
    (repeat (refine qea rfl (by first | (intro x h; cases h; done) | (intro x h; cases h; exact ⟨_, rfl⟩)) ?_; go_big_quiet_step (fail); refine wpQuiet_nil ?_)); refine qda ?_
    refine qfa (fuel := 13) (i := 13) (by kernel_rfl) rfl rfl ?_
    intro K hK
    go_wp2_with fail
    refine (V1.out _).mono ?_
    rintro e y ⟨rfl, hby⟩
    obtain ⟨S0, hS0⟩ : ∃ S' : Wx w1 X (.cells #[.int .u8 kd, .int .u8 fr, .int .u8 up] 5), S'.at' = y := ⟨S.up hby, rfl⟩
    clear hby
    subst hS0
    go_wp2
    refine hK.out _ _ ⟨S0, rfl⟩ ?_
    clear hK K
    refine qqa [14] 40 12 ⟨S0, rfl⟩ (by kernel_rfl) (fun _ _ _ _ _ h => by cases h.1) ?_
    (repeat (refine qea rfl (by first | (intro x h; cases h; done) | (intro x h; cases h; exact ⟨_, rfl⟩)) ?_; go_big_quiet_step (fail); refine wpQuiet_nil ?_)); refine qda ?_
    refine qfa (fuel := 11) (i := 17) (by kernel_rfl) rfl rfl ?_
    intro K hK
    go_wp2_with fail
    refine (V2.out _).mono ?_
    rintro e y ⟨rfl, hby⟩
    obtain ⟨S1, hS1⟩ : ∃ S' : Wx w1 X (.cells #[.int .u8 kd, .int .u8 fr, .int .u8 up] 5), S'.at' = y := ⟨S0.up hby, rfl⟩
    clear hby
    subst hS1
    go_wp2
    refine hK.out _ _ ⟨S1, rfl⟩ ?_
    clear hK K
    refine qqa [18] 40 10 ⟨S1, rfl⟩ (by kernel_rfl) (fun _ _ _ _ _ h => by cases h.1) ?_
    (repeat (refine qea rfl (by first | (intro x h; cases h; done) | (intro x h; cases h; exact ⟨_, rfl⟩)) ?_; go_big_quiet_step (fail); refine wpQuiet_nil ?_)); refine qda ?_
    refine qfa (fuel := 9) (i := 21) (by kernel_rfl) rfl rfl ?_
    intro K hK
    go_wp2_with fail
    refine (V3.out _).mono ?_
    rintro e y ⟨rfl, hby⟩
    obtain ⟨S2, hS2⟩ : ∃ S' : Wx w1 X (.cells #[.int .u8 kd, .int .u8 fr, .int .u8 up] 5), S'.at' = y := ⟨S1.up hby, rfl⟩
    clear hby
    subst hS2
    go_wp2
    refine hK.out _ _ ⟨S2, rfl⟩ ?_
    clear hK K
    refine qqa [22] 40 8 ⟨S2, rfl⟩ (by kernel_rfl) (fun _ _ _ _ _ h => by cases h.1) ?_
    (repeat (refine qea rfl (by first | (intro x h; cases h; done) | (intro x h; cases h; exact ⟨_, rfl⟩)) ?_; go_big_quiet_step (fail); refine wpQuiet_nil ?_)); refine qda ?_
    refine qfa (fuel := 7) (i := 25) (by kernel_rfl) rfl rfl ?_
    intro K hK
    go_wp2_with fail
    refine (V4.out _).mono ?_
    rintro e y ⟨rfl, hby⟩
    obtain ⟨S3, hS3⟩ : ∃ S' : Wx w1 X (.cells #[.int .u8 kd, .int .u8 fr, .int .u8 up] 5), S'.at' = y := ⟨S2.up hby, rfl⟩
    clear hby
    subst hS3
    go_wp2
    refine hK.out _ _ ⟨S3, rfl⟩ ?_
    clear hK K
    refine qqa [26] 40 6 ⟨S3, rfl⟩ (by kernel_rfl) (fun _ _ _ _ _ h => by cases h.1) ?_
    (repeat (refine qea rfl (by first | (intro x h; cases h; done) | (intro x h; cases h; exact ⟨_, rfl⟩)) ?_; go_big_quiet_step (fail); refine wpQuiet_nil ?_)); refine qda ?_
    refine qfa (fuel := 5) (i := 29) (by kernel_rfl) rfl rfl ?_
    intro K hK
    go_wp2_with fail
    refine (F1.out _).mono ?_
    rintro e y ⟨rfl, hby⟩
    obtain ⟨S4, hS4⟩ : ∃ S' : Wx w1 X (.cells #[.int .u8 kd, .int .u8 fr, .int .u8 up] 5), S'.at' = y := ⟨S3.up hby, rfl⟩
    clear hby
    subst hS4
    go_wp2
    refine hK.out _ _ ⟨S4, rfl⟩ ?_
    clear hK K
    refine qqa [30] 40 4 ⟨S4, rfl⟩ (by kernel_rfl) (fun _ _ _ _ _ h => by cases h.1) ?_
    (repeat (refine qea rfl (by first | (intro x h; cases h; done) | (intro x h; cases h; exact ⟨_, rfl⟩)) ?_; go_big_quiet_step (fail); refine wpQuiet_nil ?_)); refine qda ?_
    refine qfa (fuel := 3) (i := 33) (by kernel_rfl) rfl rfl ?_
    intro K hK
    go_wp2_with fail
    refine (F2.out _).mono ?_
    rintro e y ⟨rfl, hby⟩
    obtain ⟨S5, hS5⟩ : ∃ S' : Wx w1 X (.cells #[.int .u8 kd, .int .u8 fr, .int .u8 up] 5), S'.at' = y := ⟨S4.up hby, rfl⟩
    clear hby
    subst hS5
    go_wp2
    refine hK.out _ _ ⟨S5, rfl⟩ ?_
    clear hK K
    refine qqa [34] 40 2 ⟨S5, rfl⟩ (by kernel_rfl) (fun _ _ _ _ _ h => by cases h.1) ?_
    (repeat (refine qea rfl (by first | (intro x h; cases h; done) | (intro x h; cases h; exact ⟨_, rfl⟩)) ?_; go_big_quiet_step (fail); refine wpQuiet_nil ?_)); refine qda ?_
    refine qfa (fuel := 1) (i := 38) (by kernel_rfl) rfl rfl ?_
    intro K hK
    go_wp2_with fail
    refine (V5.out _).mono ?_
    rintro e y ⟨rfl, hby⟩
    obtain ⟨S6, hS6⟩ : ∃ S' : Wx w1 X (.cells #[.int .u8 kd, .int .u8 fr, .int .u8 up] 5), S'.at' = y := ⟨S5.up hby, rfl⟩
    clear hby
    subst hS6
    go_wp2
    refine hK.out _ _ ⟨S6, rfl⟩ ?_
    clear hK K
    refine qqa [39] 40 0 ⟨S6, rfl⟩ (by kernel_rfl) (fun _ _ _ _ _ h => by cases h.1) ?_
    (repeat (refine qea rfl (by first | (intro x h; cases h; done) | (intro x h; cases h; exact ⟨_, rfl⟩)) ?_; go_big_quiet_step (fail); refine wpQuiet_nil ?_)); refine qda ?_
    refine qoa (by kernel_rfl) ?_
    go_wp2
    first | exact S6.ok | exact ⟨rfl, X, rfl, S6.ok⟩
  intro K hK
  go_wp2_with fail
  refine (V1.out _).mono ?_
  rintro e y0 ⟨rfl, hby⟩
  have D0 : Below w1.heap.size w1 y0 := Below.on D hby
  clear hby
  go_wp2
  refine hK.out _ _ ⟨⟨y0, D0⟩, rfl⟩ ?_
  clear hK K
  refine pk_two (fuel := 14) (i := 9) (j := 17) (by kernel_rfl) rfl rfl rfl rfl ?_ ?_
  · skip
    intro K hK
    go_wp2
    obtain ⟨V, hV⟩ : ∃ V, y0.alloc (.cells #[.int .u8 kd, .int .u8 fr, .int .u8 up] 5) = V := ⟨_, rfl⟩
    have HX0 : V.heap[y0.heap.size]? = some (.cells #[.int .u8 kd, .int .u8 fr, .int .u8 up] 5) := by rw [← hV]; show (y0.heap.push _)[y0.heap.size]? = _; simp
    have BV : Below w1.heap.size w1 V := by rw [← hV]; exact Below.alloc D0 (Below.size D0) _
    rw [hV]
    obtain ⟨X, hX⟩ : ∃ X, y0.heap.size = X := ⟨_, rfl⟩
    have HX : Hid (V.heap[X]? = some (.cells #[.int .u8 kd, .int .u8 fr, .int .u8 up] 5)) := by rw [← hX]; exact HX0
    rw [hX]
    clear HX0 hX hV
    refine hK.out _ _ ⟨⟨V, BV⟩, rfl⟩ ?_
    clear hK K
    haveI : Nonempty (Wx w1 X (.cells #[.int .u8 kd, .int .u8 fr, .int .u8 up] 5)) := ⟨⟨V, BV, HX.out⟩⟩
    refine qgb (C' := fun w' => ∃ x : Wx w1 X (.cells #[.int .u8 kd, .int .u8 fr, .int .u8 up] 5), w' = x.at') (fun w' h => by obtain ⟨x, rfl⟩ := h; exact ⟨⟨x.at', x.ok⟩, rfl⟩) _ _ _ _ ?_
    have hcv : ∀ x : Wx w1 X (.cells #[.int .u8 kd, .int .u8 fr, .int .u8 up] 5), (convert 22 9 (.slice (some ⟨X, 0, none⟩) 3 3)).run Tryz.prog x.at' = .ok (.string s0) x.at' := fun x => CV.out _ _ x.blk
    obtain ⟨S, hS⟩ : ∃ S : Wx w1 X (.cells #[.int .u8 kd, .int .u8 fr, .int .u8 up] 5), S.at' = V := ⟨⟨V, BV, HX.out⟩, rfl⟩
    rw [← hS]
    clear hS BV HX
    refine qqa [10, 14] 40 12 ⟨S, rfl⟩ (by kernel_rfl) (fun _ _ _ _ _ h => by cases h.1) ?_
    (repeat (refine qea rfl (by first | (intro x h; cases h; done) | (intro x h; cases h; exact ⟨_, rfl⟩)) ?_; go_big_quiet_step (fail); refine wpQuiet_nil ?_)); refine qda ?_
    refine qfa (fuel := 11) (i := 17) (by kernel_rfl) rfl rfl ?_
    intro K hK
    go_wp2_with fail
    refine (V2.out _).mono ?_
    rintro e y ⟨rfl, hby⟩
    obtain ⟨S1, hS1⟩ : ∃ S' : Wx w1 X (.cells #[.int .u8 kd, .int .u8 fr, .int .u8 up] 5), S'.at' = y := ⟨S.up hby, rfl⟩
    clear hby
    subst hS1
    go_wp2
    refine hK.out _ _ ⟨S1, rfl⟩ ?_
    clear hK K
    refine qqa [18] 40 10 ⟨S1, rfl⟩ (by kernel_rfl) (fun _ _ _ _ _ h => by cases h.1) ?_
    (repeat (refine qea rfl (by first | (intro x h; cases h; done) | (intro x h; cases h; exact ⟨_, rfl⟩)) ?_; go_big_quiet_step (fail); refine wpQuiet_nil ?_)); refine qda ?_
    refine qfa (fuel := 9) (i := 21) (by kernel_rfl) rfl rfl ?_
    intro K hK
    go_wp2_with fail
    refine (V3.out _).mono ?_
    rintro e y ⟨rfl, hby⟩
    obtain ⟨S2, hS2⟩ : ∃ S' : Wx w1 X (.cells #[.int .u8 kd, .int .u8 fr, .int .u8 up] 5), S'.at' = y := ⟨S1.up hby, rfl⟩
    clear hby
    subst hS2
    go_wp2
    refine hK.out _ _ ⟨S2, rfl⟩ ?_
    clear hK K
    refine qqa [22] 40 8 ⟨S2, rfl⟩ (by kernel_rfl) (fun _ _ _ _ _ h => by cases h.1) ?_
    (repeat (refine qea rfl (by first | (intro x h; cases h; done) | (intro x h; cases h; exact ⟨_, rfl⟩)) ?_; go_big_quiet_step (fail); refine wpQuiet_nil ?_)); refine qda ?_
    refine qfa (fuel := 7) (i := 25) (by kernel_rfl) rfl rfl ?_
    intro K hK
    go_wp2_with fail
    refine (V4.out _).mono ?_
    rintro e y ⟨rfl, hby⟩
    obtain ⟨S3, hS3⟩ : ∃ S' : Wx w1 X (.cells #[.int .u8 kd, .int .u8 fr, .int .u8 up] 5), S'.at' = y := ⟨S2.up hby, rfl⟩
    clear hby
    subst hS3
    go_wp2
    refine hK.out _ _ ⟨S3, rfl⟩ ?_
    clear hK K
    refine qqa [26] 40 6 ⟨S3, rfl⟩ (by kernel_rfl) (fun _ _ _ _ _ h => by cases h.1) ?_
    (repeat (refine qea rfl (by first | (intro x h; cases h; done) | (intro x h; cases h; exact ⟨_, rfl⟩)) ?_; go_big_quiet_step (fail); refine wpQuiet_nil ?_)); refine qda ?_
    refine qfa (fuel := 5) (i := 29) (by kernel_rfl) rfl rfl ?_
    intro K hK
    go_wp2_with fail
    refine (F1.out _).mono ?_
    rintro e y ⟨rfl, hby⟩
    obtain ⟨S4, hS4⟩ : ∃ S' : Wx w1 X (.cells #[.int .u8 kd, .int .u8 fr, .int .u8 up] 5), S'.at' = y := ⟨S3.up hby, rfl⟩
    clear hby
    subst hS4
    go_wp2
    refine hK.out _ _ ⟨S4, rfl⟩ ?_
    clear hK K
    refine qqa [30] 40 4 ⟨S4, rfl⟩ (by kernel_rfl) (fun _ _ _ _ _ h => by cases h.1) ?_
    (repeat (refine qea rfl (by first | (intro x h; cases h; done) | (intro x h; cases h; exact ⟨_, rfl⟩)) ?_; go_big_quiet_step (fail); refine wpQuiet_nil ?_)); refine qda ?_
    refine qfa (fuel := 3) (i := 33) (by kernel_rfl) rfl rfl ?_
    intro K hK
    go_wp2_with fail
    refine (F2.out _).mono ?_
    rintro e y ⟨rfl, hby⟩
    obtain ⟨S5, hS5⟩ : ∃ S' : Wx w1 X (.cells #[.int .u8 kd, .int .u8 fr, .int .u8 up] 5), S'.at' = y := ⟨S4.up hby, rfl⟩
    clear hby
    subst hS5
    go_wp2
    refine hK.out _ _ ⟨S5, rfl⟩ ?_
    clear hK K
    refine qqa [34] 40 2 ⟨S5, rfl⟩ (by kernel_rfl) (fun _ _ _ _ _ h => by cases h.1) ?_
    (repeat (refine qea rfl (by first | (intro x h; cases h; done) | (intro x h; cases h; exact ⟨_, rfl⟩)) ?_; go_big_quiet_step (fail); refine wpQuiet_nil ?_)); refine qda ?_
    refine qfa (fuel := 1) (i := 38) (by kernel_rfl) rfl rfl ?_
    intro K hK
    go_wp2_with fail
    refine (V5.out _).mono ?_
    rintro e y ⟨rfl, hby⟩
    obtain ⟨S6, hS6⟩ : ∃ S' : Wx w1 X (.cells #[.int .u8 kd, .int .u8 fr, .int .u8 up] 5), S'.at' = y := ⟨S5.up hby, rfl⟩
    clear hby
    subst hS6
    go_wp2
    refine hK.out _ _ ⟨S6, rfl⟩ ?_
    clear hK K
    refine qqa [39] 40 0 ⟨S6, rfl⟩ (by kernel_rfl) (fun _ _ _ _ _ h => by cases h.1) ?_
    (repeat (refine qea rfl (by first | (intro x h; cases h; done) | (intro x h; cases h; exact ⟨_, rfl⟩)) ?_; go_big_quiet_step (fail); refine wpQuiet_nil ?_)); refine qda ?_
    refine qoa (by kernel_rfl) ?_
    go_wp2
    first | exact S6.ok | exact ⟨rfl, X, rfl, S6.ok⟩
  intro K hK
  go_wp2_with fail
  refine (V2.out _).mono ?_
  rintro e y1 ⟨rfl, hby⟩
  have D1 : Below w1.heap.size w1 y1 := Below.on D0 hby
  clear hby
  go_wp2
  refine hK.out _ _ ⟨⟨y1, D1⟩, rfl⟩ ?_
  clear hK K
  refine pk_two (fuel := 13) (i := 9) (j := 21) (by kernel_rfl) rfl rfl rfl rfl ?_ ?_
  · skip
    intro K hK
    go_wp2
    obtain ⟨V, hV⟩ : ∃ V, y1.alloc (.cells #[.int .u8 kd, .int .u8 fr, .int .u8 up] 5) = V := ⟨_, rfl⟩
    have HX0 : V.heap[y1.heap.size]? = some (.cells #[.int .u8 kd, .int .u8 fr, .int .u8 up] 5) := by rw [← hV]; show (y1.heap.push _)[y1.heap.size]? = _; simp
    have BV : Below w1.heap.size w1 V := by rw [← hV]; exact Below.alloc D1 (Below.size D1) _
    rw [hV]
    obtain ⟨X, hX⟩ : ∃ X, y1.heap.size = X := ⟨_, rfl⟩
    have HX : Hid (V.heap[X]? = some (.cells #[.int .u8 kd, .int .u8 fr, .int .u8 up] 5)) := by rw [← hX]; exact HX0
    rw [hX]
    clear HX0 hX hV
    refine hK.out _ _ ⟨⟨V, BV⟩, rfl⟩ ?_
    clear hK K
    haveI : Nonempty (Wx w1 X (.cells #[.int .u8 kd, .int .u8 fr, .int .u8 up] 5)) := ⟨⟨V, BV, HX.out⟩⟩
    refine qgb (C' := fun w' => ∃ x : Wx w1 X (.cells #[.int .u8 kd, .int .u8 fr, .int .u8 up] 5), w' = x.at') (fun w' h => by obtain ⟨x, rfl⟩ := h; exact ⟨⟨x.at', x.ok⟩, rfl⟩) _ _ _ _ ?_
    have hcv : ∀ x : Wx w1 X (.cells #[.int .u8 kd, .int .u8 fr, .int .u8 up] 5), (convert 22 9 (.slice (some ⟨X, 0, none⟩) 3 3)).run Tryz.prog x.at' = .ok (.string s0) x.at' := fun x => CV.out _ _ x.blk
    obtain ⟨S, hS⟩ : ∃ S : Wx w1 X (.cells #[.int .u8 kd, .int .u8 fr, .int .u8 up] 5), S.at' = V := ⟨⟨V, BV, HX.out⟩, rfl⟩
    rw [← hS]
    clear hS BV HX
    refine qqa [10, 14, 18] 40 10 ⟨S, rfl⟩ (by kernel_rfl) (fun _ _ _ _ _ h => by cases h.1) ?_
    (repeat (refine qea rfl (by first | (intro x h; cases h; done) | (intro x h; cases h; exact ⟨_, rfl⟩)) ?_; go_big_quiet_step (fail); refine wpQuiet_nil ?_)); refine qda ?_
    refine qfa (fuel := 9) (i := 21) (by kernel_rfl) rfl rfl ?_
    intro K hK
    go_wp2_with fail
    refine (V3.out _).mono ?_
    rintro e y ⟨rfl, hby⟩
    obtain ⟨S2, hS2⟩ : ∃ S' : Wx w1 X (.cells #[.int .u8 kd, .int .u8 fr, .int .u8 up] 5), S'.at' = y := ⟨S.up hby, rfl⟩
    clear hby
    subst hS2
    go_wp2
    refine hK.out _ _ ⟨S2, rfl⟩ ?_
    clear hK K
    refine qqa [22] 40 8 ⟨S2, rfl⟩ (by kernel_rfl) (fun _ _ _ _ _ h => by cases h.1) ?_
    (repeat (refine qea rfl (by first | (intro x h; cases h; done) | (intro x h; cases h; exact ⟨_, rfl⟩)) ?_; go_big_quiet_step (fail); refine wpQuiet_nil ?_)); refine qda ?_
    refine qfa (fuel := 7) (i := 25) (by kernel_rfl) rfl rfl ?_
    intro K hK
    go_wp2_with fail
    refine (V4.out _).mono ?_
    rintro e y ⟨rfl, hby⟩
    obtain ⟨S3, hS3⟩ : ∃ S' : Wx w1 X (.cells #[.int .u8 kd, .int .u8 fr, .int .u8 up] 5), S'.at' = y := ⟨S2.up hby, rfl⟩
    clear hby
    subst hS3
    go_wp2
    refine hK.out _ _ ⟨S3, rfl⟩ ?_
    clear hK K
    refine qqa [26] 40 6 ⟨S3, rfl⟩ (by kernel_rfl) (fun _ _ _ _ _ h => by cases h.1) ?_
    (repeat (refine qea rfl (by first | (intro x h; cases h; done) | (intro x h; cases h; exact ⟨_, rfl⟩)) ?_; go_big_quiet_step (fail); refine wpQuiet_nil ?_)); refine qda ?_
    refine qfa (fuel := 5) (i := 29) (by kernel_rfl) rfl rfl ?_
    intro K hK
    go_wp2_with fail
    refine (F1.out _).mono ?_
    rintro e y ⟨rfl, hby⟩
    obtain ⟨S4, hS4⟩ : ∃ S' : Wx w1 X (.cells #[.int .u8 kd, .int .u8 fr, .int .u8 up] 5), S'.at' = y := ⟨S3.up hby, rfl⟩
    clear hby
    subst hS4
    go_wp2
    refine hK.out _ _ ⟨S4, rfl⟩ ?_
    clear hK K
    refine qqa [30] 40 4 ⟨S4, rfl⟩ (by kernel_rfl) (fun _ _ _ _ _ h => by cases h.1) ?_
    (repeat (refine qea rfl (by first | (intro x h; cases h; done) | (intro x h; cases h; exact ⟨_, rfl⟩)) ?_; go_big_quiet_step (fail); refine wpQuiet_nil ?_)); refine qda ?_
    refine qfa (fuel := 3) (i := 33) (by kernel_rfl) rfl rfl ?_
    intro K hK
    go_wp2_with fail
    refine (F2.out _).mono ?_
    rintro e y ⟨rfl, hby⟩
    obtain ⟨S5, hS5⟩ : ∃ S' : Wx w1 X (.cells #[.int .u8 kd, .int .u8 fr, .int .u8 up] 5), S'.at' = y := ⟨S4.up hby, rfl⟩
    clear hby
    subst hS5
    go_wp2
    refine hK.out _ _ ⟨S5, rfl⟩ ?_
    clear hK K
    refine qqa [34] 40 2 ⟨S5, rfl⟩ (by kernel_rfl) (fun _ _ _ _ _ h => by cases h.1) ?_
    (repeat (refine qea rfl (by first | (intro x h; cases h; done) | (intro x h; cases h; exact ⟨_, rfl⟩)) ?_; go_big_quiet_step (fail); refine wpQuiet_nil ?_)); refine qda ?_
    refine qfa (fuel := 1) (i := 38) (by kernel_rfl) rfl rfl ?_
    intro K hK
    go_wp2_with fail
    refine (V5.out _).mono ?_
    rintro e y ⟨rfl, hby⟩
    obtain ⟨S6, hS6⟩ : ∃ S' : Wx w1 X (.cells #[.int .u8 kd, .int .u8 fr, .int .u8 up] 5), S'.at' = y := ⟨S5.up hby, rfl⟩
    clear hby
    subst hS6
    go_wp2
    refine hK.out _ _ ⟨S6, rfl⟩ ?_
    clear hK K
    refine qqa [39] 40 0 ⟨S6, rfl⟩ (by kernel_rfl) (fun _ _ _ _ _ h => by cases h.1) ?_
    (repeat (refine qea rfl (by first | (intro x h; cases h; done) | (intro x h; cases h; exact ⟨_, rfl⟩)) ?_; go_big_quiet_step (fail); refine wpQuiet_nil ?_)); refine qda ?_
    refine qoa (by kernel_rfl) ?_
    go_wp2
    first | exact S6.ok | exact ⟨rfl, X, rfl, S6.ok⟩
  intro K hK
  go_wp2_with fail
  refine (V3.out _).mono ?_
  rintro e y2 ⟨rfl, hby⟩
  have D2 : Below w1.heap.size w1 y2 := Below.on D1 hby
  clear hby
  go_wp2
  refine hK.out _ _ ⟨⟨y2, D2⟩, rfl⟩ ?_
  clear hK K
  refine pk_two (fuel := 12) (i := 9) (j := 25) (by kernel_rfl) rfl rfl rfl rfl ?_ ?_
  · skip
    intro K hK
    go_wp2
    obtain ⟨V, hV⟩ : ∃ V, y2.alloc (.cells #[.int .u8 kd, .int .u8 fr, .int .u8 up] 5) = V := ⟨_, rfl⟩
    have HX0 : V.heap[y2.heap.size]? = some (.cells #[.int .u8 kd, .int .u8 fr, .int .u8 up] 5) := by rw [← hV]; show (y2.heap.push _)[y2.heap.size]? = _; simp
    have BV : Below w1.heap.size w1 V := by rw [← hV]; exact Below.alloc D2 (Below.size D2) _
    rw [hV]
    obtain ⟨X, hX⟩ : ∃ X, y2.heap.size = X := ⟨_, rfl⟩
    have HX : Hid (V.heap[X]? = some (.cells #[.int .u8 kd, .int .u8 fr, .int .u8 up] 5)) := by rw [← hX]; exact HX0
    rw [hX]
    clear HX0 hX hV
    refine hK.out _ _ ⟨⟨V, BV⟩, rfl⟩ ?_
    clear hK K
    haveI : Nonempty (Wx w1 X (.cells #[.int .u8 kd, .int .u8 fr, .int .u8 up] 5)) := ⟨⟨V, BV, HX.out⟩⟩
    refine qgb (C' := fun w' => ∃ x : Wx w1 X (.cells #[.int .u8 kd, .int .u8 fr, .int .u8 up] 5), w' = x.at') (fun w' h => by obtain ⟨x, rfl⟩ := h; exact ⟨⟨x.at', x.ok⟩, rfl⟩) _ _ _ _ ?_
    have hcv : ∀ x : Wx w1 X (.cells #[.int .u8 kd, .int .u8 fr, .int .u8 up] 5), (convert 22 9 (.slice (some ⟨X, 0, none⟩) 3 3)).run Tryz.prog x.at' = .ok (.string s0) x.at' := fun x => CV.out _ _ x.blk
    obtain ⟨S, hS⟩ : ∃ S : Wx w1 X (.cells #[.int .u8 kd, .int .u8 fr, .int .u8 up] 5), S.at' = V := ⟨⟨V, BV, HX.out⟩, rfl⟩
    rw [← hS]
    clear hS BV HX
    refine qqa [10, 14, 18, 22] 40 8 ⟨S, rfl⟩ (by kernel_rfl) (fun _ _ _ _ _ h => by cases h.1) ?_
    (repeat (refine qea rfl (by first | (intro x h; cases h; done) | (intro x h; cases h; exact ⟨_, rfl⟩)) ?_; go_big_quiet_step (fail); refine wpQuiet_nil ?_)); refine qda ?_
    refine qfa (fuel := 7) (i := 25) (by kernel_rfl) rfl rfl ?_
    intro K hK
    go_wp2_with fail
    refine (V4.out _).mono ?_
    rintro e y ⟨rfl, hby⟩
    obtain ⟨S3, hS3⟩ : ∃ S' : Wx w1 X (.cells #[.int .u8 kd, .int .u8 fr, .int .u8 up] 5), S'.at' = y := ⟨S.up hby, rfl⟩
    clear hby
    subst hS3
    go_wp2
    refine hK.out _ _ ⟨S3, rfl⟩ ?_
    clear hK K
    refine qqa [26] 40 6 ⟨S3, rfl⟩ (by kernel_rfl) (fun _ _ _ _ _ h => by cases h.1) ?_
    (repeat (refine qea rfl (by first | (intro x h; cases h; done) | (intro x h; cases h; exact ⟨_, rfl⟩)) ?_; go_big_quiet_step (fail); refine wpQuiet_nil ?_)); refine qda ?_
    refine qfa (fuel := 5) (i := 29) (by kernel_rfl) rfl rfl ?_
    intro K hK
    go_wp2_with fail
    refine (F1.out _).mono ?_
    rintro e y ⟨rfl, hby⟩
    obtain ⟨S4, hS4⟩ : ∃ S' : Wx w1 X (.cells #[.int .u8 kd, .int .u8 fr, .int .u8 up] 5), S'.at' = y := ⟨S3.up hby, rfl⟩
    clear hby
    subst hS4
    go_wp2
    refine hK.out _ _ ⟨S4, rfl⟩ ?_
    clear hK K
    refine qqa [30] 40 4 ⟨S4, rfl⟩ (by kernel_rfl) (fun _ _ _ _ _ h => by cases h.1) ?_
    (repeat (refine qea rfl (by first | (intro x h; cases h; done) | (intro x h; cases h; exact ⟨_, rfl⟩)) ?_; go_big_quiet_step (fail); refine wpQuiet_nil ?_)); refine qda ?_
    refine qfa (fuel := 3) (i := 33) (by kernel_rfl) rfl rfl ?_
    intro K hK
    go_wp2_with fail
    refine (F2.out _).mono ?_
    rintro e y ⟨rfl, hby⟩
    obtain ⟨S5, hS5⟩ : ∃ S' : Wx w1 X (.cells #[.int .u8 kd, .int .u8 fr, .int .u8 up] 5), S'.at' = y := ⟨S4.up hby, rfl⟩
    clear hby
    subst hS5
    go_wp2
    refine hK.out _ _ ⟨S5, rfl⟩ ?_
    clear hK K
    refine qqa [34] 40 2 ⟨S5, rfl⟩ (by kernel_rfl) (fun _ _ _ _ _ h => by cases h.1) ?_
    (repeat (refine qea rfl (by first | (intro x h; cases h; done) | (intro x h; cases h; exact ⟨_, rfl⟩)) ?_; go_big_quiet_step (fail); refine wpQuiet_nil ?_)); refine qda ?_
    refine qfa (fuel := 1) (i := 38) (by kernel_rfl) rfl rfl ?_
    intro K hK
    go_wp2_with fail
    refine (V5.out _).mono ?_
    rintro e y ⟨rfl, hby⟩
    obtain ⟨S6, hS6⟩ : ∃ S' : Wx w1 X (.cells #[.int .u8 kd, .int .u8 fr, .int .u8 up] 5), S'.at' = y := ⟨S5.up hby, rfl⟩
    clear hby
    subst hS6
    go_wp2
    refine hK.out _ _ ⟨S6, rfl⟩ ?_
    clear hK K
    refine qqa [39] 40 0 ⟨S6, rfl⟩ (by kernel_rfl) (fun _ _ _ _ _ h => by cases h.1) ?_
    (repeat (refine qea rfl (by first | (intro x h; cases h; done) | (intro x h; cases h; exact ⟨_, rfl⟩)) ?_; go_big_quiet_step (fail); refine wpQuiet_nil ?_)); refine qda ?_
    refine qoa (by kernel_rfl) ?_
    go_wp2
    first | exact S6.ok | exact ⟨rfl, X, rfl, S6.ok⟩
  intro K hK
  go_wp2_with fail
  refine (V4.out _).mono ?_
  rintro e y3 ⟨rfl, hby⟩
  have D3 : Below w1.heap.size w1 y3 := Below.on D2 hby
  clear hby
  go_wp2
  refine hK.out _ _ ⟨⟨y3, D3⟩, rfl⟩ ?_
  clear hK K
  refine pk_two (fuel := 11) (i := 9) (j := 29) (by kernel_rfl) rfl rfl rfl rfl ?_ ?_
  · skip
    intro K hK
    go_wp2
    obtain ⟨V, hV⟩ : ∃ V, y3.alloc (.cells #[.int .u8 kd, .int .u8 fr, .int .u8 up] 5) = V := ⟨_, rfl⟩
    have HX0 : V.heap[y3.heap.size]? = some (.cells #[.int .u8 kd, .int .u8 fr, .int .u8 up] 5) := by rw [← hV]; show (y3.heap.push _)[y3.heap.size]? = _; simp
    have BV : Below w1.heap.size w1 V := by rw [← hV]; exact Below.alloc D3 (Below.size D3) _
    rw [hV]
    obtain ⟨X, hX⟩ : ∃ X, y3.heap.size = X := ⟨_, rfl⟩
    have HX : Hid (V.heap[X]? = some (.cells #[.int .u8 kd, .int .u8 fr, .int .u8 up] 5)) := by rw [← hX]; exact HX0
    rw [hX]
    clear HX0 hX hV
    refine hK.out _ _ ⟨⟨V, BV⟩, rfl⟩ ?_
    clear hK K
    haveI : Nonempty (Wx w1 X (.cells #[.int .u8 kd, .int .u8 fr, .int .u8 up] 5)) := ⟨⟨V, BV, HX.out⟩⟩
    refine qgb (C' := fun w' => ∃ x : Wx w1 X (.cells #[.int .u8 kd, .int .u8 fr, .int .u8 up] 5), w' = x.at') (fun w' h => by obtain ⟨x, rfl⟩ := h; exact ⟨⟨x.at', x.ok⟩, rfl⟩) _ _ _ _ ?_
    have hcv : ∀ x : Wx w1 X (.cells #[.int .u8 kd, .int .u8 fr, .int .u8 up] 5), (convert 22 9 (.slice (some ⟨X, 0, none⟩) 3 3)).run Tryz.prog x.at' = .ok (.string s0) x.at' := fun x => CV.out _ _ x.blk
    obtain ⟨S, hS⟩ : ∃ S : Wx w1 X (.cells #[.int .u8 kd, .int .u8 fr, .int .u8 up] 5), S.at' = V := ⟨⟨V, BV, HX.out⟩, rfl⟩
    rw [← hS]
    clear hS BV HX
    refine qqa [10, 14, 18, 22, 26] 40 6 ⟨S, rfl⟩ (by kernel_rfl) (fun _ _ _ _ _ h => by cases h.1) ?_
    (repeat (refine qea rfl (by first | (intro x h; cases h; done) | (intro x h; cases h; exact ⟨_, rfl⟩)) ?_; go_big_quiet_step (fail); refine wpQuiet_nil ?_)); refine qda ?_
    refine qfa (fuel := 5) (i := 29) (by kernel_rfl) rfl rfl ?_
    intro K hK
    go_wp2_with fail
    refine (F1.out _).mono ?_
    rintro e y ⟨rfl, hby⟩
    obtain ⟨S4, hS4⟩ : ∃ S' : Wx w1 X (.cells #[.int .u8 kd, .int .u8 fr, .int .u8 up] 5), S'.at' = y := ⟨S.up hby, rfl⟩
    clear hby
    subst hS4
    go_wp2
    refine hK.out _ _ ⟨S4, rfl⟩ ?_
    clear hK K
    refine qqa [30] 40 4 ⟨S4, rfl⟩ (by kernel_rfl) (fun _ _ _ _ _ h => by cases h.1) ?_
    (repeat (refine qea rfl (by first | (intro x h; cases h; done) | (intro x h; cases h; exact ⟨_, rfl⟩)) ?_; go_big_quiet_step (fail); refine wpQuiet_nil ?_)); refine qda ?_
    refine qfa (fuel := 3) (i := 33) (by kernel_rfl) rfl rfl ?_
    intro K hK
    go_wp2_with fail
    refine (F2.out _).mono ?_
    rintro e y ⟨rfl, hby⟩
    obtain ⟨S5, hS5⟩ : ∃ S' : Wx w1 X (.cells #[.int .u8 kd, .int .u8 fr, .int .u8 up] 5), S'.at' = y := ⟨S4.up hby, rfl⟩
    clear hby
    subst hS5
    go_wp2
    refine hK.out _ _ ⟨S5, rfl⟩ ?_
    clear hK K
    refine qqa [34] 40 2 ⟨S5, rfl⟩ (by kernel_rfl) (fun _ _ _ _ _ h => by cases h.1) ?_
    (repeat (refine qea rfl (by first | (intro x h; cases h; done) | (intro x h; cases h; exact ⟨_, rfl⟩)) ?_; go_big_quiet_step (fail); refine wpQuiet_nil ?_)); refine qda ?_
    refine qfa (fuel := 1) (i := 38) (by kernel_rfl) rfl rfl ?_
    intro K hK
    go_wp2_with fail
    refine (V5.out _).mono ?_
    rintro e y ⟨rfl, hby⟩
    obtain ⟨S6, hS6⟩ : ∃ S' : Wx w1 X (.cells #[.int .u8 kd, .int .u8 fr, .int .u8 up] 5), S'.at' = y := ⟨S5.up hby, rfl⟩
    clear hby
    subst hS6
    go_wp2
    refine hK.out _ _ ⟨S6, rfl⟩ ?_
    clear hK K
    refine qqa [39] 40 0 ⟨S6, rfl⟩ (by kernel_rfl) (fun _ _ _ _ _ h => by cases h.1) ?_
    (repeat (refine qea rfl (by first | (intro x h; cases h; done) | (intro x h; cases h; exact ⟨_, rfl⟩)) ?_; go_big_quiet_step (fail); refine wpQuiet_nil ?_)); refine qda ?_
    refine qoa (by kernel_rfl) ?_
    go_wp2
    first | exact S6.ok | exact ⟨rfl, X, rfl, S6.ok⟩
  intro K hK
  go_wp2_with fail
  refine (F1.out _).mono ?_
  rintro e y4 ⟨rfl, hby⟩
  have D4 : Below w1.heap.size w1 y4 := Below.on D3 hby
  clear hby
  go_wp2
  refine hK.out _ _ ⟨⟨y4, D4⟩, rfl⟩ ?_
  clear hK K
  refine pk_two (fuel := 10) (i := 9) (j := 33) (by kernel_rfl) rfl rfl rfl rfl ?_ ?_
  · skip
    intro K hK
    go_wp2
    obtain ⟨V, hV⟩ : ∃ V, y4.alloc (.cells #[.int .u8 kd, .int .u8 fr, .int .u8 up] 5) = V := ⟨_, rfl⟩
    have HX0 : V.heap[y4.heap.size]? = some (.cells #[.int .u8 kd, .int .u8 fr, .int .u8 up] 5) := by rw [← hV]; show (y4.heap.push _)[y4.heap.size]? = _; simp
    have BV : Below w1.heap.size w1 V := by rw [← hV]; exact Below.alloc D4 (Below.size D4) _
    rw [hV]
    obtain ⟨X, hX⟩ : ∃ X, y4.heap.size = X := ⟨_, rfl⟩
    have HX : Hid (V.heap[X]? = some (.cells #[.int .u8 kd, .int .u8 fr, .int .u8 up] 5)) := by rw [← hX]; exact HX0
    rw [hX]
    clear HX0 hX hV
    refine hK.out _ _ ⟨⟨V, BV⟩, rfl⟩ ?_
    clear hK K
    haveI : Nonempty (Wx w1 X (.cells #[.int .u8 kd, .int .u8 fr, .int .u8 up] 5)) := ⟨⟨V, BV, HX.out⟩⟩
    refine qgb (C' := fun w' => ∃ x : Wx w1 X (.cells #[.int .u8 kd, .int .u8 fr, .int .u8 up] 5), w' = x.at') (fun w' h => by obtain ⟨x, rfl⟩ := h; exact ⟨⟨x.at', x.ok⟩, rfl⟩) _ _ _ _ ?_
    have hcv : ∀ x : Wx w1 X (.cells #[.int .u8 kd, .int .u8 fr, .int .u8 up] 5), (convert 22 9 (.slice (some ⟨X, 0, none⟩) 3 3)).run Tryz.prog x.at' = .ok (.string s0) x.at' := fun x => CV.out _ _ x.blk
    obtain ⟨S, hS⟩ : ∃ S : Wx w1 X (.cells #[.int .u8 kd, .int .u8 fr, .int .u8 up] 5), S.at' = V := ⟨⟨V, BV, HX.out⟩, rfl⟩
    rw [← hS]
    clear hS BV HX
    refine qqa [10, 14, 18, 22, 26, 30] 40 4 ⟨S, rfl⟩ (by kernel_rfl) (fun _ _ _ _ _ h => by cases h.1) ?_
    (repeat (refine qea rfl (by first | (intro x h; cases h; done) | (intro x h; cases h; exact ⟨_, rfl⟩)) ?_; go_big_quiet_step (fail); refine wpQuiet_nil ?_)); refine qda ?_
    refine qfa (fuel := 3) (i := 33) (by kernel_rfl) rfl rfl ?_
    intro K hK
    go_wp2_with fail
    refine (F2.out _).mono ?_
    rintro e y ⟨rfl, hby⟩
    obtain ⟨S5, hS5⟩ : ∃ S' : Wx w1 X (.cells #[.int .u8 kd, .int .u8 fr, .int .u8 up] 5), S'.at' = y := ⟨S.up hby, rfl⟩
    clear hby
    subst hS5
    go_wp2
    refine hK.out _ _ ⟨S5, rfl⟩ ?_
    clear hK K
    refine qqa [34] 40 2 ⟨S5, rfl⟩ (by kernel_rfl) (fun _ _ _ _ _ h => by cases h.1) ?_
    (repeat (refine qea rfl (by first | (intro x h; cases h; done) | (intro x h; cases h; exact ⟨_, rfl⟩)) ?_; go_big_quiet_step (fail); refine wpQuiet_nil ?_)); refine qda ?_
    refine qfa (fuel := 1) (i := 38) (by kernel_rfl) rfl rfl ?_
    intro K hK
    go_wp2_with fail
    refine (V5.out _).mono ?_
    rintro e y ⟨rfl, hby⟩
    obtain ⟨S6, hS6⟩ : ∃ S' : Wx w1 X (.cells #[.int .u8 kd, .int .u8 fr, .int .u8 up] 5), S'.at' = y := ⟨S5.up hby, rfl⟩
    clear hby
    subst hS6
    go_wp2
    refine hK.out _ _ ⟨S6, rfl⟩ ?_
    clear hK K
    refine qqa [39] 40 0 ⟨S6, rfl⟩ (by kernel_rfl) (fun _ _ _ _ _ h => by cases h.1) ?_
    (repeat (refine qea rfl (by first | (intro x h; cases h; done) | (intro x h; cases h; exact ⟨_, rfl⟩)) ?_; go_big_quiet_step (fail); refine wpQuiet_nil ?_)); refine qda ?_
    refine qoa (by kernel_rfl) ?_
    go_wp2
    first | exact S6.ok | exact ⟨rfl, X, rfl, S6.ok⟩
  intro K hK
  go_wp2_with fail
  refine (F2.out _).mono ?_
  rintro e y5 ⟨rfl, hby⟩
  have D5 : Below w1.heap.size w1 y5 := Below.on D4 hby
  clear hby
  go_wp2
  refine hK.out _ _ ⟨⟨y5, D5⟩, rfl⟩ ?_
  clear hK K
  refine pk_two (fuel := 9) (i := 9) (j := 38) (by kernel_rfl) rfl rfl rfl rfl ?_ ?_
  · skip
    intro K hK
    go_wp2
    obtain ⟨V, hV⟩ : ∃ V, y5.alloc (.cells #[.int .u8 kd, .int .u8 fr, .int .u8 up] 5) = V := ⟨_, rfl⟩
    have HX0 : V.heap[y5.heap.size]? = some (.cells #[.int .u8 kd, .int .u8 fr, .int .u8 up] 5) := by rw [← hV]; show (y5.heap.push _)[y5.heap.size]? = _; simp
    have BV : Below w1.heap.size w1 V := by rw [← hV]; exact Below.alloc D5 (Below.size D5) _
    rw [hV]
    obtain ⟨X, hX⟩ : ∃ X, y5.heap.size = X := ⟨_, rfl⟩
    have HX : Hid (V.heap[X]? = some (.cells #[.int .u8 kd, .int .u8 fr, .int .u8 up] 5)) := by rw [← hX]; exact HX0
    rw [hX]
    clear HX0 hX hV
    refine hK.out _ _ ⟨⟨V, BV⟩, rfl⟩ ?_
    clear hK K
    haveI : Nonempty (Wx w1 X (.cells #[.int .u8 kd, .int .u8 fr, .int .u8 up] 5)) := ⟨⟨V, BV, HX.out⟩⟩
    refine qgb (C' := fun w' => ∃ x : Wx w1 X (.cells #[.int .u8 kd, .int .u8 fr, .int .u8 up] 5), w' = x.at') (fun w' h => by obtain ⟨x, rfl⟩ := h; exact ⟨⟨x.at', x.ok⟩, rfl⟩) _ _ _ _ ?_
    have hcv : ∀ x : Wx w1 X (.cells #[.int .u8 kd, .int .u8 fr, .int .u8 up] 5), (convert 22 9 (.slice (some ⟨X, 0, none⟩) 3 3)).run Tryz.prog x.at' = .ok (.string s0) x.at' := fun x => CV.out _ _ x.blk
    obtain ⟨S, hS⟩ : ∃ S : Wx w1 X (.cells #[.int .u8 kd, .int .u8 fr, .int .u8 up] 5), S.at' = V := ⟨⟨V, BV, HX.out⟩, rfl⟩
    rw [← hS]
    clear hS BV HX
    refine qqa [10, 14, 18, 22, 26, 30, 34] 40 2 ⟨S, rfl⟩ (by kernel_rfl) (fun _ _ _ _ _ h => by cases h.1) ?_
    (repeat (refine qea rfl (by first | (intro x h; cases h; done) | (intro x h; cases h; exact ⟨_, rfl⟩)) ?_; go_big_quiet_step (fail); refine wpQuiet_nil ?_)); refine qda ?_
    refine qfa (fuel := 1) (i := 38) (by kernel_rfl) rfl rfl ?_
    intro K hK
    go_wp2_with fail
    refine (V5.out _).mono ?_
    rintro e y ⟨rfl, hby⟩
    obtain ⟨S6, hS6⟩ : ∃ S' : Wx w1 X (.cells #[.int .u8 kd, .int .u8 fr, .int .u8 up] 5), S'.at' = y := ⟨S.up hby, rfl⟩
    clear hby
    subst hS6
    go_wp2
    refine hK.out _ _ ⟨S6, rfl⟩ ?_
    clear hK K
    refine qqa [39] 40 0 ⟨S6, rfl⟩ (by kernel_rfl) (fun _ _ _ _ _ h => by cases h.1) ?_
    (repeat (refine qea rfl (by first | (intro x h; cases h; done) | (intro x h; cases h; exact ⟨_, rfl⟩)) ?_; go_big_quiet_step (fail); refine wpQuiet_nil ?_)); refine qda ?_
    refine qoa (by kernel_rfl) ?_
    go_wp2
    first | exact S6.ok | exact ⟨rfl, X, rfl, S6.ok⟩
  intro K hK
  go_wp2_with fail
  refine (V5.out _).mono ?_
  rintro e y6 ⟨rfl, hby⟩
  have D6 : Below w1.heap.size w1 y6 := Below.on D5 hby
  clear hby
  go_wp2
  refine hK.out _ _ ⟨⟨y6, D6⟩, rfl⟩ ?_
  clear hK K
  refine qfa (fuel := 8) (i := 9) (by kernel_rfl) rfl rfl ?_
  intro K hK
  go_wp2
  obtain ⟨V, hV⟩ : ∃ V, y6.alloc (.cells #[.int .u8 kd, .int .u8 fr, .int .u8 up] 5) = V := ⟨_, rfl⟩
  have HX0 : V.heap[y6.heap.size]? = some (.cells #[.int .u8 kd, .int .u8 fr, .int .u8 up] 5) := by rw [← hV]; show (y6.heap.push _)[y6.heap.size]? = _; simp
  have BV : Below w1.heap.size w1 V := by rw [← hV]; exact Below.alloc D6 (Below.size D6) _
  rw [hV]
  obtain ⟨X, hX⟩ : ∃ X, y6.heap.size = X := ⟨_, rfl⟩
  have HX : Hid (V.heap[X]? = some (.cells #[.int .u8 kd, .int .u8 fr, .int .u8 up] 5)) := by rw [← hX]; exact HX0
  rw [hX]
  clear HX0 hX hV
  refine hK.out _ _ ⟨⟨V, BV⟩, rfl⟩ ?_
  clear hK K
  haveI : Nonempty (Wx w1 X (.cells #[.int .u8 kd, .int .u8 fr, .int .u8 up] 5)) := ⟨⟨V, BV, HX.out⟩⟩
  refine qgb (C' := fun w' => ∃ x : Wx w1 X (.cells #[.int .u8 kd, .int .u8 fr, .int .u8 up] 5), w' = x.at') (fun w' h => by obtain ⟨x, rfl⟩ := h; exact ⟨⟨x.at', x.ok⟩, rfl⟩) _ _ _ _ ?_
  have hcv : ∀ x : Wx w1 X (.cells #[.int .u8 kd, .int .u8 fr, .int .u8 up] 5), (convert 22 9 (.slice (some ⟨X, 0, none⟩) 3 3)).run Tryz.prog x.at' = .ok (.string s0) x.at' := fun x => CV.out _ _ x.blk
  obtain ⟨S, hS⟩ : ∃ S : Wx w1 X (.cells #[.int .u8 kd, .int .u8 fr, .int .u8 up] 5), S.at' = V := ⟨⟨V, BV, HX.out⟩, rfl⟩
  rw [← hS]
  clear hS BV HX
  refine qqa [10, 14, 18, 22, 26, 30, 34, 39] 40 0 ⟨S, rfl⟩ (by kernel_rfl) (fun _ _ _ _ _ h => by cases h.1) ?_
  (repeat (refine qea rfl (by first | (intro x h; cases h; done) | (intro x h; cases h; exact ⟨_, rfl⟩)) ?_; go_big_quiet_step (fail); refine wpQuiet_nil ?_)); refine qda ?_
  refine qoa (by kernel_rfl) ?_
  go_wp2
  first | exact S.ok | exact ⟨rfl, X, rfl, S.ok⟩
end Go.Proofs.YtpjpheicldegkaaGreatDoor
