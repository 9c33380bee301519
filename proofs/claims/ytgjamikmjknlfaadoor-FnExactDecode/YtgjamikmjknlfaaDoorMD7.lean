/-
  A message in bytes, as the specification writes it: the walks. A message in bytes, as the specification writes it: both cases. A message read from its bytes by the specification: the walk. Messages marked and looked at again: the walks. The law on a message that is read: the walk.
-/
import Derived.Test.YtgjamikmjknlfaaDoorMD1
import Derived.Test.YtgjamikmjknlfaaDoorEs
import Derived.Test.YtgjamikmjknlfaaDoorCt
import Derived.Test.YtgjamikmjknlfaaDoorMD3
import Derived.Test.YtgjamikmjknlfaaDoorMD6
import Derived.Test.YtgjamikmjknlfaaDoorMD4
import Derived.Test.YtgjamikmjknlfaaDoorMD5
import Derived.Test.YtgjamikmjknlfaaDoorAr
import Derived.Test.YtgjamikmjknlfaaDoorMgh
import Derived.Test.YtgjamikmjknlfaaDoorLg
import Derived.Test.YtgjamikmjknlfaaDoorRi
namespace Go.Proofs.YtgjamikmjknlfaaDoor
open Go Go.RowKit

theorem conv3_at {w : World} {X : Nat} {x y z : Int} (h : w.heap[X]? = some (.cells #[.int .u8 x, .int .u8 y, .int .u8 z] 5)) : (convert 42 9 (.slice (some ⟨X, 0, none⟩) 3 3)).run Tryd.prog w = .ok (.string (bstr [x, y, z])) w :=
  run_own_string (P := Tryd.prog) (B := 0) (e := 5) 42 9 (show ownsB w 0 5 (.slice (some ⟨X, 0, none⟩) 3 3) [x, y, z] from
    ⟨rfl, .inr ⟨X, 3, #[.int .u8 x, .int .u8 y, .int .u8 z], rfl, Nat.zero_le _, h, Nat.le_refl _, by unfold maxLen; omega, rfl, rfl⟩⟩) Tryd.underlying42 Tryd.underlying5 Tryd.underlying9

theorem l05ShortM_any (s : ByteArray) (w : World) (hs : s.size ≤ 1048576) :
    Calls Tryd.prog 20 #[.string s] w fun e w' => e = .returned (.string (shortS s)) ∧ Below w.heap.size w w' := by
  have hadd : ∀ wx, (Op.stringOp .add (bstr (varI s.size)) s).run Tryd.prog wx = .ok (.string (shortS s)) wx := fun wx => run_string_add_sum wx _ s (by
    have hl := var_size s.size
    omega)
  go_enter Tryd.func20, Tryd.ntmps20
  go_wp2_with (go_at_call 17; refine (l01Var_any _ _ (by omega)).mono ?_; rintro e w1 ⟨rfl, hb1⟩)
  go_ret
  exact ⟨rfl, hb1⟩

set_option maxRecDepth 10000 in
set_option maxHeartbeats 20000000 in
theorem specEncode_go (kd fr up tm ix lt cm : Int) (ok : Bool) (da : ByteArray) (la : Bool) (ao bo : Option Addr) (n cap m cbp : Nat) (es : List En) (tc : ByteArray) (qc : Bool) (s0 v1 v2 v3 v4 f1 f2 v5 s1 s2 s3 s4 s5 s6 s7 : ByteArray) (w : World)
    (HE : Hid (Reads w (.slice ao n cap) es)) (HZ : Hid (SizedE es)) (Hn : Hid (n ≤ 4)) (H7 : Hid (s7.size ≤ 10000000000)) (Htc : Hid (tc.size ≤ 4)) (Hda : Hid (da.size ≤ 60)) (HCT : Hid (∀ W, Below w.heap.size w W → Calls Tryd.prog 21 #[.slice bo m cbp] W fun e w' => e = .returned (.tuple #[.string tc, .bool qc]) ∧ Below W.heap.size W w'))
    (hq : Hid (∀ W, Below w.heap.size w W → Calls Tryd.prog 16 #[.agg #[.int .i64 kd, .int .i64 fr, .int .i64 up, .int .i64 tm, .int .i64 ix, .int .i64 lt, .int .i64 cm, .bool ok, (.slice ao n cap), (.slice bo m cbp), .string da, .bool la]] W fun e w' => e = .returned (.bool true) ∧ Below W.heap.size W w')) (hu0 : IntKind.u8.wrap kd = kd) (hu1 : IntKind.u8.wrap fr = fr) (hu2 : IntKind.u8.wrap up = up)
    (V1 : Hid (∀ W, Calls Tryd.prog 17 #[.int .i64 tm] W fun e w' => e = .returned (.string v1) ∧ Below W.heap.size W w'))
    (V2 : Hid (∀ W, Calls Tryd.prog 17 #[.int .i64 ix] W fun e w' => e = .returned (.string v2) ∧ Below W.heap.size W w'))
    (V3 : Hid (∀ W, Calls Tryd.prog 17 #[.int .i64 lt] W fun e w' => e = .returned (.string v3) ∧ Below W.heap.size W w'))
    (V4 : Hid (∀ W, Calls Tryd.prog 17 #[.int .i64 cm] W fun e w' => e = .returned (.string v4) ∧ Below W.heap.size W w'))
    (V5 : Hid (∀ W, Calls Tryd.prog 17 #[.int .i64 (n : Int)] W fun e w' => e = .returned (.string v5) ∧ Below W.heap.size W w'))
    (F1 : Hid (∀ W, Calls Tryd.prog 18 #[.bool ok] W fun e w' => e = .returned (.string f1) ∧ Below W.heap.size W w'))
    (F2 : Hid (∀ W, Calls Tryd.prog 18 #[.bool la] W fun e w' => e = .returned (.string f2) ∧ Below W.heap.size W w'))
    (CV : Hid (∀ (w : World) (X : Nat), w.heap[X]? = some (.cells #[.int .u8 kd, .int .u8 fr, .int .u8 up] 5) → (convert 42 9 (.slice (some ⟨X, 0, none⟩) 3 3)).run Tryd.prog w = .ok (.string s0) w))
    (a1 : ∀ wx, (Op.stringOp .add s0 v1).run Tryd.prog wx = .ok (.string s1) wx) (a2 : ∀ wx, (Op.stringOp .add s1 v2).run Tryd.prog wx = .ok (.string s2) wx) (a3 : ∀ wx, (Op.stringOp .add s2 v3).run Tryd.prog wx = .ok (.string s3) wx) (a4 : ∀ wx, (Op.stringOp .add s3 v4).run Tryd.prog wx = .ok (.string s4) wx) (a5 : ∀ wx, (Op.stringOp .add s4 f1).run Tryd.prog wx = .ok (.string s5) wx) (a6 : ∀ wx, (Op.stringOp .add s5 f2).run Tryd.prog wx = .ok (.string s6) wx) (a7 : ∀ wx, (Op.stringOp .add s6 v5).run Tryd.prog wx = .ok (.string s7) wx) :
    Calls Tryd.prog 6 #[.agg #[.int .i64 kd, .int .i64 fr, .int .i64 up, .int .i64 tm, .int .i64 ix, .int .i64 lt, .int .i64 cm, .bool ok, (.slice ao n cap), (.slice bo m cbp), .string da, .bool la]] w fun e w' => e = .returned (.tuple #[.string (s7 ++ shoS (es.map tx8) ++ shortS tc ++ shortS da), .bool true]) ∧ Below w.heap.size w w' := by
  go_enter Tryd.func6, Tryd.ntmps6
  go_wp2_with (go_at_call 16; refine (hq.out _ (ba (Below.refl _ _) _)).mono ?_; rintro e w1 ⟨rfl, hb1⟩)
  have B1 := below_new hb1
  have K1 := (Kc12.new 31 w (.int .i64 kd) (.int .i64 fr) (.int .i64 up) (.int .i64 tm) (.int .i64 ix) (.int .i64 lt) (.int .i64 cm) (.bool ok) (.slice ao n cap) (.slice bo m cbp) (.string da) (.bool la)).up hb1
  have hlt : w.heap.size < w1.heap.size := K1.lt
  clear hb1
  have k0 := Wd.cell K1.c0
  have k1 := Wd.cell K1.c1
  have k2 := Wd.cell K1.c2
  have k3 := Wd.cell K1.c3
  have k4 := Wd.cell K1.c4
  have k5 := Wd.cell K1.c5
  have k6 := Wd.cell K1.c6
  have k7 := Wd.cell K1.c7
  have k8 := Wd.cell K1.c8
  have k9 := Wd.cell K1.c9
  have k10 := Wd.cell K1.c10
  have k11 := Wd.cell K1.c11
  refine Code.wp_mono (Q := fun e a' w' => e = .normal ∧ ∃ X : Nat, a' = (⟨#[.agg #[.int .i64 kd, .int .i64 fr, .int .i64 up, .int .i64 tm, .int .i64 ix, .int .i64 lt, .int .i64 cm, .bool ok, (.slice ao n cap), (.slice bo m cbp), .string da, .bool la], .pointer (some ⟨w.heap.size, 0, none⟩), .string { data := #[] }, .bool false, .string s7, undef, undef, undef, undef, undef, .agg #[.int .i64 kd, .int .i64 fr, .int .i64 up, .int .i64 tm, .int .i64 ix, .int .i64 lt, .int .i64 cm, .bool ok, (.slice ao n cap), (.slice bo m cbp), .string da, .bool la], .bool true, .bool false, .pointer (some ⟨w.heap.size, 0, none⟩), .int .i64 kd, .int .u8 kd, .pointer (some ⟨w.heap.size, 1, none⟩), .int .i64 fr, .int .u8 fr, .pointer (some ⟨w.heap.size, 2, none⟩), .int .i64 up, .int .u8 up, .slice (some ⟨X, 0, none⟩) 3 3, .string s0, .pointer (some ⟨w.heap.size, 3, none⟩), .int .i64 tm, .string v1, .string s1, .pointer (some ⟨w.heap.size, 4, none⟩), .int .i64 ix, .string v2, .string s2, .pointer (some ⟨w.heap.size, 5, none⟩), .int .i64 lt, .string v3, .string s3, .pointer (some ⟨w.heap.size, 6, none⟩), .int .i64 cm, .string v4, .string s4, .pointer (some ⟨w.heap.size, 7, none⟩), .bool ok, .string f1, .string s5, .pointer (some ⟨w.heap.size, 11, none⟩), .bool la, .string f2, .string s6, .pointer (some ⟨w.heap.size, 8, none⟩), .slice ao n cap, .int .i64 (n : Int), .string v5, .string s7, undef, undef, undef, undef, undef, undef, undef, undef, undef, undef, undef, undef, undef, undef, undef, undef, undef, undef, undef, undef, undef, undef, undef, undef, undef, undef, undef, undef, undef, undef, undef, undef, undef, undef], []⟩ : Act) ∧ Below w1.heap.size w1 w') ?_ ?_
  · rintro e a' w' ⟨rfl, X, rfl, hbx⟩
    have k9' := k9
    clear k0 k1 k2 k3 k4 k5 k6 k7 k9 k11 a1 a2 a3 a4 a5 a6 a7 V1 V2 V3 V4 V5 F1 F2 CV hu0 hu1 hu2 hq K1
    have hn4 : n ≤ 4 := Hn.out
    go_wp2
    go_loopw [4, 5] (fun x i wr => ∃ k : Nat, k ≤ n ∧ i = .int .i64 k ∧ x = .string (s7 ++ shoS ((es.map tx8).take k)) ∧ Hid (Below w1.heap.size w1 wr)) (fun _ i _ => n - (intOf i).toNat)
    case atStart => exact ⟨0, Nat.zero_le _, rfl, by simp [shoS], hbx⟩
    case round =>
      obtain ⟨k, hk, rfl, rfl, HB⟩ := hrel
      have c8 : wr.cell? ⟨w.heap.size, 8, none⟩ = some (.slice ao n cap) := k8 ⟨wr, HB.out⟩
      have c9 : wr.cell? ⟨w.heap.size, 9, none⟩ = some (.slice bo m cbp) := k9' ⟨wr, HB.out⟩
      have HLE : Hid (es.length = n) := HE.out.len.symm
      have HBW : Hid (Below w.heap.size w wr) := B1.trans (HB.out.mono B1.size)
      by_cases hlt : k < n
      · obtain ⟨f, hf⟩ : ∃ f, es[k]? = some f := ⟨_, List.getElem?_eq_getElem (by rw [HLE.out]; exact hlt)⟩
        have HM : Hid (f.data.size ≤ maxLen) := by have := HZ.out f (List.mem_of_getElem? hf); show _ ≤ maxLen; unfold maxLen; omega
        obtain ⟨g, o, rfl, hg, e0, e1, e2⟩ := en_at (HE.out.below HBW.out) hf
        have hfm : (es.map tx8)[k]? = some (tx8 f) := by rw [List.getElem?_map, hf]; rfl
        have HT : Hid (shoS ((es.map tx8).take (k + 1)) = shoS ((es.map tx8).take k) ++ shortS (tx8 f)) := shoS_take hfm
        have HSZ : Hid ((s7 ++ shoS ((es.map tx8).take k)).size ≤ 20000000000 ∧ (tx8 f).size ≤ 20000) := by
          have h1 := shoS_size ((es.map tx8).take k) fun x hx => by
            obtain ⟨y, hy, rfl⟩ := List.mem_map.1 (List.mem_of_mem_take hx)
            have := tx8_size y (HZ.out y hy); omega
          have h2 : ((es.map tx8).take k).length ≤ 4 := by have := Hn.out; rw [List.length_take]; omega
          have h3 := tx8_size f (HZ.out f (List.mem_of_getElem? hf))
          have h4 := H7.out
          refine ⟨?_, by omega⟩
          rw [ByteArray.size_append]
          omega
        have HET : Hid (∀ W, Calls Tryd.prog 19 #[.int .i64 1, .agg #[.int .i64 f.term, .int .i64 f.kind, .string f.data]] W fun e w' => e = .returned (.tuple #[.string (tx8 f), .bool (okX 1 f.term f.kind f.data)]) ∧ Below W.heap.size W w') := fun W => specEntryText_any 1 f.term f.kind f.data W HM.out
        obtain ⟨T, HTT⟩ : ∃ T : ByteArray, Hid (tx8 f = T) := ⟨_, rfl⟩
        obtain ⟨q, HQ⟩ : ∃ q, Hid (okX 1 f.term f.kind f.data = q) := ⟨_, rfl⟩
        rw [HTT.out, HQ.out] at HET
        rw [HTT.out] at HT HSZ
        have HSH : Hid (∀ W, Calls Tryd.prog 20 #[.string T] W fun e w' => e = .returned (.string (shortS T)) ∧ Below W.heap.size W w') := fun W => l05ShortM_any T W (by have := HSZ.out; omega)
        have hadd : ∀ wx, (Op.stringOp .add (s7 ++ shoS ((es.map tx8).take k)) (shortS T)).run Tryd.prog wx = .ok (.string (s7 ++ shoS ((es.map tx8).take (k + 1)))) wx := fun wx => by
          rw [HT.out, ← ByteArray.append_assoc]
          exact run_string_add_sum wx _ _ (by have h1 := HSZ.out; have h2 := short_size' T; omega)
        clear hf hfm HT
        go_wp2_with fail
        refine (HET.out _).mono ?_
        rintro e w3 ⟨rfl, hb3⟩
        have HB3 : Hid (Below w1.heap.size w1 w3) := Below.on HB.out hb3
        clear e0 e1 e2 c8 c9 hb3 HB HBW HET
        go_wp2_with fail
        refine (HSH.out _).mono ?_
        rintro e w4 ⟨rfl, hb4⟩
        have HB4 : Hid (Below w1.heap.size w1 w4) := Below.on HB3.out hb4
        clear hb4 HB3 HSH
        go_wp2
        go_roundw
        case rel => exact ⟨k + 1, by omega, by go_num, rfl, HB4⟩
        case measure => simp [intOf]; omega
      · have hkn : k = n := by omega
        subst hkn
        have he : (es.map tx8).take k = es.map tx8 := List.take_of_length_le (by rw [List.length_map, HLE.out]; omega)
        rw [he]
        have HSZ : Hid ((s7 ++ shoS (es.map tx8)).size ≤ 20000000000) := by
          have h1 := shoS_size (es.map tx8) fun x hx => by
            obtain ⟨y, hy, rfl⟩ := List.mem_map.1 hx
            have := tx8_size y (HZ.out y hy); omega
          have h2 : (es.map tx8).length ≤ 4 := by have := Hn.out; rw [List.length_map, HLE.out]; omega
          have h4 := H7.out
          show _ ≤ _
          rw [ByteArray.size_append]
          omega
        obtain ⟨P0, HP0⟩ : ∃ P, Hid (s7 ++ shoS (es.map tx8) = P) := ⟨_, rfl⟩
        rw [HP0.out] at HSZ ⊢
        obtain ⟨P1, HP1⟩ : ∃ P, Hid (P0 ++ shortS tc = P) := ⟨_, rfl⟩
        have hadd1 : ∀ wx, (Op.stringOp .add P0 (shortS tc)).run Tryd.prog wx = .ok (.string P1) wx := fun wx => by
          rw [← HP1.out]
          exact run_string_add_sum wx _ _ (by have h1 := HSZ.out; have h2 := short_size' tc; have h3 := Htc.out; omega)
        have HSZ1 : Hid (P1.size ≤ 30000000000) := by
          have h1 := HSZ.out; have h2 := short_size' tc; have h3 := Htc.out
          show _ ≤ _
          rw [← HP1.out, ByteArray.size_append]; omega
        obtain ⟨P2, HP2⟩ : ∃ P, Hid (P1 ++ shortS da = P) := ⟨_, rfl⟩
        have hadd2 : ∀ wx, (Op.stringOp .add P1 (shortS da)).run Tryd.prog wx = .ok (.string P2) wx := fun wx => by
          rw [← HP2.out]
          exact run_string_add_sum wx _ _ (by have h1 := HSZ1.out; have h2 := short_size' da; have h3 := Hda.out; omega)
        have HRES : Hid (s7 ++ shoS (es.map tx8) ++ shortS tc ++ shortS da = P2) := by show _ = _; rw [HP0.out, HP1.out, HP2.out]
        have HS1 : Hid (∀ W, Calls Tryd.prog 20 #[.string tc] W fun e w' => e = .returned (.string (shortS tc)) ∧ Below W.heap.size W w') := fun W => l05ShortM_any tc W (by have := Htc.out; omega)
        have HS2 : Hid (∀ W, Calls Tryd.prog 20 #[.string da] W fun e w' => e = .returned (.string (shortS da)) ∧ Below W.heap.size W w') := fun W => l05ShortM_any da W (by have := Hda.out; omega)
        clear he
        go_wp2_with fail
        refine (HCT.out _ HBW.out).mono ?_
        rintro e w5 ⟨rfl, hb5⟩
        have HB5 : Hid (Below w1.heap.size w1 w5) := Below.on HB.out hb5
        have d10 : w5.cell? ⟨w.heap.size, 10, none⟩ = some (.string da) := k10 ⟨w5, HB5.out⟩
        have q10 := Wd.cell d10
        clear c8 c9 hb5 HB HBW HCT
        go_wp2
        refine wp_region_wd (by kernel_rfl) (by kernel_rfl) ?_
        repeat (go_big_quiet_step ((go_at_call 20; first | (refine calls_wd (v := .string (shortS tc)) ?_; with_reducible exact HS1.out _) | (refine calls_wd (v := .string (shortS da)) ?_; with_reducible exact HS2.out _))))
        refine wpQuiet_nil ?_
        rintro _ ⟨x1, rfl⟩
        go_wp2
        go_ret2
        exact ⟨by rw [HRES.out]; rfl, (B1.trans (HB5.out.mono B1.size)).trans (x1.ok.mono (B1.trans (HB5.out.mono B1.size)).size)⟩

  refine wp_region_pick (fun w' => ∃ x : Wd w1, w' = x.at') [0, 1, 2, 3, 4, 5, 6, 7, 8, 11, 12, 15, 16, 19, 20, 23, 24, 27, 28, 31, 32, 35, 36] 40 17 (by kernel_rfl) (by decide) (by decide) (by kernel_rfl) (fun _ _ _ _ _ h => by cases h.1) ⟨⟨w1.drew, (Below.refl _ _).drew⟩, rfl⟩ ?_
  (repeat (refine wpTakes_l rfl (by first | (intro x h; cases h; done) | (intro x h; cases h; exact ⟨_, rfl⟩)) ?_; go_big_quiet_step (fail); refine wpQuiet_nil ?_)); refine takes_nil ?_
  obtain ⟨y, hy⟩ : ∃ y, w1.drew = y := ⟨_, rfl⟩
  have D : Below w1.heap.size w1 y := by rw [← hy]; exact (Below.refl _ _).drew
  rw [hy]
  clear hy
  refine any_first (fuel := 16) 37 40 (.int .i64 (n : Int)) rfl (by kernel_rfl) (fun _ _ _ _ _ h => by cases h.1) ⟨⟨y, D⟩, rfl⟩ rfl (fun w _ => by simp [go_sem]) ?_
  dsimp only [Act.put, List.setIfInBounds_toArray, List.set_cons_zero, List.set_cons_succ]
  refine pk_two (fuel := 15) (i := 9) (j := 13) (by kernel_rfl) rfl rfl rfl rfl ?_ ?_
  · skip
    intro K hK
    go_wp2
    obtain ⟨V, hV⟩ : ∃ V, y.alloc (.cells #[.int .u8 kd, .int .u8 fr, .int .u8 up] 5) = V := ⟨_, rfl⟩
    have HX0 : V.heap[y.heap.size]? = some (.cells #[.int .u8 kd, .int .u8 fr, .int .u8 up] 5) := by rw [← hV]; show (y.heap.push _)[y.heap.size]? = _; simp
    have BV : Below w1.heap.size w1 V := by rw [← hV]; exact Below.alloc D (Below.size D) _
    rw [hV]
    obtain ⟨X, hX⟩ : ∃ X, y.heap.size = X := ⟨_, rfl⟩
    have HX : Hid (V.heap[X]? = some (.cells #[.int .u8 kd, .int .u8 fr, .int .u8 up] 5)) := by rw [← hX]; exact HX0
    rw [hX]
    clear HX0 hX hV
    refine hK.out _ _ ⟨⟨V, BV⟩, rfl⟩ ?_
    clear hK K
    haveI : Nonempty (Wx w1 X (.cells #[.int .u8 kd, .int .u8 fr, .int .u8 up] 5)) := ⟨⟨V, BV, HX.out⟩⟩
    refine wpAnyU_strong (C' := fun w' => ∃ x : Wx w1 X (.cells #[.int .u8 kd, .int .u8 fr, .int .u8 up] 5), w' = x.at') (fun w' h => by obtain ⟨x, rfl⟩ := h; exact ⟨⟨x.at', x.ok⟩, rfl⟩) _ _ _ _ ?_
    have hcv : ∀ x : Wx w1 X (.cells #[.int .u8 kd, .int .u8 fr, .int .u8 up] 5), (convert 42 9 (.slice (some ⟨X, 0, none⟩) 3 3)).run Tryd.prog x.at' = .ok (.string s0) x.at' := fun x => CV.out _ _ x.blk
    obtain ⟨S, hS⟩ : ∃ S : Wx w1 X (.cells #[.int .u8 kd, .int .u8 fr, .int .u8 up] 5), S.at' = V := ⟨⟨V, BV, HX.out⟩, rfl⟩
    rw [← hS]
    clear hS BV HX
    refine pk_takes [10] 40 14 ⟨S, rfl⟩ (by kernel_rfl) (fun _ _ _ _ _ h => by cases h.1) ?_
    (repeat (refine wpTakes_l rfl (by first | (intro x h; cases h; done) | (intro x h; cases h; exact ⟨_, rfl⟩)) ?_; go_big_quiet_step (fail); refine wpQuiet_nil ?_)); refine takes_nil ?_
    refine any_one (fuel := 13) (i := 13) (by kernel_rfl) rfl rfl ?_
    intro K hK
    go_wp2_with fail
    refine (V1.out _).mono ?_
    rintro e y ⟨rfl, hby⟩
    obtain ⟨S0, hS0⟩ : ∃ S' : Wx w1 X (.cells #[.int .u8 kd, .int .u8 fr, .int .u8 up] 5), S'.at' = y := ⟨S.up hby, rfl⟩
    clear hby
    subst hS0
    go_wp2
    refine hK.out _ _ ⟨S0, rfl⟩ ?_
    clear hK K
    refine pk_takes [14] 40 12 ⟨S0, rfl⟩ (by kernel_rfl) (fun _ _ _ _ _ h => by cases h.1) ?_
    (repeat (refine wpTakes_l rfl (by first | (intro x h; cases h; done) | (intro x h; cases h; exact ⟨_, rfl⟩)) ?_; go_big_quiet_step (fail); refine wpQuiet_nil ?_)); refine takes_nil ?_
    refine any_one (fuel := 11) (i := 17) (by kernel_rfl) rfl rfl ?_
    intro K hK
    go_wp2_with fail
    refine (V2.out _).mono ?_
    rintro e y ⟨rfl, hby⟩
    obtain ⟨S1, hS1⟩ : ∃ S' : Wx w1 X (.cells #[.int .u8 kd, .int .u8 fr, .int .u8 up] 5), S'.at' = y := ⟨S0.up hby, rfl⟩
    clear hby
    subst hS1
    go_wp2
    refine hK.out _ _ ⟨S1, rfl⟩ ?_
    clear hK K
    refine pk_takes [18] 40 10 ⟨S1, rfl⟩ (by kernel_rfl) (fun _ _ _ _ _ h => by cases h.1) ?_
    (repeat (refine wpTakes_l rfl (by first | (intro x h; cases h; done) | (intro x h; cases h; exact ⟨_, rfl⟩)) ?_; go_big_quiet_step (fail); refine wpQuiet_nil ?_)); refine takes_nil ?_
    refine any_one (fuel := 9) (i := 21) (by kernel_rfl) rfl rfl ?_
    intro K hK
    go_wp2_with fail
    refine (V3.out _).mono ?_
    rintro e y ⟨rfl, hby⟩
    obtain ⟨S2, hS2⟩ : ∃ S' : Wx w1 X (.cells #[.int .u8 kd, .int .u8 fr, .int .u8 up] 5), S'.at' = y := ⟨S1.up hby, rfl⟩
    clear hby
    subst hS2
    go_wp2
    refine hK.out _ _ ⟨S2, rfl⟩ ?_
    clear hK K
    refine pk_takes [22] 40 8 ⟨S2, rfl⟩ (by kernel_rfl) (fun _ _ _ _ _ h => by cases h.1) ?_
    (repeat (refine wpTakes_l rfl (by first | (intro x h; cases h; done) | (intro x h; cases h; exact ⟨_, rfl⟩)) ?_; go_big_quiet_step (fail); refine wpQuiet_nil ?_)); refine takes_nil ?_
    refine any_one (fuel := 7) (i := 25) (by kernel_rfl) rfl rfl ?_
    intro K hK
    go_wp2_with fail
    refine (V4.out _).mono ?_
    rintro e y ⟨rfl, hby⟩
    obtain ⟨S3, hS3⟩ : ∃ S' : Wx w1 X (.cells #[.int .u8 kd, .int .u8 fr, .int .u8 up] 5), S'.at' = y := ⟨S2.up hby, rfl⟩
    clear hby
    subst hS3
    go_wp2
    refine hK.out _ _ ⟨S3, rfl⟩ ?_
    clear hK K
    refine pk_takes [26] 40 6 ⟨S3, rfl⟩ (by kernel_rfl) (fun _ _ _ _ _ h => by cases h.1) ?_
    (repeat (refine wpTakes_l rfl (by first | (intro x h; cases h; done) | (intro x h; cases h; exact ⟨_, rfl⟩)) ?_; go_big_quiet_step (fail); refine wpQuiet_nil ?_)); refine takes_nil ?_
    refine any_one (fuel := 5) (i := 29) (by kernel_rfl) rfl rfl ?_
    intro K hK
    go_wp2_with fail
    refine (F1.out _).mono ?_
    rintro e y ⟨rfl, hby⟩
    obtain ⟨S4, hS4⟩ : ∃ S' : Wx w1 X (.cells #[.int .u8 kd, .int .u8 fr, .int .u8 up] 5), S'.at' = y := ⟨S3.up hby, rfl⟩
    clear hby
    subst hS4
    go_wp2
    refine hK.out _ _ ⟨S4, rfl⟩ ?_
    clear hK K
    refine pk_takes [30] 40 4 ⟨S4, rfl⟩ (by kernel_rfl) (fun _ _ _ _ _ h => by cases h.1) ?_
    (repeat (refine wpTakes_l rfl (by first | (intro x h; cases h; done) | (intro x h; cases h; exact ⟨_, rfl⟩)) ?_; go_big_quiet_step (fail); refine wpQuiet_nil ?_)); refine takes_nil ?_
    refine any_one (fuel := 3) (i := 33) (by kernel_rfl) rfl rfl ?_
    intro K hK
    go_wp2_with fail
    refine (F2.out _).mono ?_
    rintro e y ⟨rfl, hby⟩
    obtain ⟨S5, hS5⟩ : ∃ S' : Wx w1 X (.cells #[.int .u8 kd, .int .u8 fr, .int .u8 up] 5), S'.at' = y := ⟨S4.up hby, rfl⟩
    clear hby
    subst hS5
    go_wp2
    refine hK.out _ _ ⟨S5, rfl⟩ ?_
    clear hK K
    refine pk_takes [34] 40 2 ⟨S5, rfl⟩ (by kernel_rfl) (fun _ _ _ _ _ h => by cases h.1) ?_
    (repeat (refine wpTakes_l rfl (by first | (intro x h; cases h; done) | (intro x h; cases h; exact ⟨_, rfl⟩)) ?_; go_big_quiet_step (fail); refine wpQuiet_nil ?_)); refine takes_nil ?_
    refine any_one (fuel := 1) (i := 38) (by kernel_rfl) rfl rfl ?_
    intro K hK
    go_wp2_with fail
    refine (V5.out _).mono ?_
    rintro e y ⟨rfl, hby⟩
    obtain ⟨S6, hS6⟩ : ∃ S' : Wx w1 X (.cells #[.int .u8 kd, .int .u8 fr, .int .u8 up] 5), S'.at' = y := ⟨S5.up hby, rfl⟩
    clear hby
    subst hS6
    go_wp2
    refine hK.out _ _ ⟨S6, rfl⟩ ?_
    clear hK K
    refine pk_takes [39] 40 0 ⟨S6, rfl⟩ (by kernel_rfl) (fun _ _ _ _ _ h => by cases h.1) ?_
    (repeat (refine wpTakes_l rfl (by first | (intro x h; cases h; done) | (intro x h; cases h; exact ⟨_, rfl⟩)) ?_; go_big_quiet_step (fail); refine wpQuiet_nil ?_)); refine takes_nil ?_
    refine any_done (by kernel_rfl) ?_
    go_wp2
    first | exact S6.ok | exact ⟨rfl, X, rfl, S6.ok⟩
  intro K hK
  go_wp2_with fail
  refine (V1.out _).mono ?_
  rintro e y0 ⟨rfl, hby⟩
  have D0 : Below w1.heap.size w1 y0 := Below.on D hby
  clear hby
  go_wp2
  refine hK.out _ _ ⟨⟨y0, D0⟩, rfl⟩ ?_
  clear hK K
  refine pk_two (fuel := 14) (i := 9) (j := 17) (by kernel_rfl) rfl rfl rfl rfl ?_ ?_
  · skip
    intro K hK
    go_wp2
    obtain ⟨V, hV⟩ : ∃ V, y0.alloc (.cells #[.int .u8 kd, .int .u8 fr, .int .u8 up] 5) = V := ⟨_, rfl⟩
    have HX0 : V.heap[y0.heap.size]? = some (.cells #[.int .u8 kd, .int .u8 fr, .int .u8 up] 5) := by rw [← hV]; show (y0.heap.push _)[y0.heap.size]? = _; simp
    have BV : Below w1.heap.size w1 V := by rw [← hV]; exact Below.alloc D0 (Below.size D0) _
    rw [hV]
    obtain ⟨X, hX⟩ : ∃ X, y0.heap.size = X := ⟨_, rfl⟩
    have HX : Hid (V.heap[X]? = some (.cells #[.int .u8 kd, .int .u8 fr, .int .u8 up] 5)) := by rw [← hX]; exact HX0
    rw [hX]
    clear HX0 hX hV
    refine hK.out _ _ ⟨⟨V, BV⟩, rfl⟩ ?_
    clear hK K
    haveI : Nonempty (Wx w1 X (.cells #[.int .u8 kd, .int .u8 fr, .int .u8 up] 5)) := ⟨⟨V, BV, HX.out⟩⟩
    refine wpAnyU_strong (C' := fun w' => ∃ x : Wx w1 X (.cells #[.int .u8 kd, .int .u8 fr, .int .u8 up] 5), w' = x.at') (fun w' h => by obtain ⟨x, rfl⟩ := h; exact ⟨⟨x.at', x.ok⟩, rfl⟩) _ _ _ _ ?_
    have hcv : ∀ x : Wx w1 X (.cells #[.int .u8 kd, .int .u8 fr, .int .u8 up] 5), (convert 42 9 (.slice (some ⟨X, 0, none⟩) 3 3)).run Tryd.prog x.at' = .ok (.string s0) x.at' := fun x => CV.out _ _ x.blk
    obtain ⟨S, hS⟩ : ∃ S : Wx w1 X (.cells #[.int .u8 kd, .int .u8 fr, .int .u8 up] 5), S.at' = V := ⟨⟨V, BV, HX.out⟩, rfl⟩
    rw [← hS]
    clear hS BV HX
    refine pk_takes [10, 14] 40 12 ⟨S, rfl⟩ (by kernel_rfl) (fun _ _ _ _ _ h => by cases h.1) ?_
    (repeat (refine wpTakes_l rfl (by first | (intro x h; cases h; done) | (intro x h; cases h; exact ⟨_, rfl⟩)) ?_; go_big_quiet_step (fail); refine wpQuiet_nil ?_)); refine takes_nil ?_
    refine any_one (fuel := 11) (i := 17) (by kernel_rfl) rfl rfl ?_
    intro K hK
    go_wp2_with fail
    refine (V2.out _).mono ?_
    rintro e y ⟨rfl, hby⟩
    obtain ⟨S1, hS1⟩ : ∃ S' : Wx w1 X (.cells #[.int .u8 kd, .int .u8 fr, .int .u8 up] 5), S'.at' = y := ⟨S.up hby, rfl⟩
    clear hby
    subst hS1
    go_wp2
    refine hK.out _ _ ⟨S1, rfl⟩ ?_
    clear hK K
    refine pk_takes [18] 40 10 ⟨S1, rfl⟩ (by kernel_rfl) (fun _ _ _ _ _ h => by cases h.1) ?_
    (repeat (refine wpTakes_l rfl (by first | (intro x h; cases h; done) | (intro x h; cases h; exact ⟨_, rfl⟩)) ?_; go_big_quiet_step (fail); refine wpQuiet_nil ?_)); refine takes_nil ?_
    refine any_one (fuel := 9) (i := 21) (by kernel_rfl) rfl rfl ?_
    intro K hK
    go_wp2_with fail
    refine (V3.out _).mono ?_
    rintro e y ⟨rfl, hby⟩
    obtain ⟨S2, hS2⟩ : ∃ S' : Wx w1 X (.cells #[.int .u8 kd, .int .u8 fr, .int .u8 up] 5), S'.at' = y := ⟨S1.up hby, rfl⟩
    clear hby
    subst hS2
    go_wp2
    refine hK.out _ _ ⟨S2, rfl⟩ ?_
    clear hK K
    refine pk_takes [22] 40 8 ⟨S2, rfl⟩ (by kernel_rfl) (fun _ _ _ _ _ h => by cases h.1) ?_
    (repeat (refine wpTakes_l rfl (by first | (intro x h; cases h; done) | (intro x h; cases h; exact ⟨_, rfl⟩)) ?_; go_big_quiet_step (fail); refine wpQuiet_nil ?_)); refine takes_nil ?_
    refine any_one (fuel := 7) (i := 25) (by kernel_rfl) rfl rfl ?_
    intro K hK
    go_wp2_with fail
    refine (V4.out _).mono ?_
    rintro e y ⟨rfl, hby⟩
    obtain ⟨S3, hS3⟩ : ∃ S' : Wx w1 X (.cells #[.int .u8 kd, .int .u8 fr, .int .u8 up] 5), S'.at' = y := ⟨S2.up hby, rfl⟩
    clear hby
    subst hS3
    go_wp2
    refine hK.out _ _ ⟨S3, rfl⟩ ?_
    clear hK K
    refine pk_takes [26] 40 6 ⟨S3, rfl⟩ (by kernel_rfl) (fun _ _ _ _ _ h => by cases h.1) ?_
    (repeat (refine wpTakes_l rfl (by first | (intro x h; cases h; done) | (intro x h; cases h; exact ⟨_, rfl⟩)) ?_; go_big_quiet_step (fail); refine wpQuiet_nil ?_)); refine takes_nil ?_
    refine any_one (fuel := 5) (i := 29) (by kernel_rfl) rfl rfl ?_
    intro K hK
    go_wp2_with fail
    refine (F1.out _).mono ?_
    rintro e y ⟨rfl, hby⟩
    obtain ⟨S4, hS4⟩ : ∃ S' : Wx w1 X (.cells #[.int .u8 kd, .int .u8 fr, .int .u8 up] 5), S'.at' = y := ⟨S3.up hby, rfl⟩
    clear hby
    subst hS4
    go_wp2
    refine hK.out _ _ ⟨S4, rfl⟩ ?_
    clear hK K
    refine pk_takes [30] 40 4 ⟨S4, rfl⟩ (by kernel_rfl) (fun _ _ _ _ _ h => by cases h.1) ?_
    (repeat (refine wpTakes_l rfl (by first | (intro x h; cases h; done) | (intro x h; cases h; exact ⟨_, rfl⟩)) ?_; go_big_quiet_step (fail); refine wpQuiet_nil ?_)); refine takes_nil ?_
    refine any_one (fuel := 3) (i := 33) (by kernel_rfl) rfl rfl ?_
    intro K hK
    go_wp2_with fail
    refine (F2.out _).mono ?_
    rintro e y ⟨rfl, hby⟩
    obtain ⟨S5, hS5⟩ : ∃ S' : Wx w1 X (.cells #[.int .u8 kd, .int .u8 fr, .int .u8 up] 5), S'.at' = y := ⟨S4.up hby, rfl⟩
    clear hby
    subst hS5
    go_wp2
    refine hK.out _ _ ⟨S5, rfl⟩ ?_
    clear hK K
    refine pk_takes [34] 40 2 ⟨S5, rfl⟩ (by kernel_rfl) (fun _ _ _ _ _ h => by cases h.1) ?_
    (repeat (refine wpTakes_l rfl (by first | (intro x h; cases h; done) | (intro x h; cases h; exact ⟨_, rfl⟩)) ?_; go_big_quiet_step (fail); refine wpQuiet_nil ?_)); refine takes_nil ?_
    refine any_one (fuel := 1) (i := 38) (by kernel_rfl) rfl rfl ?_
    intro K hK
    go_wp2_with fail
    refine (V5.out _).mono ?_
    rintro e y ⟨rfl, hby⟩
    obtain ⟨S6, hS6⟩ : ∃ S' : Wx w1 X (.cells #[.int .u8 kd, .int .u8 fr, .int .u8 up] 5), S'.at' = y := ⟨S5.up hby, rfl⟩
    clear hby
    subst hS6
    go_wp2
    refine hK.out _ _ ⟨S6, rfl⟩ ?_
    clear hK K
    refine pk_takes [39] 40 0 ⟨S6, rfl⟩ (by kernel_rfl) (fun _ _ _ _ _ h => by cases h.1) ?_
    (repeat (refine wpTakes_l rfl (by first | (intro x h; cases h; done) | (intro x h; cases h; exact ⟨_, rfl⟩)) ?_; go_big_quiet_step (fail); refine wpQuiet_nil ?_)); refine takes_nil ?_
    refine any_done (by kernel_rfl) ?_
    go_wp2
    first | exact S6.ok | exact ⟨rfl, X, rfl, S6.ok⟩
  intro K hK
  go_wp2_with fail
  refine (V2.out _).mono ?_
  rintro e y1 ⟨rfl, hby⟩
  have D1 : Below w1.heap.size w1 y1 := Below.on D0 hby
  clear hby
  go_wp2
  refine hK.out _ _ ⟨⟨y1, D1⟩, rfl⟩ ?_
  clear hK K
  refine pk_two (fuel := 13) (i := 9) (j := 21) (by kernel_rfl) rfl rfl rfl rfl ?_ ?_
  · skip
    intro K hK
    go_wp2
    obtain ⟨V, hV⟩ : ∃ V, y1.alloc (.cells #[.int .u8 kd, .int .u8 fr, .int .u8 up] 5) = V := ⟨_, rfl⟩
    have HX0 : V.heap[y1.heap.size]? = some (.cells #[.int .u8 kd, .int .u8 fr, .int .u8 up] 5) := by rw [← hV]; show (y1.heap.push _)[y1.heap.size]? = _; simp
    have BV : Below w1.heap.size w1 V := by rw [← hV]; exact Below.alloc D1 (Below.size D1) _
    rw [hV]
    obtain ⟨X, hX⟩ : ∃ X, y1.heap.size = X := ⟨_, rfl⟩
    have HX : Hid (V.heap[X]? = some (.cells #[.int .u8 kd, .int .u8 fr, .int .u8 up] 5)) := by rw [← hX]; exact HX0
    rw [hX]
    clear HX0 hX hV
    refine hK.out _ _ ⟨⟨V, BV⟩, rfl⟩ ?_
    clear hK K
    haveI : Nonempty (Wx w1 X (.cells #[.int .u8 kd, .int .u8 fr, .int .u8 up] 5)) := ⟨⟨V, BV, HX.out⟩⟩
    refine wpAnyU_strong (C' := fun w' => ∃ x : Wx w1 X (.cells #[.int .u8 kd, .int .u8 fr, .int .u8 up] 5), w' = x.at') (fun w' h => by obtain ⟨x, rfl⟩ := h; exact ⟨⟨x.at', x.ok⟩, rfl⟩) _ _ _ _ ?_
    have hcv : ∀ x : Wx w1 X (.cells #[.int .u8 kd, .int .u8 fr, .int .u8 up] 5), (convert 42 9 (.slice (some ⟨X, 0, none⟩) 3 3)).run Tryd.prog x.at' = .ok (.string s0) x.at' := fun x => CV.out _ _ x.blk
    obtain ⟨S, hS⟩ : ∃ S : Wx w1 X (.cells #[.int .u8 kd, .int .u8 fr, .int .u8 up] 5), S.at' = V := ⟨⟨V, BV, HX.out⟩, rfl⟩
    rw [← hS]
    clear hS BV HX
    refine pk_takes [10, 14, 18] 40 10 ⟨S, rfl⟩ (by kernel_rfl) (fun _ _ _ _ _ h => by cases h.1) ?_
    (repeat (refine wpTakes_l rfl (by first | (intro x h; cases h; done) | (intro x h; cases h; exact ⟨_, rfl⟩)) ?_; go_big_quiet_step (fail); refine wpQuiet_nil ?_)); refine takes_nil ?_
    refine any_one (fuel := 9) (i := 21) (by kernel_rfl) rfl rfl ?_
    intro K hK
    go_wp2_with fail
    refine (V3.out _).mono ?_
    rintro e y ⟨rfl, hby⟩
    obtain ⟨S2, hS2⟩ : ∃ S' : Wx w1 X (.cells #[.int .u8 kd, .int .u8 fr, .int .u8 up] 5), S'.at' = y := ⟨S.up hby, rfl⟩
    clear hby
    subst hS2
    go_wp2
    refine hK.out _ _ ⟨S2, rfl⟩ ?_
    clear hK K
    refine pk_takes [22] 40 8 ⟨S2, rfl⟩ (by kernel_rfl) (fun _ _ _ _ _ h => by cases h.1) ?_
    (repeat (refine wpTakes_l rfl (by first | (intro x h; cases h; done) | (intro x h; cases h; exact ⟨_, rfl⟩)) ?_; go_big_quiet_step (fail); refine wpQuiet_nil ?_)); refine takes_nil ?_
    refine any_one (fuel := 7) (i := 25) (by kernel_rfl) rfl rfl ?_
    intro K hK
    go_wp2_with fail
    refine (V4.out _).mono ?_
    rintro e y ⟨rfl, hby⟩
    obtain ⟨S3, hS3⟩ : ∃ S' : Wx w1 X (.cells #[.int .u8 kd, .int .u8 fr, .int .u8 up] 5), S'.at' = y := ⟨S2.up hby, rfl⟩
    clear hby
    subst hS3
    go_wp2
    refine hK.out _ _ ⟨S3, rfl⟩ ?_
    clear hK K
    refine pk_takes [26] 40 6 ⟨S3, rfl⟩ (by kernel_rfl) (fun _ _ _ _ _ h => by cases h.1) ?_
    (repeat (refine wpTakes_l rfl (by first | (intro x h; cases h; done) | (intro x h; cases h; exact ⟨_, rfl⟩)) ?_; go_big_quiet_step (fail); refine wpQuiet_nil ?_)); refine takes_nil ?_
    refine any_one (fuel := 5) (i := 29) (by kernel_rfl) rfl rfl ?_
    intro K hK
    go_wp2_with fail
    refine (F1.out _).mono ?_
    rintro e y ⟨rfl, hby⟩
    obtain ⟨S4, hS4⟩ : ∃ S' : Wx w1 X (.cells #[.int .u8 kd, .int .u8 fr, .int .u8 up] 5), S'.at' = y := ⟨S3.up hby, rfl⟩
    clear hby
    subst hS4
    go_wp2
    refine hK.out _ _ ⟨S4, rfl⟩ ?_
    clear hK K
    refine pk_takes [30] 40 4 ⟨S4, rfl⟩ (by kernel_rfl) (fun _ _ _ _ _ h => by cases h.1) ?_
    (repeat (refine wpTakes_l rfl (by first | (intro x h; cases h; done) | (intro x h; cases h; exact ⟨_, rfl⟩)) ?_; go_big_quiet_step (fail); refine wpQuiet_nil ?_)); refine takes_nil ?_
    refine any_one (fuel := 3) (i := 33) (by kernel_rfl) rfl rfl ?_
    intro K hK
    go_wp2_with fail
    refine (F2.out _).mono ?_
    rintro e y ⟨rfl, hby⟩
    obtain ⟨S5, hS5⟩ : ∃ S' : Wx w1 X (.cells #[.int .u8 kd, .int .u8 fr, .int .u8 up] 5), S'.at' = y := ⟨S4.up hby, rfl⟩
    clear hby
    subst hS5
    go_wp2
    refine hK.out _ _ ⟨S5, rfl⟩ ?_
    clear hK K
    refine pk_takes [34] 40 2 ⟨S5, rfl⟩ (by kernel_rfl) (fun _ _ _ _ _ h => by cases h.1) ?_
    (repeat (refine wpTakes_l rfl (by first | (intro x h; cases h; done) | (intro x h; cases h; exact ⟨_, rfl⟩)) ?_; go_big_quiet_step (fail); refine wpQuiet_nil ?_)); refine takes_nil ?_
    refine any_one (fuel := 1) (i := 38) (by kernel_rfl) rfl rfl ?_
    intro K hK
    go_wp2_with fail
    refine (V5.out _).mono ?_
    rintro e y ⟨rfl, hby⟩
    obtain ⟨S6, hS6⟩ : ∃ S' : Wx w1 X (.cells #[.int .u8 kd, .int .u8 fr, .int .u8 up] 5), S'.at' = y := ⟨S5.up hby, rfl⟩
    clear hby
    subst hS6
    go_wp2
    refine hK.out _ _ ⟨S6, rfl⟩ ?_
    clear hK K
    refine pk_takes [39] 40 0 ⟨S6, rfl⟩ (by kernel_rfl) (fun _ _ _ _ _ h => by cases h.1) ?_
    (repeat (refine wpTakes_l rfl (by first | (intro x h; cases h; done) | (intro x h; cases h; exact ⟨_, rfl⟩)) ?_; go_big_quiet_step (fail); refine wpQuiet_nil ?_)); refine takes_nil ?_
    refine any_done (by kernel_rfl) ?_
    go_wp2
    first | exact S6.ok | exact ⟨rfl, X, rfl, S6.ok⟩
  intro K hK
  go_wp2_with fail
  refine (V3.out _).mono ?_
  rintro e y2 ⟨rfl, hby⟩
  have D2 : Below w1.heap.size w1 y2 := Below.on D1 hby
  clear hby
  go_wp2
  refine hK.out _ _ ⟨⟨y2, D2⟩, rfl⟩ ?_
  clear hK K
  refine pk_two (fuel := 12) (i := 9) (j := 25) (by kernel_rfl) rfl rfl rfl rfl ?_ ?_
  · skip
    intro K hK
    go_wp2
    obtain ⟨V, hV⟩ : ∃ V, y2.alloc (.cells #[.int .u8 kd, .int .u8 fr, .int .u8 up] 5) = V := ⟨_, rfl⟩
    have HX0 : V.heap[y2.heap.size]? = some (.cells #[.int .u8 kd, .int .u8 fr, .int .u8 up] 5) := by rw [← hV]; show (y2.heap.push _)[y2.heap.size]? = _; simp
    have BV : Below w1.heap.size w1 V := by rw [← hV]; exact Below.alloc D2 (Below.size D2) _
    rw [hV]
    obtain ⟨X, hX⟩ : ∃ X, y2.heap.size = X := ⟨_, rfl⟩
    have HX : Hid (V.heap[X]? = some (.cells #[.int .u8 kd, .int .u8 fr, .int .u8 up] 5)) := by rw [← hX]; exact HX0
    rw [hX]
    clear HX0 hX hV
    refine hK.out _ _ ⟨⟨V, BV⟩, rfl⟩ ?_
    clear hK K
    haveI : Nonempty (Wx w1 X (.cells #[.int .u8 kd, .int .u8 fr, .int .u8 up] 5)) := ⟨⟨V, BV, HX.out⟩⟩
    refine wpAnyU_strong (C' := fun w' => ∃ x : Wx w1 X (.cells #[.int .u8 kd, .int .u8 fr, .int .u8 up] 5), w' = x.at') (fun w' h => by obtain ⟨x, rfl⟩ := h; exact ⟨⟨x.at', x.ok⟩, rfl⟩) _ _ _ _ ?_
    have hcv : ∀ x : Wx w1 X (.cells #[.int .u8 kd, .int .u8 fr, .int .u8 up] 5), (convert 42 9 (.slice (some ⟨X, 0, none⟩) 3 3)).run Tryd.prog x.at' = .ok (.string s0) x.at' := fun x => CV.out _ _ x.blk
    obtain ⟨S, hS⟩ : ∃ S : Wx w1 X (.cells #[.int .u8 kd, .int .u8 fr, .int .u8 up] 5), S.at' = V := ⟨⟨V, BV, HX.out⟩, rfl⟩
    rw [← hS]
    clear hS BV HX
    refine pk_takes [10, 14, 18, 22] 40 8 ⟨S, rfl⟩ (by kernel_rfl) (fun _ _ _ _ _ h => by cases h.1) ?_
    (repeat (refine wpTakes_l rfl (by first | (intro x h; cases h; done) | (intro x h; cases h; exact ⟨_, rfl⟩)) ?_; go_big_quiet_step (fail); refine wpQuiet_nil ?_)); refine takes_nil ?_
    refine any_one (fuel := 7) (i := 25) (by kernel_rfl) rfl rfl ?_
    intro K hK
    go_wp2_with fail
    refine (V4.out _).mono ?_
    rintro e y ⟨rfl, hby⟩
    obtain ⟨S3, hS3⟩ : ∃ S' : Wx w1 X (.cells #[.int .u8 kd, .int .u8 fr, .int .u8 up] 5), S'.at' = y := ⟨S.up hby, rfl⟩
    clear hby
    subst hS3
    go_wp2
    refine hK.out _ _ ⟨S3, rfl⟩ ?_
    clear hK K
    refine pk_takes [26] 40 6 ⟨S3, rfl⟩ (by kernel_rfl) (fun _ _ _ _ _ h => by cases h.1) ?_
    (repeat (refine wpTakes_l rfl (by first | (intro x h; cases h; done) | (intro x h; cases h; exact ⟨_, rfl⟩)) ?_; go_big_quiet_step (fail); refine wpQuiet_nil ?_)); refine takes_nil ?_
    refine any_one (fuel := 5) (i := 29) (by kernel_rfl) rfl rfl ?_
    intro K hK
    go_wp2_with fail
    refine (F1.out _).mono ?_
    rintro e y ⟨rfl, hby⟩
    obtain ⟨S4, hS4⟩ : ∃ S' : Wx w1 X (.cells #[.int .u8 kd, .int .u8 fr, .int .u8 up] 5), S'.at' = y := ⟨S3.up hby, rfl⟩
    clear hby
    subst hS4
    go_wp2
    refine hK.out _ _ ⟨S4, rfl⟩ ?_
    clear hK K
    refine pk_takes [30] 40 4 ⟨S4, rfl⟩ (by kernel_rfl) (fun _ _ _ _ _ h => by cases h.1) ?_
    (repeat (refine wpTakes_l rfl (by first | (intro x h; cases h; done) | (intro x h; cases h; exact ⟨_, rfl⟩)) ?_; go_big_quiet_step (fail); refine wpQuiet_nil ?_)); refine takes_nil ?_
    refine any_one (fuel := 3) (i := 33) (by kernel_rfl) rfl rfl ?_
    intro K hK
    go_wp2_with fail
    refine (F2.out _).mono ?_
    rintro e y ⟨rfl, hby⟩
    obtain ⟨S5, hS5⟩ : ∃ S' : Wx w1 X (.cells #[.int .u8 kd, .int .u8 fr, .int .u8 up] 5), S'.at' = y := ⟨S4.up hby, rfl⟩
    clear hby
    subst hS5
    go_wp2
    refine hK.out _ _ ⟨S5, rfl⟩ ?_
    clear hK K
    refine pk_takes [34] 40 2 ⟨S5, rfl⟩ (by kernel_rfl) (fun _ _ _ _ _ h => by cases h.1) ?_
    (repeat (refine wpTakes_l rfl (by first | (intro x h; cases h; done) | (intro x h; cases h; exact ⟨_, rfl⟩)) ?_; go_big_quiet_step (fail); refine wpQuiet_nil ?_)); refine takes_nil ?_
    refine any_one (fuel := 1) (i := 38) (by kernel_rfl) rfl rfl ?_
    intro K hK
    go_wp2_with fail
    refine (V5.out _).mono ?_
    rintro e y ⟨rfl, hby⟩
    obtain ⟨S6, hS6⟩ : ∃ S' : Wx w1 X (.cells #[.int .u8 kd, .int .u8 fr, .int .u8 up] 5), S'.at' = y := ⟨S5.up hby, rfl⟩
    clear hby
    subst hS6
    go_wp2
    refine hK.out _ _ ⟨S6, rfl⟩ ?_
    clear hK K
    refine pk_takes [39] 40 0 ⟨S6, rfl⟩ (by kernel_rfl) (fun _ _ _ _ _ h => by cases h.1) ?_
    (repeat (refine wpTakes_l rfl (by first | (intro x h; cases h; done) | (intro x h; cases h; exact ⟨_, rfl⟩)) ?_; go_big_quiet_step (fail); refine wpQuiet_nil ?_)); refine takes_nil ?_
    refine any_done (by kernel_rfl) ?_
    go_wp2
    first | exact S6.ok | exact ⟨rfl, X, rfl, S6.ok⟩
  intro K hK
  go_wp2_with fail
  refine (V4.out _).mono ?_
  rintro e y3 ⟨rfl, hby⟩
  have D3 : Below w1.heap.size w1 y3 := Below.on D2 hby
  clear hby
  go_wp2
  refine hK.out _ _ ⟨⟨y3, D3⟩, rfl⟩ ?_
  clear hK K
  refine pk_two (fuel := 11) (i := 9) (j := 29) (by kernel_rfl) rfl rfl rfl rfl ?_ ?_
  · skip
    intro K hK
    go_wp2
    obtain ⟨V, hV⟩ : ∃ V, y3.alloc (.cells #[.int .u8 kd, .int .u8 fr, .int .u8 up] 5) = V := ⟨_, rfl⟩
    have HX0 : V.heap[y3.heap.size]? = some (.cells #[.int .u8 kd, .int .u8 fr, .int .u8 up] 5) := by rw [← hV]; show (y3.heap.push _)[y3.heap.size]? = _; simp
    have BV : Below w1.heap.size w1 V := by rw [← hV]; exact Below.alloc D3 (Below.size D3) _
    rw [hV]
    obtain ⟨X, hX⟩ : ∃ X, y3.heap.size = X := ⟨_, rfl⟩
    have HX : Hid (V.heap[X]? = some (.cells #[.int .u8 kd, .int .u8 fr, .int .u8 up] 5)) := by rw [← hX]; exact HX0
    rw [hX]
    clear HX0 hX hV
    refine hK.out _ _ ⟨⟨V, BV⟩, rfl⟩ ?_
    clear hK K
    haveI : Nonempty (Wx w1 X (.cells #[.int .u8 kd, .int .u8 fr, .int .u8 up] 5)) := ⟨⟨V, BV, HX.out⟩⟩
    refine wpAnyU_strong (C' := fun w' => ∃ x : Wx w1 X (.cells #[.int .u8 kd, .int .u8 fr, .int .u8 up] 5), w' = x.at') (fun w' h => by obtain ⟨x, rfl⟩ := h; exact ⟨⟨x.at', x.ok⟩, rfl⟩) _ _ _ _ ?_
    have hcv : ∀ x : Wx w1 X (.cells #[.int .u8 kd, .int .u8 fr, .int .u8 up] 5), (convert 42 9 (.slice (some ⟨X, 0, none⟩) 3 3)).run Tryd.prog x.at' = .ok (.string s0) x.at' := fun x => CV.out _ _ x.blk
    obtain ⟨S, hS⟩ : ∃ S : Wx w1 X (.cells #[.int .u8 kd, .int .u8 fr, .int .u8 up] 5), S.at' = V := ⟨⟨V, BV, HX.out⟩, rfl⟩
    rw [← hS]
    clear hS BV HX
    refine pk_takes [10, 14, 18, 22, 26] 40 6 ⟨S, rfl⟩ (by kernel_rfl) (fun _ _ _ _ _ h => by cases h.1) ?_
    (repeat (refine wpTakes_l rfl (by first | (intro x h; cases h; done) | (intro x h; cases h; exact ⟨_, rfl⟩)) ?_; go_big_quiet_step (fail); refine wpQuiet_nil ?_)); refine takes_nil ?_
    refine any_one (fuel := 5) (i := 29) (by kernel_rfl) rfl rfl ?_
    intro K hK
    go_wp2_with fail
    refine (F1.out _).mono ?_
    rintro e y ⟨rfl, hby⟩
    obtain ⟨S4, hS4⟩ : ∃ S' : Wx w1 X (.cells #[.int .u8 kd, .int .u8 fr, .int .u8 up] 5), S'.at' = y := ⟨S.up hby, rfl⟩
    clear hby
    subst hS4
    go_wp2
    refine hK.out _ _ ⟨S4, rfl⟩ ?_
    clear hK K
    refine pk_takes [30] 40 4 ⟨S4, rfl⟩ (by kernel_rfl) (fun _ _ _ _ _ h => by cases h.1) ?_
    (repeat (refine wpTakes_l rfl (by first | (intro x h; cases h; done) | (intro x h; cases h; exact ⟨_, rfl⟩)) ?_; go_big_quiet_step (fail); refine wpQuiet_nil ?_)); refine takes_nil ?_
    refine any_one (fuel := 3) (i := 33) (by kernel_rfl) rfl rfl ?_
    intro K hK
    go_wp2_with fail
    refine (F2.out _).mono ?_
    rintro e y ⟨rfl, hby⟩
    obtain ⟨S5, hS5⟩ : ∃ S' : Wx w1 X (.cells #[.int .u8 kd, .int .u8 fr, .int .u8 up] 5), S'.at' = y := ⟨S4.up hby, rfl⟩
    clear hby
    subst hS5
    go_wp2
    refine hK.out _ _ ⟨S5, rfl⟩ ?_
    clear hK K
    refine pk_takes [34] 40 2 ⟨S5, rfl⟩ (by kernel_rfl) (fun _ _ _ _ _ h => by cases h.1) ?_
    (repeat (refine wpTakes_l rfl (by first | (intro x h; cases h; done) | (intro x h; cases h; exact ⟨_, rfl⟩)) ?_; go_big_quiet_step (fail); refine wpQuiet_nil ?_)); refine takes_nil ?_
    refine any_one (fuel := 1) (i := 38) (by kernel_rfl) rfl rfl ?_
    intro K hK
    go_wp2_with fail
    refine (V5.out _).mono ?_
    rintro e y ⟨rfl, hby⟩
    obtain ⟨S6, hS6⟩ : ∃ S' : Wx w1 X (.cells #[.int .u8 kd, .int .u8 fr, .int .u8 up] 5), S'.at' = y := ⟨S5.up hby, rfl⟩
    clear hby
    subst hS6
    go_wp2
    refine hK.out _ _ ⟨S6, rfl⟩ ?_
    clear hK K
    refine pk_takes [39] 40 0 ⟨S6, rfl⟩ (by kernel_rfl) (fun _ _ _ _ _ h => by cases h.1) ?_
    (repeat (refine wpTakes_l rfl (by first | (intro x h; cases h; done) | (intro x h; cases h; exact ⟨_, rfl⟩)) ?_; go_big_quiet_step (fail); refine wpQuiet_nil ?_)); refine takes_nil ?_
    refine any_done (by kernel_rfl) ?_
    go_wp2
    first | exact S6.ok | exact ⟨rfl, X, rfl, S6.ok⟩
  intro K hK
  go_wp2_with fail
  refine (F1.out _).mono ?_
  rintro e y4 ⟨rfl, hby⟩
  have D4 : Below w1.heap.size w1 y4 := Below.on D3 hby
  clear hby
  go_wp2
  refine hK.out _ _ ⟨⟨y4, D4⟩, rfl⟩ ?_
  clear hK K
  refine pk_two (fuel := 10) (i := 9) (j := 33) (by kernel_rfl) rfl rfl rfl rfl ?_ ?_
  · skip
    intro K hK
    go_wp2
    obtain ⟨V, hV⟩ : ∃ V, y4.alloc (.cells #[.int .u8 kd, .int .u8 fr, .int .u8 up] 5) = V := ⟨_, rfl⟩
    have HX0 : V.heap[y4.heap.size]? = some (.cells #[.int .u8 kd, .int .u8 fr, .int .u8 up] 5) := by rw [← hV]; show (y4.heap.push _)[y4.heap.size]? = _; simp
    have BV : Below w1.heap.size w1 V := by rw [← hV]; exact Below.alloc D4 (Below.size D4) _
    rw [hV]
    obtain ⟨X, hX⟩ : ∃ X, y4.heap.size = X := ⟨_, rfl⟩
    have HX : Hid (V.heap[X]? = some (.cells #[.int .u8 kd, .int .u8 fr, .int .u8 up] 5)) := by rw [← hX]; exact HX0
    rw [hX]
    clear HX0 hX hV
    refine hK.out _ _ ⟨⟨V, BV⟩, rfl⟩ ?_
    clear hK K
    haveI : Nonempty (Wx w1 X (.cells #[.int .u8 kd, .int .u8 fr, .int .u8 up] 5)) := ⟨⟨V, BV, HX.out⟩⟩
    refine wpAnyU_strong (C' := fun w' => ∃ x : Wx w1 X (.cells #[.int .u8 kd, .int .u8 fr, .int .u8 up] 5), w' = x.at') (fun w' h => by obtain ⟨x, rfl⟩ := h; exact ⟨⟨x.at', x.ok⟩, rfl⟩) _ _ _ _ ?_
    have hcv : ∀ x : Wx w1 X (.cells #[.int .u8 kd, .int .u8 fr, .int .u8 up] 5), (convert 42 9 (.slice (some ⟨X, 0, none⟩) 3 3)).run Tryd.prog x.at' = .ok (.string s0) x.at' := fun x => CV.out _ _ x.blk
    obtain ⟨S, hS⟩ : ∃ S : Wx w1 X (.cells #[.int .u8 kd, .int .u8 fr, .int .u8 up] 5), S.at' = V := ⟨⟨V, BV, HX.out⟩, rfl⟩
    rw [← hS]
    clear hS BV HX
    refine pk_takes [10, 14, 18, 22, 26, 30] 40 4 ⟨S, rfl⟩ (by kernel_rfl) (fun _ _ _ _ _ h => by cases h.1) ?_
    (repeat (refine wpTakes_l rfl (by first | (intro x h; cases h; done) | (intro x h; cases h; exact ⟨_, rfl⟩)) ?_; go_big_quiet_step (fail); refine wpQuiet_nil ?_)); refine takes_nil ?_
    refine any_one (fuel := 3) (i := 33) (by kernel_rfl) rfl rfl ?_
    intro K hK
    go_wp2_with fail
    refine (F2.out _).mono ?_
    rintro e y ⟨rfl, hby⟩
    obtain ⟨S5, hS5⟩ : ∃ S' : Wx w1 X (.cells #[.int .u8 kd, .int .u8 fr, .int .u8 up] 5), S'.at' = y := ⟨S.up hby, rfl⟩
    clear hby
    subst hS5
    go_wp2
    refine hK.out _ _ ⟨S5, rfl⟩ ?_
    clear hK K
    refine pk_takes [34] 40 2 ⟨S5, rfl⟩ (by kernel_rfl) (fun _ _ _ _ _ h => by cases h.1) ?_
    (repeat (refine wpTakes_l rfl (by first | (intro x h; cases h; done) | (intro x h; cases h; exact ⟨_, rfl⟩)) ?_; go_big_quiet_step (fail); refine wpQuiet_nil ?_)); refine takes_nil ?_
    refine any_one (fuel := 1) (i := 38) (by kernel_rfl) rfl rfl ?_
    intro K hK
    go_wp2_with fail
    refine (V5.out _).mono ?_
    rintro e y ⟨rfl, hby⟩
    obtain ⟨S6, hS6⟩ : ∃ S' : Wx w1 X (.cells #[.int .u8 kd, .int .u8 fr, .int .u8 up] 5), S'.at' = y := ⟨S5.up hby, rfl⟩
    clear hby
    subst hS6
    go_wp2
    refine hK.out _ _ ⟨S6, rfl⟩ ?_
    clear hK K
    refine pk_takes [39] 40 0 ⟨S6, rfl⟩ (by kernel_rfl) (fun _ _ _ _ _ h => by cases h.1) ?_
    (repeat (refine wpTakes_l rfl (by first | (intro x h; cases h; done) | (intro x h; cases h; exact ⟨_, rfl⟩)) ?_; go_big_quiet_step (fail); refine wpQuiet_nil ?_)); refine takes_nil ?_
    refine any_done (by kernel_rfl) ?_
    go_wp2
    first | exact S6.ok | exact ⟨rfl, X, rfl, S6.ok⟩
  intro K hK
  go_wp2_with fail
  refine (F2.out _).mono ?_
  rintro e y5 ⟨rfl, hby⟩
  have D5 : Below w1.heap.size w1 y5 := Below.on D4 hby
  clear hby
  go_wp2
  refine hK.out _ _ ⟨⟨y5, D5⟩, rfl⟩ ?_
  clear hK K
  refine pk_two (fuel := 9) (i := 9) (j := 38) (by kernel_rfl) rfl rfl rfl rfl ?_ ?_
  · skip
    intro K hK
    go_wp2
    obtain ⟨V, hV⟩ : ∃ V, y5.alloc (.cells #[.int .u8 kd, .int .u8 fr, .int .u8 up] 5) = V := ⟨_, rfl⟩
    have HX0 : V.heap[y5.heap.size]? = some (.cells #[.int .u8 kd, .int .u8 fr, .int .u8 up] 5) := by rw [← hV]; show (y5.heap.push _)[y5.heap.size]? = _; simp
    have BV : Below w1.heap.size w1 V := by rw [← hV]; exact Below.alloc D5 (Below.size D5) _
    rw [hV]
    obtain ⟨X, hX⟩ : ∃ X, y5.heap.size = X := ⟨_, rfl⟩
    have HX : Hid (V.heap[X]? = some (.cells #[.int .u8 kd, .int .u8 fr, .int .u8 up] 5)) := by rw [← hX]; exact HX0
    rw [hX]
    clear HX0 hX hV
    refine hK.out _ _ ⟨⟨V, BV⟩, rfl⟩ ?_
    clear hK K
    haveI : Nonempty (Wx w1 X (.cells #[.int .u8 kd, .int .u8 fr, .int .u8 up] 5)) := ⟨⟨V, BV, HX.out⟩⟩
    refine wpAnyU_strong (C' := fun w' => ∃ x : Wx w1 X (.cells #[.int .u8 kd, .int .u8 fr, .int .u8 up] 5), w' = x.at') (fun w' h => by obtain ⟨x, rfl⟩ := h; exact ⟨⟨x.at', x.ok⟩, rfl⟩) _ _ _ _ ?_
    have hcv : ∀ x : Wx w1 X (.cells #[.int .u8 kd, .int .u8 fr, .int .u8 up] 5), (convert 42 9 (.slice (some ⟨X, 0, none⟩) 3 3)).run Tryd.prog x.at' = .ok (.string s0) x.at' := fun x => CV.out _ _ x.blk
    obtain ⟨S, hS⟩ : ∃ S : Wx w1 X (.cells #[.int .u8 kd, .int .u8 fr, .int .u8 up] 5), S.at' = V := ⟨⟨V, BV, HX.out⟩, rfl⟩
    rw [← hS]
    clear hS BV HX
    refine pk_takes [10, 14, 18, 22, 26, 30, 34] 40 2 ⟨S, rfl⟩ (by kernel_rfl) (fun _ _ _ _ _ h => by cases h.1) ?_
    (repeat (refine wpTakes_l rfl (by first | (intro x h; cases h; done) | (intro x h; cases h; exact ⟨_, rfl⟩)) ?_; go_big_quiet_step (fail); refine wpQuiet_nil ?_)); refine takes_nil ?_
    refine any_one (fuel := 1) (i := 38) (by kernel_rfl) rfl rfl ?_
    intro K hK
    go_wp2_with fail
    refine (V5.out _).mono ?_
    rintro e y ⟨rfl, hby⟩
    obtain ⟨S6, hS6⟩ : ∃ S' : Wx w1 X (.cells #[.int .u8 kd, .int .u8 fr, .int .u8 up] 5), S'.at' = y := ⟨S.up hby, rfl⟩
    clear hby
    subst hS6
    go_wp2
    refine hK.out _ _ ⟨S6, rfl⟩ ?_
    clear hK K
    refine pk_takes [39] 40 0 ⟨S6, rfl⟩ (by kernel_rfl) (fun _ _ _ _ _ h => by cases h.1) ?_
    (repeat (refine wpTakes_l rfl (by first | (intro x h; cases h; done) | (intro x h; cases h; exact ⟨_, rfl⟩)) ?_; go_big_quiet_step (fail); refine wpQuiet_nil ?_)); refine takes_nil ?_
    refine any_done (by kernel_rfl) ?_
    go_wp2
    first | exact S6.ok | exact ⟨rfl, X, rfl, S6.ok⟩
  intro K hK
  go_wp2_with fail
  refine (V5.out _).mono ?_
  rintro e y6 ⟨rfl, hby⟩
  have D6 : Below w1.heap.size w1 y6 := Below.on D5 hby
  clear hby
  go_wp2
  refine hK.out _ _ ⟨⟨y6, D6⟩, rfl⟩ ?_
  clear hK K
  refine any_one (fuel := 8) (i := 9) (by kernel_rfl) rfl rfl ?_
  intro K hK
  go_wp2
  obtain ⟨V, hV⟩ : ∃ V, y6.alloc (.cells #[.int .u8 kd, .int .u8 fr, .int .u8 up] 5) = V := ⟨_, rfl⟩
  have HX0 : V.heap[y6.heap.size]? = some (.cells #[.int .u8 kd, .int .u8 fr, .int .u8 up] 5) := by rw [← hV]; show (y6.heap.push _)[y6.heap.size]? = _; simp
  have BV : Below w1.heap.size w1 V := by rw [← hV]; exact Below.alloc D6 (Below.size D6) _
  rw [hV]
  obtain ⟨X, hX⟩ : ∃ X, y6.heap.size = X := ⟨_, rfl⟩
  have HX : Hid (V.heap[X]? = some (.cells #[.int .u8 kd, .int .u8 fr, .int .u8 up] 5)) := by rw [← hX]; exact HX0
  rw [hX]
  clear HX0 hX hV
  refine hK.out _ _ ⟨⟨V, BV⟩, rfl⟩ ?_
  clear hK K
  haveI : Nonempty (Wx w1 X (.cells #[.int .u8 kd, .int .u8 fr, .int .u8 up] 5)) := ⟨⟨V, BV, HX.out⟩⟩
  refine wpAnyU_strong (C' := fun w' => ∃ x : Wx w1 X (.cells #[.int .u8 kd, .int .u8 fr, .int .u8 up] 5), w' = x.at') (fun w' h => by obtain ⟨x, rfl⟩ := h; exact ⟨⟨x.at', x.ok⟩, rfl⟩) _ _ _ _ ?_
  have hcv : ∀ x : Wx w1 X (.cells #[.int .u8 kd, .int .u8 fr, .int .u8 up] 5), (convert 42 9 (.slice (some ⟨X, 0, none⟩) 3 3)).run Tryd.prog x.at' = .ok (.string s0) x.at' := fun x => CV.out _ _ x.blk
  obtain ⟨S, hS⟩ : ∃ S : Wx w1 X (.cells #[.int .u8 kd, .int .u8 fr, .int .u8 up] 5), S.at' = V := ⟨⟨V, BV, HX.out⟩, rfl⟩
  rw [← hS]
  clear hS BV HX
  refine pk_takes [10, 14, 18, 22, 26, 30, 34, 39] 40 0 ⟨S, rfl⟩ (by kernel_rfl) (fun _ _ _ _ _ h => by cases h.1) ?_
  (repeat (refine wpTakes_l rfl (by first | (intro x h; cases h; done) | (intro x h; cases h; exact ⟨_, rfl⟩)) ?_; go_big_quiet_step (fail); refine wpQuiet_nil ?_)); refine takes_nil ?_
  refine any_done (by kernel_rfl) ?_
  go_wp2
  first | exact S.ok | exact ⟨rfl, X, rfl, S.ok⟩
end Go.Proofs.YtgjamikmjknlfaaDoor

namespace Go.Proofs.YtgjamikmjknlfaaDoor
open Go Go.RowKit

set_option maxHeartbeats 400000 in
theorem l18Flag_any (f : Bool) (w : World) : Calls Tryd.prog 18 #[.bool f] w fun e w' => e = .returned (.string (flagS f)) ∧ Below w.heap.size w w' := by
  cases f with
  | false =>
    go_enter Tryd.func18, Tryd.ntmps18
    go_wp2
    go_ret
    exact ⟨rfl, Below.refl _ _⟩
  | true =>
    go_enter Tryd.func18, Tryd.ntmps18
    go_wp2
    go_ret
    exact ⟨rfl, Below.refl _ _⟩
set_option maxRecDepth 10000 in
set_option maxHeartbeats 4000000 in
theorem specEncode_no (kd fr up tm ix lt cm : Int) (ok : Bool) (da : ByteArray) (la : Bool) (ao bo : Option Addr) (n cap m cbp : Nat) (w : World)
    (hq : Hid (∀ W, Below w.heap.size w W → Calls Tryd.prog 16 #[.agg #[.int .i64 kd, .int .i64 fr, .int .i64 up, .int .i64 tm, .int .i64 ix, .int .i64 lt, .int .i64 cm, .bool ok, .slice ao n cap, .slice bo m cbp, .string da, .bool la]] W fun e w' => e = .returned (.bool false) ∧ Below W.heap.size W w')) :
    Calls Tryd.prog 6 #[.agg #[.int .i64 kd, .int .i64 fr, .int .i64 up, .int .i64 tm, .int .i64 ix, .int .i64 lt, .int .i64 cm, .bool ok, .slice ao n cap, .slice bo m cbp, .string da, .bool la]] w fun e w' => e = .returned (.tuple #[.string ⟨#[]⟩, .bool false]) ∧ Below w.heap.size w w' := by
  go_enter Tryd.func6, Tryd.ntmps6
  go_wp2_with (go_at_call 16; refine (hq.out _ (ba (Below.refl _ _) _)).mono ?_; rintro e w1 ⟨rfl, hb1⟩)
  go_ret2
  exact ⟨rfl, below_new hb1⟩
set_option maxHeartbeats 4000000 in
theorem specEncode_any (kd fr up tm ix lt cm : Int) (ok : Bool) (da : ByteArray) (la : Bool) (e c : Value) (es : List En) (cs : List Int) (w : World) (he : Reads w e es) (hc : Reads w c cs) (hn : es.length ≤ 1048577) (hm : cs.length ≤ 1048577) (hz : SizedE es) :
    Calls Tryd.prog 6 #[.agg #[.int .i64 kd, .int .i64 fr, .int .i64 up, .int .i64 tm, .int .i64 ix, .int .i64 lt, .int .i64 cm, .bool ok, e, c, .string da, .bool la]] w fun e' w' => e' = .returned (encV kd fr up tm ix lt cm ok da la es cs) ∧ Below w.heap.size w w' := by
  obtain ⟨ao, cap, rfl, _⟩ := id he
  obtain ⟨bo, cbp, rfl, _⟩ := id hc
  cases hq : okM kd fr up tm ix lt cm da la es cs with
  | false =>
    have HX : encV kd fr up tm ix lt cm ok da la es cs = .tuple #[.string ⟨#[]⟩, .bool false] := by unfold encV; rw [hq]; rfl
    rw [HX]
    refine specEncode_no kd fr up tm ix lt cm ok da la ao bo _ cap _ cbp w (fun W hb => ?_)
    have := specMessageOk_any kd fr up tm ix lt cm ok da la _ _ es cs W (he.below hb) (hc.below hb) hn hm hz
    rwa [hq] at this
  | true =>
    have HX : encV kd fr up tm ix lt cm ok da la es cs = .tuple #[.string (encS kd fr up tm ix lt cm ok da la es cs), .bool true] := by unfold encV; rw [hq]; rfl
    rw [HX]
    obtain ⟨a1, a2, b1, b2, c1, c2, d1, d2, l1, l2, i1, i2, m1, m2, n1, z1⟩ := okM_fine hq
    have y0 : (bstr [kd, fr, up]).size = 3 := by rw [bstr_size']; rfl
    have y1 := var_size tm.toNat
    have y2 := var_size ix.toNat
    have y3 := var_size lt.toNat
    have y4 := var_size cm.toNat
    have y5 : (flagS ok).size = 1 := by cases ok <;> rfl
    have y6 : (flagS la).size = 1 := by cases la <;> rfl
    have y7 := var_size es.length
    refine specEncode_go kd fr up tm ix lt cm ok da la ao bo _ cap _ cbp es (textC cs) (okC cs) (bstr [kd, fr, up]) (bstr (varI tm.toNat)) (bstr (varI ix.toNat)) (bstr (varI lt.toNat)) (bstr (varI cm.toNat)) (flagS ok) (flagS la) (bstr (varI es.length)) ((bstr [kd, fr, up]) ++ (bstr (varI tm.toNat))) (((bstr [kd, fr, up]) ++ (bstr (varI tm.toNat))) ++ (bstr (varI ix.toNat))) ((((bstr [kd, fr, up]) ++ (bstr (varI tm.toNat))) ++ (bstr (varI ix.toNat))) ++ (bstr (varI lt.toNat))) (((((bstr [kd, fr, up]) ++ (bstr (varI tm.toNat))) ++ (bstr (varI ix.toNat))) ++ (bstr (varI lt.toNat))) ++ (bstr (varI cm.toNat))) ((((((bstr [kd, fr, up]) ++ (bstr (varI tm.toNat))) ++ (bstr (varI ix.toNat))) ++ (bstr (varI lt.toNat))) ++ (bstr (varI cm.toNat))) ++ (flagS ok)) (((((((bstr [kd, fr, up]) ++ (bstr (varI tm.toNat))) ++ (bstr (varI ix.toNat))) ++ (bstr (varI lt.toNat))) ++ (bstr (varI cm.toNat))) ++ (flagS ok)) ++ (flagS la)) ((((((((bstr [kd, fr, up]) ++ (bstr (varI tm.toNat))) ++ (bstr (varI ix.toNat))) ++ (bstr (varI lt.toNat))) ++ (bstr (varI cm.toNat))) ++ (flagS ok)) ++ (flagS la)) ++ (bstr (varI es.length))) w he hz n1 (by show _ ≤ _; (try simp only [ByteArray.size_append]); omega) (textC_size cs) z1 (fun W hb => specConfText_any (hc.below hb) hm) (fun W hb => ?_) (by go_arith) (by go_arith) (by go_arith) (fun W => by have := l01Var_any tm.toNat W (by omega); rwa [Int.toNat_of_nonneg d1] at this) (fun W => by have := l01Var_any ix.toNat W (by omega); rwa [Int.toNat_of_nonneg i1] at this) (fun W => by have := l01Var_any lt.toNat W (by omega); rwa [Int.toNat_of_nonneg l1] at this) (fun W => by have := l01Var_any cm.toNat W (by omega); rwa [Int.toNat_of_nonneg m1] at this) (fun W => l01Var_any es.length W (by omega)) (fun W => l18Flag_any ok W) (fun W => l18Flag_any la W) (fun w X h => conv3_at h) (fun wx => run_string_add_sum wx _ _ (by show _ ≤ _; (try simp only [ByteArray.size_append]); omega)) (fun wx => run_string_add_sum wx _ _ (by show _ ≤ _; (try simp only [ByteArray.size_append]); omega)) (fun wx => run_string_add_sum wx _ _ (by show _ ≤ _; (try simp only [ByteArray.size_append]); omega)) (fun wx => run_string_add_sum wx _ _ (by show _ ≤ _; (try simp only [ByteArray.size_append]); omega)) (fun wx => run_string_add_sum wx _ _ (by show _ ≤ _; (try simp only [ByteArray.size_append]); omega)) (fun wx => run_string_add_sum wx _ _ (by show _ ≤ _; (try simp only [ByteArray.size_append]); omega)) (fun wx => run_string_add_sum wx _ _ (by show _ ≤ _; (try simp only [ByteArray.size_append]); omega))
    have := specMessageOk_any kd fr up tm ix lt cm ok da la _ _ es cs W (he.below hb) (hc.below hb) hn hm hz
    rwa [hq] at this
end Go.Proofs.YtgjamikmjknlfaaDoor

namespace Go.Proofs.YtgjamikmjknlfaaDoor
open Go Go.RowKit
set_option linter.unusedVariables false

/-- What lies there while a message is read: the answer's block, the cursor, the message. -/
structure Sdw (w : World) (s : ByteArray) (m M : Nat) (W : World) (a : Nat) (b : Bool) (x0 x1 x2 x3 x4 x5 x6 x7 x8 x9 x10 x11 : Value) : Prop where
  res : Kc12 31 W w.heap.size (.int .i64 0) (.int .i64 0) (.int .i64 0) (.int .i64 0) (.int .i64 0) (.int .i64 0) (.int .i64 0) (.bool false) (.slice none 0 0) (.slice none 0 0) (.string { data := #[] }) (.bool false)
  cur : Cur W (w.heap.size + 1) s a b
  msg : Kc12 31 W m x0 x1 x2 x3 x4 x5 x6 x7 x8 x9 x10 x11
  bel : Below w.heap.size w W
  lt1 : w.heap.size + 1 < m
  lt2 : m < M
  siz : M ≤ W.heap.size
section
variable {w W W' : World} {s : ByteArray} {m M a a' : Nat} {b b' : Bool} {x0 x1 x2 x3 x4 x5 x6 x7 x8 x9 x10 x11 : Value}
theorem Sdw.up (h : Sdw w s m M W a b x0 x1 x2 x3 x4 x5 x6 x7 x8 x9 x10 x11) (hb : Below W.heap.size W W') : Sdw w s m M W' a b x0 x1 x2 x3 x4 x5 x6 x7 x8 x9 x10 x11 :=
  ⟨h.res.up hb, h.cur.up hb, h.msg.up hb, Below.on h.bel hb, h.lt1, h.lt2, Nat.le_trans h.siz hb.size⟩
theorem Sdw.alloc (h : Sdw w s m M W a b x0 x1 x2 x3 x4 x5 x6 x7 x8 x9 x10 x11) (o : Obj) : Sdw w s m M (W.alloc o) a b x0 x1 x2 x3 x4 x5 x6 x7 x8 x9 x10 x11 := h.up (ba (Below.refl _ _) _)
theorem Sdw.save (h : Sdw w s m M W a b x0 x1 x2 x3 x4 x5 x6 x7 x8 x9 x10 x11) (hs : Save (w.heap.size + 1) W W') (hc : Cur W' (w.heap.size + 1) s a' b') : Sdw w s m M W' a' b' x0 x1 x2 x3 x4 x5 x6 x7 x8 x9 x10 x11 :=
  ⟨h.res.save hs (by omega), hc, h.msg.save hs (by have := h.lt1; omega), Save.under h.bel hs (by omega) h.bel.size, h.lt1, h.lt2, Nat.le_trans h.siz hs.size⟩
theorem Sdw.grown {row : Option Nat} (h : Sdw w s m M W a b x0 x1 x2 x3 x4 x5 x6 x7 x8 x9 x10 x11) (hg : W.grownBy W' row) (hr : ∀ k, row = some k → M ≤ k) : Sdw w s m M W' a b x0 x1 x2 x3 x4 x5 x6 x7 x8 x9 x10 x11 :=
  have h1 := h.lt1
  have h2 := h.lt2
  ⟨(hg.block _ h.res.lt (fun e => by have := hr _ e.symm; omega)).trans h.res, (hg.block _ h.cur.lt (fun e => by have := hr _ e.symm; omega)).trans h.cur, (hg.block _ h.msg.lt (fun e => by have := hr _ e.symm; omega)).trans h.msg,
    ⟨hg.os.trans h.bel.os, hg.tape.trans h.bel.tape, hg.output.trans h.bel.output, Nat.le_trans h.bel.size hg.size, fun q hq => (hg.block q (Nat.lt_of_lt_of_le hq h.bel.size) (fun e => by have := hr _ e.symm; omega)).trans (h.bel.block q hq)⟩, h.lt1, h.lt2, Nat.le_trans h.siz hg.size⟩
theorem Sdw.s0 (h : Sdw w s m M W a b x0 x1 x2 x3 x4 x5 x6 x7 x8 x9 x10 x11) (u : Value) : Sdw w s m M (W.setCell ⟨m, 0, none⟩ u) a b u x1 x2 x3 x4 x5 x6 x7 x8 x9 x10 x11 :=
  ⟨h.res.far (p := ⟨m, 0, none⟩) (by show m ≠ _; have := h.lt1; omega) u, heap_far h.cur (p := ⟨m, 0, none⟩) (by show m ≠ _; have := h.lt1; omega) u, h.msg.s0 u, h.bel.setCell (p := ⟨m, 0, none⟩) (by show _ ≤ m; have := h.lt1; omega) u, h.lt1, h.lt2, Nat.le_trans h.siz (Below.setCell (B := 0) (Below.refl 0 W) (p := ⟨m, 0, none⟩) (Nat.zero_le _) u).size⟩
theorem Sdw.s1 (h : Sdw w s m M W a b x0 x1 x2 x3 x4 x5 x6 x7 x8 x9 x10 x11) (u : Value) : Sdw w s m M (W.setCell ⟨m, 1, none⟩ u) a b x0 u x2 x3 x4 x5 x6 x7 x8 x9 x10 x11 :=
  ⟨h.res.far (p := ⟨m, 1, none⟩) (by show m ≠ _; have := h.lt1; omega) u, heap_far h.cur (p := ⟨m, 1, none⟩) (by show m ≠ _; have := h.lt1; omega) u, h.msg.s1 u, h.bel.setCell (p := ⟨m, 1, none⟩) (by show _ ≤ m; have := h.lt1; omega) u, h.lt1, h.lt2, Nat.le_trans h.siz (Below.setCell (B := 0) (Below.refl 0 W) (p := ⟨m, 1, none⟩) (Nat.zero_le _) u).size⟩
theorem Sdw.s2 (h : Sdw w s m M W a b x0 x1 x2 x3 x4 x5 x6 x7 x8 x9 x10 x11) (u : Value) : Sdw w s m M (W.setCell ⟨m, 2, none⟩ u) a b x0 x1 u x3 x4 x5 x6 x7 x8 x9 x10 x11 :=
  ⟨h.res.far (p := ⟨m, 2, none⟩) (by show m ≠ _; have := h.lt1; omega) u, heap_far h.cur (p := ⟨m, 2, none⟩) (by show m ≠ _; have := h.lt1; omega) u, h.msg.s2 u, h.bel.setCell (p := ⟨m, 2, none⟩) (by show _ ≤ m; have := h.lt1; omega) u, h.lt1, h.lt2, Nat.le_trans h.siz (Below.setCell (B := 0) (Below.refl 0 W) (p := ⟨m, 2, none⟩) (Nat.zero_le _) u).size⟩
theorem Sdw.s3 (h : Sdw w s m M W a b x0 x1 x2 x3 x4 x5 x6 x7 x8 x9 x10 x11) (u : Value) : Sdw w s m M (W.setCell ⟨m, 3, none⟩ u) a b x0 x1 x2 u x4 x5 x6 x7 x8 x9 x10 x11 :=
  ⟨h.res.far (p := ⟨m, 3, none⟩) (by show m ≠ _; have := h.lt1; omega) u, heap_far h.cur (p := ⟨m, 3, none⟩) (by show m ≠ _; have := h.lt1; omega) u, h.msg.s3 u, h.bel.setCell (p := ⟨m, 3, none⟩) (by show _ ≤ m; have := h.lt1; omega) u, h.lt1, h.lt2, Nat.le_trans h.siz (Below.setCell (B := 0) (Below.refl 0 W) (p := ⟨m, 3, none⟩) (Nat.zero_le _) u).size⟩
theorem Sdw.s4 (h : Sdw w s m M W a b x0 x1 x2 x3 x4 x5 x6 x7 x8 x9 x10 x11) (u : Value) : Sdw w s m M (W.setCell ⟨m, 4, none⟩ u) a b x0 x1 x2 x3 u x5 x6 x7 x8 x9 x10 x11 :=
  ⟨h.res.far (p := ⟨m, 4, none⟩) (by show m ≠ _; have := h.lt1; omega) u, heap_far h.cur (p := ⟨m, 4, none⟩) (by show m ≠ _; have := h.lt1; omega) u, h.msg.s4 u, h.bel.setCell (p := ⟨m, 4, none⟩) (by show _ ≤ m; have := h.lt1; omega) u, h.lt1, h.lt2, Nat.le_trans h.siz (Below.setCell (B := 0) (Below.refl 0 W) (p := ⟨m, 4, none⟩) (Nat.zero_le _) u).size⟩
theorem Sdw.s5 (h : Sdw w s m M W a b x0 x1 x2 x3 x4 x5 x6 x7 x8 x9 x10 x11) (u : Value) : Sdw w s m M (W.setCell ⟨m, 5, none⟩ u) a b x0 x1 x2 x3 x4 u x6 x7 x8 x9 x10 x11 :=
  ⟨h.res.far (p := ⟨m, 5, none⟩) (by show m ≠ _; have := h.lt1; omega) u, heap_far h.cur (p := ⟨m, 5, none⟩) (by show m ≠ _; have := h.lt1; omega) u, h.msg.s5 u, h.bel.setCell (p := ⟨m, 5, none⟩) (by show _ ≤ m; have := h.lt1; omega) u, h.lt1, h.lt2, Nat.le_trans h.siz (Below.setCell (B := 0) (Below.refl 0 W) (p := ⟨m, 5, none⟩) (Nat.zero_le _) u).size⟩
theorem Sdw.s6 (h : Sdw w s m M W a b x0 x1 x2 x3 x4 x5 x6 x7 x8 x9 x10 x11) (u : Value) : Sdw w s m M (W.setCell ⟨m, 6, none⟩ u) a b x0 x1 x2 x3 x4 x5 u x7 x8 x9 x10 x11 :=
  ⟨h.res.far (p := ⟨m, 6, none⟩) (by show m ≠ _; have := h.lt1; omega) u, heap_far h.cur (p := ⟨m, 6, none⟩) (by show m ≠ _; have := h.lt1; omega) u, h.msg.s6 u, h.bel.setCell (p := ⟨m, 6, none⟩) (by show _ ≤ m; have := h.lt1; omega) u, h.lt1, h.lt2, Nat.le_trans h.siz (Below.setCell (B := 0) (Below.refl 0 W) (p := ⟨m, 6, none⟩) (Nat.zero_le _) u).size⟩
theorem Sdw.s7 (h : Sdw w s m M W a b x0 x1 x2 x3 x4 x5 x6 x7 x8 x9 x10 x11) (u : Value) : Sdw w s m M (W.setCell ⟨m, 7, none⟩ u) a b x0 x1 x2 x3 x4 x5 x6 u x8 x9 x10 x11 :=
  ⟨h.res.far (p := ⟨m, 7, none⟩) (by show m ≠ _; have := h.lt1; omega) u, heap_far h.cur (p := ⟨m, 7, none⟩) (by show m ≠ _; have := h.lt1; omega) u, h.msg.s7 u, h.bel.setCell (p := ⟨m, 7, none⟩) (by show _ ≤ m; have := h.lt1; omega) u, h.lt1, h.lt2, Nat.le_trans h.siz (Below.setCell (B := 0) (Below.refl 0 W) (p := ⟨m, 7, none⟩) (Nat.zero_le _) u).size⟩
theorem Sdw.s8 (h : Sdw w s m M W a b x0 x1 x2 x3 x4 x5 x6 x7 x8 x9 x10 x11) (u : Value) : Sdw w s m M (W.setCell ⟨m, 8, none⟩ u) a b x0 x1 x2 x3 x4 x5 x6 x7 u x9 x10 x11 :=
  ⟨h.res.far (p := ⟨m, 8, none⟩) (by show m ≠ _; have := h.lt1; omega) u, heap_far h.cur (p := ⟨m, 8, none⟩) (by show m ≠ _; have := h.lt1; omega) u, h.msg.s8 u, h.bel.setCell (p := ⟨m, 8, none⟩) (by show _ ≤ m; have := h.lt1; omega) u, h.lt1, h.lt2, Nat.le_trans h.siz (Below.setCell (B := 0) (Below.refl 0 W) (p := ⟨m, 8, none⟩) (Nat.zero_le _) u).size⟩
theorem Sdw.s9 (h : Sdw w s m M W a b x0 x1 x2 x3 x4 x5 x6 x7 x8 x9 x10 x11) (u : Value) : Sdw w s m M (W.setCell ⟨m, 9, none⟩ u) a b x0 x1 x2 x3 x4 x5 x6 x7 x8 u x10 x11 :=
  ⟨h.res.far (p := ⟨m, 9, none⟩) (by show m ≠ _; have := h.lt1; omega) u, heap_far h.cur (p := ⟨m, 9, none⟩) (by show m ≠ _; have := h.lt1; omega) u, h.msg.s9 u, h.bel.setCell (p := ⟨m, 9, none⟩) (by show _ ≤ m; have := h.lt1; omega) u, h.lt1, h.lt2, Nat.le_trans h.siz (Below.setCell (B := 0) (Below.refl 0 W) (p := ⟨m, 9, none⟩) (Nat.zero_le _) u).size⟩
theorem Sdw.s10 (h : Sdw w s m M W a b x0 x1 x2 x3 x4 x5 x6 x7 x8 x9 x10 x11) (u : Value) : Sdw w s m M (W.setCell ⟨m, 10, none⟩ u) a b x0 x1 x2 x3 x4 x5 x6 x7 x8 x9 u x11 :=
  ⟨h.res.far (p := ⟨m, 10, none⟩) (by show m ≠ _; have := h.lt1; omega) u, heap_far h.cur (p := ⟨m, 10, none⟩) (by show m ≠ _; have := h.lt1; omega) u, h.msg.s10 u, h.bel.setCell (p := ⟨m, 10, none⟩) (by show _ ≤ m; have := h.lt1; omega) u, h.lt1, h.lt2, Nat.le_trans h.siz (Below.setCell (B := 0) (Below.refl 0 W) (p := ⟨m, 10, none⟩) (Nat.zero_le _) u).size⟩
theorem Sdw.s11 (h : Sdw w s m M W a b x0 x1 x2 x3 x4 x5 x6 x7 x8 x9 x10 x11) (u : Value) : Sdw w s m M (W.setCell ⟨m, 11, none⟩ u) a b x0 x1 x2 x3 x4 x5 x6 x7 x8 x9 x10 u :=
  ⟨h.res.far (p := ⟨m, 11, none⟩) (by show m ≠ _; have := h.lt1; omega) u, heap_far h.cur (p := ⟨m, 11, none⟩) (by show m ≠ _; have := h.lt1; omega) u, h.msg.s11 u, h.bel.setCell (p := ⟨m, 11, none⟩) (by show _ ≤ m; have := h.lt1; omega) u, h.lt1, h.lt2, Nat.le_trans h.siz (Below.setCell (B := 0) (Below.refl 0 W) (p := ⟨m, 11, none⟩) (Nat.zero_le _) u).size⟩
end
set_option linter.unusedSimpArgs false
theorem loadM {W : World} {b : Nat} {x0 x1 x2 x3 x4 x5 x6 x7 x8 x9 x10 x11 : Value} (h : Kc12 31 W b x0 x1 x2 x3 x4 x5 x6 x7 x8 x9 x10 x11) : (Instr.loadAt 31 (.pointer (some ⟨b, 0, none⟩))).run Tryd.prog W = .ok (.agg #[x0, x1, x2, x3, x4, x5, x6, x7, x8, x9, x10, x11]) W := by
  simp [h.c0, h.c1, h.c2, h.c3, h.c4, h.c5, h.c6, h.c7, h.c8, h.c9, h.c10, h.c11, go_sem]
theorem storeM {W : World} {b : Nat} {x0 x1 x2 x3 x4 x5 x6 x7 x8 x9 x10 x11 : Value} (h : Kc12 31 W b x0 x1 x2 x3 x4 x5 x6 x7 x8 x9 x10 x11) (n0 n1 n2 n3 n4 n5 n6 : Int) (b7 b11 : Bool) (a8 a9 : Option Addr) (m8 c8 m9 c9 : Nat) (s10 : ByteArray) : (Instr.storeAt 31 (.pointer (some ⟨b, 0, none⟩)) (.agg #[.int .i64 n0, .int .i64 n1, .int .i64 n2, .int .i64 n3, .int .i64 n4, .int .i64 n5, .int .i64 n6, .bool b7, .slice a8 m8 c8, .slice a9 m9 c9, .string s10, .bool b11])).run Tryd.prog W = .ok () (set12 W b (.int .i64 n0) (.int .i64 n1) (.int .i64 n2) (.int .i64 n3) (.int .i64 n4) (.int .i64 n5) (.int .i64 n6) (.bool b7) (.slice a8 m8 c8) (.slice a9 m9 c9) (.string s10) (.bool b11)) := by
  have f0 := h.fz 0
  have f1 := h.fz 1
  have f2 := h.fz 2
  have f3 := h.fz 3
  have f4 := h.fz 4
  have f5 := h.fz 5
  have f6 := h.fz 6
  have f7 := h.fz 7
  have f8 := h.fz 8
  have f9 := h.fz 9
  have f10 := h.fz 10
  have f11 := h.fz 11
  have c0 := h.c0
  have c1 := h.c1
  have c2 := h.c2
  have c3 := h.c3
  have c4 := h.c4
  have c5 := h.c5
  have c6 := h.c6
  have c7 := h.c7
  have c8 := h.c8
  have c9 := h.c9
  have c10 := h.c10
  have c11 := h.c11
  simp [c0, c1, c2, c3, c4, c5, c6, c7, c8, c9, c10, c11, f0, f1, f2, f3, f4, f5, f6, f7, f8, f9, f10, f11, asAddr, go_sem]
theorem wpList_loadM {ops : Array Oper} {rest : List Oper} {o : Oper} {a : Act} {w : World} {Q : Exit → Act → World → Prop} {x0 x1 x2 x3 x4 x5 x6 x7 x8 x9 x10 x11 : Value} (hgd : o.guard = none) (x : Operand) (ho : o.op = .load 31 x) (b : Nat) (hx : a.eval x = .pointer (some ⟨b, 0, none⟩)) (h : Kc12 31 w b x0 x1 x2 x3 x4 x5 x6 x7 x8 x9 x10 x11)
    (hn : wpList Tryd.prog ops Q rest (a.put o.dst (.agg #[x0, x1, x2, x3, x4, x5, x6, x7, x8, x9, x10, x11])) w) : wpList Tryd.prog ops Q (o :: rest) a w :=
  wpList_plain hgd fun _ hK => by
    have hl := loadM h
    unfold Oper.wp execOp
    simp only [ho, hx, Sem.run_bind, hl, Result.andThen_ok, Sem.run_pure]
    exact hK _ _ hn
theorem wpList_storeM {ops : Array Oper} {rest : List Oper} {o : Oper} {a : Act} {w : World} {Q : Exit → Act → World → Prop} {x0 x1 x2 x3 x4 x5 x6 x7 x8 x9 x10 x11 : Value} (hgd : o.guard = none) (x y : Operand) (ho : o.op = .store 31 x y) (b : Nat) (hx : a.eval x = .pointer (some ⟨b, 0, none⟩)) (h : Kc12 31 w b x0 x1 x2 x3 x4 x5 x6 x7 x8 x9 x10 x11) (n0 n1 n2 n3 n4 n5 n6 : Int) (b7 b11 : Bool) (a8 a9 : Option Addr) (m8 c8 m9 c9 : Nat) (s10 : ByteArray)
    (hy : a.eval y = .agg #[.int .i64 n0, .int .i64 n1, .int .i64 n2, .int .i64 n3, .int .i64 n4, .int .i64 n5, .int .i64 n6, .bool b7, .slice a8 m8 c8, .slice a9 m9 c9, .string s10, .bool b11])
    (hn : wpList Tryd.prog ops Q rest (a.put o.dst undef) (set12 w b (.int .i64 n0) (.int .i64 n1) (.int .i64 n2) (.int .i64 n3) (.int .i64 n4) (.int .i64 n5) (.int .i64 n6) (.bool b7) (.slice a8 m8 c8) (.slice a9 m9 c9) (.string s10) (.bool b11))) : wpList Tryd.prog ops Q (o :: rest) a w :=
  wpList_plain hgd fun _ hK => by
    have hl := storeM h n0 n1 n2 n3 n4 n5 n6 b7 b11 a8 a9 m8 c8 m9 c9 s10
    unfold Oper.wp execOp
    simp only [ho, hx, hy, Sem.run_bind, hl, Result.andThen_ok, Sem.run_pure]
    exact hK _ _ hn
theorem stopAt {P : Program} {ops : Array Oper} {rest : List Oper} {o : Oper} {a : Act} {w : World} {Q : Exit → Act → World → Prop} (n : Nat) (h : o.dst = some n) (x : wpList P ops Q (o :: rest) a w) : wpList P ops Q (o :: rest) a w := x
theorem take3_any (g : Nat) (s : ByteArray) (w : World) (hc : Cur w g s 0 false) (hs : s.size ≤ 1048576) :
    Calls Tryd.prog 34 #[.pointer (some ⟨g, 0, none⟩), .int .i64 3] w fun e w' => ∃ (t : ByteArray) (a' : Nat) (b' : Bool), e = .returned (.string t) ∧ takeS s 0 false 3 = (t, a', b') ∧ a' ≤ s.size ∧ Cur w' g s a' b' ∧ Save g w w' := take_any g s 0 3 false w hc hs (Nat.zero_le _)
set_option maxRecDepth 10000 in
set_option maxHeartbeats 1000000 in
theorem short5_any (g : Nat) (s : ByteArray) (a : Nat) (b : Bool) (w : World) (hc : Cur w g s a b) (hs : s.size ≤ 1048576) (ha : a ≤ s.size) :
    Calls Tryd.prog 37 #[.pointer (some ⟨g, 0, none⟩)] w fun e w' => ∃ (x : ByteArray) (a' : Nat) (b' : Bool), e = .returned (.string x) ∧ sho5P s a b = (x, a', b') ∧ a' ≤ s.size ∧ x.size ≤ 1048576 ∧ Cur w' g s a' b' ∧ Save g w w' := by
  have HC : Hid (Cur w g s a b) := hc
  obtain ⟨R, HR⟩ : ∃ R, Hid (sho5P s a b = R) := ⟨_, rfl⟩
  rw [HR.out]
  clear hc
  go_enter Tryd.func37, Tryd.ntmps37
  go_wp2_with fail
  refine (var_any g s a b w HC.out hs ha).mono ?_
  rintro e w1 ⟨n, a1, b1, rfl, hq, ha1, hn, hc1, hs1⟩
  have HQ : Hid (varS s a b = (n, a1, b1)) := hq
  have H1 : Hid (Cur w1 g s a1 b1) := hc1
  have S1 : Hid (Save g w w1) := hs1
  clear hq hc1 hs1
  go_wp2_with fail
  refine (take_any g s a1 n b1 w1 H1.out hs ha1).mono ?_
  rintro e w2 ⟨t, a2, b2, rfl, hq, ha2, hc2, hs2⟩
  have HR2 : Hid (sho5P s a b = (t, a2, b2)) := by show _ = _; unfold sho5P; rw [HQ.out]; exact hq
  have HT : Hid (t.size ≤ 1048576) := by
    show _ ≤ _
    have := sho5P_sz s a b
    rw [HR2.out] at this
    exact Nat.le_trans this hs
  obtain rfl : R = (t, a2, b2) := by rw [← HR.out]; exact HR2.out
  have H2 : Hid (Cur w2 g s a2 b2) := hc2
  have S2 : Hid (Save g w w2) := S1.out.trans hs2
  clear hq hc2 hs2
  go_wp2
  go_ret
  exact ⟨t, a2, b2, rfl, rfl, ha2, HT.out, H2.out, S2.out⟩
theorem extract3_at {s : ByteArray} (h : 3 ≤ s.size) (i : Nat) (hi : i < 3) : ∃ h1 : i < (s.extract 0 3).size, (s.extract 0 3)[i]'h1 = s[i] := by
  have h1 : i < (s.extract 0 3).size := by rw [ByteArray.size_extract]; omega
  refine ⟨h1, ?_⟩
  simp [ByteArray.getElem_extract]
theorem head_at {s : ByteArray} (h : 3 ≤ s.size) (i : Nat) (hi : i < 3) (wx : World) : (Instr.index 9 (.string (s.extract 0 3)) (.int .i64 (i : Int))).run Tryd.prog wx = .ok (.int .u8 (kAt s i : Int)) wx := by
  obtain ⟨h1, h2⟩ := extract3_at h i hi
  have := run_index_string (P := Tryd.prog) wx 9 (s.extract 0 3) .i64 (i : Int) Tryd.underlying9
  rw [this, dif_pos ⟨by omega, by omega⟩, kAt_in (by omega), ← h2]
  rfl
set_option maxRecDepth 10000 in
set_option maxHeartbeats 8000000 in
theorem specDecode_any (s : ByteArray) (w : World) (hs : s.size ≤ 1048576) :
    Calls Tryd.prog 10 #[.string s] w (RwM ((rcM s).getD zeroM) (rcM s).isSome w) := by
  have HS : Hid (s.size ≤ 1048576) := hs
  clear hs
  obtain ⟨R, HR⟩ : ∃ R, Hid (rcM s = R) := ⟨_, rfl⟩
  rw [HR.out]
  obtain ⟨W0, HW0⟩ : ∃ V, Hid ((w.alloc (.cells #[.int .i64 0, .int .i64 0, .int .i64 0, .int .i64 0, .int .i64 0, .int .i64 0, .int .i64 0, .bool false, .slice none 0 0, .slice none 0 0, .string { data := #[] }, .bool false] 31)).alloc (.cells #[.string s, .int .i64 0, .bool false] 68) = V) := ⟨_, rfl⟩
  have K0 : Hid (Kc12 31 W0 w.heap.size (.int .i64 0) (.int .i64 0) (.int .i64 0) (.int .i64 0) (.int .i64 0) (.int .i64 0) (.int .i64 0) (.bool false) (.slice none 0 0) (.slice none 0 0) (.string { data := #[] }) (.bool false)) := by rw [← HW0.out]; exact (Kc12.new _ _ _ _ _ _ _ _ _ _ _ _ _ _).alloc _
  have C0 : Hid (Cur W0 (w.heap.size + 1) s 0 false) := by rw [← HW0.out]; exact heap_next _ _ _
  have B0 : Hid (Below w.heap.size w W0) := by rw [← HW0.out]; exact ba (ba (Below.refl _ _) _) _
  go_enter Tryd.func10, Tryd.ntmps10
  go_wp2_with fail
  rw [HW0.out]
  refine (take3_any (w.heap.size + 1) s _ C0.out HS.out).mono ?_
  rintro e w1 ⟨t, a1, b1, rfl, hq, ha1, hc1, hs1⟩
  have K1 : Hid (Kc12 31 w1 w.heap.size (.int .i64 0) (.int .i64 0) (.int .i64 0) (.int .i64 0) (.int .i64 0) (.int .i64 0) (.int .i64 0) (.bool false) (.slice none 0 0) (.slice none 0 0) (.string { data := #[] }) (.bool false)) := K0.out.save hs1 (by omega)
  have C1 : Hid (Cur w1 (w.heap.size + 1) s a1 b1) := hc1
  have B1 : Hid (Below w.heap.size w w1) := Save.under B0.out hs1 (by omega) B0.out.size
  clear hc1 hs1 K0 C0 B0 HW0
  cases b1 with
  | true =>
    have hsm : s.size < 3 := by
      unfold takeS at hq
      split at hq
      · simp at hq
      · rename_i h
        by_cases h3 : s.size < 3
        · exact h3
        · exact absurd ⟨rfl, by omega⟩ h
    obtain rfl : R = none := by rw [← HR.out]; exact rcM_short hsm
    have q2 := (cur_cells C1.out).2.2.1
    clear hq
    go_wp2_with (refine wpList_storeM rfl (.tmp 2) (.tmp 23) rfl _ rfl K1.out 0 0 0 0 0 0 0 false false none none 0 0 0 0 ⟨#[]⟩ rfl ?_)
    refine bodyPost_ret (ret_msg2 rfl rfl rfl (K1.out.set (.int .i64 0) (.int .i64 0) (.int .i64 0) (.int .i64 0) (.int .i64 0) (.int .i64 0) (.int .i64 0) (.bool false) (.slice none 0 0) (.slice none 0 0) (.string { data := #[] }) (.bool false))) rfl ?_
    exact ⟨none, 0, 0, none, 0, 0, rfl, ownsR_nil _ _ _, ownsC_nil _ _, below_set12 B1.out (Nat.le_refl _) _ _ _ _ _ _ _ _ _ _ _ _⟩
  | false =>
  obtain ⟨-, h3, rfl, rfl⟩ := takeS_ok hq
  have h3 : 3 ≤ s.size := by omega
  have q2 := (cur_cells C1.out).2.2.1
  obtain ⟨k0, HK0⟩ : ∃ k, Hid (kAt s 0 = k) := ⟨_, rfl⟩
  obtain ⟨k1, HK1⟩ : ∃ k, Hid (kAt s 1 = k) := ⟨_, rfl⟩
  obtain ⟨k2, HK2⟩ : ∃ k, Hid (kAt s 2 = k) := ⟨_, rfl⟩
  obtain ⟨t, HT⟩ : ∃ t, Hid (s.extract 0 3 = t) := ⟨_, rfl⟩
  have i0 : ∀ wx, (Instr.index 9 (.string t) (.int .i64 0)).run Tryd.prog wx = .ok (.int .u8 (k0 : Int)) wx := fun wx => by rw [← HT.out, ← HK0.out]; exact head_at h3 0 (by omega) wx
  have i1 : ∀ wx, (Instr.index 9 (.string t) (.int .i64 1)).run Tryd.prog wx = .ok (.int .u8 (k1 : Int)) wx := fun wx => by rw [← HT.out, ← HK1.out]; exact head_at h3 1 (by omega) wx
  have i2 : ∀ wx, (Instr.index 9 (.string t) (.int .i64 2)).run Tryd.prog wx = .ok (.int .u8 (k2 : Int)) wx := fun wx => by rw [← HT.out, ← HK2.out]; exact head_at h3 2 (by omega) wx
  have hk0 : k0 < 256 := by rw [← HK0.out]; exact kAt_lt s 0
  have hk1 : k1 < 256 := by rw [← HK1.out]; exact kAt_lt s 1
  have hk2 : k2 < 256 := by rw [← HK2.out]; exact kAt_lt s 2
  have hv0 : IntKind.i64.wrap (k0 : Int) = (k0 : Int) := by go_arith
  have hv1 : IntKind.i64.wrap (k1 : Int) = (k1 : Int) := by go_arith
  have hv2 : IntKind.i64.wrap (k2 : Int) = (k2 : Int) := by go_arith
  clear hq hk0 hk1 hk2
  simp only [HT.out]
  have BD : Below w1.heap.size w1 w1.drew := (Below.refl _ _).drew
  go_wp2
  refine wp_region_pick (fun w' => ∃ x : Wd w1, w' = x.at') [0, 1, 2, 3, 4, 5, 6, 7, 8, 9] 11 1 (by kernel_rfl) (by decide) (by decide) (by kernel_rfl) (fun _ _ d _ _ h => by cases d <;> exact h) ⟨⟨w1.drew, BD⟩, rfl⟩ ?_
  repeat (refine wpTakes_l rfl (by first | (intro x h; cases h; done) | (intro x h; cases h; exact ⟨_, rfl⟩)) ?_; go_big_quiet_step (fail); refine wpQuiet_nil ?_)
  refine takes_nil ?_
  refine any_one (fuel := 0) (i := 10) (by kernel_rfl) rfl rfl ?_
  intro K hK
  obtain ⟨V, HV⟩ : ∃ V, Hid (w1.drew = V) := ⟨_, rfl⟩
  have KV : Hid (Kc12 31 V w.heap.size (.int .i64 0) (.int .i64 0) (.int .i64 0) (.int .i64 0) (.int .i64 0) (.int .i64 0) (.int .i64 0) (.bool false) (.slice none 0 0) (.slice none 0 0) (.string { data := #[] }) (.bool false)) := by rw [← HV.out]; exact K1.out
  have CV : Hid (Cur V (w.heap.size + 1) s (0 + 3) false) := by rw [← HV.out]; exact C1.out
  have BV : Hid (Below w.heap.size w V) := by rw [← HV.out]; exact B1.out.drew
  rw [HV.out] at BD
  rw [HV.out]
  obtain ⟨V2, HV2⟩ : ∃ V2, Hid (V.alloc (.cells #[.int .i64 0, .int .i64 0, .int .i64 0, .int .i64 0, .int .i64 0, .int .i64 0, .int .i64 0, .bool false, .slice none 0 0, .slice none 0 0, .string { data := #[] }, .bool false] 31) = V2) := ⟨_, rfl⟩
  obtain ⟨m, Hm⟩ : ∃ m, Hid (V.heap.size = m) := ⟨_, rfl⟩
  have A0 : Hid (Sdw w s m (m + 1) V2 (0 + 3) false (.int .i64 0) (.int .i64 0) (.int .i64 0) (.int .i64 0) (.int .i64 0) (.int .i64 0) (.int .i64 0) (.bool false) (.slice none 0 0) (.slice none 0 0) (.string { data := #[] }) (.bool false)) := by
    rw [← HV2.out, ← Hm.out]
    exact ⟨KV.out.alloc _, heap_old CV.out _, Kc12.new _ _ _ _ _ _ _ _ _ _ _ _ _ _, ba BV.out _, CV.out.lt, Nat.lt_succ_self _, by show _ ≤ (V.heap.push _).size; rw [Array.size_push]; exact Nat.le_refl _⟩
  clear HV KV CV BV q2 i0 i1 i2 hv0 hv1 hv2 K1 C1 B1
  go_wp2
  refine hK.out _ _ ⟨⟨_, ba BD _⟩, rfl⟩ ?_
  clear hK K BD
  refine any_done (by kernel_rfl) ?_
  rw [HV2.out]
  simp only [Hm.out]
  have c0 := A0.out.msg.c0
  have f0 := A0.out.msg.fz 0
  have c1 := A0.out.msg.c1
  have f1 := A0.out.msg.fz 1
  have c2 := A0.out.msg.c2
  have f2 := A0.out.msg.fz 2
  have c3 := A0.out.msg.c3
  have f3 := A0.out.msg.fz 3
  have c4 := A0.out.msg.c4
  have f4 := A0.out.msg.fz 4
  have c5 := A0.out.msg.c5
  have f5 := A0.out.msg.fz 5
  have c6 := A0.out.msg.c6
  have f6 := A0.out.msg.fz 6
  have c7 := A0.out.msg.c7
  have f7 := A0.out.msg.fz 7
  have c8 := A0.out.msg.c8
  have f8 := A0.out.msg.fz 8
  have c9 := A0.out.msg.c9
  have f9 := A0.out.msg.fz 9
  have c10 := A0.out.msg.c10
  have f10 := A0.out.msg.fz 10
  have c11 := A0.out.msg.c11
  have f11 := A0.out.msg.fz 11
  go_wp2_with fail
  obtain ⟨V3, HV3⟩ : ∃ V, Hid ((((((((((((V2.setCell ⟨m, 0, none⟩ (.int .i64 (k0 : Int))).setCell ⟨m, 1, none⟩ (.int .i64 (k1 : Int))).setCell ⟨m, 2, none⟩ (.int .i64 (k2 : Int))).setCell ⟨m, 3, none⟩ (.int .i64 0)).setCell ⟨m, 4, none⟩ (.int .i64 0)).setCell ⟨m, 5, none⟩ (.int .i64 0)).setCell ⟨m, 6, none⟩ (.int .i64 0)).setCell ⟨m, 7, none⟩ (.bool false)).setCell ⟨m, 8, none⟩ (.slice none 0 0)).setCell ⟨m, 9, none⟩ (.slice none 0 0)).setCell ⟨m, 10, none⟩ (.string { data := #[] })).setCell ⟨m, 11, none⟩ (.bool false) = V) := ⟨_, rfl⟩
  have A3 : Hid (Sdw w s m (m + 1) V3 (0 + 3) false (.int .i64 (k0 : Int)) (.int .i64 (k1 : Int)) (.int .i64 (k2 : Int)) (.int .i64 0) (.int .i64 0) (.int .i64 0) (.int .i64 0) (.bool false) (.slice none 0 0) (.slice none 0 0) (.string { data := #[] }) (.bool false)) := by
    rw [← HV3.out]
    exact (((((((((((A0.out.s0 _).s1 _).s2 _).s3 _).s4 _).s5 _).s6 _).s7 _).s8 _).s9 _).s10 _).s11 _
  clear c0 f0 c1 f1 c2 f2 c3 f3 c4 f4 c5 f5 c6 f6 c7 f7 c8 f8 c9 f9 c10 f10 c11 f11 A0 HV2
  rw [HV3.out]
  refine (var_any (w.heap.size + 1) s (0 + 3) false _ A3.out.cur HS.out ha1).mono ?_
  rintro e w4 ⟨y3, p4, d4, rfl, hq, hp4, -, hc, hs⟩
  have Q3 : Hid (varS s 3 false = (y3, p4, d4)) := hq
  have A' := A3.out.save hs hc
  obtain ⟨V4, HV4⟩ : ∃ V, Hid (w4.setCell ⟨m, 3, none⟩ (.int .i64 (y3 : Int)) = V) := ⟨_, rfl⟩
  have A4 : Hid (Sdw w s m (m + 1) V4 p4 d4 (.int .i64 (k0 : Int)) (.int .i64 (k1 : Int)) (.int .i64 (k2 : Int)) (.int .i64 (y3 : Int)) (.int .i64 0) (.int .i64 0) (.int .i64 0) (.bool false) (.slice none 0 0) (.slice none 0 0) (.string { data := #[] }) (.bool false)) := by rw [← HV4.out]; exact A'.s3 _
  have c := A'.msg.c3
  have f := A'.msg.fz 3
  clear hq hc hs A' A3 HV3
  go_wp2_with fail
  clear c f
  rw [HV4.out]
  refine (var_any (w.heap.size + 1) s p4 d4 _ A4.out.cur HS.out hp4).mono ?_
  rintro e w5 ⟨y4, p5, d5, rfl, hq, hp5, -, hc, hs⟩
  have Q4 : Hid (varS s p4 d4 = (y4, p5, d5)) := hq
  have A' := A4.out.save hs hc
  obtain ⟨V5, HV5⟩ : ∃ V, Hid (w5.setCell ⟨m, 4, none⟩ (.int .i64 (y4 : Int)) = V) := ⟨_, rfl⟩
  have A5 : Hid (Sdw w s m (m + 1) V5 p5 d5 (.int .i64 (k0 : Int)) (.int .i64 (k1 : Int)) (.int .i64 (k2 : Int)) (.int .i64 (y3 : Int)) (.int .i64 (y4 : Int)) (.int .i64 0) (.int .i64 0) (.bool false) (.slice none 0 0) (.slice none 0 0) (.string { data := #[] }) (.bool false)) := by rw [← HV5.out]; exact A'.s4 _
  have c := A'.msg.c4
  have f := A'.msg.fz 4
  clear hq hc hs A' A4 HV4
  go_wp2_with fail
  clear c f
  rw [HV5.out]
  refine (var_any (w.heap.size + 1) s p5 d5 _ A5.out.cur HS.out hp5).mono ?_
  rintro e w6 ⟨y5, p6, d6, rfl, hq, hp6, -, hc, hs⟩
  have Q5 : Hid (varS s p5 d5 = (y5, p6, d6)) := hq
  have A' := A5.out.save hs hc
  obtain ⟨V6, HV6⟩ : ∃ V, Hid (w6.setCell ⟨m, 5, none⟩ (.int .i64 (y5 : Int)) = V) := ⟨_, rfl⟩
  have A6 : Hid (Sdw w s m (m + 1) V6 p6 d6 (.int .i64 (k0 : Int)) (.int .i64 (k1 : Int)) (.int .i64 (k2 : Int)) (.int .i64 (y3 : Int)) (.int .i64 (y4 : Int)) (.int .i64 (y5 : Int)) (.int .i64 0) (.bool false) (.slice none 0 0) (.slice none 0 0) (.string { data := #[] }) (.bool false)) := by rw [← HV6.out]; exact A'.s5 _
  have c := A'.msg.c5
  have f := A'.msg.fz 5
  clear hq hc hs A' A5 HV5
  go_wp2_with fail
  clear c f
  rw [HV6.out]
  refine (var_any (w.heap.size + 1) s p6 d6 _ A6.out.cur HS.out hp6).mono ?_
  rintro e w7 ⟨y6, p7, d7, rfl, hq, hp7, -, hc, hs⟩
  have Q6 : Hid (varS s p6 d6 = (y6, p7, d7)) := hq
  have A' := A6.out.save hs hc
  obtain ⟨V7, HV7⟩ : ∃ V, Hid (w7.setCell ⟨m, 6, none⟩ (.int .i64 (y6 : Int)) = V) := ⟨_, rfl⟩
  have A7 : Hid (Sdw w s m (m + 1) V7 p7 d7 (.int .i64 (k0 : Int)) (.int .i64 (k1 : Int)) (.int .i64 (k2 : Int)) (.int .i64 (y3 : Int)) (.int .i64 (y4 : Int)) (.int .i64 (y5 : Int)) (.int .i64 (y6 : Int)) (.bool false) (.slice none 0 0) (.slice none 0 0) (.string { data := #[] }) (.bool false)) := by rw [← HV7.out]; exact A'.s6 _
  have c := A'.msg.c6
  have f := A'.msg.fz 6
  clear hq hc hs A' A6 HV6
  go_wp2_with fail
  clear c f
  rw [HV7.out]
  refine (take1_any (w.heap.size + 1) s p7 d7 _ A7.out.cur HS.out hp7).mono ?_
  rintro e w8 ⟨t7, p8, d8, rfl, hq, hp8, hc, hs⟩
  have Q7 : Hid (takeS s p7 d7 1 = (t7, p8, d8)) := hq
  have A' := A7.out.save hs hc
  obtain ⟨f7, HF7⟩ : ∃ f, Hid ((t7.toList == ([1] : List UInt8)) = f) := ⟨_, rfl⟩
  obtain ⟨V8, HV8⟩ : ∃ V, Hid (w8.setCell ⟨m, 7, none⟩ (.bool (t7.toList == ([1] : List UInt8))) = V) := ⟨_, rfl⟩
  have A8 : Hid (Sdw w s m (m + 1) V8 p8 d8 (.int .i64 (k0 : Int)) (.int .i64 (k1 : Int)) (.int .i64 (k2 : Int)) (.int .i64 (y3 : Int)) (.int .i64 (y4 : Int)) (.int .i64 (y5 : Int)) (.int .i64 (y6 : Int)) (.bool f7) (.slice none 0 0) (.slice none 0 0) (.string { data := #[] }) (.bool false)) := by rw [← HV8.out, HF7.out]; exact A'.s7 _
  have c := A'.msg.c7
  have f := A'.msg.fz 7
  clear hq hc hs A' A7 HV7
  go_wp2_with fail
  clear c f
  rw [HV8.out]
  refine (take1_any (w.heap.size + 1) s p8 d8 _ A8.out.cur HS.out hp8).mono ?_
  rintro e w9 ⟨t8, p9, d9, rfl, hq, hp9, hc, hs⟩
  have Q8 : Hid (takeS s p8 d8 1 = (t8, p9, d9)) := hq
  have A' := A8.out.save hs hc
  obtain ⟨f8, HF8⟩ : ∃ f, Hid ((t8.toList == ([1] : List UInt8)) = f) := ⟨_, rfl⟩
  obtain ⟨V9, HV9⟩ : ∃ V, Hid (w9.setCell ⟨m, 11, none⟩ (.bool (t8.toList == ([1] : List UInt8))) = V) := ⟨_, rfl⟩
  have A9 : Hid (Sdw w s m (m + 1) V9 p9 d9 (.int .i64 (k0 : Int)) (.int .i64 (k1 : Int)) (.int .i64 (k2 : Int)) (.int .i64 (y3 : Int)) (.int .i64 (y4 : Int)) (.int .i64 (y5 : Int)) (.int .i64 (y6 : Int)) (.bool f7) (.slice none 0 0) (.slice none 0 0) (.string { data := #[] }) (.bool f8)) := by rw [← HV9.out, HF8.out]; exact A'.s11 _
  have c := A'.msg.c11
  have f := A'.msg.fz 11
  clear hq hc hs A' A8 HV8
  go_wp2_with fail
  clear c f
  rw [HV9.out]
  refine (var_any (w.heap.size + 1) s p9 d9 _ A9.out.cur HS.out hp9).mono ?_
  rintro e w10 ⟨n, p10, d10, rfl, hq, hp10, -, hc, hs⟩
  have Q9 : Hid (varS s p9 d9 = (n, p10, d10)) := hq
  have A10 : Hid (Sdw w s m (m + 1) w10 p10 d10 (.int .i64 (k0 : Int)) (.int .i64 (k1 : Int)) (.int .i64 (k2 : Int)) (.int .i64 (y3 : Int)) (.int .i64 (y4 : Int)) (.int .i64 (y5 : Int)) (.int .i64 (y6 : Int)) (.bool f7) (.slice none 0 0) (.slice none 0 0) (.string { data := #[] }) (.bool f8)) := A9.out.save hs hc
  obtain ⟨E, HE⟩ : ∃ E, Hid (entC s (min n 5) p10 d10 [] = E) := ⟨_, rfl⟩
  clear hq hc hs A9 HV9
  go_wp2
  go_loopw [8] (fun i wr => ∃ (k a : Nat) (b : Bool) (l : List En) (o0 : Option Addr) (o1 o2 : Nat), k ≤ 5 ∧ k ≤ n ∧ i = .int .i64 k ∧ a ≤ s.size ∧ l.length = k ∧ Hid (entC s (min n 5 - k) a b l = E) ∧ Hid (ownsR wr (m + 1) 47 (.slice o0 o1 o2) l) ∧ Hid (Sdw w s m (m + 1) wr a b (.int .i64 (k0 : Int)) (.int .i64 (k1 : Int)) (.int .i64 (k2 : Int)) (.int .i64 (y3 : Int)) (.int .i64 (y4 : Int)) (.int .i64 (y5 : Int)) (.int .i64 (y6 : Int)) (.bool f7) (.slice o0 o1 o2) (.slice none 0 0) (.string { data := #[] }) (.bool f8))) (fun i _ => 5 - (intOf i).toNat)
  case atStart => exact ⟨0, p10, d10, [], none, 0, 0, Nat.zero_le _, Nat.zero_le _, rfl, hp10, rfl, HE, ownsR_nil _ _ _, A10⟩
  case round =>
    obtain ⟨k, a, b, l, o0, o1, o2, hk5, hkn, rfl, ha, hl, HX, HO, A⟩ := hrel
    have q2 := (cur_cells A.out.cur).2.2.1
    by_cases hlt : k < n
    · cases b with
      | true =>
        have HEE : Hid (E = (l, a, true)) := by show _ = _; rw [← HX.out]; exact entC_bad _ _ _ _
        clear HX
        go_wp2_with fail
        clear q2 hlt
        refine (short5_any (w.heap.size + 1) s a true _ A.out.cur HS.out ha).mono ?_
        rintro e u1 ⟨t11, g1, e1, rfl, hq, hg1, ht, hc, hs⟩
        have Q11 : Hid (sho5P s a true = (t11, g1, e1)) := hq
        have D1 : Hid (Sdw w s m (m + 1) u1 g1 e1 (.int .i64 (k0 : Int)) (.int .i64 (k1 : Int)) (.int .i64 (k2 : Int)) (.int .i64 (y3 : Int)) (.int .i64 (y4 : Int)) (.int .i64 (y5 : Int)) (.int .i64 (y6 : Int)) (.bool f7) (.slice o0 o1 o2) (.slice none 0 0) (.string { data := #[] }) (.bool f8)) := A.out.save hs hc
        have O1 : Hid (ownsR u1 (m + 1) 47 (.slice o0 o1 o2) l) := HO.out.saveE hs (by have := A.out.lt1; omega)
        have HT11 : Hid (t11.size ≤ maxLen) := by show _ ≤ _; unfold maxLen; omega
        clear hq hc hs A HO ht
        go_wp2_with fail
        refine (specReadConf_any t11 _ HT11.out).mono ?_
        rintro e u2 ⟨cv, rfl, hoc, hb⟩
        obtain ⟨z0, z1, z2, rfl⟩ := hoc.slice3
        have D2 := D1.out.up hb
        have O2 : Hid (ownsR u2 (m + 1) 47 (.slice o0 o1 o2) l) := O1.out.all hb
        have OC2 : Hid (ownsR u2 (m + 1) 3 (.slice z0 z1 z2) (confT t11)) := hoc.mono D1.out.siz
        obtain ⟨U2, HU2⟩ : ∃ V, Hid (u2.setCell ⟨m, 9, none⟩ (.slice z0 z1 z2) = V) := ⟨_, rfl⟩
        have G2 : Hid (Sdw w s m (m + 1) U2 g1 e1 (.int .i64 (k0 : Int)) (.int .i64 (k1 : Int)) (.int .i64 (k2 : Int)) (.int .i64 (y3 : Int)) (.int .i64 (y4 : Int)) (.int .i64 (y5 : Int)) (.int .i64 (y6 : Int)) (.bool f7) (.slice o0 o1 o2) (.slice z0 z1 z2) (.string { data := #[] }) (.bool f8)) := by rw [← HU2.out]; exact D2.s9 _
        have P2 : Hid (ownsR U2 (m + 1) 47 (.slice o0 o1 o2) l) := by rw [← HU2.out]; exact O2.out.setBelow (a := ⟨m, 9, none⟩) (Nat.lt_succ_self m) _
        have PC2 : Hid (ownsR U2 (m + 1) 3 (.slice z0 z1 z2) (confT t11)) := by rw [← HU2.out]; exact OC2.out.setBelow (a := ⟨m, 9, none⟩) (Nat.lt_succ_self m) _
        have c := D2.msg.c9
        have f := D2.msg.fz 9
        clear hoc hb D1 D2 O1 O2 OC2 HT11
        go_wp2_with fail
        clear c f
        rw [HU2.out]
        refine (short5_any (w.heap.size + 1) s g1 e1 _ G2.out.cur HS.out hg1).mono ?_
        rintro e u3 ⟨t12, g2, e2, rfl, hq, hg2, -, hc, hs⟩
        have Q12 : Hid (sho5P s g1 e1 = (t12, g2, e2)) := hq
        have D3 := G2.out.save hs hc
        have O3 : Hid (ownsR u3 (m + 1) 47 (.slice o0 o1 o2) l) := P2.out.saveE hs (by have := G2.out.lt1; omega)
        have OC3 : Hid (ownsR u3 (m + 1) 3 (.slice z0 z1 z2) (confT t11)) := PC2.out.saveE hs (by have := G2.out.lt1; omega)
        obtain ⟨U3, HU3⟩ : ∃ V, Hid (u3.setCell ⟨m, 10, none⟩ (.string t12) = V) := ⟨_, rfl⟩
        have G3 : Hid (Sdw w s m (m + 1) U3 g2 e2 (.int .i64 (k0 : Int)) (.int .i64 (k1 : Int)) (.int .i64 (k2 : Int)) (.int .i64 (y3 : Int)) (.int .i64 (y4 : Int)) (.int .i64 (y5 : Int)) (.int .i64 (y6 : Int)) (.bool f7) (.slice o0 o1 o2) (.slice z0 z1 z2) (.string t12) (.bool f8)) := by rw [← HU3.out]; exact D3.s10 _
        have P3 : Hid (ownsR U3 (m + 1) 47 (.slice o0 o1 o2) l) := by rw [← HU3.out]; exact O3.out.setBelow (a := ⟨m, 10, none⟩) (Nat.lt_succ_self m) _
        have PC3 : Hid (ownsR U3 (m + 1) 3 (.slice z0 z1 z2) (confT t11)) := by rw [← HU3.out]; exact OC3.out.setBelow (a := ⟨m, 10, none⟩) (Nat.lt_succ_self m) _
        have c := D3.msg.c10
        have f := D3.msg.fz 10
        clear hq hc hs G2 P2 PC2 HU2 D3 O3 OC3
        obtain ⟨x, HXX⟩ : ∃ x : Mg8, Hid ((⟨k0, k1, k2, y3, y4, y5, y6, f7, f8, l, t11, t12⟩ : Mg8) = x) := ⟨_, rfl⟩
        have HCH : Hid (chS s = (x, e2)) := by
          show _ = _
          rw [← HXX.out]
          simp only [chS, Q3.out, Q4.out, Q5.out, Q6.out, Q7.out, Q8.out, Q9.out, HE.out, HEE.out, Q11.out, Q12.out, HF7.out, HF8.out, HK0.out, HK1.out, HK2.out]
        have HFI : Hid (l.length ≤ 5 ∧ ∀ f ∈ l, f.data.size ≤ 1048576) := by
          have h1 := chS_fine s
          rw [HCH.out, ← HXX.out] at h1
          exact ⟨h1.1, fun f hf => Nat.le_trans (h1.2 f hf) HS.out⟩
        obtain ⟨T, q, HV⟩ : ∃ (T : ByteArray) (q : Bool), Hid (encV (k0 : Int) (k1 : Int) (k2 : Int) (y3 : Int) (y4 : Int) (y5 : Int) (y6 : Int) f7 t12 f8 l (confT t11) = .tuple #[.string T, .bool q] ∧ q = okX8 x ∧ (q = true → T = enX8 x)) := by
          have := encX_forms x
          rw [← HXX.out] at this ⊢
          exact this
        have HRV : Hid (R = if e2 = false ∧ q = true ∧ T = s then some x else none) := by
          show R = _
          rw [← HR.out, rcM_chS, HCH.out]
          obtain ⟨-, h1, h2⟩ := HV.out
          simp only []
          rw [← h1]
          cases q with
          | false => simp
          | true => rw [h2 rfl]
        clear Q3 Q4 Q5 Q6 Q7 Q8 Q9 HE HEE Q11 Q12 HF7 HF8 HK0 HK1 HK2 HCH
        go_wp2_with (rw [HU3.out]; refine wpList_loadM rfl (.tmp 6) rfl m rfl G3.out.msg ?_)
        clear c f HU3
        refine (specEncode_any (k0 : Int) (k1 : Int) (k2 : Int) (y3 : Int) (y4 : Int) (y5 : Int) (y6 : Int) f7 t12 f8 _ _ l (confT t11) _ P3.out.reads PC3.out.reads (by have := HFI.out.1; omega) (by have := confT_len t11; omega) (fun f hf => HFI.out.2 f hf)).mono ?_
        rw [HV.out.1]
        rintro e u4 ⟨rfl, hb⟩
        have D4 : Hid (Sdw w s m (m + 1) u4 g2 e2 (.int .i64 (k0 : Int)) (.int .i64 (k1 : Int)) (.int .i64 (k2 : Int)) (.int .i64 (y3 : Int)) (.int .i64 (y4 : Int)) (.int .i64 (y5 : Int)) (.int .i64 (y6 : Int)) (.bool f7) (.slice o0 o1 o2) (.slice z0 z1 z2) (.string t12) (.bool f8)) := G3.out.up hb
        have O4 : Hid (ownsR u4 (m + 1) 47 (.slice o0 o1 o2) l) := P3.out.all hb
        have OC4 : Hid (ownsR u4 (m + 1) 3 (.slice z0 z1 z2) (confT t11)) := PC3.out.all hb
        have q2 := (cur_cells D4.out.cur).2.2.1
        have hwm : w.heap.size < m + 1 := by have := D4.out.lt1; omega
        clear hb G3 P3 PC3 HFI
        by_cases hok : e2 = false ∧ q = true ∧ T = s
        · obtain ⟨rfl, rfl, rfl⟩ := hok
          obtain rfl : R = some x := by rw [HRV.out]; simp
          clear HRV HV HR
          have KE := D4.out.res.set (.int .i64 (k0 : Int)) (.int .i64 (k1 : Int)) (.int .i64 (k2 : Int)) (.int .i64 (y3 : Int)) (.int .i64 (y4 : Int)) (.int .i64 (y5 : Int)) (.int .i64 (y6 : Int)) (.bool f7) (.slice o0 o1 o2) (.slice z0 z1 z2) (.string t12) (.bool f8)
          have HEND : Hid (RwM (Option.getD (some x) zeroM) (Option.isSome (some x)) w (.returned (.tuple #[.agg #[.int .i64 (k0 : Int), .int .i64 (k1 : Int), .int .i64 (k2 : Int), .int .i64 (y3 : Int), .int .i64 (y4 : Int), .int .i64 (y5 : Int), .int .i64 (y6 : Int), .bool f7, .slice o0 o1 o2, .slice z0 z1 z2, .string t12, .bool f8], .bool true])) (set12 u4 w.heap.size (.int .i64 (k0 : Int)) (.int .i64 (k1 : Int)) (.int .i64 (k2 : Int)) (.int .i64 (y3 : Int)) (.int .i64 (y4 : Int)) (.int .i64 (y5 : Int)) (.int .i64 (y6 : Int)) (.bool f7) (.slice o0 o1 o2) (.slice z0 z1 z2) (.string t12) (.bool f8))) := by
            rw [← HXX.out]
            exact ⟨o0, o1, o2, z0, z1, z2, rfl, (owns_set12 O4.out hwm _ _ _ _ _ _ _ _ _ _ _ _).mono (Nat.le_of_lt hwm), (owns_set12 OC4.out hwm _ _ _ _ _ _ _ _ _ _ _ _).mono (Nat.le_of_lt hwm), below_set12 D4.out.bel (Nat.le_refl _) _ _ _ _ _ _ _ _ _ _ _ _⟩
          go_wp2_with (first | refine wpList_loadM rfl (.tmp 6) rfl m rfl D4.out.msg ?_ | refine wpList_storeM rfl (.tmp 2) (.tmp 114) rfl _ rfl D4.out.res (k0 : Int) (k1 : Int) (k2 : Int) (y3 : Int) (y4 : Int) (y5 : Int) (y6 : Int) f7 f8 o0 z0 o1 o2 z1 z2 t12 rfl ?_ | exact bodyPost_ret (ret_msg2 rfl rfl rfl KE) rfl HEND.out)
        · obtain rfl : R = none := by rw [HRV.out, if_neg hok]
          have KE := D4.out.res.set (.int .i64 0) (.int .i64 0) (.int .i64 0) (.int .i64 0) (.int .i64 0) (.int .i64 0) (.int .i64 0) (.bool false) (.slice none 0 0) (.slice none 0 0) (.string { data := #[] }) (.bool false)
          have HEND : Hid (RwM (Option.getD none zeroM) (Option.isSome (none : Option Mg8)) w (.returned (.tuple #[.agg #[.int .i64 0, .int .i64 0, .int .i64 0, .int .i64 0, .int .i64 0, .int .i64 0, .int .i64 0, .bool false, .slice none 0 0, .slice none 0 0, .string { data := #[] }, .bool false], .bool false])) (set12 u4 w.heap.size (.int .i64 0) (.int .i64 0) (.int .i64 0) (.int .i64 0) (.int .i64 0) (.int .i64 0) (.int .i64 0) (.bool false) (.slice none 0 0) (.slice none 0 0) (.string { data := #[] }) (.bool false))) := ⟨none, 0, 0, none, 0, 0, rfl, ownsR_nil _ _ _, ownsC_nil _ _, below_set12 D4.out.bel (Nat.le_refl _) _ _ _ _ _ _ _ _ _ _ _ _⟩
          have HD := D4.out.res
          clear D4 O4 OC4 HRV HV
          cases e2 with
          | true =>
            go_wp2_with (first | refine wpList_storeM rfl (.tmp 2) (.tmp 113) rfl _ rfl HD 0 0 0 0 0 0 0 false false none none 0 0 0 0 ⟨#[]⟩ rfl ?_ | exact bodyPost_ret (ret_msg2 rfl rfl rfl KE) rfl HEND.out)
          | false =>
          cases q with
          | false =>
            go_wp2_with (first | refine wpList_storeM rfl (.tmp 2) (.tmp 113) rfl _ rfl HD 0 0 0 0 0 0 0 false false none none 0 0 0 0 ⟨#[]⟩ rfl ?_ | exact bodyPost_ret (ret_msg2 rfl rfl rfl KE) rfl HEND.out)
          | true =>
          have hne := ne_list (fun h : T = s => hok ⟨rfl, rfl, h⟩)
          go_wp2_with (first | refine wpList_storeM rfl (.tmp 2) (.tmp 113) rfl _ rfl HD 0 0 0 0 0 0 0 false false none none 0 0 0 0 ⟨#[]⟩ rfl ?_ | exact bodyPost_ret (ret_msg2 rfl rfl rfl KE) rfl HEND.out)

      | false =>
        by_cases h5 : k < 5
        · have hd4 : decide ((k : Int) ≤ 4) = true := decide_eq_true (by omega)
          go_wp2_with fail
          clear q2 hd4
          refine (short5_any (w.heap.size + 1) s a false _ A.out.cur HS.out ha).mono ?_
          rintro e u1 ⟨tk, g1, e1, rfl, hq, hg1, ht, hc, hs⟩
          have HX2 : Hid (entC s (min n 5 - (k + 1)) g1 e1 (l ++ [entT tk]) = E) := by
            show _ = _
            rw [← HX.out, show min n 5 - k = (min n 5 - (k + 1)) + 1 by omega, entC_step, hq]
          have D1 : Hid (Sdw w s m (m + 1) u1 g1 e1 (.int .i64 (k0 : Int)) (.int .i64 (k1 : Int)) (.int .i64 (k2 : Int)) (.int .i64 (y3 : Int)) (.int .i64 (y4 : Int)) (.int .i64 (y5 : Int)) (.int .i64 (y6 : Int)) (.bool f7) (.slice o0 o1 o2) (.slice none 0 0) (.string { data := #[] }) (.bool f8)) := A.out.save hs hc
          have O1 : Hid (ownsR u1 (m + 1) 47 (.slice o0 o1 o2) l) := HO.out.saveE hs (by have := A.out.lt1; omega)
          have HRE : Hid (∀ W, Calls Tryd.prog 36 #[.string tk] W fun e w' => e = .returned (rdV tk) ∧ Below W.heap.size W w') := fun W => specReadEntry_any tk W ht
          obtain ⟨i9, z9, hv⟩ := rdV_eq tk
          rw [hv] at HRE
          obtain ⟨f, HF⟩ : ∃ f, Hid (entT tk = f) := ⟨_, rfl⟩
          rw [HF.out] at HRE HX2
          clear hq hc hs A HO ht hv HX
          go_wp2_with fail
          refine (HRE.out _).mono ?_
          rintro e u2 ⟨rfl, hb⟩
          have D2 : Hid (Sdw w s m (m + 1) u2 g1 e1 (.int .i64 (k0 : Int)) (.int .i64 (k1 : Int)) (.int .i64 (k2 : Int)) (.int .i64 (y3 : Int)) (.int .i64 (y4 : Int)) (.int .i64 (y5 : Int)) (.int .i64 (y6 : Int)) (.bool f7) (.slice o0 o1 o2) (.slice none 0 0) (.string { data := #[] }) (.bool f8)) := D1.out.up hb
          have O2 : Hid (ownsR u2 (m + 1) 47 (.slice o0 o1 o2) l) := O1.out.all hb
          clear hb D1 O1 HRE
          obtain ⟨U4, HU4⟩ : ∃ W, Hid ((u2.alloc (.cells #[.int .i64 f.term, .int .i64 f.kind, .string f.data] 47)).alloc (.cells #[.int .i64 f.term, .int .i64 f.kind, .string f.data] 47) = W) := ⟨_, rfl⟩
          have D4 : Hid (Sdw w s m (m + 1) U4 g1 e1 (.int .i64 (k0 : Int)) (.int .i64 (k1 : Int)) (.int .i64 (k2 : Int)) (.int .i64 (y3 : Int)) (.int .i64 (y4 : Int)) (.int .i64 (y5 : Int)) (.int .i64 (y6 : Int)) (.bool f7) (.slice o0 o1 o2) (.slice none 0 0) (.string { data := #[] }) (.bool f8)) := by rw [← HU4.out]; exact (D2.out.alloc _).alloc _
          have O4 : Hid (ownsR U4 (m + 1) 47 (.slice o0 o1 o2) l) := by rw [← HU4.out]; exact (O2.out.alloc _).alloc _
          have HB4 : Hid (Reads U4 (.slice (some ⟨u2.heap.size + 1, 0, none⟩) 1 1) [f]) := by rw [← HU4.out]; exact en_built (heap_next _ _ _)
          have HL : Hid (l.length + [f].length ≤ 1048577) := by show _ ≤ _; simp; omega
          have c8 := D2.out.msg.c8
          have hlt2 := D2.out.msg.lt
          go_wp2_with (at_builtin; rw [HU4.out]; refine wpList_append_recs rfl (.tmp 80) (.tmp 82) 29 rfl (m + 1) 47 _ 32 underEn infoEn rfl _ _ l [f] rfl rfl O4.out HB4.out (en_oneV f) HL.out (by decide) D4.out.siz ?_)
          intro v5 W5 ho5 hg5
          have hown : ∀ q, (Value.slice o0 o1 o2).ownBlock = some q → m + 1 ≤ q := fun q hq => (O4.out.lt q hq).1
          have D5 : Hid (Sdw w s m (m + 1) W5 g1 e1 (.int .i64 (k0 : Int)) (.int .i64 (k1 : Int)) (.int .i64 (k2 : Int)) (.int .i64 (y3 : Int)) (.int .i64 (y4 : Int)) (.int .i64 (y5 : Int)) (.int .i64 (y6 : Int)) (.bool f7) (.slice o0 o1 o2) (.slice none 0 0) (.string { data := #[] }) (.bool f8)) := D4.out.grown hg5 hown
          obtain ⟨n0, n1, n2, rfl⟩ := ho5.slice3
          have O5 : Hid (ownsR W5 (m + 1) 47 (.slice n0 n1 n2) (l ++ [f])) := ho5
          clear ho5 hg5 hown D4 O4 HB4 HL HU4 D2 O2 c8 hlt2
          have c8 := D5.out.msg.c8
          have f9 := D5.out.msg.fz 8
          go_wp2
          go_roundw
          case rel => exact ⟨k + 1, g1, e1, l ++ [f], n0, n1, n2, by omega, by omega, by go_num, hg1, by simp; omega, HX2, O5.out.setBelow (a := ⟨m, 8, none⟩) (Nat.lt_succ_self m) _, D5.out.s8 _⟩
          case measure => simp [intOf]; omega
        · have hd4 : decide ((k : Int) ≤ 4) = false := decide_eq_false (by omega)
          have HEE : Hid (E = (l, a, false)) := by show _ = _; rw [← HX.out, show min n 5 - k = 0 by omega]; rfl
          clear HX
          go_wp2_with fail
          clear q2 hlt
          refine (short5_any (w.heap.size + 1) s a false _ A.out.cur HS.out ha).mono ?_
          rintro e u1 ⟨t11, g1, e1, rfl, hq, hg1, ht, hc, hs⟩
          have Q11 : Hid (sho5P s a false = (t11, g1, e1)) := hq
          have D1 : Hid (Sdw w s m (m + 1) u1 g1 e1 (.int .i64 (k0 : Int)) (.int .i64 (k1 : Int)) (.int .i64 (k2 : Int)) (.int .i64 (y3 : Int)) (.int .i64 (y4 : Int)) (.int .i64 (y5 : Int)) (.int .i64 (y6 : Int)) (.bool f7) (.slice o0 o1 o2) (.slice none 0 0) (.string { data := #[] }) (.bool f8)) := A.out.save hs hc
          have O1 : Hid (ownsR u1 (m + 1) 47 (.slice o0 o1 o2) l) := HO.out.saveE hs (by have := A.out.lt1; omega)
          have HT11 : Hid (t11.size ≤ maxLen) := by show _ ≤ _; unfold maxLen; omega
          clear hq hc hs A HO ht
          go_wp2_with fail
          refine (specReadConf_any t11 _ HT11.out).mono ?_
          rintro e u2 ⟨cv, rfl, hoc, hb⟩
          obtain ⟨z0, z1, z2, rfl⟩ := hoc.slice3
          have D2 := D1.out.up hb
          have O2 : Hid (ownsR u2 (m + 1) 47 (.slice o0 o1 o2) l) := O1.out.all hb
          have OC2 : Hid (ownsR u2 (m + 1) 3 (.slice z0 z1 z2) (confT t11)) := hoc.mono D1.out.siz
          obtain ⟨U2, HU2⟩ : ∃ V, Hid (u2.setCell ⟨m, 9, none⟩ (.slice z0 z1 z2) = V) := ⟨_, rfl⟩
          have G2 : Hid (Sdw w s m (m + 1) U2 g1 e1 (.int .i64 (k0 : Int)) (.int .i64 (k1 : Int)) (.int .i64 (k2 : Int)) (.int .i64 (y3 : Int)) (.int .i64 (y4 : Int)) (.int .i64 (y5 : Int)) (.int .i64 (y6 : Int)) (.bool f7) (.slice o0 o1 o2) (.slice z0 z1 z2) (.string { data := #[] }) (.bool f8)) := by rw [← HU2.out]; exact D2.s9 _
          have P2 : Hid (ownsR U2 (m + 1) 47 (.slice o0 o1 o2) l) := by rw [← HU2.out]; exact O2.out.setBelow (a := ⟨m, 9, none⟩) (Nat.lt_succ_self m) _
          have PC2 : Hid (ownsR U2 (m + 1) 3 (.slice z0 z1 z2) (confT t11)) := by rw [← HU2.out]; exact OC2.out.setBelow (a := ⟨m, 9, none⟩) (Nat.lt_succ_self m) _
          have c := D2.msg.c9
          have f := D2.msg.fz 9
          clear hoc hb D1 D2 O1 O2 OC2 HT11
          go_wp2_with fail
          clear c f
          rw [HU2.out]
          refine (short5_any (w.heap.size + 1) s g1 e1 _ G2.out.cur HS.out hg1).mono ?_
          rintro e u3 ⟨t12, g2, e2, rfl, hq, hg2, -, hc, hs⟩
          have Q12 : Hid (sho5P s g1 e1 = (t12, g2, e2)) := hq
          have D3 := G2.out.save hs hc
          have O3 : Hid (ownsR u3 (m + 1) 47 (.slice o0 o1 o2) l) := P2.out.saveE hs (by have := G2.out.lt1; omega)
          have OC3 : Hid (ownsR u3 (m + 1) 3 (.slice z0 z1 z2) (confT t11)) := PC2.out.saveE hs (by have := G2.out.lt1; omega)
          obtain ⟨U3, HU3⟩ : ∃ V, Hid (u3.setCell ⟨m, 10, none⟩ (.string t12) = V) := ⟨_, rfl⟩
          have G3 : Hid (Sdw w s m (m + 1) U3 g2 e2 (.int .i64 (k0 : Int)) (.int .i64 (k1 : Int)) (.int .i64 (k2 : Int)) (.int .i64 (y3 : Int)) (.int .i64 (y4 : Int)) (.int .i64 (y5 : Int)) (.int .i64 (y6 : Int)) (.bool f7) (.slice o0 o1 o2) (.slice z0 z1 z2) (.string t12) (.bool f8)) := by rw [← HU3.out]; exact D3.s10 _
          have P3 : Hid (ownsR U3 (m + 1) 47 (.slice o0 o1 o2) l) := by rw [← HU3.out]; exact O3.out.setBelow (a := ⟨m, 10, none⟩) (Nat.lt_succ_self m) _
          have PC3 : Hid (ownsR U3 (m + 1) 3 (.slice z0 z1 z2) (confT t11)) := by rw [← HU3.out]; exact OC3.out.setBelow (a := ⟨m, 10, none⟩) (Nat.lt_succ_self m) _
          have c := D3.msg.c10
          have f := D3.msg.fz 10
          clear hq hc hs G2 P2 PC2 HU2 D3 O3 OC3
          obtain ⟨x, HXX⟩ : ∃ x : Mg8, Hid ((⟨k0, k1, k2, y3, y4, y5, y6, f7, f8, l, t11, t12⟩ : Mg8) = x) := ⟨_, rfl⟩
          have HCH : Hid (chS s = (x, e2)) := by
            show _ = _
            rw [← HXX.out]
            simp only [chS, Q3.out, Q4.out, Q5.out, Q6.out, Q7.out, Q8.out, Q9.out, HE.out, HEE.out, Q11.out, Q12.out, HF7.out, HF8.out, HK0.out, HK1.out, HK2.out]
          have HFI : Hid (l.length ≤ 5 ∧ ∀ f ∈ l, f.data.size ≤ 1048576) := by
            have h1 := chS_fine s
            rw [HCH.out, ← HXX.out] at h1
            exact ⟨h1.1, fun f hf => Nat.le_trans (h1.2 f hf) HS.out⟩
          obtain ⟨T, q, HV⟩ : ∃ (T : ByteArray) (q : Bool), Hid (encV (k0 : Int) (k1 : Int) (k2 : Int) (y3 : Int) (y4 : Int) (y5 : Int) (y6 : Int) f7 t12 f8 l (confT t11) = .tuple #[.string T, .bool q] ∧ q = okX8 x ∧ (q = true → T = enX8 x)) := by
            have := encX_forms x
            rw [← HXX.out] at this ⊢
            exact this
          have HRV : Hid (R = if e2 = false ∧ q = true ∧ T = s then some x else none) := by
            show R = _
            rw [← HR.out, rcM_chS, HCH.out]
            obtain ⟨-, h1, h2⟩ := HV.out
            simp only []
            rw [← h1]
            cases q with
            | false => simp
            | true => rw [h2 rfl]
          clear Q3 Q4 Q5 Q6 Q7 Q8 Q9 HE HEE Q11 Q12 HF7 HF8 HK0 HK1 HK2 HCH
          go_wp2_with (rw [HU3.out]; refine wpList_loadM rfl (.tmp 6) rfl m rfl G3.out.msg ?_)
          clear c f HU3
          refine (specEncode_any (k0 : Int) (k1 : Int) (k2 : Int) (y3 : Int) (y4 : Int) (y5 : Int) (y6 : Int) f7 t12 f8 _ _ l (confT t11) _ P3.out.reads PC3.out.reads (by have := HFI.out.1; omega) (by have := confT_len t11; omega) (fun f hf => HFI.out.2 f hf)).mono ?_
          rw [HV.out.1]
          rintro e u4 ⟨rfl, hb⟩
          have D4 : Hid (Sdw w s m (m + 1) u4 g2 e2 (.int .i64 (k0 : Int)) (.int .i64 (k1 : Int)) (.int .i64 (k2 : Int)) (.int .i64 (y3 : Int)) (.int .i64 (y4 : Int)) (.int .i64 (y5 : Int)) (.int .i64 (y6 : Int)) (.bool f7) (.slice o0 o1 o2) (.slice z0 z1 z2) (.string t12) (.bool f8)) := G3.out.up hb
          have O4 : Hid (ownsR u4 (m + 1) 47 (.slice o0 o1 o2) l) := P3.out.all hb
          have OC4 : Hid (ownsR u4 (m + 1) 3 (.slice z0 z1 z2) (confT t11)) := PC3.out.all hb
          have q2 := (cur_cells D4.out.cur).2.2.1
          have hwm : w.heap.size < m + 1 := by have := D4.out.lt1; omega
          clear hb G3 P3 PC3 HFI
          by_cases hok : e2 = false ∧ q = true ∧ T = s
          · obtain ⟨rfl, rfl, rfl⟩ := hok
            obtain rfl : R = some x := by rw [HRV.out]; simp
            clear HRV HV HR
            have KE := D4.out.res.set (.int .i64 (k0 : Int)) (.int .i64 (k1 : Int)) (.int .i64 (k2 : Int)) (.int .i64 (y3 : Int)) (.int .i64 (y4 : Int)) (.int .i64 (y5 : Int)) (.int .i64 (y6 : Int)) (.bool f7) (.slice o0 o1 o2) (.slice z0 z1 z2) (.string t12) (.bool f8)
            have HEND : Hid (RwM (Option.getD (some x) zeroM) (Option.isSome (some x)) w (.returned (.tuple #[.agg #[.int .i64 (k0 : Int), .int .i64 (k1 : Int), .int .i64 (k2 : Int), .int .i64 (y3 : Int), .int .i64 (y4 : Int), .int .i64 (y5 : Int), .int .i64 (y6 : Int), .bool f7, .slice o0 o1 o2, .slice z0 z1 z2, .string t12, .bool f8], .bool true])) (set12 u4 w.heap.size (.int .i64 (k0 : Int)) (.int .i64 (k1 : Int)) (.int .i64 (k2 : Int)) (.int .i64 (y3 : Int)) (.int .i64 (y4 : Int)) (.int .i64 (y5 : Int)) (.int .i64 (y6 : Int)) (.bool f7) (.slice o0 o1 o2) (.slice z0 z1 z2) (.string t12) (.bool f8))) := by
              rw [← HXX.out]
              exact ⟨o0, o1, o2, z0, z1, z2, rfl, (owns_set12 O4.out hwm _ _ _ _ _ _ _ _ _ _ _ _).mono (Nat.le_of_lt hwm), (owns_set12 OC4.out hwm _ _ _ _ _ _ _ _ _ _ _ _).mono (Nat.le_of_lt hwm), below_set12 D4.out.bel (Nat.le_refl _) _ _ _ _ _ _ _ _ _ _ _ _⟩
            go_wp2_with (first | refine wpList_loadM rfl (.tmp 6) rfl m rfl D4.out.msg ?_ | refine wpList_storeM rfl (.tmp 2) (.tmp 114) rfl _ rfl D4.out.res (k0 : Int) (k1 : Int) (k2 : Int) (y3 : Int) (y4 : Int) (y5 : Int) (y6 : Int) f7 f8 o0 z0 o1 o2 z1 z2 t12 rfl ?_ | exact bodyPost_ret (ret_msg2 rfl rfl rfl KE) rfl HEND.out)
          · obtain rfl : R = none := by rw [HRV.out, if_neg hok]
            have KE := D4.out.res.set (.int .i64 0) (.int .i64 0) (.int .i64 0) (.int .i64 0) (.int .i64 0) (.int .i64 0) (.int .i64 0) (.bool false) (.slice none 0 0) (.slice none 0 0) (.string { data := #[] }) (.bool false)
            have HEND : Hid (RwM (Option.getD none zeroM) (Option.isSome (none : Option Mg8)) w (.returned (.tuple #[.agg #[.int .i64 0, .int .i64 0, .int .i64 0, .int .i64 0, .int .i64 0, .int .i64 0, .int .i64 0, .bool false, .slice none 0 0, .slice none 0 0, .string { data := #[] }, .bool false], .bool false])) (set12 u4 w.heap.size (.int .i64 0) (.int .i64 0) (.int .i64 0) (.int .i64 0) (.int .i64 0) (.int .i64 0) (.int .i64 0) (.bool false) (.slice none 0 0) (.slice none 0 0) (.string { data := #[] }) (.bool false))) := ⟨none, 0, 0, none, 0, 0, rfl, ownsR_nil _ _ _, ownsC_nil _ _, below_set12 D4.out.bel (Nat.le_refl _) _ _ _ _ _ _ _ _ _ _ _ _⟩
            have HD := D4.out.res
            clear D4 O4 OC4 HRV HV
            cases e2 with
            | true =>
              go_wp2_with (first | refine wpList_storeM rfl (.tmp 2) (.tmp 113) rfl _ rfl HD 0 0 0 0 0 0 0 false false none none 0 0 0 0 ⟨#[]⟩ rfl ?_ | exact bodyPost_ret (ret_msg2 rfl rfl rfl KE) rfl HEND.out)
            | false =>
            cases q with
            | false =>
              go_wp2_with (first | refine wpList_storeM rfl (.tmp 2) (.tmp 113) rfl _ rfl HD 0 0 0 0 0 0 0 false false none none 0 0 0 0 ⟨#[]⟩ rfl ?_ | exact bodyPost_ret (ret_msg2 rfl rfl rfl KE) rfl HEND.out)
            | true =>
            have hne := ne_list (fun h : T = s => hok ⟨rfl, rfl, h⟩)
            go_wp2_with (first | refine wpList_storeM rfl (.tmp 2) (.tmp 113) rfl _ rfl HD 0 0 0 0 0 0 0 false false none none 0 0 0 0 ⟨#[]⟩ rfl ?_ | exact bodyPost_ret (ret_msg2 rfl rfl rfl KE) rfl HEND.out)

    · have HEE : Hid (E = (l, a, b)) := by show _ = _; rw [← HX.out, show min n 5 - k = 0 by omega]; rfl
      clear HX
      go_wp2_with fail
      clear q2 hlt
      refine (short5_any (w.heap.size + 1) s a b _ A.out.cur HS.out ha).mono ?_
      rintro e u1 ⟨t11, g1, e1, rfl, hq, hg1, ht, hc, hs⟩
      have Q11 : Hid (sho5P s a b = (t11, g1, e1)) := hq
      have D1 : Hid (Sdw w s m (m + 1) u1 g1 e1 (.int .i64 (k0 : Int)) (.int .i64 (k1 : Int)) (.int .i64 (k2 : Int)) (.int .i64 (y3 : Int)) (.int .i64 (y4 : Int)) (.int .i64 (y5 : Int)) (.int .i64 (y6 : Int)) (.bool f7) (.slice o0 o1 o2) (.slice none 0 0) (.string { data := #[] }) (.bool f8)) := A.out.save hs hc
      have O1 : Hid (ownsR u1 (m + 1) 47 (.slice o0 o1 o2) l) := HO.out.saveE hs (by have := A.out.lt1; omega)
      have HT11 : Hid (t11.size ≤ maxLen) := by show _ ≤ _; unfold maxLen; omega
      clear hq hc hs A HO ht
      go_wp2_with fail
      refine (specReadConf_any t11 _ HT11.out).mono ?_
      rintro e u2 ⟨cv, rfl, hoc, hb⟩
      obtain ⟨z0, z1, z2, rfl⟩ := hoc.slice3
      have D2 := D1.out.up hb
      have O2 : Hid (ownsR u2 (m + 1) 47 (.slice o0 o1 o2) l) := O1.out.all hb
      have OC2 : Hid (ownsR u2 (m + 1) 3 (.slice z0 z1 z2) (confT t11)) := hoc.mono D1.out.siz
      obtain ⟨U2, HU2⟩ : ∃ V, Hid (u2.setCell ⟨m, 9, none⟩ (.slice z0 z1 z2) = V) := ⟨_, rfl⟩
      have G2 : Hid (Sdw w s m (m + 1) U2 g1 e1 (.int .i64 (k0 : Int)) (.int .i64 (k1 : Int)) (.int .i64 (k2 : Int)) (.int .i64 (y3 : Int)) (.int .i64 (y4 : Int)) (.int .i64 (y5 : Int)) (.int .i64 (y6 : Int)) (.bool f7) (.slice o0 o1 o2) (.slice z0 z1 z2) (.string { data := #[] }) (.bool f8)) := by rw [← HU2.out]; exact D2.s9 _
      have P2 : Hid (ownsR U2 (m + 1) 47 (.slice o0 o1 o2) l) := by rw [← HU2.out]; exact O2.out.setBelow (a := ⟨m, 9, none⟩) (Nat.lt_succ_self m) _
      have PC2 : Hid (ownsR U2 (m + 1) 3 (.slice z0 z1 z2) (confT t11)) := by rw [← HU2.out]; exact OC2.out.setBelow (a := ⟨m, 9, none⟩) (Nat.lt_succ_self m) _
      have c := D2.msg.c9
      have f := D2.msg.fz 9
      clear hoc hb D1 D2 O1 O2 OC2 HT11
      go_wp2_with fail
      clear c f
      rw [HU2.out]
      refine (short5_any (w.heap.size + 1) s g1 e1 _ G2.out.cur HS.out hg1).mono ?_
      rintro e u3 ⟨t12, g2, e2, rfl, hq, hg2, -, hc, hs⟩
      have Q12 : Hid (sho5P s g1 e1 = (t12, g2, e2)) := hq
      have D3 := G2.out.save hs hc
      have O3 : Hid (ownsR u3 (m + 1) 47 (.slice o0 o1 o2) l) := P2.out.saveE hs (by have := G2.out.lt1; omega)
      have OC3 : Hid (ownsR u3 (m + 1) 3 (.slice z0 z1 z2) (confT t11)) := PC2.out.saveE hs (by have := G2.out.lt1; omega)
      obtain ⟨U3, HU3⟩ : ∃ V, Hid (u3.setCell ⟨m, 10, none⟩ (.string t12) = V) := ⟨_, rfl⟩
      have G3 : Hid (Sdw w s m (m + 1) U3 g2 e2 (.int .i64 (k0 : Int)) (.int .i64 (k1 : Int)) (.int .i64 (k2 : Int)) (.int .i64 (y3 : Int)) (.int .i64 (y4 : Int)) (.int .i64 (y5 : Int)) (.int .i64 (y6 : Int)) (.bool f7) (.slice o0 o1 o2) (.slice z0 z1 z2) (.string t12) (.bool f8)) := by rw [← HU3.out]; exact D3.s10 _
      have P3 : Hid (ownsR U3 (m + 1) 47 (.slice o0 o1 o2) l) := by rw [← HU3.out]; exact O3.out.setBelow (a := ⟨m, 10, none⟩) (Nat.lt_succ_self m) _
      have PC3 : Hid (ownsR U3 (m + 1) 3 (.slice z0 z1 z2) (confT t11)) := by rw [← HU3.out]; exact OC3.out.setBelow (a := ⟨m, 10, none⟩) (Nat.lt_succ_self m) _
      have c := D3.msg.c10
      have f := D3.msg.fz 10
      clear hq hc hs G2 P2 PC2 HU2 D3 O3 OC3
      obtain ⟨x, HXX⟩ : ∃ x : Mg8, Hid ((⟨k0, k1, k2, y3, y4, y5, y6, f7, f8, l, t11, t12⟩ : Mg8) = x) := ⟨_, rfl⟩
      have HCH : Hid (chS s = (x, e2)) := by
        show _ = _
        rw [← HXX.out]
        simp only [chS, Q3.out, Q4.out, Q5.out, Q6.out, Q7.out, Q8.out, Q9.out, HE.out, HEE.out, Q11.out, Q12.out, HF7.out, HF8.out, HK0.out, HK1.out, HK2.out]
      have HFI : Hid (l.length ≤ 5 ∧ ∀ f ∈ l, f.data.size ≤ 1048576) := by
        have h1 := chS_fine s
        rw [HCH.out, ← HXX.out] at h1
        exact ⟨h1.1, fun f hf => Nat.le_trans (h1.2 f hf) HS.out⟩
      obtain ⟨T, q, HV⟩ : ∃ (T : ByteArray) (q : Bool), Hid (encV (k0 : Int) (k1 : Int) (k2 : Int) (y3 : Int) (y4 : Int) (y5 : Int) (y6 : Int) f7 t12 f8 l (confT t11) = .tuple #[.string T, .bool q] ∧ q = okX8 x ∧ (q = true → T = enX8 x)) := by
        have := encX_forms x
        rw [← HXX.out] at this ⊢
        exact this
      have HRV : Hid (R = if e2 = false ∧ q = true ∧ T = s then some x else none) := by
        show R = _
        rw [← HR.out, rcM_chS, HCH.out]
        obtain ⟨-, h1, h2⟩ := HV.out
        simp only []
        rw [← h1]
        cases q with
        | false => simp
        | true => rw [h2 rfl]
      clear Q3 Q4 Q5 Q6 Q7 Q8 Q9 HE HEE Q11 Q12 HF7 HF8 HK0 HK1 HK2 HCH
      go_wp2_with (rw [HU3.out]; refine wpList_loadM rfl (.tmp 6) rfl m rfl G3.out.msg ?_)
      clear c f HU3
      refine (specEncode_any (k0 : Int) (k1 : Int) (k2 : Int) (y3 : Int) (y4 : Int) (y5 : Int) (y6 : Int) f7 t12 f8 _ _ l (confT t11) _ P3.out.reads PC3.out.reads (by have := HFI.out.1; omega) (by have := confT_len t11; omega) (fun f hf => HFI.out.2 f hf)).mono ?_
      rw [HV.out.1]
      rintro e u4 ⟨rfl, hb⟩
      have D4 : Hid (Sdw w s m (m + 1) u4 g2 e2 (.int .i64 (k0 : Int)) (.int .i64 (k1 : Int)) (.int .i64 (k2 : Int)) (.int .i64 (y3 : Int)) (.int .i64 (y4 : Int)) (.int .i64 (y5 : Int)) (.int .i64 (y6 : Int)) (.bool f7) (.slice o0 o1 o2) (.slice z0 z1 z2) (.string t12) (.bool f8)) := G3.out.up hb
      have O4 : Hid (ownsR u4 (m + 1) 47 (.slice o0 o1 o2) l) := P3.out.all hb
      have OC4 : Hid (ownsR u4 (m + 1) 3 (.slice z0 z1 z2) (confT t11)) := PC3.out.all hb
      have q2 := (cur_cells D4.out.cur).2.2.1
      have hwm : w.heap.size < m + 1 := by have := D4.out.lt1; omega
      clear hb G3 P3 PC3 HFI
      by_cases hok : e2 = false ∧ q = true ∧ T = s
      · obtain ⟨rfl, rfl, rfl⟩ := hok
        obtain rfl : R = some x := by rw [HRV.out]; simp
        clear HRV HV HR
        have KE := D4.out.res.set (.int .i64 (k0 : Int)) (.int .i64 (k1 : Int)) (.int .i64 (k2 : Int)) (.int .i64 (y3 : Int)) (.int .i64 (y4 : Int)) (.int .i64 (y5 : Int)) (.int .i64 (y6 : Int)) (.bool f7) (.slice o0 o1 o2) (.slice z0 z1 z2) (.string t12) (.bool f8)
        have HEND : Hid (RwM (Option.getD (some x) zeroM) (Option.isSome (some x)) w (.returned (.tuple #[.agg #[.int .i64 (k0 : Int), .int .i64 (k1 : Int), .int .i64 (k2 : Int), .int .i64 (y3 : Int), .int .i64 (y4 : Int), .int .i64 (y5 : Int), .int .i64 (y6 : Int), .bool f7, .slice o0 o1 o2, .slice z0 z1 z2, .string t12, .bool f8], .bool true])) (set12 u4 w.heap.size (.int .i64 (k0 : Int)) (.int .i64 (k1 : Int)) (.int .i64 (k2 : Int)) (.int .i64 (y3 : Int)) (.int .i64 (y4 : Int)) (.int .i64 (y5 : Int)) (.int .i64 (y6 : Int)) (.bool f7) (.slice o0 o1 o2) (.slice z0 z1 z2) (.string t12) (.bool f8))) := by
          rw [← HXX.out]
          exact ⟨o0, o1, o2, z0, z1, z2, rfl, (owns_set12 O4.out hwm _ _ _ _ _ _ _ _ _ _ _ _).mono (Nat.le_of_lt hwm), (owns_set12 OC4.out hwm _ _ _ _ _ _ _ _ _ _ _ _).mono (Nat.le_of_lt hwm), below_set12 D4.out.bel (Nat.le_refl _) _ _ _ _ _ _ _ _ _ _ _ _⟩
        go_wp2_with (first | refine wpList_loadM rfl (.tmp 6) rfl m rfl D4.out.msg ?_ | refine wpList_storeM rfl (.tmp 2) (.tmp 114) rfl _ rfl D4.out.res (k0 : Int) (k1 : Int) (k2 : Int) (y3 : Int) (y4 : Int) (y5 : Int) (y6 : Int) f7 f8 o0 z0 o1 o2 z1 z2 t12 rfl ?_ | exact bodyPost_ret (ret_msg2 rfl rfl rfl KE) rfl HEND.out)
      · obtain rfl : R = none := by rw [HRV.out, if_neg hok]
        have KE := D4.out.res.set (.int .i64 0) (.int .i64 0) (.int .i64 0) (.int .i64 0) (.int .i64 0) (.int .i64 0) (.int .i64 0) (.bool false) (.slice none 0 0) (.slice none 0 0) (.string { data := #[] }) (.bool false)
        have HEND : Hid (RwM (Option.getD none zeroM) (Option.isSome (none : Option Mg8)) w (.returned (.tuple #[.agg #[.int .i64 0, .int .i64 0, .int .i64 0, .int .i64 0, .int .i64 0, .int .i64 0, .int .i64 0, .bool false, .slice none 0 0, .slice none 0 0, .string { data := #[] }, .bool false], .bool false])) (set12 u4 w.heap.size (.int .i64 0) (.int .i64 0) (.int .i64 0) (.int .i64 0) (.int .i64 0) (.int .i64 0) (.int .i64 0) (.bool false) (.slice none 0 0) (.slice none 0 0) (.string { data := #[] }) (.bool false))) := ⟨none, 0, 0, none, 0, 0, rfl, ownsR_nil _ _ _, ownsC_nil _ _, below_set12 D4.out.bel (Nat.le_refl _) _ _ _ _ _ _ _ _ _ _ _ _⟩
        have HD := D4.out.res
        clear D4 O4 OC4 HRV HV
        cases e2 with
        | true =>
          go_wp2_with (first | refine wpList_storeM rfl (.tmp 2) (.tmp 113) rfl _ rfl HD 0 0 0 0 0 0 0 false false none none 0 0 0 0 ⟨#[]⟩ rfl ?_ | exact bodyPost_ret (ret_msg2 rfl rfl rfl KE) rfl HEND.out)
        | false =>
        cases q with
        | false =>
          go_wp2_with (first | refine wpList_storeM rfl (.tmp 2) (.tmp 113) rfl _ rfl HD 0 0 0 0 0 0 0 false false none none 0 0 0 0 ⟨#[]⟩ rfl ?_ | exact bodyPost_ret (ret_msg2 rfl rfl rfl KE) rfl HEND.out)
        | true =>
        have hne := ne_list (fun h : T = s => hok ⟨rfl, rfl, h⟩)
        go_wp2_with (first | refine wpList_storeM rfl (.tmp 2) (.tmp 113) rfl _ rfl HD 0 0 0 0 0 0 0 false false none none 0 0 0 0 ⟨#[]⟩ rfl ?_ | exact bodyPost_ret (ret_msg2 rfl rfl rfl KE) rfl HEND.out)

end Go.Proofs.YtgjamikmjknlfaaDoor
namespace Go.Proofs.YtgjamikmjknlfaaDoor
open Go Go.RowKit
set_option linter.unusedVariables false

theorem apart_types {α β : Type} [Rec α] [Rec β] {w : World} {B1 B2 : Nat} {e1 e2 : TypeId} {v1 v2 : Value} {l1 : List α} {l2 : List β} (h1 : ownsR w B1 e1 v1 l1) (h2 : ownsR w B2 e2 v2 l2) (hne : e1 ≠ e2) : v1.ownBlock = none ∨ v1.ownBlock ≠ v2.ownBlock := by
  rcases h1.2 with ⟨rfl, _⟩ | ⟨g, cap, cur, rfl, _, hg, _⟩
  · exact .inl rfl
  · rcases h2.2 with ⟨rfl, _⟩ | ⟨g2, cap2, cur2, rfl, _, hg2, _⟩
    · exact .inr (by simp [Value.ownBlock])
    · refine .inr fun h => ?_
      have hh : g = g2 := by simpa [Value.ownBlock] using h
      subst hh
      rw [hg] at hg2
      simp at hg2
      exact hne hg2.2
/-- Numbers marked from any number on. -/
def marksIn (x : Int) (n : Nat) : List Int := marksR id 1 x n
theorem marksIn_length (x : Int) (n : Nat) : (marksIn x n).length = n := marksR_length x n
set_option maxHeartbeats 1000000 in
theorem markIntX_some (x : Int) (g n c B : Nat) (l : List Int) (w : World) (ho : ownsR w B 3 (.slice (some ⟨g, 0, none⟩) n c) l) (hn : n ≤ 1048577) (hx0 : 0 < x) (hx : x ≤ 100000000) :
    Calls Tryd.prog 42 #[.slice (some ⟨g, 0, none⟩) n c, .int .i64 x] w fun e w' => e = .returned (.int .i64 (x + (n : Int))) ∧ ownsR w' B 3 (.slice (some ⟨g, 0, none⟩) n c) (marksIn x l.length) ∧ w.grownBy w' (some g) := by
  have HN : Hid (n = l.length) := ho.reads.len
  have HO : Hid (ownsR w B 3 (.slice (some ⟨g, 0, none⟩) n c) (markedR id 1 x l 0)) := markedR_zero ho
  clear ho
  go_enter Tryd.func42, Tryd.ntmps42
  go_wp2
  go_loopw [1, 5] (fun q i wr => ∃ k : Nat, k ≤ n ∧ i = .int .i64 k ∧ q = .int .i64 (x + (k : Int)) ∧ Hid (ownsR wr B 3 (.slice (some ⟨g, 0, none⟩) n c) (markedR id 1 x l k)) ∧ w.grownBy wr (some g)) (fun _ i _ => n - (intOf i).toNat)
  case atStart => exact ⟨0, Nat.zero_le _, rfl, by simp, HO, grown_refl _ _⟩
  case round =>
    obtain ⟨k, hk, rfl, rfl, HL, hbel⟩ := hrel
    by_cases hlt : k < n
    · obtain ⟨y, hy⟩ : ∃ y, l[k]? = some y := ⟨_, List.getElem?_eq_getElem (by rw [← HN.out]; exact hlt)⟩
      obtain ⟨hgs, d0, f0⟩ := int_own HL.out (markedR_at hy)
      have R := int_put HL.out (x + (k : Int)) (markedR_at hy)
      have e := markedR_set (mk := id) (s := 1) (x := x) hy
      rw [show id (x + 1 * (k : Int)) = x + (k : Int) by simp] at e
      rw [e] at R
      have HR : Hid (ownsR (wr.setCell ⟨g, k, none⟩ (.int .i64 (x + (k : Int)))) B 3 (.slice (some ⟨g, 0, none⟩) n c) (markedR id 1 x l (k + 1))) := R
      clear R e hy
      go_wp2
      go_roundw
      case rel => exact ⟨k + 1, by omega, by go_num, by go_num, HR, grown_trans hbel (grown_set _ _ _ _)⟩
      case measure => simp [intOf]; omega
    · have hkn : k = l.length := by rw [← HN.out]; omega
      have R : ownsR wr B 3 (.slice (some ⟨g, 0, none⟩) n c) (marksIn x l.length) := by
        have := HL.out
        rw [hkn, markedR_all] at this
        exact this
      have e : (k : Int) = n := by rw [HN.out, hkn]
      clear hkn
      go_wp2
      go_ret
      exact ⟨by rw [← e]; rfl, R, hbel⟩
set_option maxHeartbeats 1000000 in
theorem markIntX_none (ao : Option Addr) (c : Nat) (x : Int) (w : World) :
    Calls Tryd.prog 42 #[.slice ao 0 c, .int .i64 x] w fun e w' => e = .returned (.int .i64 x) ∧ Below w.heap.size w w' := by
  go_enter Tryd.func42, Tryd.ntmps42
  go_wp2
  refine wp_loop_rounds 1 ?_
  rw [rounds_succ]
  go_wp2
  go_ret
  exact ⟨rfl, Below.refl _ _⟩
theorem markIntX_any {w : World} {B : Nat} {x : Int} {v : Value} {l : List Int} (ho : ownsR w B 3 v l) (hn : l.length ≤ 1048577) (hx0 : 0 < x) (hx : x ≤ 100000000) :
    Calls Tryd.prog 42 #[v, .int .i64 x] w fun e w' => e = .returned (.int .i64 (x + (l.length : Int))) ∧ ownsR w' B 3 v (marksIn x l.length) ∧ w.grownBy w' v.ownBlock := by
  rcases ho.2 with ⟨rfl, h0⟩ | ⟨g, cap, cur, rfl, _⟩
  · rw [h0]
    exact (markIntX_none none 0 x w).mono fun e w' ⟨he, h⟩ => ⟨by rw [he]; simp, ownsR_nil _ _ _, grown_of_below h _⟩
  · exact markIntX_some x g l.length cap B l w ho hn hx0 hx
set_option maxHeartbeats 1000000 in
theorem heldIntX_any (ao : Option Addr) (n c : Nat) (x : Int) (w : World) (hr : Reads w (.slice ao n c) (marksIn x n)) (hn : n ≤ 1048577) (hx0 : 0 < x) (hx : x ≤ 100000000) :
    Calls Tryd.prog 44 #[.slice ao n c, .int .i64 x] w fun e w' => e = .returned (.int .i64 (x + (n : Int))) ∧ w' = w := by
  have HR : Hid (Reads w (.slice ao n c) (marksR (id : Int → Int) 1 x n)) := hr
  clear hr
  go_enter Tryd.func44, Tryd.ntmps44
  go_wp2
  go_loopw [1, 5] (fun q i wr => ∃ k : Nat, k ≤ n ∧ i = .int .i64 k ∧ q = .int .i64 (x + (k : Int)) ∧ wr = w) (fun _ i _ => n - (intOf i).toNat)
  case atStart => exact ⟨0, Nat.zero_le _, rfl, by simp, rfl⟩
  case round =>
    obtain ⟨k, hk, rfl, rfl, rfl⟩ := hrel
    by_cases hlt : k < n
    · have hy := marksR_at (mk := (id : Int → Int)) (s := 1) (x := x) hlt
      rw [show id (x + 1 * (k : Int)) = x + (k : Int) by simp] at hy
      obtain ⟨b, o, rfl, hb, c0⟩ := int_at HR.out hy
      clear hy
      go_wp2
      go_roundw
      case rel => exact ⟨k + 1, by omega, by go_num, by go_num, trivial⟩
      case measure => simp [intOf]; omega
    · have hkn : k = n := by omega
      subst hkn
      go_wp2
      go_ret
      exact ⟨rfl, rfl⟩
set_option maxRecDepth 10000 in
set_option maxHeartbeats 1000000 in
theorem markMessage_any {w : World} {B : Nat} {x : Int} (kd fr up tm ix lt cm : Int) (ok : Bool) (da : ByteArray) (la : Bool) {v u : Value} {es : List En} {cs : List Int} (ho : ownsR w B 47 v es) (hq : ownsR w B 3 u cs) (hn : es.length ≤ 1048576) (hm : cs.length ≤ 1048576) (hx0 : 0 < x) (hx : x ≤ 1000000) :
    Calls Tryd.prog 12 #[.agg #[.int .i64 kd, .int .i64 fr, .int .i64 up, .int .i64 tm, .int .i64 ix, .int .i64 lt, .int .i64 cm, .bool ok, v, u, .string da, .bool la], .int .i64 x] w fun e w' => e = .returned (.int .i64 (x + 3 * (es.length : Int) + (cs.length : Int))) ∧ ownsR w' B 47 v (marksEn x es.length) ∧ ownsR w' B 3 u (marksIn (x + 3 * (es.length : Int)) cs.length) ∧ ∃ w1, w.grownBy w1 v.ownBlock ∧ w1.grownBy w' u.ownBlock := by
  have ap : v.ownBlock = none ∨ v.ownBlock ≠ u.ownBlock := apart_types ho hq (by decide)
  have ap2 : u.ownBlock = none ∨ u.ownBlock ≠ v.ownBlock := apart_types hq ho (by decide)
  obtain ⟨a0, a1, a2, rfl⟩ := ho.slice3
  obtain ⟨b0, b1, b2, rfl⟩ := hq.slice3
  have HO : Hid (ownsR w B 47 (.slice a0 a1 a2) es) := ho
  have HQ : Hid (ownsR w B 3 (.slice b0 b1 b2) cs) := hq
  have AP : Hid ((Value.slice a0 a1 a2).ownBlock = none ∨ (Value.slice a0 a1 a2).ownBlock ≠ (Value.slice b0 b1 b2).ownBlock) := ap
  have AP2 : Hid ((Value.slice b0 b1 b2).ownBlock = none ∨ (Value.slice b0 b1 b2).ownBlock ≠ (Value.slice a0 a1 a2).ownBlock) := ap2
  clear ho hq ap ap2
  go_enter Tryd.func12, Tryd.ntmps12
  go_wp2_with fail
  refine (markEntryS_any (HO.out.alloc _) (Nat.le_trans hn (by decide)) hx0 (by omega)).mono ?_
  rintro e w1 ⟨rfl, hm1, hg1⟩
  have K1 : Kc12 31 w1 w.heap.size (.int .i64 kd) (.int .i64 fr) (.int .i64 up) (.int .i64 tm) (.int .i64 ix) (.int .i64 lt) (.int .i64 cm) (.bool ok) (.slice a0 a1 a2) (.slice b0 b1 b2) (.string da) (.bool la) :=
    (hg1.block w.heap.size (Kc12.new _ _ _ _ _ _ _ _ _ _ _ _ _ _).lt (fun e => by have := (HO.out.lt _ e.symm).2; omega)).trans (Kc12.new 31 w _ _ _ _ _ _ _ _ _ _ _ _)
  have c9 := K1.c9
  have M1 : Hid (ownsR w1 B 47 (.slice a0 a1 a2) (marksEn x es.length)) := hm1
  have Q1 : Hid (ownsR w1 B 3 (.slice b0 b1 b2) cs) := (HQ.out.alloc _).other hg1 AP2.out
  have G1 : Hid (w.grownBy w1 (Value.slice a0 a1 a2).ownBlock) := grown_trans (World.grownBy_alloc w _ _) hg1
  clear hm1 hg1 K1 HO HQ AP2
  go_wp2_with fail
  refine (markIntX_any Q1.out (Nat.le_trans hm (by decide)) (by omega) (by omega)).mono ?_
  rintro e w2 ⟨rfl, hm2, hg2⟩
  have M2 : Hid (ownsR w2 B 47 (.slice a0 a1 a2) (marksEn x es.length)) := M1.out.other hg2 AP.out
  have Q2 : Hid (ownsR w2 B 3 (.slice b0 b1 b2) (marksIn (x + 3 * (es.length : Int)) cs.length)) := hm2
  have G2 : Hid (w1.grownBy w2 (Value.slice b0 b1 b2).ownBlock) := hg2
  clear hm2 hg2 M1 Q1 AP
  go_wp2
  go_ret
  exact ⟨rfl, M2.out, Q2.out, w1, G1.out, G2.out⟩
set_option maxRecDepth 10000 in
set_option maxHeartbeats 1000000 in
theorem heldMessage_any {w : World} {x : Int} (kd fr up tm ix lt cm : Int) (ok : Bool) (da : ByteArray) (la : Bool) {v u : Value} {n m : Nat} (hr : Reads w v (marksEn x n)) (hq : Reads w u (marksIn (x + 3 * (n : Int)) m)) (hn : n ≤ 1048576) (hm : m ≤ 1048576) (hx0 : 0 < x) (hx : x ≤ 1000000) :
    Calls Tryd.prog 13 #[.agg #[.int .i64 kd, .int .i64 fr, .int .i64 up, .int .i64 tm, .int .i64 ix, .int .i64 lt, .int .i64 cm, .bool ok, v, u, .string da, .bool la], .int .i64 x] w fun e w' => e = .returned (.int .i64 (x + 3 * (n : Int) + (m : Int))) ∧ Below w.heap.size w w' := by
  obtain ⟨ao, c, rfl, _⟩ := id hr
  obtain ⟨bo, d, rfl, _⟩ := id hq
  rw [marksEn_length] at hr ⊢
  rw [marksIn_length] at hq ⊢
  have HR : Hid (Reads w (.slice ao n c) (marksEn x n)) := hr
  have HQ : Hid (Reads w (.slice bo m d) (marksIn (x + 3 * (n : Int)) m)) := hq
  clear hr hq
  go_enter Tryd.func13, Tryd.ntmps13
  go_wp2_with fail
  refine (heldEntryS_any ao n c x _ (HR.out.alloc _) (Nat.le_trans hn (by decide)) hx0 (by omega)).mono ?_
  rintro e w1 ⟨rfl, hb⟩
  have c9 := ((Kc12.new 31 w (.int .i64 kd) (.int .i64 fr) (.int .i64 up) (.int .i64 tm) (.int .i64 ix) (.int .i64 lt) (.int .i64 cm) (.bool ok) (.slice ao n c) (.slice bo m d) (.string da) (.bool la)).up hb).c9
  have B1 : Hid (Below w.heap.size w w1) := below_new hb
  have Q1 : Hid (Reads w1 (.slice bo m d) (marksIn (x + 3 * (n : Int)) m)) := HQ.out.below B1.out
  have hlt : ¬ (x + 3 * (n : Int) < 0) := by omega
  clear hb HR HQ
  go_wp2_with fail
  refine (heldIntX_any bo m d _ _ Q1.out (Nat.le_trans hm (by decide)) (by omega) (by omega)).mono ?_
  rintro e w2 ⟨rfl, rfl⟩
  have hlt2 : ¬ (x + 3 * (n : Int) + (m : Int) < 0) := by omega
  go_wp2
  go_ret
  exact ⟨rfl, B1.out⟩
end Go.Proofs.YtgjamikmjknlfaaDoor

namespace Go.Proofs.YtgjamikmjknlfaaDoor
open Go Go.RowKit
set_option linter.unusedVariables false

theorem cells12_new {w w' : World} {x0 x1 x2 x3 x4 x5 x6 x7 x8 x9 x10 x11 : Value} {t : TypeId} (hb : Below (w.alloc (.cells #[x0, x1, x2, x3, x4, x5, x6, x7, x8, x9, x10, x11] t)).heap.size (w.alloc (.cells #[x0, x1, x2, x3, x4, x5, x6, x7, x8, x9, x10, x11] t)) w') :
    w'.cell? ⟨w.heap.size, 0, none⟩ = some x0 ∧ w'.cell? ⟨w.heap.size, 1, none⟩ = some x1 ∧ w'.cell? ⟨w.heap.size, 2, none⟩ = some x2 ∧ w'.cell? ⟨w.heap.size, 3, none⟩ = some x3 ∧ w'.cell? ⟨w.heap.size, 4, none⟩ = some x4 ∧ w'.cell? ⟨w.heap.size, 5, none⟩ = some x5 ∧ w'.cell? ⟨w.heap.size, 6, none⟩ = some x6 ∧ w'.cell? ⟨w.heap.size, 7, none⟩ = some x7 ∧ w'.cell? ⟨w.heap.size, 8, none⟩ = some x8 ∧ w'.cell? ⟨w.heap.size, 9, none⟩ = some x9 ∧ w'.cell? ⟨w.heap.size, 10, none⟩ = some x10 ∧ w'.cell? ⟨w.heap.size, 11, none⟩ = some x11 := by
  have K := (Kc12.new t w x0 x1 x2 x3 x4 x5 x6 x7 x8 x9 x10 x11).up hb
  exact ⟨K.c0, K.c1, K.c2, K.c3, K.c4, K.c5, K.c6, K.c7, K.c8, K.c9, K.c10, K.c11⟩
set_option maxRecDepth 10000 in
set_option maxHeartbeats 8000000 in
theorem law_Decode (s : ByteArray) (w : World) (hs : s.size ≤ 9223372036854775807) :
    Calls Tryd.prog 4 #[.string s] w fun e w' => e = .returned (.bool true) ∧ Below w.heap.size w w' := by
  by_cases hbig : (1048576 : Int) < s.size
  · go_enter Tryd.func4, Tryd.ntmps4
    go_wp2
    go_ret
    exact ⟨rfl, Below.refl _ _⟩
  have hsm : s.size ≤ 1048576 := by omega
  obtain ⟨kd, fr, up, tm, ix, lt, cm, ok, da, la, es, cs, z, CS, CI, HL, HLC⟩ : ∃ (kd fr up tm ix lt cm : Int) (ok : Bool) (da : ByteArray) (la : Bool) (es : List En) (cs : List Int) (z : Bool), Hid (∀ W : World, Calls Tryd.prog 10 #[.string s] W fun e w' => ∃ v u, e = .returned (.tuple #[.agg #[.int .i64 kd, .int .i64 fr, .int .i64 up, .int .i64 tm, .int .i64 ix, .int .i64 lt, .int .i64 cm, .bool ok, v, u, .string da, .bool la], .bool z]) ∧ ownsR w' W.heap.size 47 v es ∧ ownsR w' W.heap.size 3 u cs ∧ Below W.heap.size W w') ∧ Hid (∀ W : World, Calls Tryd.prog 11 #[.string s] W fun e w' => ∃ v u, e = .returned (.tuple #[.agg #[.int .i64 kd, .int .i64 fr, .int .i64 up, .int .i64 tm, .int .i64 ix, .int .i64 lt, .int .i64 cm, .bool ok, v, u, .string da, .bool la], .bool z]) ∧ ownsR w' W.heap.size 47 v es ∧ ownsR w' W.heap.size 3 u cs ∧ Below W.heap.size W w') ∧ Hid (es.length ≤ 1048576) ∧ Hid (cs.length ≤ 1048576) := by
    refine ⟨(((rcM s).getD zeroM).kd : Int), (((rcM s).getD zeroM).fr : Int), (((rcM s).getD zeroM).up : Int), (((rcM s).getD zeroM).tm : Int), (((rcM s).getD zeroM).ix : Int), (((rcM s).getD zeroM).lt : Int), (((rcM s).getD zeroM).cm : Int), ((rcM s).getD zeroM).ok, ((rcM s).getD zeroM).da, ((rcM s).getD zeroM).la, ((rcM s).getD zeroM).es, confT ((rcM s).getD zeroM).c, (rcM s).isSome, fun W => (specDecode_any s W hsm).mono ?_, fun W => (implDecode_any s W hsm).mono ?_, ?_, ?_⟩
    · rintro e w' ⟨ea, en, ec, oa, on, oc, rfl, h1, h2, h3⟩
      exact ⟨_, _, rfl, h1, h2, h3⟩
    · rintro e w' ⟨ea, en, ec, oa, on, oc, rfl, h1, h2, h3⟩
      exact ⟨_, _, rfl, h1, h2, h3⟩
    · show _ ≤ _
      have : ((rcM s).getD zeroM).es.length ≤ 5 := by
        rw [rcM_chS]
        split
        · exact (chS_fine s).1
        · exact Nat.zero_le _
      omega
    · show _ ≤ _
      have := confT_len ((rcM s).getD zeroM).c
      omega
  have B0 : Below w.heap.size w w := Below.refl _ _
  clear hs hsm
  go_enter Tryd.func4, Tryd.ntmps4
  go_wp2_with fail
  refine (CS.out _).mono ?_
  rintro e w1 ⟨v1, u1, rfl, ho1, hq1, hb1⟩
  obtain ⟨a1, n1, d1, rfl⟩ := ho1.slice3
  obtain ⟨aa1, nn1, dd1, rfl⟩ := hq1.slice3
  have ap_w_wc := apart_types ho1 hq1 (by decide)
  have ap_wc_w := apart_types hq1 ho1 (by decide)
  have B1 : Below w.heap.size w w1 := B0.trans (hb1.mono B0.size)
  have O_w_1 : Hid (ownsR w1 w.heap.size 47 (.slice a1 n1 d1) (es)) := ho1.mono B0.size
  have O_wc_1 : Hid (ownsR w1 w.heap.size 3 (.slice aa1 nn1 dd1) (cs)) := hq1.mono B0.size
  clear B0 hb1 ho1 hq1
  go_wp2_with fail
  refine (CI.out _).mono ?_
  rintro e w2 ⟨v2, u2, rfl, ho2, hq2, hb2⟩
  obtain ⟨a2, n2, d2, rfl⟩ := ho2.slice3
  obtain ⟨aa2, nn2, dd2, rfl⟩ := hq2.slice3
  have ap_w_g := apart_new (O_w_1.out.alloc _) ho2
  have ap_g_w := apart_old (O_w_1.out.alloc _) ho2
  have ap_wc_g := apart_new (O_wc_1.out.alloc _) ho2
  have ap_g_wc := apart_old (O_wc_1.out.alloc _) ho2
  have ac_w_g := cell_apart (p := ⟨w1.heap.size, 0, none⟩) (u := .int .i64 kd) (w := (w1.alloc (Obj.cells #[.int .i64 kd, .int .i64 fr, .int .i64 up, .int .i64 tm, .int .i64 ix, .int .i64 lt, .int .i64 cm, .bool ok, .slice a1 n1 d1, .slice aa1 nn1 dd1, .string da, .bool la] 31))) (by simp [go_sem]) ho2
  have ap_w_gc := apart_new (O_w_1.out.alloc _) hq2
  have ap_gc_w := apart_old (O_w_1.out.alloc _) hq2
  have ap_wc_gc := apart_new (O_wc_1.out.alloc _) hq2
  have ap_gc_wc := apart_old (O_wc_1.out.alloc _) hq2
  have ac_w_gc := cell_apart (p := ⟨w1.heap.size, 0, none⟩) (u := .int .i64 kd) (w := (w1.alloc (Obj.cells #[.int .i64 kd, .int .i64 fr, .int .i64 up, .int .i64 tm, .int .i64 ix, .int .i64 lt, .int .i64 cm, .bool ok, .slice a1 n1 d1, .slice aa1 nn1 dd1, .string da, .bool la] 31))) (by simp [go_sem]) hq2
  have ap_g_gc := apart_types ho2 hq2 (by decide)
  have ap_gc_g := apart_types hq2 ho2 (by decide)
  obtain ⟨c_w0_2, c_w1_2, c_w2_2, c_w3_2, c_w4_2, c_w5_2, c_w6_2, c_w7_2, c_w8_2, c_w9_2, c_w10_2, c_w11_2⟩ := cells12_new hb2
  have ac_w_w := cell_apart_new O_w_1.out
  have ac_w_wc := cell_apart_new O_wc_1.out
  have hb2 := below_new hb2
  have O_w_2 : Hid (ownsR w2 w.heap.size 47 (.slice a1 n1 d1) (es)) := O_w_1.out.all hb2
  have O_wc_2 : Hid (ownsR w2 w.heap.size 3 (.slice aa1 nn1 dd1) (cs)) := O_wc_1.out.all hb2
  have B2 : Below w.heap.size w w2 := B1.trans (hb2.mono B1.size)
  have O_g_2 : Hid (ownsR w2 w.heap.size 47 (.slice a2 n2 d2) (es)) := ho2.mono (by have := B1.size; simp; omega)
  have O_gc_2 : Hid (ownsR w2 w.heap.size 3 (.slice aa2 nn2 dd2) (cs)) := hq2.mono (by have := B1.size; simp; omega)
  clear O_w_1 O_wc_1 B1 hb2 ho2 hq2
  have sz_w : w1.heap.size < w2.heap.size := World.block_lt_of_cell? _ _ c_w0_2
  go_wp2_with fail
  refine (eqMessage_any kd fr up tm ix lt cm ok da la _ _ _ _ es cs _ (ownsR.reads (O_g_2.out.alloc _)) (ownsR.reads (O_w_2.out.alloc _)) (ownsR.reads (O_gc_2.out.alloc _)) (ownsR.reads (O_wc_2.out.alloc _)) (Nat.le_trans HL.out (by decide)) (Nat.le_trans HLC.out (by decide))).mono ?_
  rintro e w3 ⟨rfl, hb3⟩
  obtain ⟨c_g0_3, c_g1_3, c_g2_3, c_g3_3, c_g4_3, c_g5_3, c_g6_3, c_g7_3, c_g8_3, c_g9_3, c_g10_3, c_g11_3⟩ := cells12_new hb3
  have ac_g_w := cell_apart_new O_w_2.out
  have ac_g_wc := cell_apart_new O_wc_2.out
  have ac_g_g := cell_apart_new O_g_2.out
  have ac_g_gc := cell_apart_new O_gc_2.out
  have hb3 := below_new hb3
  have c_w0_3 := cell_up hb3 c_w0_2
  have c_w1_3 := cell_up hb3 c_w1_2
  have c_w2_3 := cell_up hb3 c_w2_2
  have c_w3_3 := cell_up hb3 c_w3_2
  have c_w4_3 := cell_up hb3 c_w4_2
  have c_w5_3 := cell_up hb3 c_w5_2
  have c_w6_3 := cell_up hb3 c_w6_2
  have c_w7_3 := cell_up hb3 c_w7_2
  have c_w8_3 := cell_up hb3 c_w8_2
  have c_w9_3 := cell_up hb3 c_w9_2
  have c_w10_3 := cell_up hb3 c_w10_2
  have c_w11_3 := cell_up hb3 c_w11_2
  have O_w_3 : Hid (ownsR w3 w.heap.size 47 (.slice a1 n1 d1) (es)) := O_w_2.out.all hb3
  have O_wc_3 : Hid (ownsR w3 w.heap.size 3 (.slice aa1 nn1 dd1) (cs)) := O_wc_2.out.all hb3
  have O_g_3 : Hid (ownsR w3 w.heap.size 47 (.slice a2 n2 d2) (es)) := O_g_2.out.all hb3
  have O_gc_3 : Hid (ownsR w3 w.heap.size 3 (.slice aa2 nn2 dd2) (cs)) := O_gc_2.out.all hb3
  have B3 : Below w.heap.size w w3 := B2.trans (hb3.mono B2.size)
  clear c_w0_2 c_w1_2 c_w2_2 c_w3_2 c_w4_2 c_w5_2 c_w6_2 c_w7_2 c_w8_2 c_w9_2 c_w10_2 c_w11_2 sz_w O_w_2 O_wc_2 O_g_2 O_gc_2 B2 hb3
  go_wp2_with fail
  refine (markMessage_any (x := 1) kd fr up tm ix lt cm ok da la O_g_3.out O_gc_3.out HL.out HLC.out (by decide) (by decide)).mono ?_
  rintro e w4 ⟨rfl, hm4, hn4, wm4, hg4, hh4⟩
  have c_w0_4 := cell_other (cell_other c_w0_3 hg4 ac_w_g) hh4 ac_w_gc
  have c_w1_4 := cell_other (cell_other c_w1_3 hg4 ac_w_g) hh4 ac_w_gc
  have c_w2_4 := cell_other (cell_other c_w2_3 hg4 ac_w_g) hh4 ac_w_gc
  have c_w3_4 := cell_other (cell_other c_w3_3 hg4 ac_w_g) hh4 ac_w_gc
  have c_w4_4 := cell_other (cell_other c_w4_3 hg4 ac_w_g) hh4 ac_w_gc
  have c_w5_4 := cell_other (cell_other c_w5_3 hg4 ac_w_g) hh4 ac_w_gc
  have c_w6_4 := cell_other (cell_other c_w6_3 hg4 ac_w_g) hh4 ac_w_gc
  have c_w7_4 := cell_other (cell_other c_w7_3 hg4 ac_w_g) hh4 ac_w_gc
  have c_w8_4 := cell_other (cell_other c_w8_3 hg4 ac_w_g) hh4 ac_w_gc
  have c_w9_4 := cell_other (cell_other c_w9_3 hg4 ac_w_g) hh4 ac_w_gc
  have c_w10_4 := cell_other (cell_other c_w10_3 hg4 ac_w_g) hh4 ac_w_gc
  have c_w11_4 := cell_other (cell_other c_w11_3 hg4 ac_w_g) hh4 ac_w_gc
  have c_g0_4 := cell_other (cell_other c_g0_3 hg4 ac_g_g) hh4 ac_g_gc
  have c_g1_4 := cell_other (cell_other c_g1_3 hg4 ac_g_g) hh4 ac_g_gc
  have c_g2_4 := cell_other (cell_other c_g2_3 hg4 ac_g_g) hh4 ac_g_gc
  have c_g3_4 := cell_other (cell_other c_g3_3 hg4 ac_g_g) hh4 ac_g_gc
  have c_g4_4 := cell_other (cell_other c_g4_3 hg4 ac_g_g) hh4 ac_g_gc
  have c_g5_4 := cell_other (cell_other c_g5_3 hg4 ac_g_g) hh4 ac_g_gc
  have c_g6_4 := cell_other (cell_other c_g6_3 hg4 ac_g_g) hh4 ac_g_gc
  have c_g7_4 := cell_other (cell_other c_g7_3 hg4 ac_g_g) hh4 ac_g_gc
  have c_g8_4 := cell_other (cell_other c_g8_3 hg4 ac_g_g) hh4 ac_g_gc
  have c_g9_4 := cell_other (cell_other c_g9_3 hg4 ac_g_g) hh4 ac_g_gc
  have c_g10_4 := cell_other (cell_other c_g10_3 hg4 ac_g_g) hh4 ac_g_gc
  have c_g11_4 := cell_other (cell_other c_g11_3 hg4 ac_g_g) hh4 ac_g_gc
  have O_w_4 : Hid (ownsR w4 w.heap.size 47 (.slice a1 n1 d1) (es)) := (O_w_3.out.other hg4 ap_w_g).other hh4 ap_w_gc
  have O_wc_4 : Hid (ownsR w4 w.heap.size 3 (.slice aa1 nn1 dd1) (cs)) := (O_wc_3.out.other hg4 ap_wc_g).other hh4 ap_wc_gc
  have B4 : Below w.heap.size w w4 := below_marked (below_marked B3 O_g_3.out hg4) (O_gc_3.out.other hg4 ap_gc_g) hh4
  have O_g_4 : Hid (ownsR w4 w.heap.size 47 (.slice a2 n2 d2) (marksEn 1 es.length)) := hm4
  have O_gc_4 : Hid (ownsR w4 w.heap.size 3 (.slice aa2 nn2 dd2) (marksIn (1 + 3 * ((es.length : Nat) : Int)) cs.length)) := hn4
  clear c_w0_3 c_w1_3 c_w2_3 c_w3_3 c_w4_3 c_w5_3 c_w6_3 c_w7_3 c_w8_3 c_w9_3 c_w10_3 c_w11_3 c_g0_3 c_g1_3 c_g2_3 c_g3_3 c_g4_3 c_g5_3 c_g6_3 c_g7_3 c_g8_3 c_g9_3 c_g10_3 c_g11_3 O_w_3 O_wc_3 B3 hm4 O_g_3 hn4 O_gc_3 hg4 hh4
  go_wp2_with fail
  refine (heldMessage_any (x := 1) (n := es.length) (m := cs.length) kd fr up tm ix lt cm ok da la (ownsR.reads O_g_4.out) (ownsR.reads O_gc_4.out) HL.out HLC.out (by decide) (by decide)).mono ?_
  rintro e w5 ⟨rfl, hb5⟩
  have c_w0_5 := cell_up hb5 c_w0_4
  have c_w1_5 := cell_up hb5 c_w1_4
  have c_w2_5 := cell_up hb5 c_w2_4
  have c_w3_5 := cell_up hb5 c_w3_4
  have c_w4_5 := cell_up hb5 c_w4_4
  have c_w5_5 := cell_up hb5 c_w5_4
  have c_w6_5 := cell_up hb5 c_w6_4
  have c_w7_5 := cell_up hb5 c_w7_4
  have c_w8_5 := cell_up hb5 c_w8_4
  have c_w9_5 := cell_up hb5 c_w9_4
  have c_w10_5 := cell_up hb5 c_w10_4
  have c_w11_5 := cell_up hb5 c_w11_4
  have c_g0_5 := cell_up hb5 c_g0_4
  have c_g1_5 := cell_up hb5 c_g1_4
  have c_g2_5 := cell_up hb5 c_g2_4
  have c_g3_5 := cell_up hb5 c_g3_4
  have c_g4_5 := cell_up hb5 c_g4_4
  have c_g5_5 := cell_up hb5 c_g5_4
  have c_g6_5 := cell_up hb5 c_g6_4
  have c_g7_5 := cell_up hb5 c_g7_4
  have c_g8_5 := cell_up hb5 c_g8_4
  have c_g9_5 := cell_up hb5 c_g9_4
  have c_g10_5 := cell_up hb5 c_g10_4
  have c_g11_5 := cell_up hb5 c_g11_4
  have O_w_5 : Hid (ownsR w5 w.heap.size 47 (.slice a1 n1 d1) (es)) := O_w_4.out.all hb5
  have O_wc_5 : Hid (ownsR w5 w.heap.size 3 (.slice aa1 nn1 dd1) (cs)) := O_wc_4.out.all hb5
  have O_g_5 : Hid (ownsR w5 w.heap.size 47 (.slice a2 n2 d2) (marksEn 1 es.length)) := O_g_4.out.all hb5
  have O_gc_5 : Hid (ownsR w5 w.heap.size 3 (.slice aa2 nn2 dd2) (marksIn (1 + 3 * ((es.length : Nat) : Int)) cs.length)) := O_gc_4.out.all hb5
  have B5 : Below w.heap.size w w5 := B4.trans (hb5.mono B4.size)
  clear c_w0_4 c_w1_4 c_w2_4 c_w3_4 c_w4_4 c_w5_4 c_w6_4 c_w7_4 c_w8_4 c_w9_4 c_w10_4 c_w11_4 c_g0_4 c_g1_4 c_g2_4 c_g3_4 c_g4_4 c_g5_4 c_g6_4 c_g7_4 c_g8_4 c_g9_4 c_g10_4 c_g11_4 O_w_4 O_wc_4 O_g_4 O_gc_4 B4 hb5
  go_wp2_with fail
  refine (CI.out _).mono ?_
  rintro e w6 ⟨v6, u6, rfl, ho6, hq6, hb6⟩
  obtain ⟨a6, n6, d6, rfl⟩ := ho6.slice3
  obtain ⟨aa6, nn6, dd6, rfl⟩ := hq6.slice3
  have ap_w_h := apart_new O_w_5.out ho6
  have ap_h_w := apart_old O_w_5.out ho6
  have ap_wc_h := apart_new O_wc_5.out ho6
  have ap_h_wc := apart_old O_wc_5.out ho6
  have ap_g_h := apart_new O_g_5.out ho6
  have ap_h_g := apart_old O_g_5.out ho6
  have ap_gc_h := apart_new O_gc_5.out ho6
  have ap_h_gc := apart_old O_gc_5.out ho6
  have ac_w_h := cell_apart c_w0_5 ho6
  have ac_g_h := cell_apart c_g0_5 ho6
  have ap_w_hc := apart_new O_w_5.out hq6
  have ap_hc_w := apart_old O_w_5.out hq6
  have ap_wc_hc := apart_new O_wc_5.out hq6
  have ap_hc_wc := apart_old O_wc_5.out hq6
  have ap_g_hc := apart_new O_g_5.out hq6
  have ap_hc_g := apart_old O_g_5.out hq6
  have ap_gc_hc := apart_new O_gc_5.out hq6
  have ap_hc_gc := apart_old O_gc_5.out hq6
  have ac_w_hc := cell_apart c_w0_5 hq6
  have ac_g_hc := cell_apart c_g0_5 hq6
  have ap_h_hc := apart_types ho6 hq6 (by decide)
  have ap_hc_h := apart_types hq6 ho6 (by decide)
  have c_w0_6 := cell_up hb6 c_w0_5
  have c_w1_6 := cell_up hb6 c_w1_5
  have c_w2_6 := cell_up hb6 c_w2_5
  have c_w3_6 := cell_up hb6 c_w3_5
  have c_w4_6 := cell_up hb6 c_w4_5
  have c_w5_6 := cell_up hb6 c_w5_5
  have c_w6_6 := cell_up hb6 c_w6_5
  have c_w7_6 := cell_up hb6 c_w7_5
  have c_w8_6 := cell_up hb6 c_w8_5
  have c_w9_6 := cell_up hb6 c_w9_5
  have c_w10_6 := cell_up hb6 c_w10_5
  have c_w11_6 := cell_up hb6 c_w11_5
  have c_g0_6 := cell_up hb6 c_g0_5
  have c_g1_6 := cell_up hb6 c_g1_5
  have c_g2_6 := cell_up hb6 c_g2_5
  have c_g3_6 := cell_up hb6 c_g3_5
  have c_g4_6 := cell_up hb6 c_g4_5
  have c_g5_6 := cell_up hb6 c_g5_5
  have c_g6_6 := cell_up hb6 c_g6_5
  have c_g7_6 := cell_up hb6 c_g7_5
  have c_g8_6 := cell_up hb6 c_g8_5
  have c_g9_6 := cell_up hb6 c_g9_5
  have c_g10_6 := cell_up hb6 c_g10_5
  have c_g11_6 := cell_up hb6 c_g11_5
  have O_w_6 : Hid (ownsR w6 w.heap.size 47 (.slice a1 n1 d1) (es)) := O_w_5.out.all hb6
  have O_wc_6 : Hid (ownsR w6 w.heap.size 3 (.slice aa1 nn1 dd1) (cs)) := O_wc_5.out.all hb6
  have O_g_6 : Hid (ownsR w6 w.heap.size 47 (.slice a2 n2 d2) (marksEn 1 es.length)) := O_g_5.out.all hb6
  have O_gc_6 : Hid (ownsR w6 w.heap.size 3 (.slice aa2 nn2 dd2) (marksIn (1 + 3 * ((es.length : Nat) : Int)) cs.length)) := O_gc_5.out.all hb6
  have B6 : Below w.heap.size w w6 := B5.trans (hb6.mono B5.size)
  have O_h_6 : Hid (ownsR w6 w.heap.size 47 (.slice a6 n6 d6) (es)) := ho6.mono B5.size
  have O_hc_6 : Hid (ownsR w6 w.heap.size 3 (.slice aa6 nn6 dd6) (cs)) := hq6.mono B5.size
  clear c_w0_5 c_w1_5 c_w2_5 c_w3_5 c_w4_5 c_w5_5 c_w6_5 c_w7_5 c_w8_5 c_w9_5 c_w10_5 c_w11_5 c_g0_5 c_g1_5 c_g2_5 c_g3_5 c_g4_5 c_g5_5 c_g6_5 c_g7_5 c_g8_5 c_g9_5 c_g10_5 c_g11_5 O_w_5 O_wc_5 O_g_5 O_gc_5 B5 hb6 ho6 hq6
  have sz_w : w1.heap.size < w6.heap.size := World.block_lt_of_cell? _ _ c_w0_6
  have sz_g : w2.heap.size < w6.heap.size := World.block_lt_of_cell? _ _ c_g0_6
  go_wp2_with fail
  refine (eqMessage_any kd fr up tm ix lt cm ok da la _ _ _ _ es cs _ (ownsR.reads (O_h_6.out.alloc _)) (ownsR.reads (O_w_6.out.alloc _)) (ownsR.reads (O_hc_6.out.alloc _)) (ownsR.reads (O_wc_6.out.alloc _)) (Nat.le_trans HL.out (by decide)) (Nat.le_trans HLC.out (by decide))).mono ?_
  rintro e w7 ⟨rfl, hb7⟩
  obtain ⟨c_h0_7, c_h1_7, c_h2_7, c_h3_7, c_h4_7, c_h5_7, c_h6_7, c_h7_7, c_h8_7, c_h9_7, c_h10_7, c_h11_7⟩ := cells12_new hb7
  have ac_h_w := cell_apart_new O_w_6.out
  have ac_h_wc := cell_apart_new O_wc_6.out
  have ac_h_g := cell_apart_new O_g_6.out
  have ac_h_gc := cell_apart_new O_gc_6.out
  have ac_h_h := cell_apart_new O_h_6.out
  have ac_h_hc := cell_apart_new O_hc_6.out
  have hb7 := below_new hb7
  have c_w0_7 := cell_up hb7 c_w0_6
  have c_w1_7 := cell_up hb7 c_w1_6
  have c_w2_7 := cell_up hb7 c_w2_6
  have c_w3_7 := cell_up hb7 c_w3_6
  have c_w4_7 := cell_up hb7 c_w4_6
  have c_w5_7 := cell_up hb7 c_w5_6
  have c_w6_7 := cell_up hb7 c_w6_6
  have c_w7_7 := cell_up hb7 c_w7_6
  have c_w8_7 := cell_up hb7 c_w8_6
  have c_w9_7 := cell_up hb7 c_w9_6
  have c_w10_7 := cell_up hb7 c_w10_6
  have c_w11_7 := cell_up hb7 c_w11_6
  have c_g0_7 := cell_up hb7 c_g0_6
  have c_g1_7 := cell_up hb7 c_g1_6
  have c_g2_7 := cell_up hb7 c_g2_6
  have c_g3_7 := cell_up hb7 c_g3_6
  have c_g4_7 := cell_up hb7 c_g4_6
  have c_g5_7 := cell_up hb7 c_g5_6
  have c_g6_7 := cell_up hb7 c_g6_6
  have c_g7_7 := cell_up hb7 c_g7_6
  have c_g8_7 := cell_up hb7 c_g8_6
  have c_g9_7 := cell_up hb7 c_g9_6
  have c_g10_7 := cell_up hb7 c_g10_6
  have c_g11_7 := cell_up hb7 c_g11_6
  have O_w_7 : Hid (ownsR w7 w.heap.size 47 (.slice a1 n1 d1) (es)) := O_w_6.out.all hb7
  have O_wc_7 : Hid (ownsR w7 w.heap.size 3 (.slice aa1 nn1 dd1) (cs)) := O_wc_6.out.all hb7
  have O_g_7 : Hid (ownsR w7 w.heap.size 47 (.slice a2 n2 d2) (marksEn 1 es.length)) := O_g_6.out.all hb7
  have O_gc_7 : Hid (ownsR w7 w.heap.size 3 (.slice aa2 nn2 dd2) (marksIn (1 + 3 * ((es.length : Nat) : Int)) cs.length)) := O_gc_6.out.all hb7
  have O_h_7 : Hid (ownsR w7 w.heap.size 47 (.slice a6 n6 d6) (es)) := O_h_6.out.all hb7
  have O_hc_7 : Hid (ownsR w7 w.heap.size 3 (.slice aa6 nn6 dd6) (cs)) := O_hc_6.out.all hb7
  have B7 : Below w.heap.size w w7 := B6.trans (hb7.mono B6.size)
  clear c_w0_6 c_w1_6 c_w2_6 c_w3_6 c_w4_6 c_w5_6 c_w6_6 c_w7_6 c_w8_6 c_w9_6 c_w10_6 c_w11_6 c_g0_6 c_g1_6 c_g2_6 c_g3_6 c_g4_6 c_g5_6 c_g6_6 c_g7_6 c_g8_6 c_g9_6 c_g10_6 c_g11_6 sz_w sz_g O_w_6 O_wc_6 O_g_6 O_gc_6 O_h_6 O_hc_6 B6 hb7
  go_wp2_with fail
  refine (heldMessage_any (x := 1) (n := es.length) (m := cs.length) kd fr up tm ix lt cm ok da la (ownsR.reads O_g_7.out) (ownsR.reads O_gc_7.out) HL.out HLC.out (by decide) (by decide)).mono ?_
  rintro e w8 ⟨rfl, hb8⟩
  have c_w0_8 := cell_up hb8 c_w0_7
  have c_w1_8 := cell_up hb8 c_w1_7
  have c_w2_8 := cell_up hb8 c_w2_7
  have c_w3_8 := cell_up hb8 c_w3_7
  have c_w4_8 := cell_up hb8 c_w4_7
  have c_w5_8 := cell_up hb8 c_w5_7
  have c_w6_8 := cell_up hb8 c_w6_7
  have c_w7_8 := cell_up hb8 c_w7_7
  have c_w8_8 := cell_up hb8 c_w8_7
  have c_w9_8 := cell_up hb8 c_w9_7
  have c_w10_8 := cell_up hb8 c_w10_7
  have c_w11_8 := cell_up hb8 c_w11_7
  have c_g0_8 := cell_up hb8 c_g0_7
  have c_g1_8 := cell_up hb8 c_g1_7
  have c_g2_8 := cell_up hb8 c_g2_7
  have c_g3_8 := cell_up hb8 c_g3_7
  have c_g4_8 := cell_up hb8 c_g4_7
  have c_g5_8 := cell_up hb8 c_g5_7
  have c_g6_8 := cell_up hb8 c_g6_7
  have c_g7_8 := cell_up hb8 c_g7_7
  have c_g8_8 := cell_up hb8 c_g8_7
  have c_g9_8 := cell_up hb8 c_g9_7
  have c_g10_8 := cell_up hb8 c_g10_7
  have c_g11_8 := cell_up hb8 c_g11_7
  have c_h0_8 := cell_up hb8 c_h0_7
  have c_h1_8 := cell_up hb8 c_h1_7
  have c_h2_8 := cell_up hb8 c_h2_7
  have c_h3_8 := cell_up hb8 c_h3_7
  have c_h4_8 := cell_up hb8 c_h4_7
  have c_h5_8 := cell_up hb8 c_h5_7
  have c_h6_8 := cell_up hb8 c_h6_7
  have c_h7_8 := cell_up hb8 c_h7_7
  have c_h8_8 := cell_up hb8 c_h8_7
  have c_h9_8 := cell_up hb8 c_h9_7
  have c_h10_8 := cell_up hb8 c_h10_7
  have c_h11_8 := cell_up hb8 c_h11_7
  have O_w_8 : Hid (ownsR w8 w.heap.size 47 (.slice a1 n1 d1) (es)) := O_w_7.out.all hb8
  have O_wc_8 : Hid (ownsR w8 w.heap.size 3 (.slice aa1 nn1 dd1) (cs)) := O_wc_7.out.all hb8
  have O_g_8 : Hid (ownsR w8 w.heap.size 47 (.slice a2 n2 d2) (marksEn 1 es.length)) := O_g_7.out.all hb8
  have O_gc_8 : Hid (ownsR w8 w.heap.size 3 (.slice aa2 nn2 dd2) (marksIn (1 + 3 * ((es.length : Nat) : Int)) cs.length)) := O_gc_7.out.all hb8
  have O_h_8 : Hid (ownsR w8 w.heap.size 47 (.slice a6 n6 d6) (es)) := O_h_7.out.all hb8
  have O_hc_8 : Hid (ownsR w8 w.heap.size 3 (.slice aa6 nn6 dd6) (cs)) := O_hc_7.out.all hb8
  have B8 : Below w.heap.size w w8 := B7.trans (hb8.mono B7.size)
  clear c_w0_7 c_w1_7 c_w2_7 c_w3_7 c_w4_7 c_w5_7 c_w6_7 c_w7_7 c_w8_7 c_w9_7 c_w10_7 c_w11_7 c_g0_7 c_g1_7 c_g2_7 c_g3_7 c_g4_7 c_g5_7 c_g6_7 c_g7_7 c_g8_7 c_g9_7 c_g10_7 c_g11_7 c_h0_7 c_h1_7 c_h2_7 c_h3_7 c_h4_7 c_h5_7 c_h6_7 c_h7_7 c_h8_7 c_h9_7 c_h10_7 c_h11_7 O_w_7 O_wc_7 O_g_7 O_gc_7 O_h_7 O_hc_7 B7 hb8
  go_wp2
  go_ret
  exact ⟨rfl, B8⟩
end Go.Proofs.YtgjamikmjknlfaaDoor
