/- Sme -/
import Derived.Test.YtpjpheicldegkaaGreatDoorGM12
import Derived.Test.YtpjpheicldegkaaGreatDoorGM5
namespace Go.Proofs.YtpjpheicldegkaaGreatDoor
open Go Go.RowKit
set_option linter.unusedVariables false

set_option maxRecDepth 10000 in
set_option maxHeartbeats 4000000 in
theorem sameMessage_try (kd fr up tm ix lt cm : Int) (ok : Bool) (da : ByteArray) (la : Bool) (ao bo co d0 : Option Addr) (n m ac bc cc dc : Nat) (es : List En) (cs : List Int) (w : World) (ha : Reads w (.slice ao n ac) es) (hb : Reads w (.slice bo n bc) es) (hc : Reads w (.slice co m cc) cs) (hd : Reads w (.slice d0 m dc) cs) (hn : n ≤ 1048577) (hm : m ≤ 1048577) :
    Calls Tryz.prog 10 #[.agg #[.int .i64 kd, .int .i64 fr, .int .i64 up, .int .i64 tm, .int .i64 ix, .int .i64 lt, .int .i64 cm, .bool ok, .slice ao n ac, .slice co m cc, .string da, .bool la], .agg #[.int .i64 kd, .int .i64 fr, .int .i64 up, .int .i64 tm, .int .i64 ix, .int .i64 lt, .int .i64 cm, .bool ok, .slice bo n bc, .slice d0 m dc, .string da, .bool la]] w fun e w' => e = .returned (.bool true) ∧ Below w.heap.size w w' := by
  have HN : Hid (n = es.length) := ha.len
  have HNB : Hid (n ≤ 1048577) := hn
  obtain ⟨W0, HW0⟩ : ∃ V, Hid ((w.alloc (.cells #[.int .i64 kd, .int .i64 fr, .int .i64 up, .int .i64 tm, .int .i64 ix, .int .i64 lt, .int .i64 cm, .bool ok, .slice ao n ac, .slice co m cc, .string da, .bool la] 27)).alloc (.cells #[.int .i64 kd, .int .i64 fr, .int .i64 up, .int .i64 tm, .int .i64 ix, .int .i64 lt, .int .i64 cm, .bool ok, .slice bo n bc, .slice d0 m dc, .string da, .bool la] 27) = V) := ⟨_, rfl⟩
  have KA : Kc12 27 W0 w.heap.size (.int .i64 kd) (.int .i64 fr) (.int .i64 up) (.int .i64 tm) (.int .i64 ix) (.int .i64 lt) (.int .i64 cm) (.bool ok) (.slice ao n ac) (.slice co m cc) (.string da) (.bool la) := by rw [← HW0.out]; exact (Kc12.new _ _ _ _ _ _ _ _ _ _ _ _ _ _).alloc _
  have KB : Kc12 27 W0 (w.heap.size + 1) (.int .i64 kd) (.int .i64 fr) (.int .i64 up) (.int .i64 tm) (.int .i64 ix) (.int .i64 lt) (.int .i64 cm) (.bool ok) (.slice bo n bc) (.slice d0 m dc) (.string da) (.bool la) := by
    rw [← HW0.out]
    have := Kc12.new 27 (w.alloc (.cells #[.int .i64 kd, .int .i64 fr, .int .i64 up, .int .i64 tm, .int .i64 ix, .int .i64 lt, .int .i64 cm, .bool ok, .slice ao n ac, .slice co m cc, .string da, .bool la] 27)) (.int .i64 kd) (.int .i64 fr) (.int .i64 up) (.int .i64 tm) (.int .i64 ix) (.int .i64 lt) (.int .i64 cm) (.bool ok) (.slice bo n bc) (.slice d0 m dc) (.string da) (.bool la)
    rwa [World.size_alloc] at this
  have B0 : Hid (Below w.heap.size w W0) := by rw [← HW0.out]; exact ba (ba (Below.refl _ _) _) _
  have HA : Hid (Reads W0 (.slice ao n ac) es) := ha.below B0.out
  have HB : Hid (Reads W0 (.slice bo n bc) es) := hb.below B0.out
  have HC : Hid (Reads W0 (.slice co m cc) cs) := hc.below B0.out
  have HD : Hid (Reads W0 (.slice d0 m dc) cs) := hd.below B0.out
  clear ha hb hc hd hn
  have c8 := KA.c8
  have c9 := KA.c9
  have e8 := KB.c8
  have e9 := KB.c9
  go_enter Tryz.func10, Tryz.ntmps10
  go_wp2_with (rw [HW0.out])
  refine (sameInts_any co d0 m cc dc cs _ HC.out HD.out hm).mono ?_
  rintro e W1 ⟨rfl, hb1⟩
  have KA1 := KA.up hb1
  have KB1 := KB.up hb1
  have B1 : Hid (Below w.heap.size w W1) := Below.on B0.out hb1
  have HA1 : Hid (Reads W1 (.slice ao n ac) es) := HA.out.below hb1
  have HB1 : Hid (Reads W1 (.slice bo n bc) es) := HB.out.below hb1
  clear hb1 KA KB B0 HA HB HC HD c8 c9 e8 e9 HW0 hm
  go_wp2
  go_loopw [5] (fun iv wr => ∃ k : Nat, k ≤ n ∧ iv = .int .i64 k ∧ Hid (Below W1.heap.size W1 wr)) (fun iv _ => n - (intOf iv).toNat)
  case atStart => exact ⟨0, Nat.zero_le _, rfl, Below.refl _ _⟩
  case round =>
    obtain ⟨k, hk, rfl, HBW⟩ := hrel
    have hn9 := HNB.out
    have KA2 := KA1.up HBW.out
    have KB2 := KB1.up HBW.out
    by_cases hlt : k < n
    · obtain ⟨f, hf⟩ : ∃ f, es[k]? = some f := ⟨_, List.getElem?_eq_getElem (by rw [← HN.out]; exact hlt)⟩
      obtain ⟨b1, o1, rfl, hb1, x0, x1, x2⟩ := en_at (HA1.out.below HBW.out) hf
      obtain ⟨b2, o2, rfl, hb2, y0, y1, y2⟩ := en_at (HB1.out.below HBW.out) hf
      have c8 := KA2.c8
      have e8 := KB2.c8
      clear hf KA2 KB2
      go_wp2
      go_quiet (fail)
      go_wp2
      go_roundw
      case rel => exact ⟨k + 1, by omega, by go_num, bdrewN HBW.out _⟩
      case measure => simp [intOf]; omega
    · have hkn : k = n := by omega
      subst hkn
      have c0 := KA2.c0
      have c1 := KA2.c1
      have c2 := KA2.c2
      have c3 := KA2.c3
      have c4 := KA2.c4
      have c5 := KA2.c5
      have c6 := KA2.c6
      have c7 := KA2.c7
      have c8 := KA2.c8
      have c9 := KA2.c9
      have c10 := KA2.c10
      have c11 := KA2.c11
      have e0 := KB2.c0
      have e1 := KB2.c1
      have e2 := KB2.c2
      have e3 := KB2.c3
      have e4 := KB2.c4
      have e5 := KB2.c5
      have e6 := KB2.c6
      have e7 := KB2.c7
      have e8 := KB2.c8
      have e9 := KB2.c9
      have e10 := KB2.c10
      have e11 := KB2.c11
      clear KA2 KB2 KA1 KB1
      go_wp2
      go_ret
      exact ⟨rfl, Below.on B1.out HBW.out⟩
theorem sameMessage_any (kd fr up tm ix lt cm : Int) (ok : Bool) (da : ByteArray) (la : Bool) {va vb vc vd : Value} {es : List En} {cs : List Int} {w : World} (ha : Reads w va es) (hb : Reads w vb es) (hc : Reads w vc cs) (hd : Reads w vd cs) (hn : es.length ≤ 1048577) (hm : cs.length ≤ 1048577) :
    Calls Tryz.prog 10 #[.agg #[.int .i64 kd, .int .i64 fr, .int .i64 up, .int .i64 tm, .int .i64 ix, .int .i64 lt, .int .i64 cm, .bool ok, va, vc, .string da, .bool la], .agg #[.int .i64 kd, .int .i64 fr, .int .i64 up, .int .i64 tm, .int .i64 ix, .int .i64 lt, .int .i64 cm, .bool ok, vb, vd, .string da, .bool la]] w fun e w' => e = .returned (.bool true) ∧ Below w.heap.size w w' := by
  obtain ⟨ao, ac, rfl, _⟩ := id ha
  obtain ⟨bo, bc, rfl, _⟩ := id hb
  obtain ⟨co, cc, rfl, _⟩ := id hc
  obtain ⟨d0, dc, rfl, _⟩ := id hd
  exact sameMessage_try kd fr up tm ix lt cm ok da la ao bo co d0 _ _ ac bc cc dc es cs w ha hb hc hd hn hm
end Go.Proofs.YtpjpheicldegkaaGreatDoor
