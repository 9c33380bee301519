/-
  Plans held against each other by the law: the walks of eqStringS, eqTask, eqTaskS and eqDag on what is alike.
-/
import Derived.Test.YtkfhmeiiicidaaaTot
import Derived.Test.YtkfhmeiiicidaaaMs
namespace Go.Proofs.Ytkfhmeiiicidaaa
open Go Go.RowKit

set_option maxRecDepth 10000 in
set_option maxHeartbeats 1000000 in
theorem eqSR_any (ao bo : Option Addr) (n c d : Nat) (l : List ByteArray) (w : World) (ha : Reads w (.slice ao n c) l) (hb : Reads w (.slice bo n d) l) (hn : n ≤ 1048577) :
    Calls Try.prog 91 #[.slice ao n c, .slice bo n d] w fun e w' => e = .returned (.bool true) ∧ Below w.heap.size w w' := by
  have HN : Hid (n = l.length) := ha.len
  have HA : Hid (Reads w (.slice ao n c) l) := ha
  have HB : Hid (Reads w (.slice bo n d) l) := hb
  clear ha hb
  go_enter Try.func91, Try.ntmps91
  go_wp2
  go_loopw [5] (fun i wr => ∃ k : Nat, k ≤ n ∧ i = .int .i64 k ∧ Below w.heap.size w wr) (fun i _ => n - (intOf i).toNat)
  case atStart => exact ⟨0, Nat.zero_le _, rfl, Below.refl _ _⟩
  case round =>
    obtain ⟨k, hk, rfl, hbel⟩ := hrel
    by_cases hlt : k < n
    · obtain ⟨f, hf⟩ : ∃ f, l[k]? = some f := ⟨_, List.getElem?_eq_getElem (by rw [← HN.out]; exact hlt)⟩
      obtain ⟨a, oa, rfl, hga, a0⟩ := text_at (HA.out.below hbel) hf
      obtain ⟨b, ob, rfl, hgb, b0⟩ := text_at (HB.out.below hbel) hf
      clear hf
      have q0 := Wd.cell a0
      have q1 := Wd.cell b0
      go_wp2
      refine wp_region_wd (by kernel_rfl) (by kernel_rfl) ?_
      repeat (go_big_quiet_step (fail))
      refine wpQuiet_nil ?_
      rintro _ ⟨x, rfl⟩
      have BX := Below.on hbel x.ok
      clear q0 q1
      go_wp2
      go_roundw
      case rel => exact ⟨k + 1, by omega, by go_num, BX⟩
      case measure => simp [intOf]; omega
    · go_wp2
      go_ret
      exact ⟨rfl, hbel⟩
set_option maxRecDepth 10000 in
set_option maxHeartbeats 1000000 in
theorem eqT_any (nm po : ByteArray) (rt : Int) (pa : Bool) (fo go : Option Addr) (m fc gc : Nat) (af : List ByteArray) (w : World) (ha : Reads w (.slice fo m fc) af) (hb : Reads w (.slice go m gc) af) (hm : m ≤ 1048577) :
    Calls Try.prog 88 #[.agg #[.string nm, .string po, .int .i64 rt, .bool pa, .slice fo m fc], .agg #[.string nm, .string po, .int .i64 rt, .bool pa, .slice go m gc]] w fun e w' => e = .returned (.bool true) ∧ Below w.heap.size w w' := by
  have HE : Hid (∀ W, Below w.heap.size w W → Calls Try.prog 91 #[.slice fo m fc, .slice go m gc] W fun e w' => e = .returned (.bool true) ∧ Below W.heap.size W w') := fun W h => eqSR_any fo go m fc gc af W (ha.below h) (hb.below h) hm
  clear ha hb
  go_enter Try.func88, Try.ntmps88
  go_wp2_with (go_at_call 91; refine (HE.out _ (ba (ba (Below.refl _ _) _) _)).mono ?_; rintro e w1 ⟨rfl, hb1⟩)
  go_ret
  exact ⟨rfl, Below.on (ba (ba (Below.refl _ _) _) _) hb1⟩
set_option maxRecDepth 10000 in
set_option maxHeartbeats 1000000 in
theorem eqTS_any (ao bo : Option Addr) (n c d : Nat) (ts : List Ta) (w : World) (ha : Tasks w (.slice ao n c) ts) (hb : Tasks w (.slice bo n d) ts) (hn : n ≤ 1048577) (hs : ∀ t ∈ ts, t.after.length ≤ 1048577) :
    Calls Try.prog 83 #[.slice ao n c, .slice bo n d] w fun e w' => e = .returned (.bool true) ∧ Below w.heap.size w w' := by
  have HN : Hid (ts.length = n) := by
    obtain ⟨ao', cap', e⟩ := ha.slice
    injection e with _ e2 _
    exact e2.symm
  have HA : Hid (Tasks w (.slice ao n c) ts) := ha
  have HB : Hid (Tasks w (.slice bo n d) ts) := hb
  have HS : Hid (∀ t ∈ ts, t.after.length ≤ 1048577) := hs
  clear ha hb hs
  go_enter Try.func83, Try.ntmps83
  go_wp2
  go_loopw [5] (fun i wr => ∃ k : Nat, k ≤ n ∧ i = .int .i64 k ∧ Below w.heap.size w wr) (fun i _ => n - (intOf i).toNat)
  case atStart => exact ⟨0, Nat.zero_le _, rfl, Below.refl _ _⟩
  case round =>
    obtain ⟨k, hk, rfl, hbel⟩ := hrel
    by_cases hlt : k < n
    · obtain ⟨t, ht⟩ : ∃ t, ts[k]? = some t := ⟨_, List.getElem?_eq_getElem (by rw [HN.out]; exact hlt)⟩
      obtain ⟨a, oa, av, rfl, hga, a0, a1, a2, a3, a4, hav⟩ := (HA.out.below hbel).at ht
      obtain ⟨b, ob, bv, rfl, hgb, b0, b1, b2, b3, b4, hbv⟩ := (HB.out.below hbel).at ht
      obtain ⟨fo, fc, rfl, _⟩ := id hav
      obtain ⟨ho, hc, rfl, _⟩ := id hbv
      have hm0 := HS.out t (List.mem_of_getElem? ht)
      obtain ⟨m, HM⟩ : ∃ m, Hid (t.after.length = m) := ⟨_, rfl⟩
      rw [HM.out] at hav hbv a4 b4 hm0
      have H1 : Hid (∀ x : Wd wr, Calls Try.prog 88 #[.agg #[.string t.name, .string t.pool, .int .i64 t.ret, .bool t.past, .slice fo m fc], .agg #[.string t.name, .string t.pool, .int .i64 t.ret, .bool t.past, .slice ho m hc]] x.at' fun e w' => e = .returned (.bool true) ∧ Below x.at'.heap.size x.at' w') := fun x => eqT_any _ _ _ _ _ _ _ _ _ t.after x.at' (hav.below x.ok) (hbv.below x.ok) hm0
      clear ht hav hbv
      have q0 := Wd.cell a0
      have q1 := Wd.cell a1
      have q2 := Wd.cell a2
      have q3 := Wd.cell a3
      have q4 := Wd.cell a4
      have r0 := Wd.cell b0
      have r1 := Wd.cell b1
      have r2 := Wd.cell b2
      have r3 := Wd.cell b3
      have r4 := Wd.cell b4
      go_wp2
      refine wp_region_wd (by kernel_rfl) (by kernel_rfl) ?_
      repeat (go_big_quiet_step ((go_at_call 88; refine calls_wd (v := .bool true) ?_; with_reducible exact H1.out _)))
      refine wpQuiet_nil ?_
      rintro _ ⟨x, rfl⟩
      have BX := Below.on hbel x.ok
      clear q0 q1 q2 q3 q4 r0 r1 r2 r3 r4 a0 a1 a2 a3 a4 b0 b1 b2 b3 b4 H1
      go_wp2
      go_roundw
      case rel => exact ⟨k + 1, by omega, by go_num, BX⟩
      case measure => simp [intOf]; omega
    · go_wp2
      go_ret
      exact ⟨rfl, hbel⟩
set_option maxRecDepth 10000 in
set_option maxHeartbeats 1000000 in
theorem eqD_any (nm cr : ByteArray) (fr up : Int) (cu : Bool) (ao bo : Option Addr) (n c d : Nat) (ts : List Ta) (w : World) (ha : Tasks w (.slice ao n c) ts) (hb : Tasks w (.slice bo n d) ts) (hn : n ≤ 1048577) (hs : ∀ t ∈ ts, t.after.length ≤ 1048577) :
    Calls Try.prog 72 #[.agg #[.string nm, .string cr, .int .i64 fr, .int .i64 up, .bool cu, .slice ao n c], .agg #[.string nm, .string cr, .int .i64 fr, .int .i64 up, .bool cu, .slice bo n d]] w fun e w' => e = .returned (.bool true) ∧ Below w.heap.size w w' := by
  have HE : Hid (∀ W, Below w.heap.size w W → Calls Try.prog 83 #[.slice ao n c, .slice bo n d] W fun e w' => e = .returned (.bool true) ∧ Below W.heap.size W w') := fun W h => eqTS_any ao bo n c d ts W (ha.below h) (hb.below h) hn hs
  clear ha hb
  go_enter Try.func72, Try.ntmps72
  go_wp2_with (go_at_call 83; refine (HE.out _ (ba (ba (Below.refl _ _) _) _)).mono ?_; rintro e w1 ⟨rfl, hb1⟩)
  go_ret
  exact ⟨rfl, Below.on (ba (ba (Below.refl _ _) _) _) hb1⟩
end Go.Proofs.Ytkfhmeiiicidaaa
