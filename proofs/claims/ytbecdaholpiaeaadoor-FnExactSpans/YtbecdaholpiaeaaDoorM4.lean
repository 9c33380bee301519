/-
  Numbers marked one by one from any number on, and looked at again: a row, and a rule's five rows. The law on spans: the walk.
-/
import Derived.Test.YtbecdaholpiaeaaDoorM2
import Derived.Test.YtbecdaholpiaeaaDoorM1
import Derived.Test.YtbecdaholpiaeaaDoorSpm
namespace Go.Proofs.YtbecdaholpiaeaaDoor
open Go Go.RowKit
set_option linter.unusedVariables false

set_option maxHeartbeats 1000000 in
theorem markFrom_some (g n c B : Nat) (x : Int) (l : List Int) (w : World) (ho : ownsR w B 3 (.slice (some ⟨g, 0, none⟩) n c) l) (hn : n ≤ 1048577) (hx0 : 0 ≤ x) (hx : x ≤ 1073741824) :
    Calls Tryd.prog 44 #[.slice (some ⟨g, 0, none⟩) n c, .int .i64 x] w fun e w' => e = .returned (.int .i64 (x + (n : Int))) ∧ ownsR w' B 3 (.slice (some ⟨g, 0, none⟩) n c) (marksR id 1 x l.length) ∧ w.grownBy w' (some g) := by
  have HN : Hid (n = l.length) := ho.reads.len
  have HO : Hid (ownsR w B 3 (.slice (some ⟨g, 0, none⟩) n c) (markedR id 1 x l 0)) := markedR_zero ho
  clear ho
  go_enter Tryd.func44, Tryd.ntmps44
  go_wp2
  go_loopw [1, 5] (fun q i wr => ∃ k : Nat, k ≤ n ∧ i = .int .i64 k ∧ q = .int .i64 (x + (k : Int)) ∧ Hid (ownsR wr B 3 (.slice (some ⟨g, 0, none⟩) n c) (markedR id 1 x l k)) ∧ w.grownBy wr (some g)) (fun _ i _ => n - (intOf i).toNat)
  case atStart => exact ⟨0, Nat.zero_le _, rfl, by simp, HO, grown_refl _ _⟩
  case round =>
    obtain ⟨k, hk, rfl, rfl, HL, hbel⟩ := hrel
    by_cases hlt : k < n
    · obtain ⟨y, hy⟩ : ∃ y, l[k]? = some y := ⟨_, List.getElem?_eq_getElem (by rw [← HN.out]; exact hlt)⟩
      obtain ⟨hgs, d0, f0⟩ := int_own HL.out (markedR_at hy)
      have R := int_put HL.out (x + (k : Int)) (markedR_at hy)
      have e := markedR_set (mk := id) (s := 1) (x := x) hy
      rw [show id (x + 1 * (k : Int)) = x + (k : Int) by simp] at e
      rw [e] at R
      have HR : Hid (ownsR (wr.setCell ⟨g, k, none⟩ (.int .i64 (x + (k : Int)))) B 3 (.slice (some ⟨g, 0, none⟩) n c) (markedR id 1 x l (k + 1))) := R
      clear R e hy
      go_wp2
      go_roundw
      case rel => exact ⟨k + 1, by omega, by go_num, by go_num, HR, grown_trans hbel (grown_set _ _ _ _)⟩
      case measure => simp [intOf]; omega
    · have hkn : k = l.length := by rw [← HN.out]; omega
      have R : ownsR wr B 3 (.slice (some ⟨g, 0, none⟩) n c) (marksR id 1 x l.length) := by
        have := HL.out
        rw [hkn, markedR_all] at this
        exact this
      have e : (k : Int) = n := by rw [HN.out, hkn]
      clear hkn
      go_wp2
      go_ret
      exact ⟨by rw [← e]; rfl, R, hbel⟩
theorem ownsR_nil' (w : World) (B : Nat) : ownsR w B 3 (.slice none 0 0) ([] : List Int) := ownsR_nil w B 3
theorem markFrom_any {w : World} {B : Nat} {x : Int} {v : Value} {l : List Int} (ho : ownsR w B 3 v l) (hn : l.length ≤ 1048577) (hx0 : 0 ≤ x) (hx : x ≤ 1073741824) :
    Calls Tryd.prog 44 #[v, .int .i64 x] w fun e w' => e = .returned (.int .i64 (x + (l.length : Int))) ∧ ownsR w' B 3 v (marksR id 1 x l.length) ∧ w.grownBy w' v.ownBlock := by
  rcases ho.2 with ⟨rfl, h0⟩ | ⟨g, cap, cur, rfl, _⟩
  · rw [h0]
    have h := markIntS_none none 0 x.toNat w
    rw [Int.toNat_of_nonneg hx0] at h
    exact h.mono fun e w' ⟨he, hb⟩ => ⟨by rw [he]; simp, ownsR_nil' _ _, grown_of_below hb _⟩
  · exact markFrom_some g l.length cap B x l w ho hn hx0 hx

/-- The rows bear their marks. -/
structure Mk5 (W : World) (G : Nat) (v0 v1 v2 v3 v4 : Value) (l0 l1 l2 l3 l4 : List Int) (m0 m1 m2 m3 m4 : Int) : Prop where
  o0 : ownsR W G 3 v0 (marksR (id : Int → Int) 1 (1) l0.length)
  o1 : ownsR W G 3 v1 (marksR (id : Int → Int) 1 (1 + m0) l1.length)
  o2 : ownsR W G 3 v2 (marksR (id : Int → Int) 1 (1 + m0 + m1) l2.length)
  o3 : ownsR W G 3 v3 (marksR (id : Int → Int) 1 (1 + m0 + m1 + m2) l3.length)
  o4 : ownsR W G 3 v4 (marksR (id : Int → Int) 1 (1 + m0 + m1 + m2 + m3) l4.length)
theorem Mk5.up {W W' : World} {G : Nat} {v0 v1 v2 v3 v4 : Value} {l0 l1 l2 l3 l4 : List Int} {m0 m1 m2 m3 m4 : Int} (h : Mk5 W G v0 v1 v2 v3 v4 l0 l1 l2 l3 l4 m0 m1 m2 m3 m4) (hb : Below W.heap.size W W') : Mk5 W' G v0 v1 v2 v3 v4 l0 l1 l2 l3 l4 m0 m1 m2 m3 m4 :=
  ⟨h.o0.all hb, h.o1.all hb, h.o2.all hb, h.o3.all hb, h.o4.all hb⟩
/-- The blocks that are none of five rows' are as they were. -/
def Kp5 (W W' : World) (v0 v1 v2 v3 v4 : Value) : Prop := ∀ b, b < W.heap.size → some b ≠ v0.ownBlock → some b ≠ v1.ownBlock → some b ≠ v2.ownBlock → some b ≠ v3.ownBlock → some b ≠ v4.ownBlock → W'.heap[b]? = W.heap[b]?
set_option maxRecDepth 10000 in
set_option maxHeartbeats 4000000 in
theorem markCron_any (a0 : Option Addr) (n0 c0 : Nat) (l0 : List Int) (a1 : Option Addr) (n1 c1 : Nat) (l1 : List Int) (a2 : Option Addr) (n2 c2 : Nat) (l2 : List Int) (a3 : Option Addr) (n3 c3 : Nat) (l3 : List Int) (a4 : Option Addr) (n4 c4 : Nat) (l4 : List Int) (m0 m1 m2 m3 m4 : Int) (G : Nat) (w : World) (hG : G ≤ w.heap.size) (h0 : ownsR w G 3 (Value.slice a0 n0 c0) l0) (e0 : (l0.length : Int) = m0) (x0 : m0 ≤ 1048576) (h1 : ownsR w G 3 (Value.slice a1 n1 c1) l1) (e1 : (l1.length : Int) = m1) (x1 : m1 ≤ 1048576) (h2 : ownsR w G 3 (Value.slice a2 n2 c2) l2) (e2 : (l2.length : Int) = m2) (x2 : m2 ≤ 1048576) (h3 : ownsR w G 3 (Value.slice a3 n3 c3) l3) (e3 : (l3.length : Int) = m3) (x3 : m3 ≤ 1048576) (h4 : ownsR w G 3 (Value.slice a4 n4 c4) l4) (e4 : (l4.length : Int) = m4) (x4 : m4 ≤ 1048576) (hA : Ap5 (Value.slice a0 n0 c0) (Value.slice a1 n1 c1) (Value.slice a2 n2 c2) (Value.slice a3 n3 c3) (Value.slice a4 n4 c4)) :
    Calls Tryd.prog 24 #[.agg #[Value.slice a0 n0 c0, Value.slice a1 n1 c1, Value.slice a2 n2 c2, Value.slice a3 n3 c3, Value.slice a4 n4 c4], .int .i64 1] w fun e w' => e = .returned (.int .i64 (1 + m0 + m1 + m2 + m3 + m4)) ∧ Mk5 w' G (Value.slice a0 n0 c0) (Value.slice a1 n1 c1) (Value.slice a2 n2 c2) (Value.slice a3 n3 c3) (Value.slice a4 n4 c4) l0 l1 l2 l3 l4 m0 m1 m2 m3 m4 ∧ Below G w w' ∧ Kp5 w w' (Value.slice a0 n0 c0) (Value.slice a1 n1 c1) (Value.slice a2 n2 c2) (Value.slice a3 n3 c3) (Value.slice a4 n4 c4) := by
  have g0 : 0 ≤ m0 := by omega
  have HC0 : Hid (∀ (x : Int) (W : World), ownsR W G 3 (Value.slice a0 n0 c0) l0 → 0 ≤ x → x ≤ 10000000 → Calls Tryd.prog 44 #[Value.slice a0 n0 c0, .int .i64 x] W fun e w' => e = .returned (.int .i64 (x + m0)) ∧ ownsR w' G 3 (Value.slice a0 n0 c0) (marksR id 1 x l0.length) ∧ W.grownBy w' (Value.slice a0 n0 c0).ownBlock) := fun x W ho hx0 hx => by
    rw [← e0]
    exact markFrom_any ho (by omega) hx0 (by omega)
  have HE0 : Hid (some w.heap.size ≠ (Value.slice a0 n0 c0).ownBlock) := fun e => absurd (h0.lt _ e.symm).2 (Nat.lt_irrefl _)
  have HB0 : Hid (∀ W, ownsR W G 3 (Value.slice a0 n0 c0) l0 → ∀ j, (Value.slice a0 n0 c0).ownBlock = some j → G ≤ j) := fun W ho j hj => (ho.lt j hj).1
  have g1 : 0 ≤ m1 := by omega
  have HC1 : Hid (∀ (x : Int) (W : World), ownsR W G 3 (Value.slice a1 n1 c1) l1 → 0 ≤ x → x ≤ 10000000 → Calls Tryd.prog 44 #[Value.slice a1 n1 c1, .int .i64 x] W fun e w' => e = .returned (.int .i64 (x + m1)) ∧ ownsR w' G 3 (Value.slice a1 n1 c1) (marksR id 1 x l1.length) ∧ W.grownBy w' (Value.slice a1 n1 c1).ownBlock) := fun x W ho hx0 hx => by
    rw [← e1]
    exact markFrom_any ho (by omega) hx0 (by omega)
  have HE1 : Hid (some w.heap.size ≠ (Value.slice a1 n1 c1).ownBlock) := fun e => absurd (h1.lt _ e.symm).2 (Nat.lt_irrefl _)
  have HB1 : Hid (∀ W, ownsR W G 3 (Value.slice a1 n1 c1) l1 → ∀ j, (Value.slice a1 n1 c1).ownBlock = some j → G ≤ j) := fun W ho j hj => (ho.lt j hj).1
  have g2 : 0 ≤ m2 := by omega
  have HC2 : Hid (∀ (x : Int) (W : World), ownsR W G 3 (Value.slice a2 n2 c2) l2 → 0 ≤ x → x ≤ 10000000 → Calls Tryd.prog 44 #[Value.slice a2 n2 c2, .int .i64 x] W fun e w' => e = .returned (.int .i64 (x + m2)) ∧ ownsR w' G 3 (Value.slice a2 n2 c2) (marksR id 1 x l2.length) ∧ W.grownBy w' (Value.slice a2 n2 c2).ownBlock) := fun x W ho hx0 hx => by
    rw [← e2]
    exact markFrom_any ho (by omega) hx0 (by omega)
  have HE2 : Hid (some w.heap.size ≠ (Value.slice a2 n2 c2).ownBlock) := fun e => absurd (h2.lt _ e.symm).2 (Nat.lt_irrefl _)
  have HB2 : Hid (∀ W, ownsR W G 3 (Value.slice a2 n2 c2) l2 → ∀ j, (Value.slice a2 n2 c2).ownBlock = some j → G ≤ j) := fun W ho j hj => (ho.lt j hj).1
  have g3 : 0 ≤ m3 := by omega
  have HC3 : Hid (∀ (x : Int) (W : World), ownsR W G 3 (Value.slice a3 n3 c3) l3 → 0 ≤ x → x ≤ 10000000 → Calls Tryd.prog 44 #[Value.slice a3 n3 c3, .int .i64 x] W fun e w' => e = .returned (.int .i64 (x + m3)) ∧ ownsR w' G 3 (Value.slice a3 n3 c3) (marksR id 1 x l3.length) ∧ W.grownBy w' (Value.slice a3 n3 c3).ownBlock) := fun x W ho hx0 hx => by
    rw [← e3]
    exact markFrom_any ho (by omega) hx0 (by omega)
  have HE3 : Hid (some w.heap.size ≠ (Value.slice a3 n3 c3).ownBlock) := fun e => absurd (h3.lt _ e.symm).2 (Nat.lt_irrefl _)
  have HB3 : Hid (∀ W, ownsR W G 3 (Value.slice a3 n3 c3) l3 → ∀ j, (Value.slice a3 n3 c3).ownBlock = some j → G ≤ j) := fun W ho j hj => (ho.lt j hj).1
  have g4 : 0 ≤ m4 := by omega
  have HC4 : Hid (∀ (x : Int) (W : World), ownsR W G 3 (Value.slice a4 n4 c4) l4 → 0 ≤ x → x ≤ 10000000 → Calls Tryd.prog 44 #[Value.slice a4 n4 c4, .int .i64 x] W fun e w' => e = .returned (.int .i64 (x + m4)) ∧ ownsR w' G 3 (Value.slice a4 n4 c4) (marksR id 1 x l4.length) ∧ W.grownBy w' (Value.slice a4 n4 c4).ownBlock) := fun x W ho hx0 hx => by
    rw [← e4]
    exact markFrom_any ho (by omega) hx0 (by omega)
  have HE4 : Hid (some w.heap.size ≠ (Value.slice a4 n4 c4).ownBlock) := fun e => absurd (h4.lt _ e.symm).2 (Nat.lt_irrefl _)
  have HB4 : Hid (∀ W, ownsR W G 3 (Value.slice a4 n4 c4) l4 → ∀ j, (Value.slice a4 n4 c4).ownBlock = some j → G ≤ j) := fun W ho j hj => (ho.lt j hj).1
  have HA : Hid (Ap5 (Value.slice a0 n0 c0) (Value.slice a1 n1 c1) (Value.slice a2 n2 c2) (Value.slice a3 n3 c3) (Value.slice a4 n4 c4)) := hA
  obtain ⟨V0, HV⟩ : ∃ V, Hid (w.alloc (.cells #[Value.slice a0 n0 c0, Value.slice a1 n1 c1, Value.slice a2 n2 c2, Value.slice a3 n3 c3, Value.slice a4 n4 c4] 26) = V) := ⟨_, rfl⟩
  have HZ0 : Hid (B5 26 V0 w.heap.size (Value.slice a0 n0 c0) (Value.slice a1 n1 c1) (Value.slice a2 n2 c2) (Value.slice a3 n3 c3) (Value.slice a4 n4 c4)) := by show B5 _ _ _ _ _ _ _ _; rw [← HV.out]; exact B5.new 26 w (Value.slice a0 n0 c0) (Value.slice a1 n1 c1) (Value.slice a2 n2 c2) (Value.slice a3 n3 c3) (Value.slice a4 n4 c4)
  have HBB0 : Hid (Below G w V0) := by show Below _ _ _; rw [← HV.out]; exact (Below.refl _ _).alloc hG _
  have HK0 : Hid (Kp5 w V0 (Value.slice a0 n0 c0) (Value.slice a1 n1 c1) (Value.slice a2 n2 c2) (Value.slice a3 n3 c3) (Value.slice a4 n4 c4)) := by
    show Kp5 _ _ _ _ _ _ _
    rw [← HV.out]
    intro b hb _ _ _ _ _
    exact (ba (Below.refl _ _) _ : Below w.heap.size w (w.alloc (.cells #[Value.slice a0 n0 c0, Value.slice a1 n1 c1, Value.slice a2 n2 c2, Value.slice a3 n3 c3, Value.slice a4 n4 c4] 26))).block b hb
  have HWS : Hid (w.heap.size ≤ V0.heap.size) := by show _ ≤ _; rw [← HV.out]; simp
  have HG0 : Hid (G ≤ V0.heap.size) := Nat.le_trans hG HWS.out
  have O0_0 : Hid (ownsR V0 G 3 (Value.slice a0 n0 c0) l0) := by show ownsR _ _ _ _ _; rw [← HV.out]; exact h0.alloc _
  have O1_0 : Hid (ownsR V0 G 3 (Value.slice a1 n1 c1) l1) := by show ownsR _ _ _ _ _; rw [← HV.out]; exact h1.alloc _
  have O2_0 : Hid (ownsR V0 G 3 (Value.slice a2 n2 c2) l2) := by show ownsR _ _ _ _ _; rw [← HV.out]; exact h2.alloc _
  have O3_0 : Hid (ownsR V0 G 3 (Value.slice a3 n3 c3) l3) := by show ownsR _ _ _ _ _; rw [← HV.out]; exact h3.alloc _
  have O4_0 : Hid (ownsR V0 G 3 (Value.slice a4 n4 c4) l4) := by show ownsR _ _ _ _ _; rw [← HV.out]; exact h4.alloc _
  clear h0 h1 h2 h3 h4 hA e0 e1 e2 e3 e4
  go_enter Tryd.func24, Tryd.ntmps24
  have q0 := HZ0.out.c0
  go_wp2_with (rw [HV.out])
  clear HV
  refine (HC0.out _ _ O0_0.out (by omega) (by omega)).mono ?_
  rintro e y1 ⟨rfl, hm, hg⟩
  have HZ1 : Hid (B5 26 y1 w.heap.size (Value.slice a0 n0 c0) (Value.slice a1 n1 c1) (Value.slice a2 n2 c2) (Value.slice a3 n3 c3) (Value.slice a4 n4 c4)) := HZ0.out.grown hg HE0.out
  have HBB1 : Hid (Below G w y1) := HBB0.out.grown hg HG0.out (HB0.out _ O0_0.out)
  have HG1 : Hid (G ≤ y1.heap.size) := Nat.le_trans HG0.out hg.size
  have HK1 : Hid (Kp5 w y1 (Value.slice a0 n0 c0) (Value.slice a1 n1 c1) (Value.slice a2 n2 c2) (Value.slice a3 n3 c3) (Value.slice a4 n4 c4)) := fun b hb r0 r1 r2 r3 r4 => (hg.block b (Nat.lt_of_lt_of_le hb HWS.out) r0).trans (HK0.out b hb r0 r1 r2 r3 r4)
  have HW1 : Hid (w.heap.size ≤ y1.heap.size) := Nat.le_trans HWS.out hg.size
  have O1_1 : Hid (ownsR y1 G 3 (Value.slice a1 n1 c1) l1) := O1_0.out.other hg (HA.out.a01).symm
  have O2_1 : Hid (ownsR y1 G 3 (Value.slice a2 n2 c2) l2) := O2_0.out.other hg (HA.out.a02).symm
  have O3_1 : Hid (ownsR y1 G 3 (Value.slice a3 n3 c3) l3) := O3_0.out.other hg (HA.out.a03).symm
  have O4_1 : Hid (ownsR y1 G 3 (Value.slice a4 n4 c4) l4) := O4_0.out.other hg (HA.out.a04).symm
  have P0_1 : Hid (ownsR y1 G 3 (Value.slice a0 n0 c0) (marksR (id : Int → Int) 1 (1) l0.length)) := hm
  clear hm hg q0 HZ0
  have q0 := HZ1.out.c1
  go_wp2_with fail
  refine (HC1.out _ _ O1_1.out (by omega) (by omega)).mono ?_
  rintro e y2 ⟨rfl, hm, hg⟩
  have HZ2 : Hid (B5 26 y2 w.heap.size (Value.slice a0 n0 c0) (Value.slice a1 n1 c1) (Value.slice a2 n2 c2) (Value.slice a3 n3 c3) (Value.slice a4 n4 c4)) := HZ1.out.grown hg HE1.out
  have HBB2 : Hid (Below G w y2) := HBB1.out.grown hg HG1.out (HB1.out _ O1_1.out)
  have HG2 : Hid (G ≤ y2.heap.size) := Nat.le_trans HG1.out hg.size
  have HK2 : Hid (Kp5 w y2 (Value.slice a0 n0 c0) (Value.slice a1 n1 c1) (Value.slice a2 n2 c2) (Value.slice a3 n3 c3) (Value.slice a4 n4 c4)) := fun b hb r0 r1 r2 r3 r4 => (hg.block b (Nat.lt_of_lt_of_le hb HW1.out) r1).trans (HK1.out b hb r0 r1 r2 r3 r4)
  have HW2 : Hid (w.heap.size ≤ y2.heap.size) := Nat.le_trans HW1.out hg.size
  have O2_2 : Hid (ownsR y2 G 3 (Value.slice a2 n2 c2) l2) := O2_1.out.other hg (HA.out.a12).symm
  have O3_2 : Hid (ownsR y2 G 3 (Value.slice a3 n3 c3) l3) := O3_1.out.other hg (HA.out.a13).symm
  have O4_2 : Hid (ownsR y2 G 3 (Value.slice a4 n4 c4) l4) := O4_1.out.other hg (HA.out.a14).symm
  have P0_2 : Hid (ownsR y2 G 3 (Value.slice a0 n0 c0) (marksR (id : Int → Int) 1 (1) l0.length)) := P0_1.out.other hg HA.out.a01
  have P1_2 : Hid (ownsR y2 G 3 (Value.slice a1 n1 c1) (marksR (id : Int → Int) 1 (1 + m0) l1.length)) := hm
  clear hm hg q0 HZ1
  have q0 := HZ2.out.c2
  go_wp2_with fail
  refine (HC2.out _ _ O2_2.out (by omega) (by omega)).mono ?_
  rintro e y3 ⟨rfl, hm, hg⟩
  have HZ3 : Hid (B5 26 y3 w.heap.size (Value.slice a0 n0 c0) (Value.slice a1 n1 c1) (Value.slice a2 n2 c2) (Value.slice a3 n3 c3) (Value.slice a4 n4 c4)) := HZ2.out.grown hg HE2.out
  have HBB3 : Hid (Below G w y3) := HBB2.out.grown hg HG2.out (HB2.out _ O2_2.out)
  have HG3 : Hid (G ≤ y3.heap.size) := Nat.le_trans HG2.out hg.size
  have HK3 : Hid (Kp5 w y3 (Value.slice a0 n0 c0) (Value.slice a1 n1 c1) (Value.slice a2 n2 c2) (Value.slice a3 n3 c3) (Value.slice a4 n4 c4)) := fun b hb r0 r1 r2 r3 r4 => (hg.block b (Nat.lt_of_lt_of_le hb HW2.out) r2).trans (HK2.out b hb r0 r1 r2 r3 r4)
  have HW3 : Hid (w.heap.size ≤ y3.heap.size) := Nat.le_trans HW2.out hg.size
  have O3_3 : Hid (ownsR y3 G 3 (Value.slice a3 n3 c3) l3) := O3_2.out.other hg (HA.out.a23).symm
  have O4_3 : Hid (ownsR y3 G 3 (Value.slice a4 n4 c4) l4) := O4_2.out.other hg (HA.out.a24).symm
  have P0_3 : Hid (ownsR y3 G 3 (Value.slice a0 n0 c0) (marksR (id : Int → Int) 1 (1) l0.length)) := P0_2.out.other hg HA.out.a02
  have P1_3 : Hid (ownsR y3 G 3 (Value.slice a1 n1 c1) (marksR (id : Int → Int) 1 (1 + m0) l1.length)) := P1_2.out.other hg HA.out.a12
  have P2_3 : Hid (ownsR y3 G 3 (Value.slice a2 n2 c2) (marksR (id : Int → Int) 1 (1 + m0 + m1) l2.length)) := hm
  clear hm hg q0 HZ2
  have q0 := HZ3.out.c3
  go_wp2_with fail
  refine (HC3.out _ _ O3_3.out (by omega) (by omega)).mono ?_
  rintro e y4 ⟨rfl, hm, hg⟩
  have HZ4 : Hid (B5 26 y4 w.heap.size (Value.slice a0 n0 c0) (Value.slice a1 n1 c1) (Value.slice a2 n2 c2) (Value.slice a3 n3 c3) (Value.slice a4 n4 c4)) := HZ3.out.grown hg HE3.out
  have HBB4 : Hid (Below G w y4) := HBB3.out.grown hg HG3.out (HB3.out _ O3_3.out)
  have HG4 : Hid (G ≤ y4.heap.size) := Nat.le_trans HG3.out hg.size
  have HK4 : Hid (Kp5 w y4 (Value.slice a0 n0 c0) (Value.slice a1 n1 c1) (Value.slice a2 n2 c2) (Value.slice a3 n3 c3) (Value.slice a4 n4 c4)) := fun b hb r0 r1 r2 r3 r4 => (hg.block b (Nat.lt_of_lt_of_le hb HW3.out) r3).trans (HK3.out b hb r0 r1 r2 r3 r4)
  have HW4 : Hid (w.heap.size ≤ y4.heap.size) := Nat.le_trans HW3.out hg.size
  have O4_4 : Hid (ownsR y4 G 3 (Value.slice a4 n4 c4) l4) := O4_3.out.other hg (HA.out.a34).symm
  have P0_4 : Hid (ownsR y4 G 3 (Value.slice a0 n0 c0) (marksR (id : Int → Int) 1 (1) l0.length)) := P0_3.out.other hg HA.out.a03
  have P1_4 : Hid (ownsR y4 G 3 (Value.slice a1 n1 c1) (marksR (id : Int → Int) 1 (1 + m0) l1.length)) := P1_3.out.other hg HA.out.a13
  have P2_4 : Hid (ownsR y4 G 3 (Value.slice a2 n2 c2) (marksR (id : Int → Int) 1 (1 + m0 + m1) l2.length)) := P2_3.out.other hg HA.out.a23
  have P3_4 : Hid (ownsR y4 G 3 (Value.slice a3 n3 c3) (marksR (id : Int → Int) 1 (1 + m0 + m1 + m2) l3.length)) := hm
  clear hm hg q0 HZ3
  have q0 := HZ4.out.c4
  go_wp2_with fail
  refine (HC4.out _ _ O4_4.out (by omega) (by omega)).mono ?_
  rintro e y5 ⟨rfl, hm, hg⟩
  have HZ5 : Hid (B5 26 y5 w.heap.size (Value.slice a0 n0 c0) (Value.slice a1 n1 c1) (Value.slice a2 n2 c2) (Value.slice a3 n3 c3) (Value.slice a4 n4 c4)) := HZ4.out.grown hg HE4.out
  have HBB5 : Hid (Below G w y5) := HBB4.out.grown hg HG4.out (HB4.out _ O4_4.out)
  have HG5 : Hid (G ≤ y5.heap.size) := Nat.le_trans HG4.out hg.size
  have HK5 : Hid (Kp5 w y5 (Value.slice a0 n0 c0) (Value.slice a1 n1 c1) (Value.slice a2 n2 c2) (Value.slice a3 n3 c3) (Value.slice a4 n4 c4)) := fun b hb r0 r1 r2 r3 r4 => (hg.block b (Nat.lt_of_lt_of_le hb HW4.out) r4).trans (HK4.out b hb r0 r1 r2 r3 r4)
  have HW5 : Hid (w.heap.size ≤ y5.heap.size) := Nat.le_trans HW4.out hg.size
  have P0_5 : Hid (ownsR y5 G 3 (Value.slice a0 n0 c0) (marksR (id : Int → Int) 1 (1) l0.length)) := P0_4.out.other hg HA.out.a04
  have P1_5 : Hid (ownsR y5 G 3 (Value.slice a1 n1 c1) (marksR (id : Int → Int) 1 (1 + m0) l1.length)) := P1_4.out.other hg HA.out.a14
  have P2_5 : Hid (ownsR y5 G 3 (Value.slice a2 n2 c2) (marksR (id : Int → Int) 1 (1 + m0 + m1) l2.length)) := P2_4.out.other hg HA.out.a24
  have P3_5 : Hid (ownsR y5 G 3 (Value.slice a3 n3 c3) (marksR (id : Int → Int) 1 (1 + m0 + m1 + m2) l3.length)) := P3_4.out.other hg HA.out.a34
  have P4_5 : Hid (ownsR y5 G 3 (Value.slice a4 n4 c4) (marksR (id : Int → Int) 1 (1 + m0 + m1 + m2 + m3) l4.length)) := hm
  clear hm hg q0 HZ4
  go_wp2
  go_ret
  exact ⟨rfl, ⟨P0_5.out, P1_5.out, P2_5.out, P3_5.out, P4_5.out⟩, HBB5.out, HK5.out⟩
end Go.Proofs.YtbecdaholpiaeaaDoor

namespace Go.Proofs.YtbecdaholpiaeaaDoor
open Go Go.RowKit
set_option linter.unusedVariables false

theorem ownsR.same {α : Type} [Rec α] {W W' : World} {B e : Nat} {v : Value} {l : List α} (h : ownsR W B e v l) (hs : ∀ g, v.ownBlock = some g → W'.heap[g]? = W.heap[g]?) : ownsR W' B e v l := by
  refine ⟨h.1, ?_⟩
  rcases h.2 with h0 | ⟨g, cap, cur, rfl, hb, hg, hr⟩
  · exact .inl h0
  · exact .inr ⟨g, cap, cur, rfl, hb, (hs g rfl).trans hg, hr⟩
/-- A row of spans is no row of numbers. -/
theorem sp_not_int {W : World} {B G : Nat} {v u : Value} {l : List Sp} {m : List Int} (h : ownsR W B 34 v l) (k : ownsR W G 3 u m) (g : Nat) (hv : v.ownBlock = some g) : some g ≠ u.ownBlock := by
  intro hu
  rcases h.2 with ⟨rfl, _⟩ | ⟨g1, cap, cur, rfl, _, hg, _⟩
  · cases hv
  · rcases k.2 with ⟨rfl, _⟩ | ⟨g2, cap2, cur2, rfl, _, hg2, _⟩
    · cases hu
    · have e1 : g1 = g := by simpa [Value.ownBlock] using hv
      have e2 : g = g2 := by simpa [Value.ownBlock] using hu
      subst e1 e2
      rw [hg] at hg2
      simp only [Option.some.injEq, Obj.cells.injEq] at hg2
      exact absurd hg2.2.1 (by decide)
theorem ownsR.kept5 {W W' : World} {B G : Nat} {v v0 v1 v2 v3 v4 : Value} {l : List Sp} {m0 m1 m2 m3 m4 : List Int} (h : ownsR W B 34 v l) (k0 : ownsR W G 3 v0 m0) (k1 : ownsR W G 3 v1 m1) (k2 : ownsR W G 3 v2 m2) (k3 : ownsR W G 3 v3 m3) (k4 : ownsR W G 3 v4 m4) (hk : Kp5 W W' v0 v1 v2 v3 v4) : ownsR W' B 34 v l :=
  h.same fun g hg => hk g (h.lt g hg).2 (sp_not_int h k0 g hg) (sp_not_int h k1 g hg) (sp_not_int h k2 g hg) (sp_not_int h k3 g hg) (sp_not_int h k4 g hg)
set_option maxRecDepth 10000 in
set_option maxHeartbeats 4000000 in
theorem law_Spans (ao : Option Addr) (bo : Option Addr) (co : Option Addr) (d0 : Option Addr) (eo : Option Addr) (l0 l1 l2 l3 l4 ac bc cc dc ec : Nat) (a b c d e : List Int) (fr : Int) (up : Int) (most : Int) (w : World) (h0 : Reads w (.slice ao l0 ac) a) (h1 : Reads w (.slice bo l1 bc) b) (h2 : Reads w (.slice co l2 cc) c) (h3 : Reads w (.slice d0 l3 dc) d) (h4 : Reads w (.slice eo l4 ec) e) (n0 : l0 ≤ 9223372036854775807) (n1 : l1 ≤ 9223372036854775807) (n2 : l2 ≤ 9223372036854775807) (n3 : l3 ≤ 9223372036854775807) (n4 : l4 ≤ 9223372036854775807) (hg : RchIs w) :
    Calls Tryd.prog 5 #[.agg #[.slice ao l0 ac, .slice bo l1 bc, .slice co l2 cc, .slice d0 l3 dc, .slice eo l4 ec], .int .i64 fr, .int .i64 up, .int .i64 most] w fun x w' => x = .returned (.bool true) ∧ Below w.heap.size w w' := by
  have HLN : Hid (l0 = a.length ∧ l1 = b.length ∧ l2 = c.length ∧ l3 = d.length ∧ l4 = e.length) := ⟨h0.len, h1.len, h2.len, h3.len, h4.len⟩
  have HG : Hid (∀ W, Below w.heap.size w W → RchIs W) := fun W hb => hg.up hb
  obtain ⟨L, HL⟩ : ∃ L, Hid ((spansL (fun m => nfO a b c d e m 400) fr up (if 20 < most then 20 else most)) = L) := ⟨_, rfl⟩
  have hL0 : L.length ≤ 1048576 := by
    rw [← HL.out]; unfold spansL
    split
    · refine Nat.le_trans (spansG_len _ _ _ _) ?_
      split <;> omega
    · simp
  have HS : Hid (∀ (va vb vc vd ve : Value) (W : World), Below w.heap.size w W → Reads W va a → Reads W vb b → Reads W vc c → Reads W vd d → Reads W ve e → (a.length ≤ 1048577 ∧ b.length ≤ 1048577 ∧ c.length ≤ 1048577 ∧ d.length ≤ 1048577 ∧ e.length ≤ 1048577) → Calls Tryd.prog 12 #[.agg #[va, vb, vc, vd, ve], .int .i64 fr, .int .i64 up, .int .i64 most] W fun x w' => ∃ v', x = .returned v' ∧ ownsR w' W.heap.size 34 v' L ∧ Below W.heap.size W w') := fun va vb vc vd ve W hb r0 r1 r2 r3 r4 hl => by
    rw [← HL.out]; exact spans_any _ _ _ _ _ a b c d e fr up most W r0 r1 r2 r3 r4 hl.1 hl.2.1 hl.2.2.1 hl.2.2.2.1 hl.2.2.2.2
  have HM : Hid (∀ (va vb vc vd ve : Value) (W : World), Below w.heap.size w W → Reads W va a → Reads W vb b → Reads W vc c → Reads W vd d → Reads W ve e → (a.length ≤ 1048577 ∧ b.length ≤ 1048577 ∧ c.length ≤ 1048577 ∧ d.length ≤ 1048577 ∧ e.length ≤ 1048577) → Calls Tryd.prog 10 #[.agg #[va, vb, vc, vd, ve], .int .i64 fr, .int .i64 up, .int .i64 most] W fun x w' => ∃ v', x = .returned v' ∧ ownsR w' W.heap.size 34 v' L ∧ Below W.heap.size W w') := fun va vb vc vd ve W hb r0 r1 r2 r3 r4 hl => by
    rw [← HL.out]; exact implSpans_any _ _ _ _ _ a b c d e fr up most W r0 r1 r2 r3 r4 hl.1 hl.2.1 hl.2.2.1 hl.2.2.2.1 hl.2.2.2.2 (HG.out W hb)
  have HT : Hid ((a.length ≤ 1048576 ∧ b.length ≤ 1048576 ∧ c.length ≤ 1048576 ∧ d.length ≤ 1048576 ∧ e.length ≤ 1048576) → ∀ W, Below w.heap.size w W → Calls Tryd.prog 21 #[.agg #[.slice ao l0 ac, .slice bo l1 bc, .slice co l2 cc, .slice d0 l3 dc, .slice eo l4 ec]] W (TcQ a b c d e W)) := fun hl W hb => toCron_apart _ _ _ _ _ a b c d e W (h0.below hb) (h1.below hb) (h2.below hb) (h3.below hb) (h4.below hb) hl.1 hl.2.1 hl.2.2.1 hl.2.2.2.1 hl.2.2.2.2
  clear h0 h1 h2 h3 h4 hg
  have HLL : Hid (L.length ≤ 1048577) := Nat.le_trans hL0 (by decide)
  clear HL hL0
  go_enter Tryd.func5, Tryd.ntmps5
  go_wp2_with fail
  refine (szCron_try ao bo co d0 eo l0 l1 l2 l3 l4 ac bc cc dc ec _ n0 n1 n2 n3 n4).mono ?_
  rintro x w0 ⟨r, rfl, hr, hb0⟩
  have Z0 := (B5.new 44 w (.slice ao l0 ac) (.slice bo l1 bc) (.slice co l2 cc) (.slice d0 l3 dc) (.slice eo l4 ec)).up hb0
  have B0 := below_new hb0
  clear hb0 n0 n1 n2 n3 n4
  rcases hr with rfl | ⟨hr0, k0, k1, k2, k3, k4⟩
  · go_wp2
    go_ret
    exact ⟨rfl, B0⟩
  have HK : Hid (a.length ≤ 1048576 ∧ b.length ≤ 1048576 ∧ c.length ≤ 1048576 ∧ d.length ≤ 1048576 ∧ e.length ≤ 1048576) := by have := HLN.out; exact ⟨by omega, by omega, by omega, by omega, by omega⟩
  have HK1 : Hid (a.length ≤ 1048577 ∧ b.length ≤ 1048577 ∧ c.length ≤ 1048577 ∧ d.length ≤ 1048577 ∧ e.length ≤ 1048577) := by have := HK.out; exact ⟨by omega, by omega, by omega, by omega, by omega⟩
  have HT1 : Hid (∀ W, Below w.heap.size w W → Calls Tryd.prog 21 #[.agg #[.slice ao l0 ac, .slice bo l1 bc, .slice co l2 cc, .slice d0 l3 dc, .slice eo l4 ec]] W (TcQ a b c d e W)) := HT.out HK.out
  clear k0 k1 k2 k3 k4 HT HLN
  have c0 := Z0.c0
  have c1 := Z0.c1
  have c2 := Z0.c2
  have c3 := Z0.c3
  have c4 := Z0.c4
  go_wp2_with fail
  refine (HT1.out _ B0).mono ?_
  rintro x w1 ⟨v0, v1, v2, v3, v4, rfl, o0, o1, o2, o3, o4, hb1, -⟩
  obtain ⟨x0, y0, z0, rfl⟩ := o0.slice3
  obtain ⟨x1, y1, z1, rfl⟩ := o1.slice3
  obtain ⟨x2, y2, z2, rfl⟩ := o2.slice3
  obtain ⟨x3, y3, z3, rfl⟩ := o3.slice3
  obtain ⟨x4, y4, z4, rfl⟩ := o4.slice3
  have Z1 := Z0.up hb1
  have B1 := Below.on B0 hb1
  have HO : Hid (Reads w1 (.slice x0 y0 z0) a ∧ Reads w1 (.slice x1 y1 z1) b ∧ Reads w1 (.slice x2 y2 z2) c ∧ Reads w1 (.slice x3 y3 z3) d ∧ Reads w1 (.slice x4 y4 z4) e) := ⟨o0.reads, o1.reads, o2.reads, o3.reads, o4.reads⟩
  clear c0 c1 c2 c3 c4 Z0 B0 hb1 o0 o1 o2 o3 o4
  go_wp2_with fail
  refine (HS.out _ _ _ _ _ _ B1 HO.out.1 HO.out.2.1 HO.out.2.2.1 HO.out.2.2.2.1 HO.out.2.2.2.2 HK1.out).mono ?_
  rintro x w2 ⟨vw, rfl, ow, hb2⟩
  obtain ⟨rw0, rw1, rw2, rfl⟩ := ow.slice3
  have Z2 := Z1.up hb2
  have B2 := Below.on B1 hb2
  have OW2 : Hid (ownsR w2 w.heap.size 34 (.slice rw0 rw1 rw2) L) := ow.mono B1.size
  clear Z1 B1 hb2 HO HS ow
  have c0 := Z2.c0
  have c1 := Z2.c1
  have c2 := Z2.c2
  have c3 := Z2.c3
  have c4 := Z2.c4
  go_wp2_with fail
  refine (HT1.out _ B2).mono ?_
  rintro x w3 ⟨u0, u1, u2, u3, u4, rfl, o0, o1, o2, o3, o4, hb3, hap⟩
  obtain ⟨p0, q0, s0, rfl⟩ := o0.slice3
  obtain ⟨p1, q1, s1, rfl⟩ := o1.slice3
  obtain ⟨p2, q2, s2, rfl⟩ := o2.slice3
  obtain ⟨p3, q3, s3, rfl⟩ := o3.slice3
  obtain ⟨p4, q4, s4, rfl⟩ := o4.slice3
  have HAP : Hid (Ap5 (.slice p0 q0 s0) (.slice p1 q1 s1) (.slice p2 q2 s2) (.slice p3 q3 s3) (.slice p4 q4 s4)) := hap
  have OX3 : Hid (ownsR (w3.alloc (.cells #[.slice p0 q0 s0, .slice p1 q1 s1, .slice p2 q2 s2, .slice p3 q3 s3, .slice p4 q4 s4] 26)) w2.heap.size 3 (.slice p0 q0 s0) a ∧ ownsR (w3.alloc (.cells #[.slice p0 q0 s0, .slice p1 q1 s1, .slice p2 q2 s2, .slice p3 q3 s3, .slice p4 q4 s4] 26)) w2.heap.size 3 (.slice p1 q1 s1) b ∧ ownsR (w3.alloc (.cells #[.slice p0 q0 s0, .slice p1 q1 s1, .slice p2 q2 s2, .slice p3 q3 s3, .slice p4 q4 s4] 26)) w2.heap.size 3 (.slice p2 q2 s2) c ∧ ownsR (w3.alloc (.cells #[.slice p0 q0 s0, .slice p1 q1 s1, .slice p2 q2 s2, .slice p3 q3 s3, .slice p4 q4 s4] 26)) w2.heap.size 3 (.slice p3 q3 s3) d ∧ ownsR (w3.alloc (.cells #[.slice p0 q0 s0, .slice p1 q1 s1, .slice p2 q2 s2, .slice p3 q3 s3, .slice p4 q4 s4] 26)) w2.heap.size 3 (.slice p4 q4 s4) e) := ⟨o0.alloc _, o1.alloc _, o2.alloc _, o3.alloc _, o4.alloc _⟩
  have HGG : Hid (w.heap.size ≤ w2.heap.size ∧ w.heap.size < w2.heap.size) := ⟨B2.size, Z2.lt⟩
  have Z4 := (Z2.up hb3).alloc (.cells #[.slice p0 q0 s0, .slice p1 q1 s1, .slice p2 q2 s2, .slice p3 q3 s3, .slice p4 q4 s4] 26)
  have B4 : Below w.heap.size w (w3.alloc (.cells #[.slice p0 q0 s0, .slice p1 q1 s1, .slice p2 q2 s2, .slice p3 q3 s3, .slice p4 q4 s4] 26)) := ba (Below.on B2 hb3) _
  have OW4 : Hid (ownsR (w3.alloc (.cells #[.slice p0 q0 s0, .slice p1 q1 s1, .slice p2 q2 s2, .slice p3 q3 s3, .slice p4 q4 s4] 26)) w.heap.size 34 (.slice rw0 rw1 rw2) L) := (OW2.out.all hb3).alloc _
  have X4 := B5.new 26 w3 (.slice p0 q0 s0) (.slice p1 q1 s1) (.slice p2 q2 s2) (.slice p3 q3 s3) (.slice p4 q4 s4)
  have HX3 : Hid (w2.heap.size ≤ w3.heap.size) := hb3.size
  clear c0 c1 c2 c3 c4 Z2 B2 OW2 hb3 o0 o1 o2 o3 o4 hap
  go_wp2_with fail
  refine (HM.out _ _ _ _ _ _ B4 OX3.out.1.reads OX3.out.2.1.reads OX3.out.2.2.1.reads OX3.out.2.2.2.1.reads OX3.out.2.2.2.2.reads HK1.out).mono ?_
  rintro x w5 ⟨vg, rfl, og, hb5⟩
  obtain ⟨rg0, rg1, rg2, rfl⟩ := og.slice3
  have ap_wg := apart_new OW4.out og
  have HXG : Hid (some w3.heap.size ≠ (.slice rg0 rg1 rg2 : Value).ownBlock) := fun e => by have := (og.lt _ e.symm).1; simp at this; omega
  have HZG : Hid (some w.heap.size ≠ (.slice rg0 rg1 rg2 : Value).ownBlock) := fun e => by have h1 := (og.lt _ e.symm).1; have h2 := HGG.out; have h3 := HX3.out; simp at h1; omega
  have HWG : Hid (Apt (.slice rw0 rw1 rw2) (.slice rg0 rg1 rg2)) := ap_wg
  clear ap_wg
  have Z5 := Z4.up hb5
  have X5 := X4.up hb5
  have B5' := Below.on B4 hb5
  have OX5 : Hid (ownsR w5 w2.heap.size 3 (.slice p0 q0 s0) a ∧ ownsR w5 w2.heap.size 3 (.slice p1 q1 s1) b ∧ ownsR w5 w2.heap.size 3 (.slice p2 q2 s2) c ∧ ownsR w5 w2.heap.size 3 (.slice p3 q3 s3) d ∧ ownsR w5 w2.heap.size 3 (.slice p4 q4 s4) e) := ⟨OX3.out.1.all hb5, OX3.out.2.1.all hb5, OX3.out.2.2.1.all hb5, OX3.out.2.2.2.1.all hb5, OX3.out.2.2.2.2.all hb5⟩
  have OW5 : Hid (ownsR w5 w.heap.size 34 (.slice rw0 rw1 rw2) L) := OW4.out.all hb5
  have OG5 : Hid (ownsR w5 w.heap.size 34 (.slice rg0 rg1 rg2) L) := og.mono B4.size
  have lw : rw1 = L.length := OW5.out.reads.len
  have lg : rg1 = L.length := OG5.out.reads.len
  subst lw lg
  clear Z4 X4 B4 hb5 OX3 OW4 og
  go_wp2_with fail
  refine (eqSpanS_any _ _ _ _ _ L _ OG5.out.reads OW5.out.reads HLL.out).mono ?_
  rintro x w6' ⟨rfl, hb6'⟩
  have Z6 := Z5.up hb6'
  have X6 := X5.up hb6'
  have B6 := Below.on B5' hb6'
  have OX6 : Hid (ownsR w6' w2.heap.size 3 (.slice p0 q0 s0) a ∧ ownsR w6' w2.heap.size 3 (.slice p1 q1 s1) b ∧ ownsR w6' w2.heap.size 3 (.slice p2 q2 s2) c ∧ ownsR w6' w2.heap.size 3 (.slice p3 q3 s3) d ∧ ownsR w6' w2.heap.size 3 (.slice p4 q4 s4) e) := ⟨OX5.out.1.all hb6', OX5.out.2.1.all hb6', OX5.out.2.2.1.all hb6', OX5.out.2.2.2.1.all hb6', OX5.out.2.2.2.2.all hb6'⟩
  have HR : Hid (Reads w6' (.slice p0 q0 s0) a ∧ Reads w6' (.slice p1 q1 s1) b ∧ Reads w6' (.slice p2 q2 s2) c ∧ Reads w6' (.slice p3 q3 s3) d ∧ Reads w6' (.slice p4 q4 s4) e) := ⟨OX6.out.1.reads, OX6.out.2.1.reads, OX6.out.2.2.1.reads, OX6.out.2.2.2.1.reads, OX6.out.2.2.2.2.reads⟩
  have OW6 : Hid (ownsR w6' w.heap.size 34 (.slice rw0 L.length rw2) L) := OW5.out.all hb6'
  have OG6 : Hid (ownsR w6' w.heap.size 34 (.slice rg0 L.length rg2) L) := OG5.out.all hb6'
  have HZ6 : Hid (B5 44 w6' w.heap.size (.slice ao l0 ac) (.slice bo l1 bc) (.slice co l2 cc) (.slice d0 l3 dc) (.slice eo l4 ec)) := Z6
  have HX6 : Hid (B5 26 w6' w3.heap.size (.slice p0 q0 s0) (.slice p1 q1 s1) (.slice p2 q2 s2) (.slice p3 q3 s3) (.slice p4 q4 s4)) := X6
  clear Z5 X5 B5' OX5 OW5 OG5 hb6'
  have K0 := Below.cellOf (B := w6'.heap.size) (W := w6') (p := ⟨w.heap.size, 0, none⟩) Z6.lt Z6.c0
  have J0 := Below.cellOf (B := w6'.heap.size) (W := w6') (p := ⟨w3.heap.size, 0, none⟩) X6.lt X6.c0
  have K1 := Below.cellOf (B := w6'.heap.size) (W := w6') (p := ⟨w.heap.size, 1, none⟩) Z6.lt Z6.c1
  have J1 := Below.cellOf (B := w6'.heap.size) (W := w6') (p := ⟨w3.heap.size, 1, none⟩) X6.lt X6.c1
  have K2 := Below.cellOf (B := w6'.heap.size) (W := w6') (p := ⟨w.heap.size, 2, none⟩) Z6.lt Z6.c2
  have J2 := Below.cellOf (B := w6'.heap.size) (W := w6') (p := ⟨w3.heap.size, 2, none⟩) X6.lt X6.c2
  have K3 := Below.cellOf (B := w6'.heap.size) (W := w6') (p := ⟨w.heap.size, 3, none⟩) Z6.lt Z6.c3
  have J3 := Below.cellOf (B := w6'.heap.size) (W := w6') (p := ⟨w3.heap.size, 3, none⟩) X6.lt X6.c3
  have K4 := Below.cellOf (B := w6'.heap.size) (W := w6') (p := ⟨w.heap.size, 4, none⟩) Z6.lt Z6.c4
  have J4 := Below.cellOf (B := w6'.heap.size) (W := w6') (p := ⟨w3.heap.size, 4, none⟩) X6.lt X6.c4
  clear Z6 X6
  go_wp2_with fail
  go_region_held3 (fun w' => Below w6'.heap.size w6' w') ((first | exact (Below.refl _ _).drew | exact hS6 | exact hS7)) ((first | (go_at_call 21; refine (HT1.out _ (Below.on B6 (by assumption))).mono ?_; rintro x w6 ⟨t0, t1, t2, t3, t4, rfl, o0, o1, o2, o3, o4, hb6, -⟩; obtain ⟨e0, f0, g0, rfl⟩ := o0.slice3; obtain ⟨e1, f1, g1, rfl⟩ := o1.slice3; obtain ⟨e2, f2, g2, rfl⟩ := o2.slice3; obtain ⟨e3, f3, g3, rfl⟩ := o3.slice3; obtain ⟨e4, f4, g4, rfl⟩ := o4.slice3; have hS6 := keep_on (B := w6'.heap.size) (W := w6') hb6 (by assumption) (Nat.le_refl _)) | (go_at_call 23; refine (eqCron_any _ _ _ _ _ _ _ _ _ _ a b c d e _ (HR.out.1.below hS6) (HR.out.2.1.below hS6) (HR.out.2.2.1.below hS6) (HR.out.2.2.2.1.below hS6) (HR.out.2.2.2.2.below hS6) o0.reads o1.reads o2.reads o3.reads o4.reads HK1.out.1 HK1.out.2.1 HK1.out.2.2.1 HK1.out.2.2.2.1 HK1.out.2.2.2.2).mono ?_; rintro x w7 ⟨rfl, hb7⟩; have hS7 := keep_on (B := w6'.heap.size) (W := w6') hb7 hS6 (Nat.le_refl _))))
  clear o0 o1 o2 o3 o4 hb6 hb7 hS6 K0 K1 K2 K3 K4 J0 J1 J2 J3 J4
  have B7 := Below.on B6 hS7
  have HZ7 : Hid (B5 44 w7 w.heap.size (.slice ao l0 ac) (.slice bo l1 bc) (.slice co l2 cc) (.slice d0 l3 dc) (.slice eo l4 ec)) := HZ6.out.up hS7
  have HX7 : Hid (B5 26 w7 w3.heap.size (.slice p0 q0 s0) (.slice p1 q1 s1) (.slice p2 q2 s2) (.slice p3 q3 s3) (.slice p4 q4 s4)) := HX6.out.up hS7
  have OX7 : Hid (ownsR w7 w2.heap.size 3 (.slice p0 q0 s0) a ∧ ownsR w7 w2.heap.size 3 (.slice p1 q1 s1) b ∧ ownsR w7 w2.heap.size 3 (.slice p2 q2 s2) c ∧ ownsR w7 w2.heap.size 3 (.slice p3 q3 s3) d ∧ ownsR w7 w2.heap.size 3 (.slice p4 q4 s4) e) := ⟨OX6.out.1.all hS7, OX6.out.2.1.all hS7, OX6.out.2.2.1.all hS7, OX6.out.2.2.2.1.all hS7, OX6.out.2.2.2.2.all hS7⟩
  have OW7 : Hid (ownsR w7 w.heap.size 34 (.slice rw0 L.length rw2) L) := OW6.out.all hS7
  have OG7 : Hid (ownsR w7 w.heap.size 34 (.slice rg0 L.length rg2) L) := OG6.out.all hS7
  clear HZ6 HX6 OX6 OW6 OG6 HR hS7
  have c0 := HX7.out.c0
  have c1 := HX7.out.c1
  have c2 := HX7.out.c2
  have c3 := HX7.out.c3
  have c4 := HX7.out.c4
  obtain ⟨m0, hm0⟩ : ∃ m, (a.length : Int) = m := ⟨_, rfl⟩
  obtain ⟨m1, hm1⟩ : ∃ m, (b.length : Int) = m := ⟨_, rfl⟩
  obtain ⟨m2, hm2⟩ : ∃ m, (c.length : Int) = m := ⟨_, rfl⟩
  obtain ⟨m3, hm3⟩ : ∃ m, (d.length : Int) = m := ⟨_, rfl⟩
  obtain ⟨m4, hm4⟩ : ∃ m, (e.length : Int) = m := ⟨_, rfl⟩
  have HMM : Hid (m0 ≤ 1048576 ∧ m1 ≤ 1048576 ∧ m2 ≤ 1048576 ∧ m3 ≤ 1048576 ∧ m4 ≤ 1048576) := by have := HK.out; exact ⟨by omega, by omega, by omega, by omega, by omega⟩
  have HM0 : Hid (0 ≤ m0 ∧ 0 ≤ m1 ∧ 0 ≤ m2 ∧ 0 ≤ m3 ∧ 0 ≤ m4) := ⟨by omega, by omega, by omega, by omega, by omega⟩
  have HMC : Hid (Calls Tryd.prog 24 #[.agg #[.slice p0 q0 s0, .slice p1 q1 s1, .slice p2 q2 s2, .slice p3 q3 s3, .slice p4 q4 s4], .int .i64 1] w7 fun e w' => e = .returned (.int .i64 (1 + m0 + m1 + m2 + m3 + m4)) ∧ Below w2.heap.size w7 w' ∧ Kp5 w7 w' (.slice p0 q0 s0) (.slice p1 q1 s1) (.slice p2 q2 s2) (.slice p3 q3 s3) (.slice p4 q4 s4)) := by
    show Calls _ _ _ _ _
    refine (markCron_any p0 q0 s0 a p1 q1 s1 b p2 q2 s2 c p3 q3 s3 d p4 q4 s4 e m0 m1 m2 m3 m4 w2.heap.size w7 (by have h1 := HX3.out; have h2 := HX7.out.lt; omega) OX7.out.1 hm0 HMM.out.1 OX7.out.2.1 hm1 HMM.out.2.1 OX7.out.2.2.1 hm2 HMM.out.2.2.1 OX7.out.2.2.2.1 hm3 HMM.out.2.2.2.1 OX7.out.2.2.2.2 hm4 HMM.out.2.2.2.2 HAP.out).mono ?_
    rintro e w' ⟨rfl, _, h1, h2⟩
    exact ⟨rfl, h1, h2⟩
  clear hm0 hm1 hm2 hm3 hm4
  go_wp2_with fail
  refine HMC.out.mono ?_
  rintro x w8 ⟨rfl, hb8, hk8⟩
  have B8 : Below w.heap.size w w8 := B7.trans (hb8.mono HGG.out.1)
  have HZ8 : Hid (B5 44 w8 w.heap.size (.slice ao l0 ac) (.slice bo l1 bc) (.slice co l2 cc) (.slice d0 l3 dc) (.slice eo l4 ec)) := (hb8.block _ HGG.out.2).trans HZ7.out
  have OW8 : Hid (ownsR w8 w.heap.size 34 (.slice rw0 L.length rw2) L) := OW7.out.kept5 OX7.out.1 OX7.out.2.1 OX7.out.2.2.1 OX7.out.2.2.2.1 OX7.out.2.2.2.2 hk8
  have OG8 : Hid (ownsR w8 w.heap.size 34 (.slice rg0 L.length rg2) L) := OG7.out.kept5 OX7.out.1 OX7.out.2.1 OX7.out.2.2.1 OX7.out.2.2.2.1 OX7.out.2.2.2.2 hk8
  clear c0 c1 c2 c3 c4 hb8 hk8 HMC HZ7 HX7 OX7 OW7 OG7 B7
  obtain ⟨mm, hmm⟩ : ∃ m, 1 + m0 + m1 + m2 + m3 + m4 = m := ⟨_, rfl⟩
  have hm9 : ¬ mm < 0 := by have := HM0.out; omega
  rw [hmm]
  clear hmm HMM HM0
  go_wp2_with fail
  refine (eqSpanS_any _ _ _ _ _ L _ OG8.out.reads OW8.out.reads HLL.out).mono ?_
  rintro x w9 ⟨rfl, hb9⟩
  have B9 := Below.on B8 hb9
  have HZ9 : Hid (B5 44 w9 w.heap.size (.slice ao l0 ac) (.slice bo l1 bc) (.slice co l2 cc) (.slice d0 l3 dc) (.slice eo l4 ec)) := HZ8.out.up hb9
  have OW9 : Hid (ownsR w9 w.heap.size 34 (.slice rw0 L.length rw2) L) := OW8.out.all hb9
  have OG9 : Hid (ownsR w9 w.heap.size 34 (.slice rg0 L.length rg2) L) := OG8.out.all hb9
  clear hb9 HZ8 OW8 OG8 B8
  go_wp2_with fail
  refine (markSpanS_any (x := 1) OG9.out HLL.out (by decide) (by decide)).mono ?_
  rintro x wa ⟨rfl, oga, hga⟩
  have Ba : Below w.heap.size w wa := below_marked B9 OG9.out hga
  have HZa : Hid (B5 44 wa w.heap.size (.slice ao l0 ac) (.slice bo l1 bc) (.slice co l2 cc) (.slice d0 l3 dc) (.slice eo l4 ec)) := HZ9.out.grown hga HZG.out
  have OWa : Hid (ownsR wa w.heap.size 34 (.slice rw0 L.length rw2) L) := OW9.out.other hga HWG.out
  have OGa : Hid (ownsR wa w.heap.size 34 (.slice rg0 L.length rg2) (marksSp 1 L.length)) := oga
  clear oga hga HZ9 OW9 OG9 B9
  go_wp2_with fail
  refine (heldSpanS_any _ _ _ 1 _ OGa.out.reads HLL.out (by decide) (by decide)).mono ?_
  rintro x wb ⟨rfl, hbb⟩
  have Bb := Below.on Ba hbb
  have HZb : Hid (B5 44 wb w.heap.size (.slice ao l0 ac) (.slice bo l1 bc) (.slice co l2 cc) (.slice d0 l3 dc) (.slice eo l4 ec)) := HZa.out.up hbb
  have OWb : Hid (ownsR wb w.heap.size 34 (.slice rw0 L.length rw2) L) := OWa.out.all hbb
  have OGb : Hid (ownsR wb w.heap.size 34 (.slice rg0 L.length rg2) (marksSp 1 L.length)) := OGa.out.all hbb
  clear hbb HZa OWa OGa Ba
  have c0 := HZb.out.c0
  have c1 := HZb.out.c1
  have c2 := HZb.out.c2
  have c3 := HZb.out.c3
  have c4 := HZb.out.c4
  go_wp2_with fail
  refine (HT1.out _ Bb).mono ?_
  rintro x wc ⟨v0, v1, v2, v3, v4, rfl, o0, o1, o2, o3, o4, hbc, -⟩
  obtain ⟨x0, y0, z0, rfl⟩ := o0.slice3
  obtain ⟨x1, y1, z1, rfl⟩ := o1.slice3
  obtain ⟨x2, y2, z2, rfl⟩ := o2.slice3
  obtain ⟨x3, y3, z3, rfl⟩ := o3.slice3
  obtain ⟨x4, y4, z4, rfl⟩ := o4.slice3
  have Bc := Below.on Bb hbc
  have HO : Hid (Reads wc (.slice x0 y0 z0) a ∧ Reads wc (.slice x1 y1 z1) b ∧ Reads wc (.slice x2 y2 z2) c ∧ Reads wc (.slice x3 y3 z3) d ∧ Reads wc (.slice x4 y4 z4) e) := ⟨o0.reads, o1.reads, o2.reads, o3.reads, o4.reads⟩
  have OWc : Hid (ownsR wc w.heap.size 34 (.slice rw0 L.length rw2) L) := OWb.out.all hbc
  have OGc : Hid (ownsR wc w.heap.size 34 (.slice rg0 L.length rg2) (marksSp 1 L.length)) := OGb.out.all hbc
  clear c0 c1 c2 c3 c4 Bb hbc o0 o1 o2 o3 o4 OWb OGb HZb
  go_wp2_with fail
  refine (HM.out _ _ _ _ _ _ Bc HO.out.1 HO.out.2.1 HO.out.2.2.1 HO.out.2.2.2.1 HO.out.2.2.2.2 HK1.out).mono ?_
  rintro x wd ⟨vh, rfl, oh, hbd⟩
  obtain ⟨rh0, rh1, rh2, rfl⟩ := oh.slice3
  have lh : rh1 = L.length := oh.reads.len
  subst lh
  have Bd := Below.on Bc hbd
  have HHd : Hid (Reads wd (.slice rh0 L.length rh2) L) := oh.reads
  have OWd : Hid (ownsR wd w.heap.size 34 (.slice rw0 L.length rw2) L) := OWc.out.all hbd
  have OGd : Hid (ownsR wd w.heap.size 34 (.slice rg0 L.length rg2) (marksSp 1 L.length)) := OGc.out.all hbd
  clear hbd oh Bc OWc OGc HO HM
  go_wp2_with fail
  refine (eqSpanS_any _ _ _ _ _ L _ HHd.out OWd.out.reads HLL.out).mono ?_
  rintro x we ⟨rfl, hbe⟩
  have Be := Below.on Bd hbe
  have OGe : Hid (ownsR we w.heap.size 34 (.slice rg0 L.length rg2) (marksSp 1 L.length)) := OGd.out.all hbe
  clear hbe Bd OGd HHd OWd
  go_wp2_with fail
  refine (heldSpanS_any _ _ _ 1 _ OGe.out.reads HLL.out (by decide) (by decide)).mono ?_
  rintro x wf ⟨rfl, hbf⟩
  have Bf := Below.on Be hbf
  go_wp2
  go_ret
  exact ⟨rfl, Bf⟩
end Go.Proofs.YtbecdaholpiaeaaDoor
