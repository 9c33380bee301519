/-
  Numbers marked one by one from any number on, and looked at again: a row, and a rule's five rows. Words that are a rule make one that is right: plain facts. The law on a rule that is read from its text: the walk. Whether a rule is right, and whether it fires at a minute, as the program tells it: the walks. The law on rules that are told and read again: the walk. The wrap of a tied row whose contract also wants the world's shape; the library's word of the greatest length, off that shape.
-/
import Derived.Test.YtgeimliibddhmaaDoorE13
import Derived.Test.YtgeimliibddhmaaDoorH6
import Derived.Test.YtgeimliibddhmaaDoorH3
import Derived.Test.YtgeimliibddhmaaDoorE11
import Derived.Test.YtgeimliibddhmaaDoorH1
import Derived.Test.YtgeimliibddhmaaDoorE12
import Derived.Test.YtgeimliibddhmaaDoorH4
import Derived.Handed
import Derived.Shelf.Vars
namespace Go.Proofs.YtgeimliibddhmaaDoor
open Go Go.RowKit
set_option linter.unusedVariables false

set_option maxHeartbeats 1000000 in
theorem markFrom_some (g n c B : Nat) (x : Int) (l : List Int) (w : World) (ho : ownsR w B 3 (.slice (some ⟨g, 0, none⟩) n c) l) (hn : n ≤ 1048577) (hx0 : 0 ≤ x) (hx : x ≤ 1073741824) :
    Calls Tryd.prog 62 #[.slice (some ⟨g, 0, none⟩) n c, .int .i64 x] w fun e w' => e = .returned (.int .i64 (x + (n : Int))) ∧ ownsR w' B 3 (.slice (some ⟨g, 0, none⟩) n c) (marksR id 1 x l.length) ∧ w.grownBy w' (some g) := by
  have HN : Hid (n = l.length) := ho.reads.len
  have HO : Hid (ownsR w B 3 (.slice (some ⟨g, 0, none⟩) n c) (markedR id 1 x l 0)) := markedR_zero ho
  clear ho
  go_enter Tryd.func62, Tryd.ntmps62
  go_wp2
  go_loopw [1, 5] (fun q i wr => ∃ k : Nat, k ≤ n ∧ i = .int .i64 k ∧ q = .int .i64 (x + (k : Int)) ∧ Hid (ownsR wr B 3 (.slice (some ⟨g, 0, none⟩) n c) (markedR id 1 x l k)) ∧ w.grownBy wr (some g)) (fun _ i _ => n - (intOf i).toNat)
  case atStart => exact ⟨0, Nat.zero_le _, rfl, by simp, HO, grown_refl _ _⟩
  case round =>
    obtain ⟨k, hk, rfl, rfl, HL, hbel⟩ := hrel
    by_cases hlt : k < n
    · obtain ⟨y, hy⟩ : ∃ y, l[k]? = some y := ⟨_, List.getElem?_eq_getElem (by rw [← HN.out]; exact hlt)⟩
      obtain ⟨hgs, d0, f0⟩ := int_own HL.out (markedR_at hy)
      have R := int_put HL.out (x + (k : Int)) (markedR_at hy)
      have e := markedR_set (mk := id) (s := 1) (x := x) hy
      rw [show id (x + 1 * (k : Int)) = x + (k : Int) by simp] at e
      rw [e] at R
      have HR : Hid (ownsR (wr.setCell ⟨g, k, none⟩ (.int .i64 (x + (k : Int)))) B 3 (.slice (some ⟨g, 0, none⟩) n c) (markedR id 1 x l (k + 1))) := R
      clear R e hy
      go_wp2
      go_roundw
      case rel => exact ⟨k + 1, by omega, by go_num, by go_num, HR, grown_trans hbel (grown_set _ _ _ _)⟩
      case measure => simp [intOf]; omega
    · have hkn : k = l.length := by rw [← HN.out]; omega
      have R : ownsR wr B 3 (.slice (some ⟨g, 0, none⟩) n c) (marksR id 1 x l.length) := by
        have := HL.out
        rw [hkn, markedR_all] at this
        exact this
      have e : (k : Int) = n := by rw [HN.out, hkn]
      clear hkn
      go_wp2
      go_ret
      exact ⟨by rw [← e]; rfl, R, hbel⟩
theorem ownsR_nil' (w : World) (B : Nat) : ownsR w B 3 (.slice none 0 0) ([] : List Int) := ownsR_none w B 3
theorem markFrom_any {w : World} {B : Nat} {x : Int} {v : Value} {l : List Int} (ho : ownsR w B 3 v l) (hn : l.length ≤ 1048577) (hx0 : 0 ≤ x) (hx : x ≤ 1073741824) :
    Calls Tryd.prog 62 #[v, .int .i64 x] w fun e w' => e = .returned (.int .i64 (x + (l.length : Int))) ∧ ownsR w' B 3 v (marksR id 1 x l.length) ∧ w.grownBy w' v.ownBlock := by
  rcases ho.2 with ⟨rfl, h0⟩ | ⟨g, cap, cur, rfl, _⟩
  · rw [h0]
    have h := markIntS_none none 0 x.toNat w
    rw [Int.toNat_of_nonneg hx0] at h
    exact h.mono fun e w' ⟨he, hb⟩ => ⟨by rw [he]; simp, ownsR_nil' _ _, grown_of_below hb _⟩
  · exact markFrom_some g l.length cap B x l w ho hn hx0 hx

set_option maxHeartbeats 1000000 in
theorem heldFrom_try (ao : Option Addr) (n c : Nat) (x : Int) (w : World) (hr : Reads w (.slice ao n c) (marksR (id : Int → Int) 1 x n)) (hn : n ≤ 1048577) (hx0 : 0 ≤ x) (hx : x ≤ 1073741824) :
    Calls Tryd.prog 63 #[.slice ao n c, .int .i64 x] w fun e w' => e = .returned (.int .i64 (x + (n : Int))) ∧ w' = w := by
  have HR : Hid (Reads w (.slice ao n c) (marksR (id : Int → Int) 1 x n)) := hr
  clear hr
  go_enter Tryd.func63, Tryd.ntmps63
  go_wp2
  go_loopw [1, 5] (fun q i wr => ∃ k : Nat, k ≤ n ∧ i = .int .i64 k ∧ q = .int .i64 (x + (k : Int)) ∧ wr = w) (fun _ i _ => n - (intOf i).toNat)
  case atStart => exact ⟨0, Nat.zero_le _, rfl, by simp, rfl⟩
  case round =>
    obtain ⟨k, hk, rfl, rfl, rfl⟩ := hrel
    by_cases hlt : k < n
    · have hy := marksR_at (mk := (id : Int → Int)) (s := 1) (x := x) hlt
      rw [show id (x + 1 * (k : Int)) = x + (k : Int) by simp] at hy
      obtain ⟨b, o, rfl, hb, c0⟩ := int_at HR.out hy
      clear hy
      go_wp2
      go_roundw
      case rel => exact ⟨k + 1, by omega, by go_num, by go_num, trivial⟩
      case measure => simp [intOf]; omega
    · have hkn : k = n := by omega
      subst hkn
      go_wp2
      go_ret
      exact ⟨rfl, rfl⟩
theorem heldFrom_any {w : World} {v : Value} {n : Nat} {x : Int} (hr : Reads w v (marksR (id : Int → Int) 1 x n)) (hn : n ≤ 1048577) (hx0 : 0 ≤ x) (hx : x ≤ 1073741824) :
    Calls Tryd.prog 63 #[v, .int .i64 x] w fun e w' => e = .returned (.int .i64 (x + (n : Int))) ∧ w' = w := by
  obtain ⟨ao, c, rfl, _⟩ := id hr
  rw [marksR_length] at hr ⊢
  exact heldFrom_try ao n c x w hr hn hx0 hx
/-- The rows bear their marks. -/
structure Mk5 (W : World) (G : Nat) (v0 v1 v2 v3 v4 : Value) (l0 l1 l2 l3 l4 : List Int) (m0 m1 m2 m3 m4 : Int) : Prop where
  o0 : ownsR W G 3 v0 (marksR (id : Int → Int) 1 (1) l0.length)
  o1 : ownsR W G 3 v1 (marksR (id : Int → Int) 1 (1 + m0) l1.length)
  o2 : ownsR W G 3 v2 (marksR (id : Int → Int) 1 (1 + m0 + m1) l2.length)
  o3 : ownsR W G 3 v3 (marksR (id : Int → Int) 1 (1 + m0 + m1 + m2) l3.length)
  o4 : ownsR W G 3 v4 (marksR (id : Int → Int) 1 (1 + m0 + m1 + m2 + m3) l4.length)
theorem Mk5.up {W W' : World} {G : Nat} {v0 v1 v2 v3 v4 : Value} {l0 l1 l2 l3 l4 : List Int} {m0 m1 m2 m3 m4 : Int} (h : Mk5 W G v0 v1 v2 v3 v4 l0 l1 l2 l3 l4 m0 m1 m2 m3 m4) (hb : Below W.heap.size W W') : Mk5 W' G v0 v1 v2 v3 v4 l0 l1 l2 l3 l4 m0 m1 m2 m3 m4 :=
  ⟨h.o0.all hb, h.o1.all hb, h.o2.all hb, h.o3.all hb, h.o4.all hb⟩
/-- The blocks that are none of five rows' are as they were. -/
def Kp5 (W W' : World) (v0 v1 v2 v3 v4 : Value) : Prop := ∀ b, b < W.heap.size → some b ≠ v0.ownBlock → some b ≠ v1.ownBlock → some b ≠ v2.ownBlock → some b ≠ v3.ownBlock → some b ≠ v4.ownBlock → W'.heap[b]? = W.heap[b]?
set_option maxRecDepth 10000 in
set_option maxHeartbeats 4000000 in
theorem markCron_any (a0 : Option Addr) (n0 c0 : Nat) (l0 : List Int) (a1 : Option Addr) (n1 c1 : Nat) (l1 : List Int) (a2 : Option Addr) (n2 c2 : Nat) (l2 : List Int) (a3 : Option Addr) (n3 c3 : Nat) (l3 : List Int) (a4 : Option Addr) (n4 c4 : Nat) (l4 : List Int) (m0 m1 m2 m3 m4 : Int) (G : Nat) (w : World) (hG : G ≤ w.heap.size) (h0 : ownsR w G 3 (Value.slice a0 n0 c0) l0) (e0 : (l0.length : Int) = m0) (x0 : m0 ≤ 1000) (h1 : ownsR w G 3 (Value.slice a1 n1 c1) l1) (e1 : (l1.length : Int) = m1) (x1 : m1 ≤ 1000) (h2 : ownsR w G 3 (Value.slice a2 n2 c2) l2) (e2 : (l2.length : Int) = m2) (x2 : m2 ≤ 1000) (h3 : ownsR w G 3 (Value.slice a3 n3 c3) l3) (e3 : (l3.length : Int) = m3) (x3 : m3 ≤ 1000) (h4 : ownsR w G 3 (Value.slice a4 n4 c4) l4) (e4 : (l4.length : Int) = m4) (x4 : m4 ≤ 1000) (hA : Ap5 (Value.slice a0 n0 c0) (Value.slice a1 n1 c1) (Value.slice a2 n2 c2) (Value.slice a3 n3 c3) (Value.slice a4 n4 c4)) :
    Calls Tryd.prog 31 #[.agg #[Value.slice a0 n0 c0, Value.slice a1 n1 c1, Value.slice a2 n2 c2, Value.slice a3 n3 c3, Value.slice a4 n4 c4], .int .i64 1] w fun e w' => e = .returned (.int .i64 (1 + m0 + m1 + m2 + m3 + m4)) ∧ Mk5 w' G (Value.slice a0 n0 c0) (Value.slice a1 n1 c1) (Value.slice a2 n2 c2) (Value.slice a3 n3 c3) (Value.slice a4 n4 c4) l0 l1 l2 l3 l4 m0 m1 m2 m3 m4 ∧ Below G w w' ∧ Kp5 w w' (Value.slice a0 n0 c0) (Value.slice a1 n1 c1) (Value.slice a2 n2 c2) (Value.slice a3 n3 c3) (Value.slice a4 n4 c4) := by
  have g0 : 0 ≤ m0 := by omega
  have HC0 : Hid (∀ (x : Int) (W : World), ownsR W G 3 (Value.slice a0 n0 c0) l0 → 0 ≤ x → x ≤ 100000 → Calls Tryd.prog 62 #[Value.slice a0 n0 c0, .int .i64 x] W fun e w' => e = .returned (.int .i64 (x + m0)) ∧ ownsR w' G 3 (Value.slice a0 n0 c0) (marksR id 1 x l0.length) ∧ W.grownBy w' (Value.slice a0 n0 c0).ownBlock) := fun x W ho hx0 hx => by
    rw [← e0]
    exact markFrom_any ho (by omega) hx0 (by omega)
  have HE0 : Hid (some w.heap.size ≠ (Value.slice a0 n0 c0).ownBlock) := fun e => absurd (h0.lt _ e.symm).2 (Nat.lt_irrefl _)
  have HB0 : Hid (∀ W, ownsR W G 3 (Value.slice a0 n0 c0) l0 → ∀ j, (Value.slice a0 n0 c0).ownBlock = some j → G ≤ j) := fun W ho j hj => (ho.lt j hj).1
  have g1 : 0 ≤ m1 := by omega
  have HC1 : Hid (∀ (x : Int) (W : World), ownsR W G 3 (Value.slice a1 n1 c1) l1 → 0 ≤ x → x ≤ 100000 → Calls Tryd.prog 62 #[Value.slice a1 n1 c1, .int .i64 x] W fun e w' => e = .returned (.int .i64 (x + m1)) ∧ ownsR w' G 3 (Value.slice a1 n1 c1) (marksR id 1 x l1.length) ∧ W.grownBy w' (Value.slice a1 n1 c1).ownBlock) := fun x W ho hx0 hx => by
    rw [← e1]
    exact markFrom_any ho (by omega) hx0 (by omega)
  have HE1 : Hid (some w.heap.size ≠ (Value.slice a1 n1 c1).ownBlock) := fun e => absurd (h1.lt _ e.symm).2 (Nat.lt_irrefl _)
  have HB1 : Hid (∀ W, ownsR W G 3 (Value.slice a1 n1 c1) l1 → ∀ j, (Value.slice a1 n1 c1).ownBlock = some j → G ≤ j) := fun W ho j hj => (ho.lt j hj).1
  have g2 : 0 ≤ m2 := by omega
  have HC2 : Hid (∀ (x : Int) (W : World), ownsR W G 3 (Value.slice a2 n2 c2) l2 → 0 ≤ x → x ≤ 100000 → Calls Tryd.prog 62 #[Value.slice a2 n2 c2, .int .i64 x] W fun e w' => e = .returned (.int .i64 (x + m2)) ∧ ownsR w' G 3 (Value.slice a2 n2 c2) (marksR id 1 x l2.length) ∧ W.grownBy w' (Value.slice a2 n2 c2).ownBlock) := fun x W ho hx0 hx => by
    rw [← e2]
    exact markFrom_any ho (by omega) hx0 (by omega)
  have HE2 : Hid (some w.heap.size ≠ (Value.slice a2 n2 c2).ownBlock) := fun e => absurd (h2.lt _ e.symm).2 (Nat.lt_irrefl _)
  have HB2 : Hid (∀ W, ownsR W G 3 (Value.slice a2 n2 c2) l2 → ∀ j, (Value.slice a2 n2 c2).ownBlock = some j → G ≤ j) := fun W ho j hj => (ho.lt j hj).1
  have g3 : 0 ≤ m3 := by omega
  have HC3 : Hid (∀ (x : Int) (W : World), ownsR W G 3 (Value.slice a3 n3 c3) l3 → 0 ≤ x → x ≤ 100000 → Calls Tryd.prog 62 #[Value.slice a3 n3 c3, .int .i64 x] W fun e w' => e = .returned (.int .i64 (x + m3)) ∧ ownsR w' G 3 (Value.slice a3 n3 c3) (marksR id 1 x l3.length) ∧ W.grownBy w' (Value.slice a3 n3 c3).ownBlock) := fun x W ho hx0 hx => by
    rw [← e3]
    exact markFrom_any ho (by omega) hx0 (by omega)
  have HE3 : Hid (some w.heap.size ≠ (Value.slice a3 n3 c3).ownBlock) := fun e => absurd (h3.lt _ e.symm).2 (Nat.lt_irrefl _)
  have HB3 : Hid (∀ W, ownsR W G 3 (Value.slice a3 n3 c3) l3 → ∀ j, (Value.slice a3 n3 c3).ownBlock = some j → G ≤ j) := fun W ho j hj => (ho.lt j hj).1
  have g4 : 0 ≤ m4 := by omega
  have HC4 : Hid (∀ (x : Int) (W : World), ownsR W G 3 (Value.slice a4 n4 c4) l4 → 0 ≤ x → x ≤ 100000 → Calls Tryd.prog 62 #[Value.slice a4 n4 c4, .int .i64 x] W fun e w' => e = .returned (.int .i64 (x + m4)) ∧ ownsR w' G 3 (Value.slice a4 n4 c4) (marksR id 1 x l4.length) ∧ W.grownBy w' (Value.slice a4 n4 c4).ownBlock) := fun x W ho hx0 hx => by
    rw [← e4]
    exact markFrom_any ho (by omega) hx0 (by omega)
  have HE4 : Hid (some w.heap.size ≠ (Value.slice a4 n4 c4).ownBlock) := fun e => absurd (h4.lt _ e.symm).2 (Nat.lt_irrefl _)
  have HB4 : Hid (∀ W, ownsR W G 3 (Value.slice a4 n4 c4) l4 → ∀ j, (Value.slice a4 n4 c4).ownBlock = some j → G ≤ j) := fun W ho j hj => (ho.lt j hj).1
  have HA : Hid (Ap5 (Value.slice a0 n0 c0) (Value.slice a1 n1 c1) (Value.slice a2 n2 c2) (Value.slice a3 n3 c3) (Value.slice a4 n4 c4)) := hA
  obtain ⟨V0, HV⟩ : ∃ V, Hid (w.alloc (.cells #[Value.slice a0 n0 c0, Value.slice a1 n1 c1, Value.slice a2 n2 c2, Value.slice a3 n3 c3, Value.slice a4 n4 c4] 26) = V) := ⟨_, rfl⟩
  have HZ0 : Hid (B5 26 V0 w.heap.size (Value.slice a0 n0 c0) (Value.slice a1 n1 c1) (Value.slice a2 n2 c2) (Value.slice a3 n3 c3) (Value.slice a4 n4 c4)) := by show B5 _ _ _ _ _ _ _ _; rw [← HV.out]; exact B5.new 26 w (Value.slice a0 n0 c0) (Value.slice a1 n1 c1) (Value.slice a2 n2 c2) (Value.slice a3 n3 c3) (Value.slice a4 n4 c4)
  have HBB0 : Hid (Below G w V0) := by show Below _ _ _; rw [← HV.out]; exact (Below.refl _ _).alloc hG _
  have HK0 : Hid (Kp5 w V0 (Value.slice a0 n0 c0) (Value.slice a1 n1 c1) (Value.slice a2 n2 c2) (Value.slice a3 n3 c3) (Value.slice a4 n4 c4)) := by
    show Kp5 _ _ _ _ _ _ _
    rw [← HV.out]
    intro b hb _ _ _ _ _
    exact (ba (Below.refl _ _) _ : Below w.heap.size w (w.alloc (.cells #[Value.slice a0 n0 c0, Value.slice a1 n1 c1, Value.slice a2 n2 c2, Value.slice a3 n3 c3, Value.slice a4 n4 c4] 26))).block b hb
  have HWS : Hid (w.heap.size ≤ V0.heap.size) := by show _ ≤ _; rw [← HV.out]; simp
  have HG0 : Hid (G ≤ V0.heap.size) := Nat.le_trans hG HWS.out
  have O0_0 : Hid (ownsR V0 G 3 (Value.slice a0 n0 c0) l0) := by show ownsR _ _ _ _ _; rw [← HV.out]; exact h0.alloc _
  have O1_0 : Hid (ownsR V0 G 3 (Value.slice a1 n1 c1) l1) := by show ownsR _ _ _ _ _; rw [← HV.out]; exact h1.alloc _
  have O2_0 : Hid (ownsR V0 G 3 (Value.slice a2 n2 c2) l2) := by show ownsR _ _ _ _ _; rw [← HV.out]; exact h2.alloc _
  have O3_0 : Hid (ownsR V0 G 3 (Value.slice a3 n3 c3) l3) := by show ownsR _ _ _ _ _; rw [← HV.out]; exact h3.alloc _
  have O4_0 : Hid (ownsR V0 G 3 (Value.slice a4 n4 c4) l4) := by show ownsR _ _ _ _ _; rw [← HV.out]; exact h4.alloc _
  clear h0 h1 h2 h3 h4 hA e0 e1 e2 e3 e4
  go_enter Tryd.func31, Tryd.ntmps31
  have q0 := HZ0.out.c0
  go_wp2_with (rw [HV.out])
  clear HV
  refine (HC0.out _ _ O0_0.out (by omega) (by omega)).mono ?_
  rintro e y1 ⟨rfl, hm, hg⟩
  have HZ1 : Hid (B5 26 y1 w.heap.size (Value.slice a0 n0 c0) (Value.slice a1 n1 c1) (Value.slice a2 n2 c2) (Value.slice a3 n3 c3) (Value.slice a4 n4 c4)) := HZ0.out.grown hg HE0.out
  have HBB1 : Hid (Below G w y1) := HBB0.out.grown hg HG0.out (HB0.out _ O0_0.out)
  have HG1 : Hid (G ≤ y1.heap.size) := Nat.le_trans HG0.out hg.size
  have HK1 : Hid (Kp5 w y1 (Value.slice a0 n0 c0) (Value.slice a1 n1 c1) (Value.slice a2 n2 c2) (Value.slice a3 n3 c3) (Value.slice a4 n4 c4)) := fun b hb r0 r1 r2 r3 r4 => (hg.block b (Nat.lt_of_lt_of_le hb HWS.out) r0).trans (HK0.out b hb r0 r1 r2 r3 r4)
  have HW1 : Hid (w.heap.size ≤ y1.heap.size) := Nat.le_trans HWS.out hg.size
  have O1_1 : Hid (ownsR y1 G 3 (Value.slice a1 n1 c1) l1) := O1_0.out.other hg (HA.out.a01).symm
  have O2_1 : Hid (ownsR y1 G 3 (Value.slice a2 n2 c2) l2) := O2_0.out.other hg (HA.out.a02).symm
  have O3_1 : Hid (ownsR y1 G 3 (Value.slice a3 n3 c3) l3) := O3_0.out.other hg (HA.out.a03).symm
  have O4_1 : Hid (ownsR y1 G 3 (Value.slice a4 n4 c4) l4) := O4_0.out.other hg (HA.out.a04).symm
  have P0_1 : Hid (ownsR y1 G 3 (Value.slice a0 n0 c0) (marksR (id : Int → Int) 1 (1) l0.length)) := hm
  clear hm hg q0 HZ0
  have q0 := HZ1.out.c1
  go_wp2_with fail
  refine (HC1.out _ _ O1_1.out (by omega) (by omega)).mono ?_
  rintro e y2 ⟨rfl, hm, hg⟩
  have HZ2 : Hid (B5 26 y2 w.heap.size (Value.slice a0 n0 c0) (Value.slice a1 n1 c1) (Value.slice a2 n2 c2) (Value.slice a3 n3 c3) (Value.slice a4 n4 c4)) := HZ1.out.grown hg HE1.out
  have HBB2 : Hid (Below G w y2) := HBB1.out.grown hg HG1.out (HB1.out _ O1_1.out)
  have HG2 : Hid (G ≤ y2.heap.size) := Nat.le_trans HG1.out hg.size
  have HK2 : Hid (Kp5 w y2 (Value.slice a0 n0 c0) (Value.slice a1 n1 c1) (Value.slice a2 n2 c2) (Value.slice a3 n3 c3) (Value.slice a4 n4 c4)) := fun b hb r0 r1 r2 r3 r4 => (hg.block b (Nat.lt_of_lt_of_le hb HW1.out) r1).trans (HK1.out b hb r0 r1 r2 r3 r4)
  have HW2 : Hid (w.heap.size ≤ y2.heap.size) := Nat.le_trans HW1.out hg.size
  have O2_2 : Hid (ownsR y2 G 3 (Value.slice a2 n2 c2) l2) := O2_1.out.other hg (HA.out.a12).symm
  have O3_2 : Hid (ownsR y2 G 3 (Value.slice a3 n3 c3) l3) := O3_1.out.other hg (HA.out.a13).symm
  have O4_2 : Hid (ownsR y2 G 3 (Value.slice a4 n4 c4) l4) := O4_1.out.other hg (HA.out.a14).symm
  have P0_2 : Hid (ownsR y2 G 3 (Value.slice a0 n0 c0) (marksR (id : Int → Int) 1 (1) l0.length)) := P0_1.out.other hg HA.out.a01
  have P1_2 : Hid (ownsR y2 G 3 (Value.slice a1 n1 c1) (marksR (id : Int → Int) 1 (1 + m0) l1.length)) := hm
  clear hm hg q0 HZ1
  have q0 := HZ2.out.c2
  go_wp2_with fail
  refine (HC2.out _ _ O2_2.out (by omega) (by omega)).mono ?_
  rintro e y3 ⟨rfl, hm, hg⟩
  have HZ3 : Hid (B5 26 y3 w.heap.size (Value.slice a0 n0 c0) (Value.slice a1 n1 c1) (Value.slice a2 n2 c2) (Value.slice a3 n3 c3) (Value.slice a4 n4 c4)) := HZ2.out.grown hg HE2.out
  have HBB3 : Hid (Below G w y3) := HBB2.out.grown hg HG2.out (HB2.out _ O2_2.out)
  have HG3 : Hid (G ≤ y3.heap.size) := Nat.le_trans HG2.out hg.size
  have HK3 : Hid (Kp5 w y3 (Value.slice a0 n0 c0) (Value.slice a1 n1 c1) (Value.slice a2 n2 c2) (Value.slice a3 n3 c3) (Value.slice a4 n4 c4)) := fun b hb r0 r1 r2 r3 r4 => (hg.block b (Nat.lt_of_lt_of_le hb HW2.out) r2).trans (HK2.out b hb r0 r1 r2 r3 r4)
  have HW3 : Hid (w.heap.size ≤ y3.heap.size) := Nat.le_trans HW2.out hg.size
  have O3_3 : Hid (ownsR y3 G 3 (Value.slice a3 n3 c3) l3) := O3_2.out.other hg (HA.out.a23).symm
  have O4_3 : Hid (ownsR y3 G 3 (Value.slice a4 n4 c4) l4) := O4_2.out.other hg (HA.out.a24).symm
  have P0_3 : Hid (ownsR y3 G 3 (Value.slice a0 n0 c0) (marksR (id : Int → Int) 1 (1) l0.length)) := P0_2.out.other hg HA.out.a02
  have P1_3 : Hid (ownsR y3 G 3 (Value.slice a1 n1 c1) (marksR (id : Int → Int) 1 (1 + m0) l1.length)) := P1_2.out.other hg HA.out.a12
  have P2_3 : Hid (ownsR y3 G 3 (Value.slice a2 n2 c2) (marksR (id : Int → Int) 1 (1 + m0 + m1) l2.length)) := hm
  clear hm hg q0 HZ2
  have q0 := HZ3.out.c3
  go_wp2_with fail
  refine (HC3.out _ _ O3_3.out (by omega) (by omega)).mono ?_
  rintro e y4 ⟨rfl, hm, hg⟩
  have HZ4 : Hid (B5 26 y4 w.heap.size (Value.slice a0 n0 c0) (Value.slice a1 n1 c1) (Value.slice a2 n2 c2) (Value.slice a3 n3 c3) (Value.slice a4 n4 c4)) := HZ3.out.grown hg HE3.out
  have HBB4 : Hid (Below G w y4) := HBB3.out.grown hg HG3.out (HB3.out _ O3_3.out)
  have HG4 : Hid (G ≤ y4.heap.size) := Nat.le_trans HG3.out hg.size
  have HK4 : Hid (Kp5 w y4 (Value.slice a0 n0 c0) (Value.slice a1 n1 c1) (Value.slice a2 n2 c2) (Value.slice a3 n3 c3) (Value.slice a4 n4 c4)) := fun b hb r0 r1 r2 r3 r4 => (hg.block b (Nat.lt_of_lt_of_le hb HW3.out) r3).trans (HK3.out b hb r0 r1 r2 r3 r4)
  have HW4 : Hid (w.heap.size ≤ y4.heap.size) := Nat.le_trans HW3.out hg.size
  have O4_4 : Hid (ownsR y4 G 3 (Value.slice a4 n4 c4) l4) := O4_3.out.other hg (HA.out.a34).symm
  have P0_4 : Hid (ownsR y4 G 3 (Value.slice a0 n0 c0) (marksR (id : Int → Int) 1 (1) l0.length)) := P0_3.out.other hg HA.out.a03
  have P1_4 : Hid (ownsR y4 G 3 (Value.slice a1 n1 c1) (marksR (id : Int → Int) 1 (1 + m0) l1.length)) := P1_3.out.other hg HA.out.a13
  have P2_4 : Hid (ownsR y4 G 3 (Value.slice a2 n2 c2) (marksR (id : Int → Int) 1 (1 + m0 + m1) l2.length)) := P2_3.out.other hg HA.out.a23
  have P3_4 : Hid (ownsR y4 G 3 (Value.slice a3 n3 c3) (marksR (id : Int → Int) 1 (1 + m0 + m1 + m2) l3.length)) := hm
  clear hm hg q0 HZ3
  have q0 := HZ4.out.c4
  go_wp2_with fail
  refine (HC4.out _ _ O4_4.out (by omega) (by omega)).mono ?_
  rintro e y5 ⟨rfl, hm, hg⟩
  have HZ5 : Hid (B5 26 y5 w.heap.size (Value.slice a0 n0 c0) (Value.slice a1 n1 c1) (Value.slice a2 n2 c2) (Value.slice a3 n3 c3) (Value.slice a4 n4 c4)) := HZ4.out.grown hg HE4.out
  have HBB5 : Hid (Below G w y5) := HBB4.out.grown hg HG4.out (HB4.out _ O4_4.out)
  have HG5 : Hid (G ≤ y5.heap.size) := Nat.le_trans HG4.out hg.size
  have HK5 : Hid (Kp5 w y5 (Value.slice a0 n0 c0) (Value.slice a1 n1 c1) (Value.slice a2 n2 c2) (Value.slice a3 n3 c3) (Value.slice a4 n4 c4)) := fun b hb r0 r1 r2 r3 r4 => (hg.block b (Nat.lt_of_lt_of_le hb HW4.out) r4).trans (HK4.out b hb r0 r1 r2 r3 r4)
  have HW5 : Hid (w.heap.size ≤ y5.heap.size) := Nat.le_trans HW4.out hg.size
  have P0_5 : Hid (ownsR y5 G 3 (Value.slice a0 n0 c0) (marksR (id : Int → Int) 1 (1) l0.length)) := P0_4.out.other hg HA.out.a04
  have P1_5 : Hid (ownsR y5 G 3 (Value.slice a1 n1 c1) (marksR (id : Int → Int) 1 (1 + m0) l1.length)) := P1_4.out.other hg HA.out.a14
  have P2_5 : Hid (ownsR y5 G 3 (Value.slice a2 n2 c2) (marksR (id : Int → Int) 1 (1 + m0 + m1) l2.length)) := P2_4.out.other hg HA.out.a24
  have P3_5 : Hid (ownsR y5 G 3 (Value.slice a3 n3 c3) (marksR (id : Int → Int) 1 (1 + m0 + m1 + m2) l3.length)) := P3_4.out.other hg HA.out.a34
  have P4_5 : Hid (ownsR y5 G 3 (Value.slice a4 n4 c4) (marksR (id : Int → Int) 1 (1 + m0 + m1 + m2 + m3) l4.length)) := hm
  clear hm hg q0 HZ4
  go_wp2
  go_ret
  exact ⟨rfl, ⟨P0_5.out, P1_5.out, P2_5.out, P3_5.out, P4_5.out⟩, HBB5.out, HK5.out⟩
set_option maxRecDepth 10000 in
set_option maxHeartbeats 4000000 in
theorem heldCron_any (a0 : Option Addr) (n0 c0 : Nat) (l0 : List Int) (a1 : Option Addr) (n1 c1 : Nat) (l1 : List Int) (a2 : Option Addr) (n2 c2 : Nat) (l2 : List Int) (a3 : Option Addr) (n3 c3 : Nat) (l3 : List Int) (a4 : Option Addr) (n4 c4 : Nat) (l4 : List Int) (m0 m1 m2 m3 m4 : Int) (G : Nat) (w : World) (hM : Mk5 w G (Value.slice a0 n0 c0) (Value.slice a1 n1 c1) (Value.slice a2 n2 c2) (Value.slice a3 n3 c3) (Value.slice a4 n4 c4) l0 l1 l2 l3 l4 m0 m1 m2 m3 m4) (e0 : (l0.length : Int) = m0) (x0 : m0 ≤ 1000) (e1 : (l1.length : Int) = m1) (x1 : m1 ≤ 1000) (e2 : (l2.length : Int) = m2) (x2 : m2 ≤ 1000) (e3 : (l3.length : Int) = m3) (x3 : m3 ≤ 1000) (e4 : (l4.length : Int) = m4) (x4 : m4 ≤ 1000) :
    Calls Tryd.prog 32 #[.agg #[Value.slice a0 n0 c0, Value.slice a1 n1 c1, Value.slice a2 n2 c2, Value.slice a3 n3 c3, Value.slice a4 n4 c4], .int .i64 1] w fun e w' => e = .returned (.int .i64 (1 + m0 + m1 + m2 + m3 + m4)) ∧ Below w.heap.size w w' := by
  have g0 : 0 ≤ m0 := by omega
  have g1 : 0 ≤ m1 := by omega
  have g2 : 0 ≤ m2 := by omega
  have g3 : 0 ≤ m3 := by omega
  have g4 : 0 ≤ m4 := by omega
  obtain ⟨V0, HV⟩ : ∃ V, Hid (w.alloc (.cells #[Value.slice a0 n0 c0, Value.slice a1 n1 c1, Value.slice a2 n2 c2, Value.slice a3 n3 c3, Value.slice a4 n4 c4] 26) = V) := ⟨_, rfl⟩
  have HB0 : Hid (Below w.heap.size w V0) := by show Below _ _ _; rw [← HV.out]; exact ba (Below.refl _ _) _
  have HC0 : Hid (Calls Tryd.prog 63 #[Value.slice a0 n0 c0, .int .i64 (1)] V0 fun e w' => e = .returned (.int .i64 (1 + m0)) ∧ w' = V0) := by
    show Calls _ _ _ _ _
    have hr : Reads V0 (Value.slice a0 n0 c0) (marksR (id : Int → Int) 1 (1) l0.length) := hM.o0.reads.below HB0.out
    have := heldFrom_any hr (by omega) (by omega) (by omega)
    rw [e0] at this
    exact this
  have HC1 : Hid (Calls Tryd.prog 63 #[Value.slice a1 n1 c1, .int .i64 (1 + m0)] V0 fun e w' => e = .returned (.int .i64 (1 + m0 + m1)) ∧ w' = V0) := by
    show Calls _ _ _ _ _
    have hr : Reads V0 (Value.slice a1 n1 c1) (marksR (id : Int → Int) 1 (1 + m0) l1.length) := hM.o1.reads.below HB0.out
    have := heldFrom_any hr (by omega) (by omega) (by omega)
    rw [e1] at this
    exact this
  have HC2 : Hid (Calls Tryd.prog 63 #[Value.slice a2 n2 c2, .int .i64 (1 + m0 + m1)] V0 fun e w' => e = .returned (.int .i64 (1 + m0 + m1 + m2)) ∧ w' = V0) := by
    show Calls _ _ _ _ _
    have hr : Reads V0 (Value.slice a2 n2 c2) (marksR (id : Int → Int) 1 (1 + m0 + m1) l2.length) := hM.o2.reads.below HB0.out
    have := heldFrom_any hr (by omega) (by omega) (by omega)
    rw [e2] at this
    exact this
  have HC3 : Hid (Calls Tryd.prog 63 #[Value.slice a3 n3 c3, .int .i64 (1 + m0 + m1 + m2)] V0 fun e w' => e = .returned (.int .i64 (1 + m0 + m1 + m2 + m3)) ∧ w' = V0) := by
    show Calls _ _ _ _ _
    have hr : Reads V0 (Value.slice a3 n3 c3) (marksR (id : Int → Int) 1 (1 + m0 + m1 + m2) l3.length) := hM.o3.reads.below HB0.out
    have := heldFrom_any hr (by omega) (by omega) (by omega)
    rw [e3] at this
    exact this
  have HC4 : Hid (Calls Tryd.prog 63 #[Value.slice a4 n4 c4, .int .i64 (1 + m0 + m1 + m2 + m3)] V0 fun e w' => e = .returned (.int .i64 (1 + m0 + m1 + m2 + m3 + m4)) ∧ w' = V0) := by
    show Calls _ _ _ _ _
    have hr : Reads V0 (Value.slice a4 n4 c4) (marksR (id : Int → Int) 1 (1 + m0 + m1 + m2 + m3) l4.length) := hM.o4.reads.below HB0.out
    have := heldFrom_any hr (by omega) (by omega) (by omega)
    rw [e4] at this
    exact this
  have HZ0 : Hid (B5 26 V0 w.heap.size (Value.slice a0 n0 c0) (Value.slice a1 n1 c1) (Value.slice a2 n2 c2) (Value.slice a3 n3 c3) (Value.slice a4 n4 c4)) := by show B5 _ _ _ _ _ _ _ _; rw [← HV.out]; exact B5.new 26 w (Value.slice a0 n0 c0) (Value.slice a1 n1 c1) (Value.slice a2 n2 c2) (Value.slice a3 n3 c3) (Value.slice a4 n4 c4)
  have q0 := HZ0.out.c0
  have q1 := HZ0.out.c1
  have q2 := HZ0.out.c2
  have q3 := HZ0.out.c3
  have q4 := HZ0.out.c4
  clear hM e0 e1 e2 e3 e4 HZ0
  go_enter Tryd.func32, Tryd.ntmps32
  go_wp2_with (rw [HV.out])
  refine HC0.out.mono ?_
  rintro e y ⟨rfl, hw⟩
  have hw2 := hw.symm
  subst hw2
  clear hw
  go_wp2_with (fail)
  refine HC1.out.mono ?_
  rintro e y ⟨rfl, hw⟩
  have hw2 := hw.symm
  subst hw2
  clear hw
  go_wp2_with (fail)
  refine HC2.out.mono ?_
  rintro e y ⟨rfl, hw⟩
  have hw2 := hw.symm
  subst hw2
  clear hw
  go_wp2_with (fail)
  refine HC3.out.mono ?_
  rintro e y ⟨rfl, hw⟩
  have hw2 := hw.symm
  subst hw2
  clear hw
  go_wp2_with (fail)
  refine HC4.out.mono ?_
  rintro e y ⟨rfl, hw⟩
  have hw2 := hw.symm
  subst hw2
  clear hw
  go_wp2
  go_ret
  exact ⟨rfl, HB0.out⟩
end Go.Proofs.YtgeimliibddhmaaDoor

namespace Go.Proofs.YtgeimliibddhmaaDoor
open Go Go.RowKit

theorem set_keep {H : List Bool} {i x : Nat} (h : H.getD x false = true) : (H.set i true).getD x false = true := by
  by_cases hi : i < H.length
  · rw [getD_set _ _ _ hi, h, Bool.or_true]
  · rw [List.set_eq_of_length_le (by omega)]; exact h
theorem stamp_keep {H : List Bool} {a t x : Nat} (h : H.getD x false = true) : ∀ j, (stamp H a t j).getD x false = true
  | 0 => h
  | j + 1 => set_keep (stamp_keep h j)
theorem stamp_first {H : List Bool} {a t : Nat} (ha : a < H.length) : ∀ j, (stamp H a t (j + 1)).getD a false = true
  | 0 => by
    rw [stamp, stamp, Nat.zero_mul, Nat.add_zero, getD_set _ _ _ ha, decide_eq_true rfl]
    rfl
  | j + 1 => set_keep (stamp_first ha j)
theorem fieldGo_keep {lo hi : Int} {x : Nat} : ∀ (l : List ByteArray) (H H' : List Bool), H.getD x false = true → fieldGo lo hi l H = some H' → H'.getD x false = true
  | [], H, H', h, e => by cases e; exact h
  | p :: r, H, H', h, e => by
    rw [fieldGo] at e
    split at e
    · exact fieldGo_keep r _ H' (stamp_keep h _) e
    · cases e
theorem fieldGo_first {lo hi : Int} (h0 : 0 ≤ lo) (hlh : lo ≤ hi) : ∀ (l : List ByteArray) (H H' : List Bool), H.length = (hi + 1).toNat → 0 < l.length → fieldGo lo hi l H = some H' → ∃ x : Int, lo ≤ x ∧ x ≤ hi ∧ H'.getD x.toNat false = true
  | [], _, _, _, hl, _ => by simp at hl
  | p :: r, H, H', hH, _, e => by
    rw [fieldGo] at e
    split at e
    · rename_i hp
      have hb := piece_bd hlh hp
      refine ⟨(piece p lo hi).1, hb.1, by omega, fieldGo_keep r _ H' ?_ e⟩
      exact stamp_first (by rw [hH]; omega) _
    · cases e
theorem field_right {s : ByteArray} {lo hi : Int} {H : List Bool} (h0 : 0 ≤ lo) (hlh : lo ≤ hi) (h : fieldO s lo hi = some H) : listB lo hi (fieldL s lo hi) = true := by
  unfold fieldL
  rw [h]
  show listB lo hi (picks H lo (hi - lo + 1).toNat) = true
  obtain ⟨x, hx0, hx1, hx⟩ := fieldGo_first h0 hlh _ _ H (by rw [List.length_replicate]) (cutsN_some s 44) h
  unfold listB
  rw [rise_of _ none (picks_rise _) (fun y hy => ?_) (fun y hy => by cases hy), Bool.and_true]
  · have hm : x ∈ picks H lo (hi - lo + 1).toNat := (mem_picks _).2 ⟨(x - lo).toNat, by omega, by omega, by rw [show lo + ((x - lo).toNat : Int) = x by omega]; exact hx⟩
    cases hq : picks H lo (hi - lo + 1).toNat with
    | nil => rw [hq] at hm; cases hm
    | cons y r => rfl
  · obtain ⟨i, h1, rfl, _⟩ := (mem_picks _).1 hy
    omega
/-- Words that are a rule make a right one. -/
theorem rule_right {s : ByteArray} {l : List (List Int)} (h : pcO s = some l) : ∃ a b c d e, l = [a, b, c, d, e] ∧ cronB a b c d e = true := by
  unfold pcO at h
  split at h
  · unfold pcT at h
    split at h
    · split at h
      · rename_i hq
        simp only [Bool.and_eq_true, Option.isSome_iff_exists] at hq
        obtain ⟨⟨H1, e1⟩, ⟨H2, e2⟩, ⟨H3, e3⟩, ⟨H4, e4⟩, ⟨H5, e5⟩⟩ := hq
        refine ⟨_, _, _, _, _, (Option.some.inj h).symm, ?_⟩
        unfold cronB
        rw [field_right (by decide) (by decide) e1, field_right (by decide) (by decide) e2, field_right (by decide) (by decide) e3, field_right (by decide) (by decide) e4, field_right (by decide) (by decide) e5]
        rfl
      · cases h
    · cases h
  · cases h
end Go.Proofs.YtgeimliibddhmaaDoor

namespace Go.Proofs.YtgeimliibddhmaaDoor
open Go Go.RowKit
set_option linter.unusedVariables false

theorem pcN_len (s : ByteArray) (k : Nat) : (pcN (pcO s) k).length ≤ 60 := by
  unfold pcN
  cases h : pcO s with
  | none => simp
  | some l =>
    obtain ⟨a, b, c, d, e, rfl, hB⟩ := rule_right h
    unfold cronB at hB
    simp only [Bool.and_eq_true] at hB
    obtain ⟨b0, b1, b2, b3, b4⟩ := hB
    have n0 := list_len b0
    have n1 := list_len b1
    have n2 := list_len b2
    have n3 := list_len b3
    have n4 := list_len b4
    show ((([a, b, c, d, e] : List (List Int))[k]?).getD []).length ≤ 60
    rcases k with _ | _ | _ | _ | _ | k
    · show a.length ≤ 60; omega
    · show b.length ≤ 60; omega
    · show c.length ≤ 60; omega
    · show d.length ≤ 60; omega
    · show e.length ≤ 60; omega
    · simp

set_option maxRecDepth 10000 in
set_option maxHeartbeats 4000000 in
theorem law_ParseCron (s : ByteArray) (w : World) (hs0 : s.size ≤ maxLen) (hg : RchIs w) (hm : MaxIs w) (hsp : SpaceIs w) :
    Calls Tryd.prog 7 #[.string s] w fun e w' => e = .returned (.bool true) ∧ Below w.heap.size w w' := by
  unfold maxLen at hs0
  by_cases hbig : (1048576 : Int) < (s.size : Int)
  · go_enter Tryd.func7, Tryd.ntmps7
    go_wp2
    go_ret
    exact ⟨rfl, Below.refl _ _⟩
  · have hs : s.size ≤ 1048576 := by omega
    obtain ⟨q, hq⟩ : ∃ q, (pcO s).isSome = q := ⟨_, rfl⟩
    obtain ⟨L0, hL0⟩ : ∃ L, pcN (pcO s) 0 = L := ⟨_, rfl⟩
    have z0 : L0.length ≤ 60 := by rw [← hL0]; exact pcN_len s 0
    obtain ⟨m0, e0⟩ : ∃ m : Int, (L0.length : Int) = m := ⟨_, rfl⟩
    have x0 : m0 ≤ 1000 := by omega
    have g0 : 0 ≤ m0 := by omega
    obtain ⟨L1, hL1⟩ : ∃ L, pcN (pcO s) 1 = L := ⟨_, rfl⟩
    have z1 : L1.length ≤ 60 := by rw [← hL1]; exact pcN_len s 1
    obtain ⟨m1, e1⟩ : ∃ m : Int, (L1.length : Int) = m := ⟨_, rfl⟩
    have x1 : m1 ≤ 1000 := by omega
    have g1 : 0 ≤ m1 := by omega
    obtain ⟨L2, hL2⟩ : ∃ L, pcN (pcO s) 2 = L := ⟨_, rfl⟩
    have z2 : L2.length ≤ 60 := by rw [← hL2]; exact pcN_len s 2
    obtain ⟨m2, e2⟩ : ∃ m : Int, (L2.length : Int) = m := ⟨_, rfl⟩
    have x2 : m2 ≤ 1000 := by omega
    have g2 : 0 ≤ m2 := by omega
    obtain ⟨L3, hL3⟩ : ∃ L, pcN (pcO s) 3 = L := ⟨_, rfl⟩
    have z3 : L3.length ≤ 60 := by rw [← hL3]; exact pcN_len s 3
    obtain ⟨m3, e3⟩ : ∃ m : Int, (L3.length : Int) = m := ⟨_, rfl⟩
    have x3 : m3 ≤ 1000 := by omega
    have g3 : 0 ≤ m3 := by omega
    obtain ⟨L4, hL4⟩ : ∃ L, pcN (pcO s) 4 = L := ⟨_, rfl⟩
    have z4 : L4.length ≤ 60 := by rw [← hL4]; exact pcN_len s 4
    obtain ⟨m4, e4⟩ : ∃ m : Int, (L4.length : Int) = m := ⟨_, rfl⟩
    have x4 : m4 ≤ 1000 := by omega
    have g4 : 0 ≤ m4 := by omega
    have HS : Hid (∀ W, Calls Tryd.prog 19 #[.string s] W fun e w' => ∃ v0 v1 v2 v3 v4, e = .returned (.tuple #[.agg #[v0, v1, v2, v3, v4], .bool q]) ∧ ownsR w' W.heap.size 3 v0 L0 ∧ ownsR w' W.heap.size 3 v1 L1 ∧ ownsR w' W.heap.size 3 v2 L2 ∧ ownsR w' W.heap.size 3 v3 L3 ∧ ownsR w' W.heap.size 3 v4 L4 ∧ Below W.heap.size W w') := fun W => by
      rw [← hq, ← hL0, ← hL1, ← hL2, ← hL3, ← hL4]
      exact parseCron_any s W hs
    have HI : Hid (∀ W, Below w.heap.size w W → Calls Tryd.prog 15 #[.string s] W fun e w' => ∃ v0 v1 v2 v3 v4, e = .returned (.tuple #[.agg #[v0, v1, v2, v3, v4], .bool q]) ∧ ownsR w' W.heap.size 3 v0 L0 ∧ ownsR w' W.heap.size 3 v1 L1 ∧ ownsR w' W.heap.size 3 v2 L2 ∧ ownsR w' W.heap.size 3 v3 L3 ∧ ownsR w' W.heap.size 3 v4 L4 ∧ Below W.heap.size W w' ∧ Ap5 v0 v1 v2 v3 v4) := fun W hb => by
      rw [← hq, ← hL0, ← hL1, ← hL2, ← hL3, ← hL4]
      exact implParse_any s W hs (hg.up hb) (hm.up hb) (hsp.below hb)
    have HEQ : Hid (∀ (va vb vc vd ve ua ub uc ud ue : Value) (W : World), Reads W va L0 → Reads W vb L1 → Reads W vc L2 → Reads W vd L3 → Reads W ve L4 → Reads W ua L0 → Reads W ub L1 → Reads W uc L2 → Reads W ud L3 → Reads W ue L4 → Calls Tryd.prog 30 #[.agg #[va, vb, vc, vd, ve], .agg #[ua, ub, uc, ud, ue]] W fun x w' => x = .returned (.bool true) ∧ Below W.heap.size W w') := fun va vb vc vd ve ua ub uc ud ue W r0 r1 r2 r3 r4 t0 t1 t2 t3 t4 => eqCron_any va vb vc vd ve ua ub uc ud ue L0 L1 L2 L3 L4 W r0 r1 r2 r3 r4 t0 t1 t2 t3 t4 (by omega) (by omega) (by omega) (by omega) (by omega)
    have HLN : Hid ((L0.length : Int) = m0 ∧ (L1.length : Int) = m1 ∧ (L2.length : Int) = m2 ∧ (L3.length : Int) = m3 ∧ (L4.length : Int) = m4) := ⟨e0, e1, e2, e3, e4⟩
    clear hq hL0 hL1 hL2 hL3 hL4 e0 e1 e2 e3 e4 z0 z1 z2 z3 z4 hg hm hsp
    go_enter Tryd.func7, Tryd.ntmps7
    go_wp2_with fail
    refine (HS.out _).mono ?_
    rintro e w1 ⟨v0, v1, v2, v3, v4, rfl, o0, o1, o2, o3, o4, hb1⟩
    obtain ⟨ua0, un0, uc0, rfl⟩ := o0.slice3
    obtain ⟨ua1, un1, uc1, rfl⟩ := o1.slice3
    obtain ⟨ua2, un2, uc2, rfl⟩ := o2.slice3
    obtain ⟨ua3, un3, uc3, rfl⟩ := o3.slice3
    obtain ⟨ua4, un4, uc4, rfl⟩ := o4.slice3
    have HU : Hid (∀ W, Below w1.heap.size w1 W → Reads W (Value.slice ua0 un0 uc0) L0 ∧ Reads W (Value.slice ua1 un1 uc1) L1 ∧ Reads W (Value.slice ua2 un2 uc2) L2 ∧ Reads W (Value.slice ua3 un3 uc3) L3 ∧ Reads W (Value.slice ua4 un4 uc4) L4) := fun W hb => ⟨o0.reads.below hb, o1.reads.below hb, o2.reads.below hb, o3.reads.below hb, o4.reads.below hb⟩
    obtain ⟨W1, HW1⟩ : ∃ W, Hid (w1.alloc (.cells #[Value.slice ua0 un0 uc0, Value.slice ua1 un1 uc1, Value.slice ua2 un2 uc2, Value.slice ua3 un3 uc3, Value.slice ua4 un4 uc4] 26) = W) := ⟨_, rfl⟩
    have HZ1 : Hid (B5 26 W1 w1.heap.size (Value.slice ua0 un0 uc0) (Value.slice ua1 un1 uc1) (Value.slice ua2 un2 uc2) (Value.slice ua3 un3 uc3) (Value.slice ua4 un4 uc4)) := by show B5 _ _ _ _ _ _ _ _; rw [← HW1.out]; exact B5.new 26 w1 (Value.slice ua0 un0 uc0) (Value.slice ua1 un1 uc1) (Value.slice ua2 un2 uc2) (Value.slice ua3 un3 uc3) (Value.slice ua4 un4 uc4)
    have HB1 : Hid (Below w1.heap.size w1 W1) := by show Below _ _ _; rw [← HW1.out]; exact ba (Below.refl _ _) _
    have HC1 : Hid (Below w.heap.size w w1) := hb1
    have HS1 : Hid (W1.heap.size = w1.heap.size + 1) := by show _ = _; rw [← HW1.out]; simp
    clear o0 o1 o2 o3 o4 hb1 HS
    go_wp2_with (rw [HW1.out])
    clear HW1
    refine (HI.out _ (Below.on HC1.out HB1.out)).mono ?_
    rintro e w2 ⟨v0, v1, v2, v3, v4, rfl, o0, o1, o2, o3, o4, hb2, hA⟩
    obtain ⟨va0, vn0, vc0, rfl⟩ := o0.slice3
    obtain ⟨va1, vn1, vc1, rfl⟩ := o1.slice3
    obtain ⟨va2, vn2, vc2, rfl⟩ := o2.slice3
    obtain ⟨va3, vn3, vc3, rfl⟩ := o3.slice3
    obtain ⟨va4, vn4, vc4, rfl⟩ := o4.slice3
    have HA : Hid (Ap5 (Value.slice va0 vn0 vc0) (Value.slice va1 vn1 vc1) (Value.slice va2 vn2 vc2) (Value.slice va3 vn3 vc3) (Value.slice va4 vn4 vc4)) := hA
    obtain ⟨W2, HW2⟩ : ∃ W, Hid (w2.alloc (.cells #[Value.slice va0 vn0 vc0, Value.slice va1 vn1 vc1, Value.slice va2 vn2 vc2, Value.slice va3 vn3 vc3, Value.slice va4 vn4 vc4] 26) = W) := ⟨_, rfl⟩
    have HX2 : Hid (B5 26 W2 w2.heap.size (Value.slice va0 vn0 vc0) (Value.slice va1 vn1 vc1) (Value.slice va2 vn2 vc2) (Value.slice va3 vn3 vc3) (Value.slice va4 vn4 vc4)) := by show B5 _ _ _ _ _ _ _ _; rw [← HW2.out]; exact B5.new 26 w2 (Value.slice va0 vn0 vc0) (Value.slice va1 vn1 vc1) (Value.slice va2 vn2 vc2) (Value.slice va3 vn3 vc3) (Value.slice va4 vn4 vc4)
    have HZ2 : Hid (B5 26 W2 w1.heap.size (Value.slice ua0 un0 uc0) (Value.slice ua1 un1 uc1) (Value.slice ua2 un2 uc2) (Value.slice ua3 un3 uc3) (Value.slice ua4 un4 uc4)) := by show B5 _ _ _ _ _ _ _ _; rw [← HW2.out]; exact (HZ1.out.up hb2).alloc _
    have HB2 : Hid (Below w1.heap.size w1 W2) := by show Below _ _ _; rw [← HW2.out]; exact ba (Below.on HB1.out hb2) _
    have HL2 : Hid (W1.heap.size ≤ w2.heap.size) := hb2.size
    have HO0 : Hid (ownsR W2 W1.heap.size 3 (Value.slice va0 vn0 vc0) L0) := by show ownsR _ _ _ _ _; rw [← HW2.out]; exact o0.alloc _
    have HN0 : Hid (∀ b, b < W1.heap.size ∨ b = w2.heap.size → some b ≠ (Value.slice va0 vn0 vc0).ownBlock) := fun b hb e => by have := o0.lt b e.symm; omega
    have HO1 : Hid (ownsR W2 W1.heap.size 3 (Value.slice va1 vn1 vc1) L1) := by show ownsR _ _ _ _ _; rw [← HW2.out]; exact o1.alloc _
    have HN1 : Hid (∀ b, b < W1.heap.size ∨ b = w2.heap.size → some b ≠ (Value.slice va1 vn1 vc1).ownBlock) := fun b hb e => by have := o1.lt b e.symm; omega
    have HO2 : Hid (ownsR W2 W1.heap.size 3 (Value.slice va2 vn2 vc2) L2) := by show ownsR _ _ _ _ _; rw [← HW2.out]; exact o2.alloc _
    have HN2 : Hid (∀ b, b < W1.heap.size ∨ b = w2.heap.size → some b ≠ (Value.slice va2 vn2 vc2).ownBlock) := fun b hb e => by have := o2.lt b e.symm; omega
    have HO3 : Hid (ownsR W2 W1.heap.size 3 (Value.slice va3 vn3 vc3) L3) := by show ownsR _ _ _ _ _; rw [← HW2.out]; exact o3.alloc _
    have HN3 : Hid (∀ b, b < W1.heap.size ∨ b = w2.heap.size → some b ≠ (Value.slice va3 vn3 vc3).ownBlock) := fun b hb e => by have := o3.lt b e.symm; omega
    have HO4 : Hid (ownsR W2 W1.heap.size 3 (Value.slice va4 vn4 vc4) L4) := by show ownsR _ _ _ _ _; rw [← HW2.out]; exact o4.alloc _
    have HN4 : Hid (∀ b, b < W1.heap.size ∨ b = w2.heap.size → some b ≠ (Value.slice va4 vn4 vc4).ownBlock) := fun b hb e => by have := o4.lt b e.symm; omega
    clear o0 o1 o2 o3 o4 hb2 hA HZ1 HB1
    have p0 := HX2.out.c0
    have r0 := HZ2.out.c0
    have p1 := HX2.out.c1
    have r1 := HZ2.out.c1
    have p2 := HX2.out.c2
    have r2 := HZ2.out.c2
    have p3 := HX2.out.c3
    have r3 := HZ2.out.c3
    have p4 := HX2.out.c4
    have r4 := HZ2.out.c4
    go_wp2_with (rw [HW2.out])
    clear HW2
    have HU2 := HU.out _ HB2.out
    refine (HEQ.out _ _ _ _ _ _ _ _ _ _ _ HO0.out.reads HO1.out.reads HO2.out.reads HO3.out.reads HO4.out.reads HU2.1 HU2.2.1 HU2.2.2.1 HU2.2.2.2.1 HU2.2.2.2.2).mono ?_
    rintro e w3 ⟨rfl, hb3⟩
    have HX3 : Hid (B5 26 w3 w2.heap.size (Value.slice va0 vn0 vc0) (Value.slice va1 vn1 vc1) (Value.slice va2 vn2 vc2) (Value.slice va3 vn3 vc3) (Value.slice va4 vn4 vc4)) := HX2.out.up hb3
    have HZ3 : Hid (B5 26 w3 w1.heap.size (Value.slice ua0 un0 uc0) (Value.slice ua1 un1 uc1) (Value.slice ua2 un2 uc2) (Value.slice ua3 un3 uc3) (Value.slice ua4 un4 uc4)) := HZ2.out.up hb3
    have HB3 : Hid (Below w1.heap.size w1 w3) := Below.on HB2.out hb3
    have HO0' : Hid (ownsR w3 W1.heap.size 3 (Value.slice va0 vn0 vc0) L0) := HO0.out.all hb3
    have HO1' : Hid (ownsR w3 W1.heap.size 3 (Value.slice va1 vn1 vc1) L1) := HO1.out.all hb3
    have HO2' : Hid (ownsR w3 W1.heap.size 3 (Value.slice va2 vn2 vc2) L2) := HO2.out.all hb3
    have HO3' : Hid (ownsR w3 W1.heap.size 3 (Value.slice va3 vn3 vc3) L3) := HO3.out.all hb3
    have HO4' : Hid (ownsR w3 W1.heap.size 3 (Value.slice va4 vn4 vc4) L4) := HO4.out.all hb3
    have HL3 : Hid (W1.heap.size ≤ w3.heap.size) := by have := HX3.out.lt; have := HL2.out; show _ ≤ _; omega
    clear hb3 HU2 HX2 HZ2 HB2 HO0 HO1 HO2 HO3 HO4 p0 p1 p2 p3 p4 r0 r1 r2 r3 r4
    have p0 := HX3.out.c0
    have p1 := HX3.out.c1
    have p2 := HX3.out.c2
    have p3 := HX3.out.c3
    have p4 := HX3.out.c4
    have HMC : Hid (Calls Tryd.prog 31 #[.agg #[Value.slice va0 vn0 vc0, Value.slice va1 vn1 vc1, Value.slice va2 vn2 vc2, Value.slice va3 vn3 vc3, Value.slice va4 vn4 vc4], .int .i64 1] w3 fun e w' => e = .returned (.int .i64 (1 + m0 + m1 + m2 + m3 + m4)) ∧ Mk5 w' W1.heap.size (Value.slice va0 vn0 vc0) (Value.slice va1 vn1 vc1) (Value.slice va2 vn2 vc2) (Value.slice va3 vn3 vc3) (Value.slice va4 vn4 vc4) L0 L1 L2 L3 L4 m0 m1 m2 m3 m4 ∧ Below W1.heap.size w3 w' ∧ Kp5 w3 w' (Value.slice va0 vn0 vc0) (Value.slice va1 vn1 vc1) (Value.slice va2 vn2 vc2) (Value.slice va3 vn3 vc3) (Value.slice va4 vn4 vc4)) := markCron_any va0 vn0 vc0 L0 va1 vn1 vc1 L1 va2 vn2 vc2 L2 va3 vn3 vc3 L3 va4 vn4 vc4 L4 m0 m1 m2 m3 m4 W1.heap.size w3 HL3.out HO0'.out HLN.out.1 x0 HO1'.out HLN.out.2.1 x1 HO2'.out HLN.out.2.2.1 x2 HO3'.out HLN.out.2.2.2.1 x3 HO4'.out HLN.out.2.2.2.2 x4 HA.out
    go_wp2_with fail
    refine HMC.out.mono ?_
    rintro e w4 ⟨rfl, hM4, hb4, hK4⟩
    have HX4 : Hid (B5 26 w4 w2.heap.size (Value.slice va0 vn0 vc0) (Value.slice va1 vn1 vc1) (Value.slice va2 vn2 vc2) (Value.slice va3 vn3 vc3) (Value.slice va4 vn4 vc4)) := (hK4 _ HX3.out.lt (HN0.out _ (.inr rfl)) (HN1.out _ (.inr rfl)) (HN2.out _ (.inr rfl)) (HN3.out _ (.inr rfl)) (HN4.out _ (.inr rfl))).trans HX3.out
    have HZ4 : Hid (B5 26 w4 w1.heap.size (Value.slice ua0 un0 uc0) (Value.slice ua1 un1 uc1) (Value.slice ua2 un2 uc2) (Value.slice ua3 un3 uc3) (Value.slice ua4 un4 uc4)) := (hK4 _ HZ3.out.lt (HN0.out _ (.inl (by have := HS1.out; omega))) (HN1.out _ (.inl (by have := HS1.out; omega))) (HN2.out _ (.inl (by have := HS1.out; omega))) (HN3.out _ (.inl (by have := HS1.out; omega))) (HN4.out _ (.inl (by have := HS1.out; omega)))).trans HZ3.out
    have HB4 : Hid (Below w1.heap.size w1 w4) := HB3.out.trans (hb4.mono (by have := HS1.out; omega))
    have HM4 : Hid (Mk5 w4 W1.heap.size (Value.slice va0 vn0 vc0) (Value.slice va1 vn1 vc1) (Value.slice va2 vn2 vc2) (Value.slice va3 vn3 vc3) (Value.slice va4 vn4 vc4) L0 L1 L2 L3 L4 m0 m1 m2 m3 m4) := hM4
    clear hM4 hb4 hK4 HX3 HZ3 HB3 HO0' HO1' HO2' HO3' HO4' p0 p1 p2 p3 p4 HMC
    have HHE : Hid (∀ W, Mk5 W W1.heap.size (Value.slice va0 vn0 vc0) (Value.slice va1 vn1 vc1) (Value.slice va2 vn2 vc2) (Value.slice va3 vn3 vc3) (Value.slice va4 vn4 vc4) L0 L1 L2 L3 L4 m0 m1 m2 m3 m4 → Calls Tryd.prog 32 #[.agg #[Value.slice va0 vn0 vc0, Value.slice va1 vn1 vc1, Value.slice va2 vn2 vc2, Value.slice va3 vn3 vc3, Value.slice va4 vn4 vc4], .int .i64 1] W fun e w' => e = .returned (.int .i64 (1 + m0 + m1 + m2 + m3 + m4)) ∧ Below W.heap.size W w') := fun W hM => heldCron_any va0 vn0 vc0 L0 va1 vn1 vc1 L1 va2 vn2 vc2 L2 va3 vn3 vc3 L3 va4 vn4 vc4 L4 m0 m1 m2 m3 m4 W1.heap.size W hM HLN.out.1 x0 HLN.out.2.1 x1 HLN.out.2.2.1 x2 HLN.out.2.2.2.1 x3 HLN.out.2.2.2.2 x4
    have p0 := HX4.out.c0
    have p1 := HX4.out.c1
    have p2 := HX4.out.c2
    have p3 := HX4.out.c3
    have p4 := HX4.out.c4
    go_wp2_with fail
    refine (HHE.out _ HM4.out).mono ?_
    rintro e w5 ⟨rfl, hb5⟩
    have HX5 : Hid (B5 26 w5 w2.heap.size (Value.slice va0 vn0 vc0) (Value.slice va1 vn1 vc1) (Value.slice va2 vn2 vc2) (Value.slice va3 vn3 vc3) (Value.slice va4 vn4 vc4)) := HX4.out.up hb5
    have HZ5 : Hid (B5 26 w5 w1.heap.size (Value.slice ua0 un0 uc0) (Value.slice ua1 un1 uc1) (Value.slice ua2 un2 uc2) (Value.slice ua3 un3 uc3) (Value.slice ua4 un4 uc4)) := HZ4.out.up hb5
    have HB5 : Hid (Below w1.heap.size w1 w5) := Below.on HB4.out hb5
    have HM5 : Hid (Mk5 w5 W1.heap.size (Value.slice va0 vn0 vc0) (Value.slice va1 vn1 vc1) (Value.slice va2 vn2 vc2) (Value.slice va3 vn3 vc3) (Value.slice va4 vn4 vc4) L0 L1 L2 L3 L4 m0 m1 m2 m3 m4) := HM4.out.up hb5
    clear hb5 HX4 HZ4 HB4 HM4 p0 p1 p2 p3 p4
    go_wp2_with fail
    refine (HI.out _ (HC1.out.trans (HB5.out.mono HC1.out.size))).mono ?_
    rintro e w6 ⟨v0, v1, v2, v3, v4, rfl, o0, o1, o2, o3, o4, hb6, -⟩
    obtain ⟨ya0, yn0, yc0, rfl⟩ := o0.slice3
    obtain ⟨ya1, yn1, yc1, rfl⟩ := o1.slice3
    obtain ⟨ya2, yn2, yc2, rfl⟩ := o2.slice3
    obtain ⟨ya3, yn3, yc3, rfl⟩ := o3.slice3
    obtain ⟨ya4, yn4, yc4, rfl⟩ := o4.slice3
    obtain ⟨W6, HW6⟩ : ∃ W, Hid (w6.alloc (.cells #[Value.slice ya0 yn0 yc0, Value.slice ya1 yn1 yc1, Value.slice ya2 yn2 yc2, Value.slice ya3 yn3 yc3, Value.slice ya4 yn4 yc4] 26) = W) := ⟨_, rfl⟩
    have HY6 : Hid (B5 26 W6 w6.heap.size (Value.slice ya0 yn0 yc0) (Value.slice ya1 yn1 yc1) (Value.slice ya2 yn2 yc2) (Value.slice ya3 yn3 yc3) (Value.slice ya4 yn4 yc4)) := by show B5 _ _ _ _ _ _ _ _; rw [← HW6.out]; exact B5.new 26 w6 (Value.slice ya0 yn0 yc0) (Value.slice ya1 yn1 yc1) (Value.slice ya2 yn2 yc2) (Value.slice ya3 yn3 yc3) (Value.slice ya4 yn4 yc4)
    have HX6 : Hid (B5 26 W6 w2.heap.size (Value.slice va0 vn0 vc0) (Value.slice va1 vn1 vc1) (Value.slice va2 vn2 vc2) (Value.slice va3 vn3 vc3) (Value.slice va4 vn4 vc4)) := by show B5 _ _ _ _ _ _ _ _; rw [← HW6.out]; exact (HX5.out.up hb6).alloc _
    have HZ6 : Hid (B5 26 W6 w1.heap.size (Value.slice ua0 un0 uc0) (Value.slice ua1 un1 uc1) (Value.slice ua2 un2 uc2) (Value.slice ua3 un3 uc3) (Value.slice ua4 un4 uc4)) := by show B5 _ _ _ _ _ _ _ _; rw [← HW6.out]; exact (HZ5.out.up hb6).alloc _
    have HB6 : Hid (Below w1.heap.size w1 W6) := by show Below _ _ _; rw [← HW6.out]; exact ba (Below.on HB5.out hb6) _
    have HM6 : Hid (Mk5 W6 W1.heap.size (Value.slice va0 vn0 vc0) (Value.slice va1 vn1 vc1) (Value.slice va2 vn2 vc2) (Value.slice va3 vn3 vc3) (Value.slice va4 vn4 vc4) L0 L1 L2 L3 L4 m0 m1 m2 m3 m4) := by show Mk5 _ _ _ _ _ _ _ _ _ _ _ _ _ _ _ _ _; rw [← HW6.out]; exact (HM5.out.up hb6).up (ba (Below.refl _ _) _)
    have HO6 : Hid (Reads W6 (Value.slice ya0 yn0 yc0) L0 ∧ Reads W6 (Value.slice ya1 yn1 yc1) L1 ∧ Reads W6 (Value.slice ya2 yn2 yc2) L2 ∧ Reads W6 (Value.slice ya3 yn3 yc3) L3 ∧ Reads W6 (Value.slice ya4 yn4 yc4) L4) := by
      show Reads _ _ _ ∧ _
      rw [← HW6.out]
      exact ⟨o0.reads.alloc _, o1.reads.alloc _, o2.reads.alloc _, o3.reads.alloc _, o4.reads.alloc _⟩
    clear o0 o1 o2 o3 o4 hb6 HX5 HZ5 HB5 HM5
    have p0 := HY6.out.c0
    have r0 := HZ6.out.c0
    have p1 := HY6.out.c1
    have r1 := HZ6.out.c1
    have p2 := HY6.out.c2
    have r2 := HZ6.out.c2
    have p3 := HY6.out.c3
    have r3 := HZ6.out.c3
    have p4 := HY6.out.c4
    have r4 := HZ6.out.c4
    go_wp2_with (rw [HW6.out])
    clear HW6
    have HU6 := HU.out _ HB6.out
    refine (HEQ.out _ _ _ _ _ _ _ _ _ _ _ HO6.out.1 HO6.out.2.1 HO6.out.2.2.1 HO6.out.2.2.2.1 HO6.out.2.2.2.2 HU6.1 HU6.2.1 HU6.2.2.1 HU6.2.2.2.1 HU6.2.2.2.2).mono ?_
    rintro e w7 ⟨rfl, hb7⟩
    have HX7 : Hid (B5 26 w7 w2.heap.size (Value.slice va0 vn0 vc0) (Value.slice va1 vn1 vc1) (Value.slice va2 vn2 vc2) (Value.slice va3 vn3 vc3) (Value.slice va4 vn4 vc4)) := HX6.out.up hb7
    have HB7 : Hid (Below w1.heap.size w1 w7) := Below.on HB6.out hb7
    have HM7 : Hid (Mk5 w7 W1.heap.size (Value.slice va0 vn0 vc0) (Value.slice va1 vn1 vc1) (Value.slice va2 vn2 vc2) (Value.slice va3 vn3 vc3) (Value.slice va4 vn4 vc4) L0 L1 L2 L3 L4 m0 m1 m2 m3 m4) := HM6.out.up hb7
    clear hb7 HU6 HY6 HX6 HZ6 HB6 HM6 HO6 p0 p1 p2 p3 p4 r0 r1 r2 r3 r4
    have p0 := HX7.out.c0
    have p1 := HX7.out.c1
    have p2 := HX7.out.c2
    have p3 := HX7.out.c3
    have p4 := HX7.out.c4
    go_wp2_with fail
    refine (HHE.out _ HM7.out).mono ?_
    rintro e w8 ⟨rfl, hb8⟩
    have HB8 : Hid (Below w1.heap.size w1 w8) := Below.on HB7.out hb8
    clear hb8 HX7 HB7 HM7 p0 p1 p2 p3 p4
    go_wp2
    go_ret
    exact ⟨rfl, HC1.out.trans (HB8.out.mono HC1.out.size)⟩
end Go.Proofs.YtgeimliibddhmaaDoor

namespace Go.Proofs.YtgeimliibddhmaaDoor
open Go Go.RowKit
set_option linter.unusedVariables false

set_option maxRecDepth 10000 in
set_option maxHeartbeats 1000000 in
theorem implCronOk_any (va vb vc vd ve : Value) (a b c d e : List Int) (w : World) (h1 : Reads w va a) (h2 : Reads w vb b) (h3 : Reads w vc c) (h4 : Reads w vd d) (h5 : Reads w ve e)
    (n1 : a.length ≤ 1048577) (n2 : b.length ≤ 1048577) (n3 : c.length ≤ 1048577) (n4 : d.length ≤ 1048577) (n5 : e.length ≤ 1048577) (hg : RchIs w) :
    Calls Tryd.prog 16 #[.agg #[va, vb, vc, vd, ve]] w fun x w' => x = .returned (.bool (cronB a b c d e)) ∧ Below w.heap.size w w' := by
  obtain ⟨ao, ac, rfl, _⟩ := id h1
  obtain ⟨bo, bc, rfl, _⟩ := id h2
  obtain ⟨co, cc, rfl, _⟩ := id h3
  obtain ⟨d0, dc, rfl, _⟩ := id h4
  obtain ⟨eo, ec, rfl, _⟩ := id h5
  have HR : Hid (∀ W, Below w.heap.size w W → Calls Tryd.prog 37 #[.agg #[.slice ao a.length ac, .slice bo b.length bc, .slice co c.length cc, .slice d0 d.length dc, .slice eo e.length ec]] W fun x w' => x = .returned (.tuple #[.agg (rulA (ruleP a b c d e)), .bool (cronB a b c d e)]) ∧ Below W.heap.size W w') := fun W hb => ruleOf_any _ _ _ _ _ a b c d e W (h1.below hb) (h2.below hb) (h3.below hb) (h4.below hb) (h5.below hb) n1 n2 n3 n4 n5 (hg.up hb)
  have HG : Hid (∀ W, Below w.heap.size w W → RchIs W) := fun W hb => hg.up hb
  clear h1 h2 h3 h4 h5 n1 n2 n3 n4 n5 hg
  obtain ⟨r, HRP⟩ : ∃ r, Hid (ruleP a b c d e = r) := ⟨_, rfl⟩
  rw [HRP.out] at HR
  obtain ⟨q, hq⟩ : ∃ q, cronB a b c d e = q := ⟨_, rfl⟩
  have HQ : Hid (cronB a b c d e = q) := hq
  rw [hq] at HR
  rw [hq]
  clear HG HQ hq
  generalize a.length = la at *
  generalize b.length = lb at *
  generalize c.length = lc at *
  generalize d.length = ld at *
  generalize e.length = le at *
  go_enter Tryd.func16, Tryd.ntmps16
  go_wp2_with fail
  refine (HR.out _ (ba (Below.refl _ _) _)).mono ?_
  rintro x w1 ⟨rfl, hb1⟩
  have B1 := below_new hb1
  clear hb1 HR
  have hz0 : w.heap.size ≤ w1.heap.size := B1.size
  have HA : Hid (Rb (w1.alloc (.cells (rulA fun _ _ => false) 57)) w1.heap.size (fun _ _ => false)) := Rb.new w1 _ 57 rfl
  obtain ⟨W, HW⟩ : ∃ W, Hid (((w1.alloc (.cells (rulA fun _ _ => false) 57)).setCells w1.heap.size 0 (rulA r).toList) = W) := ⟨_, rfl⟩
  have HZ : Hid (Rb W w1.heap.size r) := by show Rb _ _ _; rw [← HW.out]; exact HA.out.setAll r
  have BW : Below w.heap.size w W := by rw [← HW.out]; exact below_setCells hz0 _ _ _ (ba B1 _)
  clear B1
  go_wp2_with (first | (refine wpr_alloc rfl rfl ?_) | (refine wpr_store HA.out r (.tmp 3) (.tmp 8) rfl rfl rfl rfl ?_; rw [HW.out]))
  go_ret
  exact ⟨rfl, BW⟩
set_option maxRecDepth 10000 in
set_option maxHeartbeats 1000000 in
theorem implFires_any (va vb vc vd ve : Value) (a b c d e : List Int) (m : Int) (w : World) (h1 : Reads w va a) (h2 : Reads w vb b) (h3 : Reads w vc c) (h4 : Reads w vd d) (h5 : Reads w ve e)
    (n1 : a.length ≤ 1048577) (n2 : b.length ≤ 1048577) (n3 : c.length ≤ 1048577) (n4 : d.length ≤ 1048577) (n5 : e.length ≤ 1048577) (hg : RchIs w) :
    Calls Tryd.prog 25 #[.agg #[va, vb, vc, vd, ve], .int .i64 m] w fun x w' => x = .returned (.bool (cronB a b c d e && firesB a b c d e m)) ∧ Below w.heap.size w w' := by
  obtain ⟨ao, ac, rfl, _⟩ := id h1
  obtain ⟨bo, bc, rfl, _⟩ := id h2
  obtain ⟨co, cc, rfl, _⟩ := id h3
  obtain ⟨d0, dc, rfl, _⟩ := id h4
  obtain ⟨eo, ec, rfl, _⟩ := id h5
  have HR : Hid (∀ W, Below w.heap.size w W → Calls Tryd.prog 37 #[.agg #[.slice ao a.length ac, .slice bo b.length bc, .slice co c.length cc, .slice d0 d.length dc, .slice eo e.length ec]] W fun x w' => x = .returned (.tuple #[.agg (rulA (ruleP a b c d e)), .bool (cronB a b c d e)]) ∧ Below W.heap.size W w') := fun W hb => ruleOf_any _ _ _ _ _ a b c d e W (h1.below hb) (h2.below hb) (h3.below hb) (h4.below hb) (h5.below hb) n1 n2 n3 n4 n5 (hg.up hb)
  have HG : Hid (∀ W, Below w.heap.size w W → RchIs W) := fun W hb => hg.up hb
  clear h1 h2 h3 h4 h5 n1 n2 n3 n4 n5 hg
  obtain ⟨r, HRP⟩ : ∃ r, Hid (ruleP a b c d e = r) := ⟨_, rfl⟩
  rw [HRP.out] at HR
  obtain ⟨q, hq⟩ : ∃ q, cronB a b c d e = q := ⟨_, rfl⟩
  have HQ : Hid (cronB a b c d e = q) := hq
  rw [hq] at HR
  rw [hq]
  cases q with
  | false =>
    clear HG HQ hq
    obtain ⟨y, HY⟩ : ∃ y, Hid (firesB a b c d e m = y) := ⟨_, rfl⟩
    rw [HY.out]
    generalize a.length = la at *
    generalize b.length = lb at *
    generalize c.length = lc at *
    generalize d.length = ld at *
    generalize e.length = le at *
    go_enter Tryd.func25, Tryd.ntmps25
    go_wp2_with fail
    refine (HR.out _ (ba (Below.refl _ _) _)).mono ?_
    rintro x w1 ⟨rfl, hb1⟩
    have B1 := below_new hb1
    clear hb1 HR
    have hz0 : w.heap.size ≤ w1.heap.size := B1.size
    have HA : Hid (Rb (w1.alloc (.cells (rulA fun _ _ => false) 57)) w1.heap.size (fun _ _ => false)) := Rb.new w1 _ 57 rfl
    obtain ⟨W, HW⟩ : ∃ W, Hid (((w1.alloc (.cells (rulA fun _ _ => false) 57)).setCells w1.heap.size 0 (rulA r).toList) = W) := ⟨_, rfl⟩
    have HZ : Hid (Rb W w1.heap.size r) := by show Rb _ _ _; rw [← HW.out]; exact HA.out.setAll r
    have BW : Below w.heap.size w W := by rw [← HW.out]; exact below_setCells hz0 _ _ _ (ba B1 _)
    clear B1
    go_wp2_with (first | (refine wpr_alloc rfl rfl ?_) | (refine wpr_store HA.out r (.tmp 5) (.tmp 10) rfl rfl rfl rfl ?_; rw [HW.out]))
    go_ret
    exact ⟨rfl, BW⟩
  | true =>
    have HM : Hid (r = mem5 a b c d e) := HRP.out.symm.trans (ruleP_yes hq)
    have HD : Hid (∀ W, Below w.heap.size w W → Calls Tryd.prog 56 #[.agg (rulA r), .int .i64 m] W fun x w' => x = .returned (.bool (dayW c d e m)) ∧ Below W.heap.size W w') := fun W hb => by rw [HM.out]; exact onDay_all W hq (HG.out W hb)
    obtain ⟨t, HT⟩ : ∃ t, Hid (dayW c d e m = t) := ⟨_, rfl⟩
    rw [HT.out] at HD
    have HF0 : Hid (t = false → firesB a b c d e m = false) := fun ht => by
      have h0 := HT.out.trans ht
      by_cases hm : 0 ≤ m ∧ m ≤ 68374079
      · unfold dayW at h0
        rw [decide_eq_true hm, Bool.true_and] at h0
        rw [fires_time hm.1 hm.2, h0, Bool.and_false]
      · exact fires_out hm
    have HF1 : Hid (t = true → (0 ≤ m ∧ m ≤ 68374079) ∧ firesB a b c d e m = timeQ r m) := fun ht => by
      have h0 := HT.out.trans ht
      unfold dayW at h0
      rw [Bool.and_eq_true] at h0
      have hm := of_decide_eq_true h0.1
      exact ⟨hm, by rw [fires_time hm.1 hm.2, h0.2, Bool.and_true, HM.out]⟩
    clear HM HG HQ hq HT
    obtain ⟨y, HY⟩ : ∃ y, Hid (firesB a b c d e m = y) := ⟨_, rfl⟩
    rw [HY.out] at HF0 HF1
    rw [HY.out]
    clear HY
    generalize a.length = la at *
    generalize b.length = lb at *
    generalize c.length = lc at *
    generalize d.length = ld at *
    generalize e.length = le at *
    go_enter Tryd.func25, Tryd.ntmps25
    go_wp2_with fail
    refine (HR.out _ (ba (Below.refl _ _) _)).mono ?_
    rintro x w1 ⟨rfl, hb1⟩
    have B1 := below_new hb1
    clear hb1 HR
    have hz0 : w.heap.size ≤ w1.heap.size := B1.size
    have HA : Hid (Rb (w1.alloc (.cells (rulA fun _ _ => false) 57)) w1.heap.size (fun _ _ => false)) := Rb.new w1 _ 57 rfl
    obtain ⟨W, HW⟩ : ∃ W, Hid (((w1.alloc (.cells (rulA fun _ _ => false) 57)).setCells w1.heap.size 0 (rulA r).toList) = W) := ⟨_, rfl⟩
    have HZ : Hid (Rb W w1.heap.size r) := by show Rb _ _ _; rw [← HW.out]; exact HA.out.setAll r
    have BW : Below w.heap.size w W := by rw [← HW.out]; exact below_setCells hz0 _ _ _ (ba B1 _)
    clear B1
    go_wp2_with (first | (refine wpr_alloc rfl rfl ?_) | (refine wpr_store HA.out r (.tmp 5) (.tmp 10) rfl rfl rfl rfl ?_; rw [HW.out]) | (refine wpr_load_g HZ.out (.tmp 5) rfl rfl rfl ?_))
    refine (HD.out _ BW).mono ?_
    rintro x w2 ⟨rfl, hb2⟩
    have B2 := Below.on BW hb2
    have HZ2 : Hid (Rb w2 w1.heap.size r) := HZ.out.up hb2
    clear hb2
    cases t with
    | false =>
      have HF := HF0.out rfl
      go_wp2
      go_ret
      exact ⟨by rw [HF]; rfl, B2⟩
    | true =>
      have HF := HF1.out rfl
      have HT : Hid (∀ W, Calls Tryd.prog 57 #[.agg (rulA r), .int .i64 m] W fun e w' => e = .returned (.bool (timeQ r m)) ∧ Below W.heap.size W w') := fun W => atTime_any r m W HF.1.1 (by have := HF.1.2; omega)
      have HF2 : Hid (y = timeQ r m) := HF.2
      clear HF
      go_wp2_with (refine wpr_load_g HZ2.out (.tmp 5) rfl rfl rfl ?_)
      refine (HT.out _).mono ?_
      rintro x w3 ⟨rfl, hb3⟩
      have B3 := Below.on B2 hb3
      clear hb3
      go_wp2
      go_ret
      exact ⟨by rw [HF2.out]; rfl, B3⟩
end Go.Proofs.YtgeimliibddhmaaDoor

namespace Go.Proofs.YtgeimliibddhmaaDoor
open Go Go.RowKit
set_option linter.unusedVariables false

theorem sameInts_val {va vb : Value} {l : List Int} {w : World} (ha : Reads w va l) (hb : Reads w vb l) (hn : l.length ≤ 1048577) : Calls Tryd.prog 17 #[va, vb] w fun e w' => e = .returned (.bool true) ∧ Below w.heap.size w w' := by
  obtain ⟨ao, c, rfl, _⟩ := id ha
  obtain ⟨bo, d, rfl, _⟩ := id hb
  exact sameInts_any ao bo l.length c d l w ha hb hn
set_option maxRecDepth 10000 in
set_option maxHeartbeats 8000000 in
theorem law_FnRules (v : Value) (n : Nat) (w : World) (hn : n ≤ 9223372036854775807) (hc : CodeAt w w.heap.size v n) (hg : RchIs w) (hm : MaxIs w) (hsp : SpaceIs w) (hpow : PowIs w) :
    Calls Tryd.prog 3 #[v] w fun e w' => e = .returned (.bool true) ∧ Below w.heap.size w w' := by
  have HC : Hid (CodeAt w w.heap.size v n) := hc
  have HG : Hid (∀ W, Below w.heap.size w W → RchIs W) := fun W hb => hg.up hb
  have HPW : Hid (∀ W, Below w.heap.size w W → PowIs W) := fun W hb => hpow.below hb
  have HPI : Hid (∀ (s : ByteArray) (W : World), s.size ≤ 1048576 → Below w.heap.size w W → Calls Tryd.prog 15 #[.string s] W (PcI s W)) := fun s W hs hb => implParse_any s W hs (hg.up hb) (hm.up hb) (hsp.below hb)
  obtain ⟨va, cap, rfl, -⟩ := hc
  clear hg hm hsp hpow
  by_cases hbig : 1048576 < n
  · have HB : Hid (∀ w, Calls Tryd.prog 12 #[.slice va n cap] w fun e w' => e = .returned (.bool true) ∧ w' = w) := by
      intro w; have := big_any va n cap w hn; rwa [decide_eq_true hbig] at this
    go_enter Tryd.func3, Tryd.ntmps3
    go_wp2_with (go_at_call 12; refine (HB.out _).mono ?_; rintro e w1 ⟨rfl, hw⟩; have hw2 := hw.symm; subst hw2)
    go_ret
    exact ⟨rfl, Below.refl _ _⟩
  · have HB : Hid (∀ w, Calls Tryd.prog 12 #[.slice va n cap] w fun e w' => e = .returned (.bool false) ∧ w' = w) := by
      intro w; have := big_any va n cap w hn; rwa [decide_eq_false hbig] at this
    have HN : Hid (n ≤ 1048576) := by show n ≤ 1048576; omega
    go_enter Tryd.func3, Tryd.ntmps3
    go_wp2_with fail
    refine (HB.out _).mono ?_
    rintro e w1 ⟨rfl, hw⟩
    have hw2 := hw.symm
    subst hw2
    clear hw HB
    go_wp2_with fail
    refine (drawCron_any _ n _ HN.out HC.out).mono ?_
    rintro x w2 ⟨v0, v1, v2, v3, v4, a, b, c, d, e, m, rfl, ⟨⟨r0, r1, r2, r3, r4⟩, hcr⟩, -, -, B2⟩
    obtain ⟨pa0, pc0, rfl, -⟩ := id r0
    obtain ⟨pn0, hpn0⟩ : ∃ q, a.length = q := ⟨_, rfl⟩
    rw [hpn0] at r0
    obtain ⟨pa1, pc1, rfl, -⟩ := id r1
    obtain ⟨pn1, hpn1⟩ : ∃ q, b.length = q := ⟨_, rfl⟩
    rw [hpn1] at r1
    obtain ⟨pa2, pc2, rfl, -⟩ := id r2
    obtain ⟨pn2, hpn2⟩ : ∃ q, c.length = q := ⟨_, rfl⟩
    rw [hpn2] at r2
    obtain ⟨pa3, pc3, rfl, -⟩ := id r3
    obtain ⟨pn3, hpn3⟩ : ∃ q, d.length = q := ⟨_, rfl⟩
    rw [hpn3] at r3
    obtain ⟨pa4, pc4, rfl, -⟩ := id r4
    obtain ⟨pn4, hpn4⟩ : ∃ q, e.length = q := ⟨_, rfl⟩
    rw [hpn4] at r4
    rw [hpn0, hpn1, hpn2, hpn3, hpn4]
    clear hpn0 hpn1 hpn2 hpn3 hpn4
    have HSH : Hid (a.length ≤ 60 ∧ b.length ≤ 24 ∧ c.length ≤ 31 ∧ d.length ≤ 12 ∧ e.length ≤ 7) := cron_short hcr
    have HR : Hid (∀ W, Below w2.heap.size w2 W → Reads W (Value.slice pa0 pn0 pc0) a ∧ Reads W (Value.slice pa1 pn1 pc1) b ∧ Reads W (Value.slice pa2 pn2 pc2) c ∧ Reads W (Value.slice pa3 pn3 pc3) d ∧ Reads W (Value.slice pa4 pn4 pc4) e) := fun W hb => ⟨r0.below hb, r1.below hb, r2.below hb, r3.below hb, r4.below hb⟩
    have HCR : Hid (cronB a b c d e = true) := hcr
    obtain ⟨T, HT⟩ : ∃ T, Hid (cronX a b c d e = T) := ⟨_, rfl⟩
    have HTS : Hid (T.size ≤ 1000) := by show T.size ≤ _; rw [← HT.out]; exact cronX_size a b c d e
    have HTX : Hid (∀ (va vb vc vd ve : Value) (W : World), Below w.heap.size w W → Reads W va a → Reads W vb b → Reads W vc c → Reads W vd d → Reads W ve e → Calls Tryd.prog 14 #[.agg #[va, vb, vc, vd, ve]] W fun x w' => x = .returned (.tuple #[.string T, .bool true]) ∧ Below W.heap.size W w') := fun va vb vc vd ve W hb r0 r1 r2 r3 r4 => by
      have hsh := HSH.out
      have := implText_any va vb vc vd ve a b c d e W r0 r1 r2 r3 r4 (by omega) (by omega) (by omega) (by omega) (by omega) (HG.out W hb) (HPW.out W hb)
      rw [HT.out, HCR.out] at this
      exact this
    have HOK : Hid (∀ W, Below w2.heap.size w2 W → Below w.heap.size w W → Calls Tryd.prog 16 #[.agg #[Value.slice pa0 pn0 pc0, Value.slice pa1 pn1 pc1, Value.slice pa2 pn2 pc2, Value.slice pa3 pn3 pc3, Value.slice pa4 pn4 pc4]] W fun x w' => x = .returned (.bool true) ∧ Below W.heap.size W w') := fun W h1 hb => by
      have hsh := HSH.out
      obtain ⟨r0, r1, r2, r3, r4⟩ := HR.out W h1
      have := implCronOk_any _ _ _ _ _ a b c d e W r0 r1 r2 r3 r4 (by omega) (by omega) (by omega) (by omega) (by omega) (HG.out W hb)
      rw [HCR.out] at this
      exact this
    have HPO : Hid (pcO T = some [a, b, c, d, e]) := by
      show _ = _
      rw [← HT.out]
      unfold cronX
      rw [HCR.out]
      exact rule_back HCR.out
    have HPT : Hid (∀ W, Below w.heap.size w W → Calls Tryd.prog 15 #[.string T] W fun e' w' => ∃ v0 v1 v2 v3 v4, e' = .returned (.tuple #[.agg #[v0, v1, v2, v3, v4], .bool true]) ∧ ownsR w' W.heap.size 3 v0 a ∧ ownsR w' W.heap.size 3 v1 b ∧ ownsR w' W.heap.size 3 v2 c ∧ ownsR w' W.heap.size 3 v3 d ∧ ownsR w' W.heap.size 3 v4 e ∧ Below W.heap.size W w') := fun W hb => by
      refine (HPI.out T W (by have := HTS.out; omega) hb).mono ?_
      rintro e' w' ⟨v0, v1, v2, v3, v4, rfl, o0, o1, o2, o3, o4, hb', -⟩
      rw [HPO.out] at o0 o1 o2 o3 o4 ⊢
      exact ⟨_, _, _, _, _, rfl, o0, o1, o2, o3, o4, hb'⟩
    obtain ⟨W2, HW2⟩ : ∃ W, Hid (w2.alloc (.cells #[Value.slice pa0 pn0 pc0, Value.slice pa1 pn1 pc1, Value.slice pa2 pn2 pc2, Value.slice pa3 pn3 pc3, Value.slice pa4 pn4 pc4] 26) = W) := ⟨_, rfl⟩
    have HZ2 : Hid (B5 26 W2 w2.heap.size (Value.slice pa0 pn0 pc0) (Value.slice pa1 pn1 pc1) (Value.slice pa2 pn2 pc2) (Value.slice pa3 pn3 pc3) (Value.slice pa4 pn4 pc4)) := by show B5 _ _ _ _ _ _ _ _; rw [← HW2.out]; exact B5.new 26 w2 (Value.slice pa0 pn0 pc0) (Value.slice pa1 pn1 pc1) (Value.slice pa2 pn2 pc2) (Value.slice pa3 pn3 pc3) (Value.slice pa4 pn4 pc4)
    have HA2 : Hid (Below w2.heap.size w2 W2) := by show Below _ _ _; rw [← HW2.out]; exact ba (Below.refl _ _) _
    have HB2 : Hid (Below w.heap.size w w2) := B2
    clear r0 r1 r2 r3 r4 hcr B2 HPO
    have q0 := HZ2.out.c0
    have q1 := HZ2.out.c1
    have q2 := HZ2.out.c2
    have q3 := HZ2.out.c3
    have q4 := HZ2.out.c4
    go_wp2_with (rw [HW2.out])
    clear HW2
    have h9 := HR.out _ HA2.out
    refine (HTX.out _ _ _ _ _ _ (Below.on HB2.out HA2.out) h9.1 h9.2.1 h9.2.2.1 h9.2.2.2.1 h9.2.2.2.2).mono ?_
    rintro e' w3 ⟨rfl, hb3⟩
    have HZ3 : Hid (B5 26 w3 w2.heap.size (Value.slice pa0 pn0 pc0) (Value.slice pa1 pn1 pc1) (Value.slice pa2 pn2 pc2) (Value.slice pa3 pn3 pc3) (Value.slice pa4 pn4 pc4)) := HZ2.out.up hb3
    have HA3 : Hid (Below w2.heap.size w2 w3) := Below.on HA2.out hb3
    clear hb3 h9 HZ2 HA2 q0 q1 q2 q3 q4
    go_wp2_with fail
    refine (HPT.out _ (Below.on HB2.out HA3.out)).mono ?_
    rintro e' w4 ⟨v0, v1, v2, v3, v4, rfl, o0, o1, o2, o3, o4, hb4⟩
    obtain ⟨ua0, un0, uc0, rfl⟩ := o0.slice3
    obtain ⟨ua1, un1, uc1, rfl⟩ := o1.slice3
    obtain ⟨ua2, un2, uc2, rfl⟩ := o2.slice3
    obtain ⟨ua3, un3, uc3, rfl⟩ := o3.slice3
    obtain ⟨ua4, un4, uc4, rfl⟩ := o4.slice3
    have HU : Hid (∀ W, Below w4.heap.size w4 W → Reads W (Value.slice ua0 un0 uc0) a ∧ Reads W (Value.slice ua1 un1 uc1) b ∧ Reads W (Value.slice ua2 un2 uc2) c ∧ Reads W (Value.slice ua3 un3 uc3) d ∧ Reads W (Value.slice ua4 un4 uc4) e) := fun W hb => ⟨o0.reads.below hb, o1.reads.below hb, o2.reads.below hb, o3.reads.below hb, o4.reads.below hb⟩
    obtain ⟨W4, HW4⟩ : ∃ W, Hid (w4.alloc (.cells #[Value.slice ua0 un0 uc0, Value.slice ua1 un1 uc1, Value.slice ua2 un2 uc2, Value.slice ua3 un3 uc3, Value.slice ua4 un4 uc4] 26) = W) := ⟨_, rfl⟩
    have HY4 : Hid (B5 26 W4 w4.heap.size (Value.slice ua0 un0 uc0) (Value.slice ua1 un1 uc1) (Value.slice ua2 un2 uc2) (Value.slice ua3 un3 uc3) (Value.slice ua4 un4 uc4)) := by show B5 _ _ _ _ _ _ _ _; rw [← HW4.out]; exact B5.new 26 w4 (Value.slice ua0 un0 uc0) (Value.slice ua1 un1 uc1) (Value.slice ua2 un2 uc2) (Value.slice ua3 un3 uc3) (Value.slice ua4 un4 uc4)
    have HZ4 : Hid (B5 26 W4 w2.heap.size (Value.slice pa0 pn0 pc0) (Value.slice pa1 pn1 pc1) (Value.slice pa2 pn2 pc2) (Value.slice pa3 pn3 pc3) (Value.slice pa4 pn4 pc4)) := by show B5 _ _ _ _ _ _ _ _; rw [← HW4.out]; exact (HZ3.out.up hb4).alloc _
    have HA4 : Hid (Below w2.heap.size w2 W4) := by show Below _ _ _; rw [← HW4.out]; exact ba (Below.on HA3.out hb4) _
    have HD4 : Hid (Below w4.heap.size w4 W4) := by show Below _ _ _; rw [← HW4.out]; exact ba (Below.refl _ _) _
    clear o0 o1 o2 o3 o4 hb4 HZ3 HA3 HPT
    have q0 := HY4.out.c0
    have q1 := HY4.out.c1
    have q2 := HY4.out.c2
    have q3 := HY4.out.c3
    have q4 := HY4.out.c4
    go_wp2_with (rw [HW4.out])
    clear HW4
    have h9 := HU.out _ HD4.out
    refine (HTX.out _ _ _ _ _ _ (Below.on HB2.out HA4.out) h9.1 h9.2.1 h9.2.2.1 h9.2.2.2.1 h9.2.2.2.2).mono ?_
    rintro e' w5 ⟨rfl, hb5⟩
    have HY5 : Hid (B5 26 w5 w4.heap.size (Value.slice ua0 un0 uc0) (Value.slice ua1 un1 uc1) (Value.slice ua2 un2 uc2) (Value.slice ua3 un3 uc3) (Value.slice ua4 un4 uc4)) := HY4.out.up hb5
    have HZ5 : Hid (B5 26 w5 w2.heap.size (Value.slice pa0 pn0 pc0) (Value.slice pa1 pn1 pc1) (Value.slice pa2 pn2 pc2) (Value.slice pa3 pn3 pc3) (Value.slice pa4 pn4 pc4)) := HZ4.out.up hb5
    have HA5 : Hid (Below w2.heap.size w2 w5) := Below.on HA4.out hb5
    have HD5 : Hid (Below w4.heap.size w4 w5) := Below.on HD4.out hb5
    clear hb5 h9 HY4 HZ4 HA4 HD4 q0 q1 q2 q3 q4 HTX
    have q0 := HZ5.out.c0
    have q1 := HZ5.out.c1
    have q2 := HZ5.out.c2
    have q3 := HZ5.out.c3
    have q4 := HZ5.out.c4
    go_wp2_with fail
    refine (HOK.out _ HA5.out (Below.on HB2.out HA5.out)).mono ?_
    rintro e' w6 ⟨rfl, hb6⟩
    have HY6 : Hid (B5 26 w6 w4.heap.size (Value.slice ua0 un0 uc0) (Value.slice ua1 un1 uc1) (Value.slice ua2 un2 uc2) (Value.slice ua3 un3 uc3) (Value.slice ua4 un4 uc4)) := HY5.out.up hb6
    have HZ6 : Hid (B5 26 w6 w2.heap.size (Value.slice pa0 pn0 pc0) (Value.slice pa1 pn1 pc1) (Value.slice pa2 pn2 pc2) (Value.slice pa3 pn3 pc3) (Value.slice pa4 pn4 pc4)) := HZ5.out.up hb6
    have HA6 : Hid (Below w2.heap.size w2 w6) := Below.on HA5.out hb6
    have HD6 : Hid (Below w4.heap.size w4 w6) := Below.on HD5.out hb6
    clear hb6 HY5 HZ5 HA5 HD5 q0 q1 q2 q3 q4 HOK
    have q0 := HZ6.out.c0
    have q1 := HY6.out.c0
    have HSI : Hid (Calls Tryd.prog 17 #[Value.slice pa0 pn0 pc0, Value.slice ua0 un0 uc0] w6 fun e' w' => e' = .returned (.bool true) ∧ Below w6.heap.size w6 w') := by
      have hsh := HSH.out
      have h1 := HR.out _ HA6.out
      have h2 := HU.out _ HD6.out
      exact sameInts_val h1.1 h2.1 (by omega)
    go_wp2_with fail
    refine HSI.out.mono ?_
    rintro e' w7 ⟨rfl, hb7⟩
    have HY7 : Hid (B5 26 w7 w4.heap.size (Value.slice ua0 un0 uc0) (Value.slice ua1 un1 uc1) (Value.slice ua2 un2 uc2) (Value.slice ua3 un3 uc3) (Value.slice ua4 un4 uc4)) := HY6.out.up hb7
    have HZ7 : Hid (B5 26 w7 w2.heap.size (Value.slice pa0 pn0 pc0) (Value.slice pa1 pn1 pc1) (Value.slice pa2 pn2 pc2) (Value.slice pa3 pn3 pc3) (Value.slice pa4 pn4 pc4)) := HZ6.out.up hb7
    have HA7 : Hid (Below w2.heap.size w2 w7) := Below.on HA6.out hb7
    have HD7 : Hid (Below w4.heap.size w4 w7) := Below.on HD6.out hb7
    clear hb7 HY6 HZ6 HA6 HD6 q0 q1 HSI
    have q0 := HZ7.out.c1
    have q1 := HY7.out.c1
    have HSI : Hid (Calls Tryd.prog 17 #[Value.slice pa1 pn1 pc1, Value.slice ua1 un1 uc1] w7 fun e' w' => e' = .returned (.bool true) ∧ Below w7.heap.size w7 w') := by
      have hsh := HSH.out
      have h1 := HR.out _ HA7.out
      have h2 := HU.out _ HD7.out
      exact sameInts_val h1.2.1 h2.2.1 (by omega)
    go_wp2_with fail
    refine HSI.out.mono ?_
    rintro e' w8 ⟨rfl, hb8⟩
    have HY8 : Hid (B5 26 w8 w4.heap.size (Value.slice ua0 un0 uc0) (Value.slice ua1 un1 uc1) (Value.slice ua2 un2 uc2) (Value.slice ua3 un3 uc3) (Value.slice ua4 un4 uc4)) := HY7.out.up hb8
    have HZ8 : Hid (B5 26 w8 w2.heap.size (Value.slice pa0 pn0 pc0) (Value.slice pa1 pn1 pc1) (Value.slice pa2 pn2 pc2) (Value.slice pa3 pn3 pc3) (Value.slice pa4 pn4 pc4)) := HZ7.out.up hb8
    have HA8 : Hid (Below w2.heap.size w2 w8) := Below.on HA7.out hb8
    have HD8 : Hid (Below w4.heap.size w4 w8) := Below.on HD7.out hb8
    clear hb8 HY7 HZ7 HA7 HD7 q0 q1 HSI
    have q0 := HZ8.out.c2
    have q1 := HY8.out.c2
    have HSI : Hid (Calls Tryd.prog 17 #[Value.slice pa2 pn2 pc2, Value.slice ua2 un2 uc2] w8 fun e' w' => e' = .returned (.bool true) ∧ Below w8.heap.size w8 w') := by
      have hsh := HSH.out
      have h1 := HR.out _ HA8.out
      have h2 := HU.out _ HD8.out
      exact sameInts_val h1.2.2.1 h2.2.2.1 (by omega)
    go_wp2_with fail
    refine HSI.out.mono ?_
    rintro e' w9 ⟨rfl, hb9⟩
    have HY9 : Hid (B5 26 w9 w4.heap.size (Value.slice ua0 un0 uc0) (Value.slice ua1 un1 uc1) (Value.slice ua2 un2 uc2) (Value.slice ua3 un3 uc3) (Value.slice ua4 un4 uc4)) := HY8.out.up hb9
    have HZ9 : Hid (B5 26 w9 w2.heap.size (Value.slice pa0 pn0 pc0) (Value.slice pa1 pn1 pc1) (Value.slice pa2 pn2 pc2) (Value.slice pa3 pn3 pc3) (Value.slice pa4 pn4 pc4)) := HZ8.out.up hb9
    have HA9 : Hid (Below w2.heap.size w2 w9) := Below.on HA8.out hb9
    have HD9 : Hid (Below w4.heap.size w4 w9) := Below.on HD8.out hb9
    clear hb9 HY8 HZ8 HA8 HD8 q0 q1 HSI
    have q0 := HZ9.out.c3
    have q1 := HY9.out.c3
    have HSI : Hid (Calls Tryd.prog 17 #[Value.slice pa3 pn3 pc3, Value.slice ua3 un3 uc3] w9 fun e' w' => e' = .returned (.bool true) ∧ Below w9.heap.size w9 w') := by
      have hsh := HSH.out
      have h1 := HR.out _ HA9.out
      have h2 := HU.out _ HD9.out
      exact sameInts_val h1.2.2.2.1 h2.2.2.2.1 (by omega)
    go_wp2_with fail
    refine HSI.out.mono ?_
    rintro e' w10 ⟨rfl, hb10⟩
    have HY10 : Hid (B5 26 w10 w4.heap.size (Value.slice ua0 un0 uc0) (Value.slice ua1 un1 uc1) (Value.slice ua2 un2 uc2) (Value.slice ua3 un3 uc3) (Value.slice ua4 un4 uc4)) := HY9.out.up hb10
    have HZ10 : Hid (B5 26 w10 w2.heap.size (Value.slice pa0 pn0 pc0) (Value.slice pa1 pn1 pc1) (Value.slice pa2 pn2 pc2) (Value.slice pa3 pn3 pc3) (Value.slice pa4 pn4 pc4)) := HZ9.out.up hb10
    have HA10 : Hid (Below w2.heap.size w2 w10) := Below.on HA9.out hb10
    have HD10 : Hid (Below w4.heap.size w4 w10) := Below.on HD9.out hb10
    clear hb10 HY9 HZ9 HA9 HD9 q0 q1 HSI
    have q0 := HZ10.out.c4
    have q1 := HY10.out.c4
    have HSI : Hid (Calls Tryd.prog 17 #[Value.slice pa4 pn4 pc4, Value.slice ua4 un4 uc4] w10 fun e' w' => e' = .returned (.bool true) ∧ Below w10.heap.size w10 w') := by
      have hsh := HSH.out
      have h1 := HR.out _ HA10.out
      have h2 := HU.out _ HD10.out
      exact sameInts_val h1.2.2.2.2 h2.2.2.2.2 (by omega)
    go_wp2_with fail
    refine HSI.out.mono ?_
    rintro e' w11 ⟨rfl, hb11⟩
    have HY11 : Hid (B5 26 w11 w4.heap.size (Value.slice ua0 un0 uc0) (Value.slice ua1 un1 uc1) (Value.slice ua2 un2 uc2) (Value.slice ua3 un3 uc3) (Value.slice ua4 un4 uc4)) := HY10.out.up hb11
    have HZ11 : Hid (B5 26 w11 w2.heap.size (Value.slice pa0 pn0 pc0) (Value.slice pa1 pn1 pc1) (Value.slice pa2 pn2 pc2) (Value.slice pa3 pn3 pc3) (Value.slice pa4 pn4 pc4)) := HZ10.out.up hb11
    have HA11 : Hid (Below w2.heap.size w2 w11) := Below.on HA10.out hb11
    have HD11 : Hid (Below w4.heap.size w4 w11) := Below.on HD10.out hb11
    clear hb11 HY10 HZ10 HA10 HD10 q0 q1 HSI
    have HE11 : Hid (Below w.heap.size w w11) := Below.on HB2.out HA11.out
    clear HY11 HZ11 HA11 HD11 HB2 HR HU HCR HT HTS HSH
    go_wp2_with fail
    refine (drawParse_any _ n _ HN.out (HC.out.on HE11.out)).mono ?_
    rintro e' w12 ⟨t, rfl, ht, hb12⟩
    have HE12 : Hid (Below w.heap.size w w12) := Below.on HE11.out hb12
    clear hb12 HE11
    obtain ⟨q, hq⟩ : ∃ q, (pcO t).isSome = q := ⟨_, rfl⟩
    obtain ⟨L0, hL0⟩ : ∃ L, pcN (pcO t) 0 = L := ⟨_, rfl⟩
    obtain ⟨L1, hL1⟩ : ∃ L, pcN (pcO t) 1 = L := ⟨_, rfl⟩
    obtain ⟨L2, hL2⟩ : ∃ L, pcN (pcO t) 2 = L := ⟨_, rfl⟩
    obtain ⟨L3, hL3⟩ : ∃ L, pcN (pcO t) 3 = L := ⟨_, rfl⟩
    obtain ⟨L4, hL4⟩ : ∃ L, pcN (pcO t) 4 = L := ⟨_, rfl⟩
    have HLN : Hid (L0.length ≤ 60 ∧ L1.length ≤ 60 ∧ L2.length ≤ 60 ∧ L3.length ≤ 60 ∧ L4.length ≤ 60) := by
      rw [← hL0, ← hL1, ← hL2, ← hL3, ← hL4]
      exact ⟨pcN_len t 0, pcN_len t 1, pcN_len t 2, pcN_len t 3, pcN_len t 4⟩
    obtain ⟨r, hr⟩ : ∃ r, cronB L0 L1 L2 L3 L4 = r := ⟨_, rfl⟩
    obtain ⟨X, hX⟩ : ∃ X, cronX L0 L1 L2 L3 L4 = X := ⟨_, rfl⟩
    have HQR : Hid (q = true → r = true) := fun h => by
      rw [← hq] at h
      obtain ⟨l, hl⟩ := Option.isSome_iff_exists.1 h
      obtain ⟨a, b, c, d, e, rfl, hB⟩ := rule_right hl
      rw [← hr, ← hL0, ← hL1, ← hL2, ← hL3, ← hL4, hl]
      exact hB
    have HIP : Hid (∀ W, Below w.heap.size w W → Calls Tryd.prog 15 #[.string t] W fun e' w' => ∃ v0 v1 v2 v3 v4, e' = .returned (.tuple #[.agg #[v0, v1, v2, v3, v4], .bool q]) ∧ ownsR w' W.heap.size 3 v0 L0 ∧ ownsR w' W.heap.size 3 v1 L1 ∧ ownsR w' W.heap.size 3 v2 L2 ∧ ownsR w' W.heap.size 3 v3 L3 ∧ ownsR w' W.heap.size 3 v4 L4 ∧ Below W.heap.size W w') := fun W hb => by
      rw [← hq, ← hL0, ← hL1, ← hL2, ← hL3, ← hL4]
      refine (HPI.out t W (by omega) hb).mono ?_
      rintro e' w' ⟨v0, v1, v2, v3, v4, rfl, o0, o1, o2, o3, o4, hb', -⟩
      exact ⟨_, _, _, _, _, rfl, o0, o1, o2, o3, o4, hb'⟩
    have HSPA : Hid (∀ W, Calls Tryd.prog 19 #[.string t] W fun e' w' => ∃ v0 v1 v2 v3 v4, e' = .returned (.tuple #[.agg #[v0, v1, v2, v3, v4], .bool q]) ∧ ownsR w' W.heap.size 3 v0 L0 ∧ ownsR w' W.heap.size 3 v1 L1 ∧ ownsR w' W.heap.size 3 v2 L2 ∧ ownsR w' W.heap.size 3 v3 L3 ∧ ownsR w' W.heap.size 3 v4 L4 ∧ Below W.heap.size W w') := fun W => by
      rw [← hq, ← hL0, ← hL1, ← hL2, ← hL3, ← hL4]
      exact parseCron_any t W (by omega)
    have HTI : Hid (∀ (va vb vc vd ve : Value) (W : World), Below w.heap.size w W → Reads W va L0 → Reads W vb L1 → Reads W vc L2 → Reads W vd L3 → Reads W ve L4 → Calls Tryd.prog 14 #[.agg #[va, vb, vc, vd, ve]] W fun x w' => x = .returned (.tuple #[.string X, .bool r]) ∧ Below W.heap.size W w') := fun va vb vc vd ve W hb r0 r1 r2 r3 r4 => by
      have hsh := HLN.out
      rw [← hX, ← hr]
      exact implText_any va vb vc vd ve L0 L1 L2 L3 L4 W r0 r1 r2 r3 r4 (by omega) (by omega) (by omega) (by omega) (by omega) (HG.out W hb) (HPW.out W hb)
    have HTS : Hid (∀ (va vb vc vd ve : Value) (W : World), Reads W va L0 → Reads W vb L1 → Reads W vc L2 → Reads W vd L3 → Reads W ve L4 → Calls Tryd.prog 20 #[.agg #[va, vb, vc, vd, ve]] W fun x w' => x = .returned (.tuple #[.string X, .bool r]) ∧ Below W.heap.size W w') := fun va vb vc vd ve W r0 r1 r2 r3 r4 => by
      have hsh := HLN.out
      rw [← hX, ← hr]
      exact cronText_any va vb vc vd ve L0 L1 L2 L3 L4 W r0 r1 r2 r3 r4 (by omega) (by omega) (by omega) (by omega) (by omega)
    have HCO : Hid (∀ (va vb vc vd ve : Value) (W : World), Reads W va L0 → Reads W vb L1 → Reads W vc L2 → Reads W vd L3 → Reads W ve L4 → Calls Tryd.prog 21 #[.agg #[va, vb, vc, vd, ve]] W fun x w' => x = .returned (.bool r) ∧ Below W.heap.size W w') := fun va vb vc vd ve W r0 r1 r2 r3 r4 => by
      have hsh := HLN.out
      rw [← hr]
      exact cronOk_any va vb vc vd ve L0 L1 L2 L3 L4 W r0 r1 r2 r3 r4 (by omega) (by omega) (by omega) (by omega) (by omega)
    clear hq hL0 hL1 hL2 hL3 hL4 hr hX HPI HG HPW HLN
    go_wp2_with fail
    refine (HIP.out _ HE12.out).mono ?_
    rintro e' w13 ⟨v0, v1, v2, v3, v4, rfl, o0, o1, o2, o3, o4, hb13⟩
    obtain ⟨xa0, xn0, xc0, rfl⟩ := o0.slice3
    obtain ⟨xa1, xn1, xc1, rfl⟩ := o1.slice3
    obtain ⟨xa2, xn2, xc2, rfl⟩ := o2.slice3
    obtain ⟨xa3, xn3, xc3, rfl⟩ := o3.slice3
    obtain ⟨xa4, xn4, xc4, rfl⟩ := o4.slice3
    have HXR : Hid (∀ W, Below w13.heap.size w13 W → Reads W (Value.slice xa0 xn0 xc0) L0 ∧ Reads W (Value.slice xa1 xn1 xc1) L1 ∧ Reads W (Value.slice xa2 xn2 xc2) L2 ∧ Reads W (Value.slice xa3 xn3 xc3) L3 ∧ Reads W (Value.slice xa4 xn4 xc4) L4) := fun W hb => ⟨o0.reads.below hb, o1.reads.below hb, o2.reads.below hb, o3.reads.below hb, o4.reads.below hb⟩
    obtain ⟨W13, HW13⟩ : ∃ W, Hid (w13.alloc (.cells #[Value.slice xa0 xn0 xc0, Value.slice xa1 xn1 xc1, Value.slice xa2 xn2 xc2, Value.slice xa3 xn3 xc3, Value.slice xa4 xn4 xc4] 26) = W) := ⟨_, rfl⟩
    have HX13 : Hid (B5 26 W13 w13.heap.size (Value.slice xa0 xn0 xc0) (Value.slice xa1 xn1 xc1) (Value.slice xa2 xn2 xc2) (Value.slice xa3 xn3 xc3) (Value.slice xa4 xn4 xc4)) := by show B5 _ _ _ _ _ _ _ _; rw [← HW13.out]; exact B5.new 26 w13 (Value.slice xa0 xn0 xc0) (Value.slice xa1 xn1 xc1) (Value.slice xa2 xn2 xc2) (Value.slice xa3 xn3 xc3) (Value.slice xa4 xn4 xc4)
    have HE13 : Hid (Below w.heap.size w w13) := Below.on HE12.out hb13
    have HA13 : Hid (Below w13.heap.size w13 W13) := by show Below _ _ _; rw [← HW13.out]; exact ba (Below.refl _ _) _
    clear o0 o1 o2 o3 o4 hb13 HE12 HIP
    go_wp2_with (rw [HW13.out])
    clear HW13
    refine (HSPA.out _).mono ?_
    rintro e' w14 ⟨v0, v1, v2, v3, v4, rfl, o0, o1, o2, o3, o4, hb14⟩
    obtain ⟨ya0, yn0, yc0, rfl⟩ := o0.slice3
    obtain ⟨ya1, yn1, yc1, rfl⟩ := o1.slice3
    obtain ⟨ya2, yn2, yc2, rfl⟩ := o2.slice3
    obtain ⟨ya3, yn3, yc3, rfl⟩ := o3.slice3
    obtain ⟨ya4, yn4, yc4, rfl⟩ := o4.slice3
    have HYR : Hid (∀ W, Below w14.heap.size w14 W → Reads W (Value.slice ya0 yn0 yc0) L0 ∧ Reads W (Value.slice ya1 yn1 yc1) L1 ∧ Reads W (Value.slice ya2 yn2 yc2) L2 ∧ Reads W (Value.slice ya3 yn3 yc3) L3 ∧ Reads W (Value.slice ya4 yn4 yc4) L4) := fun W hb => ⟨o0.reads.below hb, o1.reads.below hb, o2.reads.below hb, o3.reads.below hb, o4.reads.below hb⟩
    obtain ⟨W14, HW14⟩ : ∃ W, Hid (w14.alloc (.cells #[Value.slice ya0 yn0 yc0, Value.slice ya1 yn1 yc1, Value.slice ya2 yn2 yc2, Value.slice ya3 yn3 yc3, Value.slice ya4 yn4 yc4] 26) = W) := ⟨_, rfl⟩
    have HY14 : Hid (B5 26 W14 w14.heap.size (Value.slice ya0 yn0 yc0) (Value.slice ya1 yn1 yc1) (Value.slice ya2 yn2 yc2) (Value.slice ya3 yn3 yc3) (Value.slice ya4 yn4 yc4)) := by show B5 _ _ _ _ _ _ _ _; rw [← HW14.out]; exact B5.new 26 w14 (Value.slice ya0 yn0 yc0) (Value.slice ya1 yn1 yc1) (Value.slice ya2 yn2 yc2) (Value.slice ya3 yn3 yc3) (Value.slice ya4 yn4 yc4)
    have HX14 : Hid (B5 26 W14 w13.heap.size (Value.slice xa0 xn0 xc0) (Value.slice xa1 xn1 xc1) (Value.slice xa2 xn2 xc2) (Value.slice xa3 xn3 xc3) (Value.slice xa4 xn4 xc4)) := by show B5 _ _ _ _ _ _ _ _; rw [← HW14.out]; exact (HX13.out.up hb14).alloc _
    have HA14 : Hid (Below w13.heap.size w13 W14) := by show Below _ _ _; rw [← HW14.out]; exact ba (Below.on HA13.out hb14) _
    have HD14 : Hid (Below w14.heap.size w14 W14) := by show Below _ _ _; rw [← HW14.out]; exact ba (Below.refl _ _) _
    clear o0 o1 o2 o3 o4 hb14 HX13 HA13 HSPA
    have q0 := HX14.out.c0
    have q1 := HX14.out.c1
    have q2 := HX14.out.c2
    have q3 := HX14.out.c3
    have q4 := HX14.out.c4
    go_wp2_with (rw [HW14.out])
    clear HW14
    have h9 := HXR.out _ HA14.out
    refine (HTI.out _ _ _ _ _ _ (Below.on HE13.out HA14.out) h9.1 h9.2.1 h9.2.2.1 h9.2.2.2.1 h9.2.2.2.2).mono ?_
    rintro e' w15 ⟨rfl, hb15⟩
    have HY15 : Hid (B5 26 w15 w14.heap.size (Value.slice ya0 yn0 yc0) (Value.slice ya1 yn1 yc1) (Value.slice ya2 yn2 yc2) (Value.slice ya3 yn3 yc3) (Value.slice ya4 yn4 yc4)) := HY14.out.up hb15
    have HX15 : Hid (B5 26 w15 w13.heap.size (Value.slice xa0 xn0 xc0) (Value.slice xa1 xn1 xc1) (Value.slice xa2 xn2 xc2) (Value.slice xa3 xn3 xc3) (Value.slice xa4 xn4 xc4)) := HX14.out.up hb15
    have HA15 : Hid (Below w13.heap.size w13 w15) := Below.on HA14.out hb15
    have HD15 : Hid (Below w14.heap.size w14 w15) := Below.on HD14.out hb15
    clear h9 hb15 HY14 HX14 HA14 HD14 q0 q1 q2 q3 q4 HTI
    have q0 := HY15.out.c0
    have q1 := HY15.out.c1
    have q2 := HY15.out.c2
    have q3 := HY15.out.c3
    have q4 := HY15.out.c4
    go_wp2_with fail
    have h9 := HYR.out _ HD15.out
    refine (HTS.out _ _ _ _ _ _ h9.1 h9.2.1 h9.2.2.1 h9.2.2.2.1 h9.2.2.2.2).mono ?_
    rintro e' w16 ⟨rfl, hb16⟩
    have HX16 : Hid (B5 26 w16 w13.heap.size (Value.slice xa0 xn0 xc0) (Value.slice xa1 xn1 xc1) (Value.slice xa2 xn2 xc2) (Value.slice xa3 xn3 xc3) (Value.slice xa4 xn4 xc4)) := HX15.out.up hb16
    have HA16 : Hid (Below w13.heap.size w13 w16) := Below.on HA15.out hb16
    clear h9 hb16 HY15 HX15 HA15 HD15 q0 q1 q2 q3 q4 HTS
    cases q with
    | false =>
      go_wp2
      go_ret
      exact ⟨rfl, Below.on HE13.out HA16.out⟩
    | true =>
      have hrt := HQR.out rfl
      subst hrt
      have q0 := HX16.out.c0
      have q1 := HX16.out.c1
      have q2 := HX16.out.c2
      have q3 := HX16.out.c3
      have q4 := HX16.out.c4
      go_wp2_with fail
      have h9 := HXR.out _ HA16.out
      refine (HCO.out _ _ _ _ _ _ h9.1 h9.2.1 h9.2.2.1 h9.2.2.2.1 h9.2.2.2.2).mono ?_
      rintro e' w17 ⟨rfl, hb17⟩
      have HA17 : Hid (Below w13.heap.size w13 w17) := Below.on HA16.out hb17
      clear h9 hb17 q0 q1 q2 q3 q4
      go_wp2
      go_ret
      exact ⟨rfl, Below.on HE13.out HA17.out⟩
end Go.Proofs.YtgeimliibddhmaaDoor

namespace Go.Proofs.YtgeimliibddhmaaDoor
open Go Go.RowKit
set_option linter.unusedVariables false

theorem handed_shaped_and {H : Type} {enc : TypeId × Value → H} {C : Checked} {os : Os} {f : FuncId} {fn : Func} {s : ChangeSpec} {X : World → Array Value → Prop}
    (hX : ∀ (w w' : World) (args : Array Value), w.heap = w'.heap → X w args → X w' args)
    (own : ownKnob C.prog.godebug = none) (started : os.Started) (noInit : C.prog.inits.idxOf? f = none) (hfn : C.prog.funcs[f]? = some fn)
    (witness : ∃ (w : World) (tape : Tape) (i : Input), w.os = os ∧ (w.forCall tape i).Shaped C.prog ∧ i.vars = [] ∧ Input.okWide C.prog (w.forCall tape i) .any w.heap.size f i ∧
      ((s.pre enc C.prog fn [] false (w.forCall tape i).memory i.args ∧ X (w.forCall tape i).memory i.args) ∧ sizedMet enc C.prog fn (OpenSpec.ofChange s) false (w.forCall tape i).memory i.args) ∧ ({} : Assume).holds C.prog (lone (Frame.enter C.prog f i.args .normal) [] (w.forCall tape i)))
    (contract : ∀ (W : World) (base : Nat) (args : Array Value) (ds gs : List (DataW H)) (before : List MemPlace),
      (∀ (j : Nat) t v, fn.params[j]? = some t → args[j]? = some v → Value.okWide C.prog W .any base t v) →
      DataW.Whole enc C.prog fn.params.toList s.vars false W args.toList ds gs before → X W args → W.ShapedOpen C.prog →
      Calls C.prog f args W fun e W' => ∃ v, e = .returned v ∧ s.post enc C.prog fn false true false false W args v W') :
    ReturnsInHanded {} C os f .any (fun w args => (s.pre enc C.prog fn [] false w args ∧ X w args) ∧ sizedMet enc C.prog fn (OpenSpec.ofChange s) false w args) (s.post enc C.prog fn false true false false) := by
  refine returnsInHanded_of_calls own started noInit witness ?_
  intro w tape i _ hsh _ hok hpre _
  obtain ⟨_, _, _, fn', hfn', _, _, _, _, hval⟩ := hok
  obtain rfl : fn' = fn := Option.some.inj (hfn'.symm.trans hfn)
  obtain ⟨⟨⟨ds, gs, before, hw, _⟩, hx⟩, _⟩ := hpre
  refine (contract (w.forCall tape i) w.heap.size i.args ds gs before hval (DataW.Whole.of_heap (w' := w.forCall tape i) (by rfl) hw) (hX _ _ _ (by rfl) hx) hsh).mono fun e W' ⟨v, he, hp⟩ => ?_
  subst he
  exact ChangeSpec.post_blind hp
theorem max_of_shaped {W : World} (h : W.ShapedOpen Tryd.prog) : MaxIs W :=
  cell_of_shapedOpen_int (g := 3) (t := 3) (zero := #[.int .i64 0]) h (of_decide_eq_true (by kernel_rfl)) (by kernel_rfl) rfl (by kernel_rfl) (by kernel_rfl) Tryd.underlying3
end Go.Proofs.YtgeimliibddhmaaDoor
