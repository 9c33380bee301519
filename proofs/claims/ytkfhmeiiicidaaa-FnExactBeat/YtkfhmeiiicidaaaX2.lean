/-
  Plans whose rows are owned, each between blocks of its own, marked from any number on: the walks. A region that draws its order, inside a round: every order that its edges allow, told one by one. Tasks held against the marks: the walks. Plans held against the marks: the walks.
-/
import Derived.Test.YtkfhmeiiicidaaaX1
import Derived.Test.YtkfhmeiiicidaaaPls
import Derived.OrdersIn
import Derived.TacticsIn
import Derived.Test.YtkfhmeiiicidaaaRns
namespace Go.Proofs.Ytkfhmeiiicidaaa
open Go Go.RowKit
set_option linter.unusedVariables false

/-- A plan whose tasks lie between two blocks. -/
structure OnePlI (lo hi : Nat) (w : World) (k : Pl) (p : Po) : Prop where
  name : k.name = p.name
  cron : k.cron = p.cron
  fr : k.fr = p.fr
  up : k.up = p.up
  cu : k.cu = p.cu
  tasks : TasksI lo hi w k.tasks p.tasks
  paused : k.paused = p.paused
  cursor : k.cursor = p.cursor
  floor : k.floor = p.floor
theorem keepPl : KeepI OnePlI := fun lo hi w W k t h hW => ⟨h.name, h.cron, h.fr, h.up, h.cu, h.tasks.keep hW, h.paused, h.cursor, h.floor⟩
theorem OnePlI.one {lo hi : Nat} {w : World} {k : Pl} {p : Po} (h : OnePlI lo hi w k p) : OnePl w k p := ⟨h.name, h.cron, h.fr, h.up, h.cu, h.tasks.tasks, h.paused, h.cursor, h.floor⟩
def mkPo (x : Int) (t : Po) : Po := ⟨mkT (x), mkT (x + 1), x + 1 + 1, x + 1 + 1 + 1, (x + 1 + 1 + 1 + 1) % 3 == 0, mkL mkTa cnTa (x + 1 + 1 + 1 + 1 + 1) t.tasks, (x + 1 + 1 + 1 + 1 + 1 + (cnL cnTa t.tasks)) % 3 == 0, x + 1 + 1 + 1 + 1 + 1 + (cnL cnTa t.tasks) + 1, x + 1 + 1 + 1 + 1 + 1 + (cnL cnTa t.tasks) + 1 + 1⟩
def cnPo (t : Po) : Int := 8 + cnL cnTa t.tasks
theorem cnPo_nonneg (t : Po) : 0 ≤ cnPo t := by unfold cnPo; have := cnL_nonneg cnTa_nonneg t.tasks; omega
/-- Cells of an owned row. -/
theorem pl_ownX {w : World} {B : Nat} {g n cap : Nat} {l : List Pl} (h : ownsR w B 70 (.slice (some ⟨g, 0, none⟩) n cap) l) {i : Nat} {x : Pl} (hi : l[i]? = some x) :
    g < w.heap.size ∧ (∀ j, j < 9 → w.frozen? ⟨g, i * 9 + j, none⟩ = false) ∧ w.cell? ⟨g, i * 9, none⟩ = some (.string x.name) ∧ w.cell? ⟨g, i * 9 + 1, none⟩ = some (.string x.cron) ∧ w.cell? ⟨g, i * 9 + 2, none⟩ = some (.int .i64 x.fr) ∧ w.cell? ⟨g, i * 9 + 3, none⟩ = some (.int .i64 x.up) ∧ w.cell? ⟨g, i * 9 + 4, none⟩ = some (.bool x.cu) ∧ w.cell? ⟨g, i * 9 + 5, none⟩ = some x.tasks ∧ w.cell? ⟨g, i * 9 + 6, none⟩ = some (.bool x.paused) ∧ w.cell? ⟨g, i * 9 + 7, none⟩ = some (.int .i64 x.cursor) ∧ w.cell? ⟨g, i * 9 + 8, none⟩ = some (.int .i64 x.floor) := by
  obtain ⟨h1, _, _, h2⟩ := h.at hi
  exact ⟨h1, fun j hj => (h2 j hj).2, (h2 0 (by decide)).1, (h2 1 (by decide)).1, (h2 2 (by decide)).1, (h2 3 (by decide)).1, (h2 4 (by decide)).1, (h2 5 (by decide)).1, (h2 6 (by decide)).1, (h2 7 (by decide)).1, (h2 8 (by decide)).1⟩
set_option maxHeartbeats 1000000 in
theorem markPlanSI_none (ao : Option Addr) (c : Nat) (x : Int) (w : World) :
    Calls Try.prog 28 #[.slice ao 0 c, .int .i64 x] w fun e w' => e = .returned (.int .i64 x) ∧ Below w.heap.size w w' := by
  go_enter Try.func28, Try.ntmps28
  go_wp2
  refine wp_loop_rounds 1 ?_
  rw [rounds_succ]
  go_wp2
  go_ret
  exact ⟨rfl, Below.refl _ _⟩
set_option maxRecDepth 10000 in
set_option maxHeartbeats 8000000 in
theorem markPlanSI_some {lo hi g n c : Nat} {w : World} {ks : List Pl} {a b : Nat → Nat} {ps : List Po} (x : Int) (h : DK OnePlI 70 lo hi w (.slice (some ⟨g, 0, none⟩) n c) ks a b ps) (hn : n ≤ 1048576) (hsz : ∀ p ∈ ps, p.tasks.length ≤ 1048576 ∧ ∀ t ∈ p.tasks, t.after.length ≤ 1048576) (hx0 : 0 < x) (hx : x ≤ 2000000000000000) :
    Calls Try.prog 28 #[.slice (some ⟨g, 0, none⟩) n c, .int .i64 x] w fun e w' => e = .returned (.int .i64 (x + cnL cnPo ps)) ∧ (∃ ks a b, DK OnePlI 70 lo hi w' (.slice (some ⟨g, 0, none⟩) n c) ks a b (mkL mkPo cnPo x ps)) ∧ Twi lo hi w w' := by
  have HN : Hid (ps.length = n) := by rw [← h.len]; exact h.own.reads.len.symm
  have hgl : lo ≤ g := (h.own.lt g rfl).1
  have hgh : g < hi := h.top g rfl
  have HB : Hid (∀ k, k ≤ n → 0 ≤ cnL cnPo (ps.take k) ∧ cnL cnPo (ps.take k) ≤ 1152927002173374464) := fun k hk => by
    refine ⟨cnL_nonneg cnPo_nonneg _, ?_⟩
    have h1 := cnL_le (cn := cnPo) (M := 1099516870664) (ps.take k) fun t ht => by
      have hq := hsz t (List.mem_of_mem_take ht)
      have h1 := cnL_le (cn := cnTa) (M := 1048580) t.tasks fun u hu => by have := hq.2 u hu; unfold cnTa; omega
      have h3 : (t.tasks.length : Int) * 1048580 ≤ 1048576 * 1048580 := Int.mul_le_mul_of_nonneg_right (by omega) (by decide)
      unfold cnPo
      omega
    have h2 : (ps.take k).length ≤ 1048576 := by rw [List.length_take]; omega
    have h3 : ((ps.take k).length : Int) * 1099516870664 ≤ 1048576 * 1099516870664 := Int.mul_le_mul_of_nonneg_right (by omega) (by decide)
    omega
  have HA : Hid (∀ p ∈ ps, p.tasks.length ≤ 1048576 ∧ ∀ t ∈ p.tasks, t.after.length ≤ 1048576) := hsz
  have H0 : Hid (∃ ks, DK OnePlI 70 lo hi w (.slice (some ⟨g, 0, none⟩) n c) ks a b (midL mkPo cnPo x ps 0)) := ⟨ks, by rw [midL_zero]; exact h⟩
  clear h hsz
  go_enter Try.func28, Try.ntmps28
  go_wp2
  go_loopw [1, 5] (fun q i wr => ∃ (k : Nat) (y : Int), k ≤ n ∧ i = .int .i64 k ∧ q = .int .i64 y ∧ y = x + cnL cnPo (ps.take k) ∧ Hid (∃ ks, DK OnePlI 70 lo hi wr (.slice (some ⟨g, 0, none⟩) n c) ks a b (midL mkPo cnPo x ps k)) ∧ Hid (Twi lo hi w wr)) (fun _ i _ => n - (intOf i).toNat)
  case atStart => exact ⟨0, x, Nat.zero_le _, rfl, rfl, by simp [cnL], H0, Twi.refl _ _ _⟩
  case round =>
    clear H0
    obtain ⟨k, y, hk, rfl, rfl, hy, HK, HT⟩ := hrel
    have HY : Hid (y = x + cnL cnPo (ps.take k)) := hy
    have hy1 : 0 < y := by have := (HB.out k hk).1; omega
    have hy2 : y ≤ 2000000000000000 + 1152927002173374464 := by have := (HB.out k hk).2; omega
    clear hy
    by_cases hlt : k < n
    · obtain ⟨ks, hks⟩ := HK.out
      obtain ⟨t, ht⟩ : ∃ t, ps[k]? = some t := ⟨_, List.getElem?_eq_getElem (by rw [HN.out]; exact hlt)⟩
      have HTT : Hid (ps[k]? = some t) := ht
      obtain ⟨z, hz, ha1, hb1, hz1⟩ := hks.got (midL_at x ht)
      have HZ : Hid (ks[k]? = some z) := hz
      have hkl : Hid (k < ks.length) := (List.getElem?_eq_some_iff.1 hz).1
      have hll : Hid (k < (midL mkPo cnPo x ps k).length) := (List.getElem?_eq_some_iff.1 (midL_at x ht)).1
      have HA1 := HA.out t (List.mem_of_getElem? ht)
      have HKS0 : Hid (DK OnePlI 70 lo hi wr (.slice (some ⟨g, 0, none⟩) n c) (ks.set k ⟨z.name, z.cron, z.fr, z.up, z.cu, z.tasks, z.paused, z.cursor, z.floor⟩) a b ((midL mkPo cnPo x ps k).set k ⟨t.name, t.cron, t.fr, t.up, t.cu, t.tasks, t.paused, t.cursor, t.floor⟩)) := by
        have e1 : ks.set k ⟨z.name, z.cron, z.fr, z.up, z.cu, z.tasks, z.paused, z.cursor, z.floor⟩ = ks := set_selfX hz
        have e2 : (midL mkPo cnPo x ps k).set k ⟨t.name, t.cron, t.fr, t.up, t.cu, t.tasks, t.paused, t.cursor, t.floor⟩ = (midL mkPo cnPo x ps k) := set_selfX (midL_at x ht)
        rw [e1, e2]
        exact hks
      obtain ⟨C, HC⟩ : ∃ C, Hid (cnL cnTa t.tasks = C) := ⟨_, rfl⟩
      have hC : 0 ≤ C ∧ C ≤ 1099516870656 := by
        rw [← HC.out]
        refine ⟨cnL_nonneg cnTa_nonneg _, ?_⟩
        have h1 := cnL_le (cn := cnTa) (M := 1048580) t.tasks fun u hu => by have := HA1.2 u hu; unfold cnTa; omega
        have h3 : (t.tasks.length : Int) * 1048580 ≤ 1048576 * 1048580 := Int.mul_le_mul_of_nonneg_right (by omega) (by decide)
        omega
      have HAA : Hid (t.tasks.length ≤ 1048576 ∧ ∀ u ∈ t.tasks, u.after.length ≤ 1048576) := HA1
      obtain ⟨av, HAV⟩ : ∃ av, Hid (z.tasks = av) := ⟨_, rfl⟩
      clear hks hz hz1 HK ht HA1
      go_wp2_with fail
      refine (markX_any (y) _ (by omega) (by omega)).mono ?_
      rintro e w1 ⟨rfl, hb1⟩
      have HU1 : Hid (DK OnePlI 70 lo hi w1 (.slice (some ⟨g, 0, none⟩) n c) (ks.set k ⟨z.name, z.cron, z.fr, z.up, z.cu, z.tasks, z.paused, z.cursor, z.floor⟩) a b ((midL mkPo cnPo x ps k).set k ⟨t.name, t.cron, t.fr, t.up, t.cu, t.tasks, t.paused, t.cursor, t.floor⟩)) := HKS0.out.up keepPl hb1
      have HX1 : Hid (Twi lo hi w w1) := HT.out.up hb1
      clear hb1 HKS0 HT
      obtain ⟨hg1, hf1, d1_0, d1_1, d1_2, d1_3, d1_4, d1_5, d1_6, d1_7, d1_8⟩ := pl_ownX HU1.out.own (List.getElem?_set_self hkl.out)
      have f1_0 : w1.frozen? ⟨g, k * 9, none⟩ = false := hf1 0 (by decide)
      clear hf1 d1_1 d1_2 d1_3 d1_4 d1_5 d1_6 d1_7 d1_8
      obtain ⟨V1, HV1⟩ : ∃ V, Hid ((w1.setCell ⟨g, k * 9, none⟩ (.string (mkT (y)))) = V) := ⟨_, rfl⟩
      have HW1 : Hid (DK OnePlI 70 lo hi V1 (.slice (some ⟨g, 0, none⟩) n c) (ks.set k ⟨mkT (y), z.cron, z.fr, z.up, z.cu, z.tasks, z.paused, z.cursor, z.floor⟩) a b ((midL mkPo cnPo x ps k).set k ⟨mkT (y), t.cron, t.fr, t.up, t.cu, t.tasks, t.paused, t.cursor, t.floor⟩)) := by
        rw [← HV1.out]
        have g0 := HU1.out.set keepPl (j := 0) (List.getElem?_set_self hkl.out) (List.getElem?_set_self hll.out) ⟨mkT (y), z.cron, z.fr, z.up, z.cu, z.tasks, z.paused, z.cursor, z.floor⟩ ⟨mkT (y), t.cron, t.fr, t.up, t.cu, t.tasks, t.paused, t.cursor, t.floor⟩ (u := .string (mkT (y))) (by decide) rfl fun a b W h => ⟨rfl, h.cron, h.fr, h.up, h.cu, h.tasks, h.paused, h.cursor, h.floor⟩
        rw [List.set_set, List.set_set] at g0
        exact g0
      have HY1 : Hid (Twi lo hi w V1) := by
        rw [← HV1.out]
        exact (HX1.out.set (p := ⟨g, k * 9, none⟩) hgl hgh _)
      clear HU1 HX1
      go_wp2_with fail
      rw [HV1.out]
      refine (markX_any (y + 1) _ (by omega) (by omega)).mono ?_
      rintro e w2 ⟨rfl, hb2⟩
      have HU2 : Hid (DK OnePlI 70 lo hi w2 (.slice (some ⟨g, 0, none⟩) n c) (ks.set k ⟨mkT (y), z.cron, z.fr, z.up, z.cu, z.tasks, z.paused, z.cursor, z.floor⟩) a b ((midL mkPo cnPo x ps k).set k ⟨mkT (y), t.cron, t.fr, t.up, t.cu, t.tasks, t.paused, t.cursor, t.floor⟩)) := HW1.out.up keepPl hb2
      have HX2 : Hid (Twi lo hi w w2) := HY1.out.up hb2
      clear hb2 HW1 HY1
      obtain ⟨hg2, hf2, d2_0, d2_1, d2_2, d2_3, d2_4, d2_5, d2_6, d2_7, d2_8⟩ := pl_ownX HU2.out.own (List.getElem?_set_self hkl.out)
      have f2_1 : w2.frozen? ⟨g, k * 9 + 1, none⟩ = false := hf2 1 (by decide)
      have f2_2 : w2.frozen? ⟨g, k * 9 + 2, none⟩ = false := hf2 2 (by decide)
      have f2_3 : w2.frozen? ⟨g, k * 9 + 3, none⟩ = false := hf2 3 (by decide)
      have f2_4 : w2.frozen? ⟨g, k * 9 + 4, none⟩ = false := hf2 4 (by decide)
      replace d2_5 : w2.cell? ⟨g, k * 9 + 5, none⟩ = some av := by rw [← HAV.out]; exact d2_5
      clear hf2 d2_0 d2_6 d2_7 d2_8
      obtain ⟨V2, HV2⟩ : ∃ V, Hid (((((w2.setCell ⟨g, k * 9 + 1, none⟩ (.string (mkT (y + 1)))).setCell ⟨g, k * 9 + 2, none⟩ (.int .i64 (y + 1 + 1))).setCell ⟨g, k * 9 + 3, none⟩ (.int .i64 (y + 1 + 1 + 1))).setCell ⟨g, k * 9 + 4, none⟩ (.bool ((y + 1 + 1 + 1 + 1) % 3 == 0))) = V) := ⟨_, rfl⟩
      have HW2 : Hid (DK OnePlI 70 lo hi V2 (.slice (some ⟨g, 0, none⟩) n c) (ks.set k ⟨mkT (y), mkT (y + 1), y + 1 + 1, y + 1 + 1 + 1, (y + 1 + 1 + 1 + 1) % 3 == 0, z.tasks, z.paused, z.cursor, z.floor⟩) a b ((midL mkPo cnPo x ps k).set k ⟨mkT (y), mkT (y + 1), y + 1 + 1, y + 1 + 1 + 1, (y + 1 + 1 + 1 + 1) % 3 == 0, t.tasks, t.paused, t.cursor, t.floor⟩)) := by
        rw [← HV2.out]
        have g0 := HU2.out.set keepPl (j := 1) (List.getElem?_set_self hkl.out) (List.getElem?_set_self hll.out) ⟨mkT (y), mkT (y + 1), z.fr, z.up, z.cu, z.tasks, z.paused, z.cursor, z.floor⟩ ⟨mkT (y), mkT (y + 1), t.fr, t.up, t.cu, t.tasks, t.paused, t.cursor, t.floor⟩ (u := .string (mkT (y + 1))) (by decide) rfl fun a b W h => ⟨h.name, rfl, h.fr, h.up, h.cu, h.tasks, h.paused, h.cursor, h.floor⟩
        rw [List.set_set, List.set_set] at g0
        have g1 := g0.set keepPl (j := 2) (List.getElem?_set_self hkl.out) (List.getElem?_set_self hll.out) ⟨mkT (y), mkT (y + 1), y + 1 + 1, z.up, z.cu, z.tasks, z.paused, z.cursor, z.floor⟩ ⟨mkT (y), mkT (y + 1), y + 1 + 1, t.up, t.cu, t.tasks, t.paused, t.cursor, t.floor⟩ (u := .int .i64 (y + 1 + 1)) (by decide) rfl fun a b W h => ⟨h.name, h.cron, rfl, h.up, h.cu, h.tasks, h.paused, h.cursor, h.floor⟩
        rw [List.set_set, List.set_set] at g1
        have g2 := g1.set keepPl (j := 3) (List.getElem?_set_self hkl.out) (List.getElem?_set_self hll.out) ⟨mkT (y), mkT (y + 1), y + 1 + 1, y + 1 + 1 + 1, z.cu, z.tasks, z.paused, z.cursor, z.floor⟩ ⟨mkT (y), mkT (y + 1), y + 1 + 1, y + 1 + 1 + 1, t.cu, t.tasks, t.paused, t.cursor, t.floor⟩ (u := .int .i64 (y + 1 + 1 + 1)) (by decide) rfl fun a b W h => ⟨h.name, h.cron, h.fr, rfl, h.cu, h.tasks, h.paused, h.cursor, h.floor⟩
        rw [List.set_set, List.set_set] at g2
        have g3 := g2.set keepPl (j := 4) (List.getElem?_set_self hkl.out) (List.getElem?_set_self hll.out) ⟨mkT (y), mkT (y + 1), y + 1 + 1, y + 1 + 1 + 1, (y + 1 + 1 + 1 + 1) % 3 == 0, z.tasks, z.paused, z.cursor, z.floor⟩ ⟨mkT (y), mkT (y + 1), y + 1 + 1, y + 1 + 1 + 1, (y + 1 + 1 + 1 + 1) % 3 == 0, t.tasks, t.paused, t.cursor, t.floor⟩ (u := .bool ((y + 1 + 1 + 1 + 1) % 3 == 0)) (by decide) rfl fun a b W h => ⟨h.name, h.cron, h.fr, h.up, rfl, h.tasks, h.paused, h.cursor, h.floor⟩
        rw [List.set_set, List.set_set] at g3
        exact g3
      have HY2 : Hid (Twi lo hi w V2) := by
        rw [← HV2.out]
        exact ((((HX2.out.set (p := ⟨g, k * 9 + 1, none⟩) hgl hgh _).set (p := ⟨g, k * 9 + 2, none⟩) hgl hgh _).set (p := ⟨g, k * 9 + 3, none⟩) hgl hgh _).set (p := ⟨g, k * 9 + 4, none⟩) hgl hgh _)
      clear HU2 HX2
      have HMS : Hid (Calls Try.prog 56 #[av, .int .i64 (y + 1 + 1 + 1 + 1 + 1)] V2 fun e w' => e = .returned (.int .i64 (y + 1 + 1 + 1 + 1 + 1 + C)) ∧ DK OnePlI 70 lo hi w' (.slice (some ⟨g, 0, none⟩) n c) (ks.set k ⟨mkT (y), mkT (y + 1), y + 1 + 1, y + 1 + 1 + 1, (y + 1 + 1 + 1 + 1) % 3 == 0, z.tasks, z.paused, z.cursor, z.floor⟩) a b ((midL mkPo cnPo x ps k).set k ⟨mkT (y), mkT (y + 1), y + 1 + 1, y + 1 + 1 + 1, (y + 1 + 1 + 1 + 1) % 3 == 0, mkL mkTa cnTa (y + 1 + 1 + 1 + 1 + 1) t.tasks, t.paused, t.cursor, t.floor⟩) ∧ Twi lo hi w w') := by
        obtain ⟨e1, e2, e3⟩ := HW2.out.el k _ _ (List.getElem?_set_self hkl.out) (List.getElem?_set_self hll.out)
        rw [← HAV.out, ← HC.out]
        refine (markTaI_any (lo := a k) (hi := b k) (y + 1 + 1 + 1 + 1 + 1) e3.tasks HAA.out.1 HAA.out.2 (by omega) (by omega)).mono ?_
        rintro e w' ⟨rfl, ho', hg'⟩
        refine ⟨rfl, ?_, HY2.out.trans (hg'.mono e1 e2)⟩
        have := HW2.out.nest keepPl (List.getElem?_set_self hkl.out) (List.getElem?_set_self hll.out) ⟨mkT (y), mkT (y + 1), y + 1 + 1, y + 1 + 1 + 1, (y + 1 + 1 + 1 + 1) % 3 == 0, mkL mkTa cnTa (y + 1 + 1 + 1 + 1 + 1) t.tasks, t.paused, t.cursor, t.floor⟩ (W := w') ⟨rfl, rfl, rfl, rfl, rfl, ho', e3.paused, e3.cursor, e3.floor⟩ hg'.block
        rw [List.set_set] at this
        exact this
      go_wp2_with fail
      rw [HV2.out]
      refine HMS.out.mono ?_
      rintro e w3 ⟨rfl, hk3, hx3⟩
      have HU3 : Hid (DK OnePlI 70 lo hi w3 (.slice (some ⟨g, 0, none⟩) n c) (ks.set k ⟨mkT (y), mkT (y + 1), y + 1 + 1, y + 1 + 1 + 1, (y + 1 + 1 + 1 + 1) % 3 == 0, z.tasks, z.paused, z.cursor, z.floor⟩) a b ((midL mkPo cnPo x ps k).set k ⟨mkT (y), mkT (y + 1), y + 1 + 1, y + 1 + 1 + 1, (y + 1 + 1 + 1 + 1) % 3 == 0, mkL mkTa cnTa (y + 1 + 1 + 1 + 1 + 1) t.tasks, t.paused, t.cursor, t.floor⟩)) := hk3
      have HX3 : Hid (Twi lo hi w w3) := hx3
      clear hk3 hx3 HMS HW2 HY2 HV2
      obtain ⟨hg3, hf3, d3_0, d3_1, d3_2, d3_3, d3_4, d3_5, d3_6, d3_7, d3_8⟩ := pl_ownX HU3.out.own (List.getElem?_set_self hkl.out)
      have f3_6 : w3.frozen? ⟨g, k * 9 + 6, none⟩ = false := hf3 6 (by decide)
      have f3_7 : w3.frozen? ⟨g, k * 9 + 7, none⟩ = false := hf3 7 (by decide)
      have f3_8 : w3.frozen? ⟨g, k * 9 + 8, none⟩ = false := hf3 8 (by decide)
      clear hf3 d3_0 d3_1 d3_2 d3_3 d3_4 d3_5
      have HW3 : Hid (DK OnePlI 70 lo hi (((w3.setCell ⟨g, k * 9 + 6, none⟩ (.bool ((y + 1 + 1 + 1 + 1 + 1 + C) % 3 == 0))).setCell ⟨g, k * 9 + 7, none⟩ (.int .i64 (y + 1 + 1 + 1 + 1 + 1 + C + 1))).setCell ⟨g, k * 9 + 8, none⟩ (.int .i64 (y + 1 + 1 + 1 + 1 + 1 + C + 1 + 1))) (.slice (some ⟨g, 0, none⟩) n c) (ks.set k ⟨mkT (y), mkT (y + 1), y + 1 + 1, y + 1 + 1 + 1, (y + 1 + 1 + 1 + 1) % 3 == 0, z.tasks, (y + 1 + 1 + 1 + 1 + 1 + C) % 3 == 0, y + 1 + 1 + 1 + 1 + 1 + C + 1, y + 1 + 1 + 1 + 1 + 1 + C + 1 + 1⟩) a b ((midL mkPo cnPo x ps k).set k ⟨mkT (y), mkT (y + 1), y + 1 + 1, y + 1 + 1 + 1, (y + 1 + 1 + 1 + 1) % 3 == 0, mkL mkTa cnTa (y + 1 + 1 + 1 + 1 + 1) t.tasks, (y + 1 + 1 + 1 + 1 + 1 + C) % 3 == 0, y + 1 + 1 + 1 + 1 + 1 + C + 1, y + 1 + 1 + 1 + 1 + 1 + C + 1 + 1⟩)) := by
        show DK OnePlI 70 lo hi (((w3.setCell ⟨g, k * 9 + 6, none⟩ (.bool ((y + 1 + 1 + 1 + 1 + 1 + C) % 3 == 0))).setCell ⟨g, k * 9 + 7, none⟩ (.int .i64 (y + 1 + 1 + 1 + 1 + 1 + C + 1))).setCell ⟨g, k * 9 + 8, none⟩ (.int .i64 (y + 1 + 1 + 1 + 1 + 1 + C + 1 + 1))) (.slice (some ⟨g, 0, none⟩) n c) (ks.set k ⟨mkT (y), mkT (y + 1), y + 1 + 1, y + 1 + 1 + 1, (y + 1 + 1 + 1 + 1) % 3 == 0, z.tasks, (y + 1 + 1 + 1 + 1 + 1 + C) % 3 == 0, y + 1 + 1 + 1 + 1 + 1 + C + 1, y + 1 + 1 + 1 + 1 + 1 + C + 1 + 1⟩) a b ((midL mkPo cnPo x ps k).set k ⟨mkT (y), mkT (y + 1), y + 1 + 1, y + 1 + 1 + 1, (y + 1 + 1 + 1 + 1) % 3 == 0, mkL mkTa cnTa (y + 1 + 1 + 1 + 1 + 1) t.tasks, (y + 1 + 1 + 1 + 1 + 1 + C) % 3 == 0, y + 1 + 1 + 1 + 1 + 1 + C + 1, y + 1 + 1 + 1 + 1 + 1 + C + 1 + 1⟩)
        have g0 := HU3.out.set keepPl (j := 6) (List.getElem?_set_self hkl.out) (List.getElem?_set_self hll.out) ⟨mkT (y), mkT (y + 1), y + 1 + 1, y + 1 + 1 + 1, (y + 1 + 1 + 1 + 1) % 3 == 0, z.tasks, (y + 1 + 1 + 1 + 1 + 1 + C) % 3 == 0, z.cursor, z.floor⟩ ⟨mkT (y), mkT (y + 1), y + 1 + 1, y + 1 + 1 + 1, (y + 1 + 1 + 1 + 1) % 3 == 0, mkL mkTa cnTa (y + 1 + 1 + 1 + 1 + 1) t.tasks, (y + 1 + 1 + 1 + 1 + 1 + C) % 3 == 0, t.cursor, t.floor⟩ (u := .bool ((y + 1 + 1 + 1 + 1 + 1 + C) % 3 == 0)) (by decide) rfl fun a b W h => ⟨h.name, h.cron, h.fr, h.up, h.cu, h.tasks, rfl, h.cursor, h.floor⟩
        rw [List.set_set, List.set_set] at g0
        have g1 := g0.set keepPl (j := 7) (List.getElem?_set_self hkl.out) (List.getElem?_set_self hll.out) ⟨mkT (y), mkT (y + 1), y + 1 + 1, y + 1 + 1 + 1, (y + 1 + 1 + 1 + 1) % 3 == 0, z.tasks, (y + 1 + 1 + 1 + 1 + 1 + C) % 3 == 0, y + 1 + 1 + 1 + 1 + 1 + C + 1, z.floor⟩ ⟨mkT (y), mkT (y + 1), y + 1 + 1, y + 1 + 1 + 1, (y + 1 + 1 + 1 + 1) % 3 == 0, mkL mkTa cnTa (y + 1 + 1 + 1 + 1 + 1) t.tasks, (y + 1 + 1 + 1 + 1 + 1 + C) % 3 == 0, y + 1 + 1 + 1 + 1 + 1 + C + 1, t.floor⟩ (u := .int .i64 (y + 1 + 1 + 1 + 1 + 1 + C + 1)) (by decide) rfl fun a b W h => ⟨h.name, h.cron, h.fr, h.up, h.cu, h.tasks, h.paused, rfl, h.floor⟩
        rw [List.set_set, List.set_set] at g1
        have g2 := g1.set keepPl (j := 8) (List.getElem?_set_self hkl.out) (List.getElem?_set_self hll.out) ⟨mkT (y), mkT (y + 1), y + 1 + 1, y + 1 + 1 + 1, (y + 1 + 1 + 1 + 1) % 3 == 0, z.tasks, (y + 1 + 1 + 1 + 1 + 1 + C) % 3 == 0, y + 1 + 1 + 1 + 1 + 1 + C + 1, y + 1 + 1 + 1 + 1 + 1 + C + 1 + 1⟩ ⟨mkT (y), mkT (y + 1), y + 1 + 1, y + 1 + 1 + 1, (y + 1 + 1 + 1 + 1) % 3 == 0, mkL mkTa cnTa (y + 1 + 1 + 1 + 1 + 1) t.tasks, (y + 1 + 1 + 1 + 1 + 1 + C) % 3 == 0, y + 1 + 1 + 1 + 1 + 1 + C + 1, y + 1 + 1 + 1 + 1 + 1 + C + 1 + 1⟩ (u := .int .i64 (y + 1 + 1 + 1 + 1 + 1 + C + 1 + 1)) (by decide) rfl fun a b W h => ⟨h.name, h.cron, h.fr, h.up, h.cu, h.tasks, h.paused, h.cursor, rfl⟩
        rw [List.set_set, List.set_set] at g2
        exact g2
      have HY3 : Hid (Twi lo hi w (((w3.setCell ⟨g, k * 9 + 6, none⟩ (.bool ((y + 1 + 1 + 1 + 1 + 1 + C) % 3 == 0))).setCell ⟨g, k * 9 + 7, none⟩ (.int .i64 (y + 1 + 1 + 1 + 1 + 1 + C + 1))).setCell ⟨g, k * 9 + 8, none⟩ (.int .i64 (y + 1 + 1 + 1 + 1 + 1 + C + 1 + 1)))) := by
        show Twi lo hi w (((w3.setCell ⟨g, k * 9 + 6, none⟩ (.bool ((y + 1 + 1 + 1 + 1 + 1 + C) % 3 == 0))).setCell ⟨g, k * 9 + 7, none⟩ (.int .i64 (y + 1 + 1 + 1 + 1 + 1 + C + 1))).setCell ⟨g, k * 9 + 8, none⟩ (.int .i64 (y + 1 + 1 + 1 + 1 + 1 + C + 1 + 1)))
        exact (((HX3.out.set (p := ⟨g, k * 9 + 6, none⟩) hgl hgh _).set (p := ⟨g, k * 9 + 7, none⟩) hgl hgh _).set (p := ⟨g, k * 9 + 8, none⟩) hgl hgh _)
      clear HU3 HX3
      have HCN : Hid (x + cnL cnPo (ps.take (k + 1)) = y + 1 + 1 + 1 + 1 + 1 + C + 1 + 1 + 1) := by
        show _ = _
        rw [cnL_take HTT.out, HY.out, cnPo, HC.out]
        omega
      have HFIN : Hid (∃ ks, DK OnePlI 70 lo hi (((w3.setCell ⟨g, k * 9 + 6, none⟩ (.bool ((y + 1 + 1 + 1 + 1 + 1 + C) % 3 == 0))).setCell ⟨g, k * 9 + 7, none⟩ (.int .i64 (y + 1 + 1 + 1 + 1 + 1 + C + 1))).setCell ⟨g, k * 9 + 8, none⟩ (.int .i64 (y + 1 + 1 + 1 + 1 + 1 + C + 1 + 1))) (.slice (some ⟨g, 0, none⟩) n c) ks a b (midL mkPo cnPo x ps (k + 1))) := by
        refine ⟨ks.set k ⟨mkT (y), mkT (y + 1), y + 1 + 1, y + 1 + 1 + 1, (y + 1 + 1 + 1 + 1) % 3 == 0, z.tasks, (y + 1 + 1 + 1 + 1 + 1 + C) % 3 == 0, y + 1 + 1 + 1 + 1 + 1 + C + 1, y + 1 + 1 + 1 + 1 + 1 + C + 1 + 1⟩, ?_⟩
        have h := HW3.out
        have e1 : ⟨mkT (y), mkT (y + 1), y + 1 + 1, y + 1 + 1 + 1, (y + 1 + 1 + 1 + 1) % 3 == 0, mkL mkTa cnTa (y + 1 + 1 + 1 + 1 + 1) t.tasks, (y + 1 + 1 + 1 + 1 + 1 + C) % 3 == 0, y + 1 + 1 + 1 + 1 + 1 + C + 1, y + 1 + 1 + 1 + 1 + 1 + C + 1 + 1⟩ = mkPo y t := by unfold mkPo; rw [HC.out]
        rw [e1] at h
        have e2 : (midL mkPo cnPo x ps k).set k (mkPo y t) = midL mkPo cnPo x ps (k + 1) := by rw [HY.out]; exact midL_set x HTT.out
        rw [e2] at h
        exact h
      clear HW3 HTT HZ hkl hll HAA HAV HC
      go_wp2
      go_roundw
      case rel => exact ⟨k + 1, y + 1 + 1 + 1 + 1 + 1 + C + 1 + 1 + 1, by omega, by go_num, rfl, HCN.out.symm, HFIN, HY3⟩
      case measure => simp [intOf]; omega
    · have hkn : k = ps.length := by rw [HN.out]; omega
      have HR : Hid (∃ ks a b, DK OnePlI 70 lo hi wr (.slice (some ⟨g, 0, none⟩) n c) ks a b (mkL mkPo cnPo x ps)) := by
        obtain ⟨ks, h⟩ := HK.out
        rw [hkn, midL_all] at h
        exact ⟨ks, a, b, h⟩
      have HE : Hid (y = x + cnL cnPo ps) := by rw [hkn, List.take_length] at HY; exact HY
      clear HK HY hkn
      go_wp2
      go_ret
      exact ⟨by rw [HE.out]; rfl, HR.out, HT.out⟩
/-- A row of such records. -/
def PlansI (lo hi : Nat) (w : World) (v : Value) (ps : List Po) : Prop := ∃ ks a b, DK OnePlI 70 lo hi w v ks a b ps
theorem PlansI.keep {lo hi : Nat} {w W : World} {v : Value} {ps : List Po} (h : PlansI lo hi w v ps) (hW : ∀ q, lo ≤ q → q < hi → q < w.heap.size → W.heap[q]? = w.heap[q]?) : PlansI lo hi W v ps := by
  obtain ⟨ks, a, b, h⟩ := h
  exact ⟨ks, a, b, h.keep keepPl hW⟩
theorem PlansI.up {lo hi : Nat} {w W : World} {v : Value} {ps : List Po} (h : PlansI lo hi w v ps) (hb : Below w.heap.size w W) : PlansI lo hi W v ps := h.keep fun q _ _ hq => hb.block q hq
theorem PlansI.row {lo hi : Nat} {w : World} {v : Value} {ps : List Po} (h : PlansI lo hi w v ps) : DRow OnePl w v ps := by
  obtain ⟨ks, a, b, h⟩ := h
  exact h.row fun a b k t ho => ho.one
theorem markPlanSI_any {lo hi : Nat} {w : World} {v : Value} {ps : List Po} (x : Int) (h : PlansI lo hi w v ps) (hn : ps.length ≤ 1048576) (hsz : ∀ p ∈ ps, p.tasks.length ≤ 1048576 ∧ ∀ t ∈ p.tasks, t.after.length ≤ 1048576) (hx0 : 0 < x) (hx : x ≤ 2000000000000000) :
    Calls Try.prog 28 #[v, .int .i64 x] w fun e w' => e = .returned (.int .i64 (x + cnL cnPo ps)) ∧ PlansI lo hi w' v (mkL mkPo cnPo x ps) ∧ Twi lo hi w w' := by
  obtain ⟨ks, a, b, h⟩ := h
  have hl : ks.length = ps.length := h.len
  rcases h.own.2 with ⟨rfl, h0⟩ | ⟨g, cap, cur, rfl, _⟩
  · have hl0 : ps = [] := List.eq_nil_of_length_eq_zero (by rw [← hl]; exact h0)
    subst hl0
    exact (markPlanSI_none none 0 x w).mono fun e w' ⟨he, hb⟩ => ⟨by simpa [cnL] using he, ⟨[], fun _ => 0, fun _ => 0, dk_none _ _ _ _ _⟩, Twi.of_below hb⟩
  · exact markPlanSI_some x h (by rw [hl]; exact hn) hsz hx0 hx
end Go.Proofs.Ytkfhmeiiicidaaa

namespace Go.Proofs.Ytkfhmeiiicidaaa
open Go

/-- All orders that a region's edges allow. -/
def allO (md : Region.Mode) (ops : Array Oper) : Nat → Array Bool → List (List Nat)
  | 0, _ => [[]]
  | fuel + 1, listed =>
    if Region.ready md ops listed = [] then [[]] else (Region.ready md ops listed).flatMap fun i => (allO md ops fuel (listed.setIfInBounds i true)).map (i :: ·)
theorem go_allO (md : Region.Mode) (ops : Array Oper) : ∀ (fuel t : Nat) (listed : Array Bool), Region.linearise.go md ops fuel t listed [] ∈ allO md ops fuel listed := by
  intro fuel
  induction fuel with
  | zero => intro t listed; simp [Region.linearise.go, allO]
  | succ fuel ih =>
    intro t listed
    simp only [Region.linearise.go]
    change (match (Region.ready md ops listed)[t % (Region.ready md ops listed).length]? with
      | some i => Region.linearise.go md ops fuel (t / (Region.ready md ops listed).length) (listed.setIfInBounds i true) [i]
      | none => [].reverse) ∈ _
    unfold allO
    cases hi : (Region.ready md ops listed)[t % (Region.ready md ops listed).length]? with
    | none =>
      have hnil : Region.ready md ops listed = [] := by
        cases hr : Region.ready md ops listed with
        | nil => rfl
        | cons x xs =>
          rw [hr] at hi
          have hlt : t % (x :: xs).length < (x :: xs).length := Nat.mod_lt _ (by simp)
          simp at hi
          simp at hlt
          omega
      rw [if_pos hnil]
      simp
    | some i =>
      have hm := List.mem_of_getElem? hi
      rw [if_neg (fun e => by rw [e] at hm; cases hm)]
      simp only []
      rw [linearise_go_acc, List.reverse_singleton, List.singleton_append]
      exact List.mem_flatMap.2 ⟨i, hm, List.mem_map.2 ⟨_, ih _ _, rfl⟩⟩
variable {F : Fence} {n : Nat} {P : Program} {ops : Array Oper} {Q : Exit → Act → World → Prop} {a : Act} {w : World}
theorem wpOpsIn_list (l : List Nat) : wpOpsIn F n P ops Q l = wpListIn F n P ops Q (l.filterMap fun i => ops[i]?) := by
  induction l with
  | nil => funext a w; simp [wpOpsIn, wpListIn]
  | cons i l ih =>
    funext a w
    cases h : ops[i]? with
    | none => simp [wpOpsIn, h, ih]
    | some o => simp [wpOpsIn, wpListIn, h, ih]
theorem wpIn_region_orders {id : Nat} (hm : P.follows .mixedOrders = true) {os : List (List Nat)} (ho : allO .any ops ops.size (Array.replicate ops.size false) = os)
    (h : ∀ o ∈ os, wpListIn F n P ops Q (o.filterMap fun i => ops[i]?) a w.drew) : (Code.region id ops true).wpIn F n P Q a w :=
  wpIn_region_draw fun t => by
    simp only [Region.schedule, hm, Bool.true_or, if_true]
    rw [wpOpsIn_list]
    refine h _ ?_
    rw [← ho]
    exact go_allO .any ops _ t _
end Go.Proofs.Ytkfhmeiiicidaaa

namespace Go.Proofs.Ytkfhmeiiicidaaa
open Go Go.RowKit
set_option linter.unusedVariables false

set_option maxRecDepth 10000 in
set_option maxHeartbeats 8000000 in
theorem heldTaskSI_any (ao : Option Addr) (n c : Nat) (x : Int) (ps : List Ta) (w : World) (hr : Tasks w (.slice ao n c) (mkL mkTa cnTa x ps)) (hl : ps.length = n) (hn : n ≤ 1048576) (hsz : ∀ t ∈ ps, t.after.length ≤ 1048576) (hx0 : 0 < x) (hx : x ≤ 2000000000000000000) :
    Calls Try.prog 58 #[.slice ao n c, .int .i64 x] w fun e w' => e = .returned (.int .i64 (x + cnL cnTa ps)) ∧ Below w.heap.size w w' := by
  have HN : Hid (ps.length = n) := hl
  have HR : Hid (∀ W, Below w.heap.size w W → Tasks W (.slice ao n c) (mkL mkTa cnTa x ps)) := fun W h => hr.below h
  have HB : Hid (∀ k, k ≤ n → 0 ≤ cnL cnTa (ps.take k) ∧ cnL cnTa (ps.take k) ≤ 1099515822080) := fun k hk => by
    refine ⟨cnL_nonneg cnTa_nonneg _, ?_⟩
    have h1 := cnL_le (cn := cnTa) (M := 1048580) (ps.take k) fun t ht => by have := hsz t (List.mem_of_mem_take ht); unfold cnTa; omega
    have h2 : (ps.take k).length ≤ 1048576 := by rw [List.length_take]; omega
    have h3 : ((ps.take k).length : Int) * 1048580 ≤ 1048576 * 1048580 := Int.mul_le_mul_of_nonneg_right (by omega) (by decide)
    omega
  have HA : Hid (∀ t ∈ ps, t.after.length ≤ 1048576) := hsz
  clear hr hsz hl
  go_enter Try.func58, Try.ntmps58
  go_wp2
  go_loopw [1, 5] (fun q i wr => ∃ (k : Nat) (y : Int), k ≤ n ∧ i = .int .i64 k ∧ q = .int .i64 y ∧ y = x + cnL cnTa (ps.take k) ∧ Below w.heap.size w wr) (fun _ i _ => n - (intOf i).toNat)
  case atStart => exact ⟨0, x, Nat.zero_le _, rfl, rfl, by simp [cnL], Below.refl _ _⟩
  case round =>
    obtain ⟨k, y, hk, rfl, rfl, hy, hbel⟩ := hrel
    have HY : Hid (y = x + cnL cnTa (ps.take k)) := hy
    have hy1 : 0 < y := by have := (HB.out k hk).1; omega
    have hy2 : y ≤ 2000000000000000000 + 1099515822080 := by have := (HB.out k hk).2; omega
    clear hy
    by_cases hlt : k < n
    · obtain ⟨t, ht⟩ : ∃ t, ps[k]? = some t := ⟨_, List.getElem?_eq_getElem (by rw [HN.out]; exact hlt)⟩
      have HTT : Hid (ps[k]? = some t) := ht
      have HA1 := HA.out t (List.mem_of_getElem? ht)
      have hat := mkL_at (mk := mkTa) (cn := cnTa) x ps ht
      rw [← HY.out] at hat
      obtain ⟨b, o, av, rfl, hb, c0, c1, c2, c3, c4, hav⟩ := (HR.out wr hbel).at hat
      replace c0 : wr.cell? ⟨b, o + k * 5, none⟩ = some (.string (mkT (y))) := c0
      replace c1 : wr.cell? ⟨b, o + k * 5 + 1, none⟩ = some (.string (mkT (y + 1))) := c1
      replace c2 : wr.cell? ⟨b, o + k * 5 + 2, none⟩ = some (.int .i64 (y + 1 + 1)) := c2
      replace c3 : wr.cell? ⟨b, o + k * 5 + 3, none⟩ = some (.bool ((y + 1 + 1 + 1) % 3 == 0)) := c3
      replace hav : Reads wr av (marksR mkT 1 (y + 1 + 1 + 1 + 1) t.after.length) := hav
      obtain ⟨C, HC⟩ : ∃ C, Hid ((t.after.length : Int) = C) := ⟨_, rfl⟩
      have hC : 0 ≤ C ∧ C ≤ 1048576 := by
        rw [← HC.out]
        omega
      obtain ⟨fo, fc, rfl⟩ := reads_slice hav
      rw [marksR_length] at c4 hav
      have HH : Hid (∀ W, Below wr.heap.size wr W → Calls Try.prog 76 #[.slice fo t.after.length fc, .int .i64 (y + 1 + 1 + 1 + 1)] W fun e w' => e = .returned (.int .i64 (y + 1 + 1 + 1 + 1 + C)) ∧ Below W.heap.size W w') := fun W h => by
        have := heldXS_any fo t.after.length fc (y + 1 + 1 + 1 + 1) W (hav.below h) (by omega) (by omega) (by omega)
        rw [HC.out] at this
        exact this
      have HCN : Hid (x + cnL cnTa (ps.take (k + 1)) = y + 1 + 1 + 1 + 1 + C) := by
        show _ = _
        rw [cnL_take HTT.out, HY.out, cnTa, HC.out]
        omega
      generalize t.after.length = ml at c4 HH
      clear hav HC HTT HY HA1 ht hat
      have q1 := Wd.cell c0
      go_wp2
      refine wp_region_wd (by kernel_rfl) (by kernel_rfl) ?_
      repeat (go_big_quiet_step ((go_at_call 55; refine calls_wd (v := .string (mkT (y))) ?_; exact markX_any (y) _ (by omega) (by omega))))
      refine wpQuiet_nil ?_
      rintro W1 ⟨⟨_, B1⟩, rfl⟩
      have D1 : Below wr.heap.size wr W1 := B1
      have L1 : b < W1.heap.size := Nat.lt_of_lt_of_le hb B1.size
      have e1_1 := (B1.cell (p := ⟨b, o + k * 5 + 1, none⟩) hb).trans c1
      have e1_2 := (B1.cell (p := ⟨b, o + k * 5 + 2, none⟩) hb).trans c2
      have e1_3 := (B1.cell (p := ⟨b, o + k * 5 + 3, none⟩) hb).trans c3
      have e1_4 := (B1.cell (p := ⟨b, o + k * 5 + 4, none⟩) hb).trans c4
      clear q1 c0 c1 c2 c3 c4
      have q2 := Wd.cell e1_1
      go_wp2
      refine wp_region_wd (by kernel_rfl) (by kernel_rfl) ?_
      repeat (go_big_quiet_step ((go_at_call 55; refine calls_wd (v := .string (mkT (y + 1))) ?_; exact markX_any (y + 1) _ (by omega) (by omega))))
      refine wpQuiet_nil ?_
      rintro W2 ⟨⟨_, B2⟩, rfl⟩
      have D2 : Below wr.heap.size wr W2 := D1.trans (B2.mono D1.size)
      have L2 : b < W2.heap.size := Nat.lt_of_lt_of_le L1 B2.size
      have e2_2 := (B2.cell (p := ⟨b, o + k * 5 + 2, none⟩) L1).trans e1_2
      have e2_3 := (B2.cell (p := ⟨b, o + k * 5 + 3, none⟩) L1).trans e1_3
      have e2_4 := (B2.cell (p := ⟨b, o + k * 5 + 4, none⟩) L1).trans e1_4
      clear q2 e1_1 e1_2 e1_3 e1_4
      go_wp2_with fail
      refine (HH.out _ D2).mono ?_
      rintro e W3 ⟨rfl, B3⟩
      have D3 : Below wr.heap.size wr W3 := D2.trans (B3.mono D2.size)
      have L3 : b < W3.heap.size := Nat.lt_of_lt_of_le L2 B3.size
      clear HH e2_4
      go_wp2
      go_roundw
      case rel => exact ⟨k + 1, y + 1 + 1 + 1 + 1 + C, by omega, by go_num, rfl, HCN.out.symm, hbel.trans (D3.mono hbel.size)⟩
      case measure => simp [intOf]; omega
    · have hkn : k = ps.length := by rw [HN.out]; omega
      have HE : Hid (y = x + cnL cnTa ps) := by rw [hkn, List.take_length] at HY; exact HY
      clear HY hkn
      go_wp2
      go_ret
      exact ⟨by rw [HE.out]; rfl, hbel⟩
end Go.Proofs.Ytkfhmeiiicidaaa

namespace Go.Proofs.Ytkfhmeiiicidaaa
open Go Go.RowKit
set_option linter.unusedVariables false

set_option maxRecDepth 10000 in
set_option maxHeartbeats 8000000 in
theorem heldPlanSI_any (ao : Option Addr) (n c : Nat) (x : Int) (ps : List Po) (w : World) (hr : DRow OnePl w (.slice ao n c) (mkL mkPo cnPo x ps)) (hl : ps.length = n) (hn : n ≤ 1048576) (hsz : ∀ p ∈ ps, p.tasks.length ≤ 1048576 ∧ ∀ t ∈ p.tasks, t.after.length ≤ 1048576) (hx0 : 0 < x) (hx : x ≤ 2000000000000000) :
    Calls Try.prog 31 #[.slice ao n c, .int .i64 x] w fun e w' => e = .returned (.int .i64 (x + cnL cnPo ps)) ∧ Below w.heap.size w w' := by
  have HN : Hid (ps.length = n) := hl
  have HR : Hid (∀ W, Below w.heap.size w W → DRow OnePl W (.slice ao n c) (mkL mkPo cnPo x ps)) := fun W h => hr.below onePl_below h
  have HB : Hid (∀ k, k ≤ n → 0 ≤ cnL cnPo (ps.take k) ∧ cnL cnPo (ps.take k) ≤ 1152927002173374464) := fun k hk => by
    refine ⟨cnL_nonneg cnPo_nonneg _, ?_⟩
    have h1 := cnL_le (cn := cnPo) (M := 1099516870664) (ps.take k) fun t ht => by
      have hq := hsz t (List.mem_of_mem_take ht)
      have h1 := cnL_le (cn := cnTa) (M := 1048580) t.tasks fun u hu => by have := hq.2 u hu; unfold cnTa; omega
      have h3 : (t.tasks.length : Int) * 1048580 ≤ 1048576 * 1048580 := Int.mul_le_mul_of_nonneg_right (by omega) (by decide)
      unfold cnPo
      omega
    have h2 : (ps.take k).length ≤ 1048576 := by rw [List.length_take]; omega
    have h3 : ((ps.take k).length : Int) * 1099516870664 ≤ 1048576 * 1099516870664 := Int.mul_le_mul_of_nonneg_right (by omega) (by decide)
    omega
  have HA : Hid (∀ p ∈ ps, p.tasks.length ≤ 1048576 ∧ ∀ t ∈ p.tasks, t.after.length ≤ 1048576) := hsz
  clear hr hsz hl
  go_enter Try.func31, Try.ntmps31
  go_wp2
  go_loopw [1, 5] (fun q i wr => ∃ (k : Nat) (y : Int), k ≤ n ∧ i = .int .i64 k ∧ q = .int .i64 y ∧ y = x + cnL cnPo (ps.take k) ∧ Below w.heap.size w wr) (fun _ i _ => n - (intOf i).toNat)
  case atStart => exact ⟨0, x, Nat.zero_le _, rfl, rfl, by simp [cnL], Below.refl _ _⟩
  case round =>
    obtain ⟨k, y, hk, rfl, rfl, hy, hbel⟩ := hrel
    have HY : Hid (y = x + cnL cnPo (ps.take k)) := hy
    have hy1 : 0 < y := by have := (HB.out k hk).1; omega
    have hy2 : y ≤ 2000000000000000 + 1152927002173374464 := by have := (HB.out k hk).2; omega
    clear hy
    by_cases hlt : k < n
    · obtain ⟨t, ht⟩ : ∃ t, ps[k]? = some t := ⟨_, List.getElem?_eq_getElem (by rw [HN.out]; exact hlt)⟩
      have HTT : Hid (ps[k]? = some t) := ht
      have HA1 := HA.out t (List.mem_of_getElem? ht)
      have hat := mkL_at (mk := mkPo) (cn := cnPo) x ps ht
      rw [← HY.out] at hat
      obtain ⟨b, o, av, rfl, hb, c0, c1, c2, c3, c4, c5, c6, c7, c8, hav⟩ := pl_at (C := 0) (HR.out wr hbel) hat
      replace c0 : wr.cell? ⟨b, o + k * 9, none⟩ = some (.string (mkT (y))) := c0
      replace c1 : wr.cell? ⟨b, o + k * 9 + 1, none⟩ = some (.string (mkT (y + 1))) := c1
      replace c2 : wr.cell? ⟨b, o + k * 9 + 2, none⟩ = some (.int .i64 (y + 1 + 1)) := c2
      replace c3 : wr.cell? ⟨b, o + k * 9 + 3, none⟩ = some (.int .i64 (y + 1 + 1 + 1)) := c3
      replace c4 : wr.cell? ⟨b, o + k * 9 + 4, none⟩ = some (.bool ((y + 1 + 1 + 1 + 1) % 3 == 0)) := c4
      replace c6 : wr.cell? ⟨b, o + k * 9 + 6, none⟩ = some (.bool ((y + 1 + 1 + 1 + 1 + 1 + cnL cnTa t.tasks) % 3 == 0)) := c6
      replace c7 : wr.cell? ⟨b, o + k * 9 + 7, none⟩ = some (.int .i64 (y + 1 + 1 + 1 + 1 + 1 + cnL cnTa t.tasks + 1)) := c7
      replace c8 : wr.cell? ⟨b, o + k * 9 + 8, none⟩ = some (.int .i64 (y + 1 + 1 + 1 + 1 + 1 + cnL cnTa t.tasks + 1 + 1)) := c8
      replace hav : Tasks wr av (mkL mkTa cnTa (y + 1 + 1 + 1 + 1 + 1) t.tasks) := hav
      obtain ⟨C, HC⟩ : ∃ C, Hid (cnL cnTa t.tasks = C) := ⟨_, rfl⟩
      have hC : 0 ≤ C ∧ C ≤ 1099516870656 := by
        rw [← HC.out]
        refine ⟨cnL_nonneg cnTa_nonneg _, ?_⟩
        have h1 := cnL_le (cn := cnTa) (M := 1048580) t.tasks fun u hu => by have := HA1.2 u hu; unfold cnTa; omega
        have h3 : (t.tasks.length : Int) * 1048580 ≤ 1048576 * 1048580 := Int.mul_le_mul_of_nonneg_right (by omega) (by decide)
        omega
      rw [HC.out] at c6
      rw [HC.out] at c7
      rw [HC.out] at c8
      obtain ⟨fo, fc, rfl⟩ := hav.slice
      rw [mkL_length] at c5 hav
      have HH : Hid (∀ W, Below wr.heap.size wr W → Calls Try.prog 58 #[.slice fo t.tasks.length fc, .int .i64 (y + 1 + 1 + 1 + 1 + 1)] W fun e w' => e = .returned (.int .i64 (y + 1 + 1 + 1 + 1 + 1 + C)) ∧ Below W.heap.size W w') := fun W h => by
        have := heldTaskSI_any fo t.tasks.length fc (y + 1 + 1 + 1 + 1 + 1) t.tasks W (hav.below h) rfl HA1.1 HA1.2 (by omega) (by omega)
        rw [HC.out] at this
        exact this
      have HCN : Hid (x + cnL cnPo (ps.take (k + 1)) = y + 1 + 1 + 1 + 1 + 1 + C + 1 + 1 + 1) := by
        show _ = _
        rw [cnL_take HTT.out, HY.out, cnPo, HC.out]
        omega
      generalize t.tasks.length = ml at c5 HH
      clear hav HC HTT HY HA1 ht hat
      have q1 := Wd.cell c0
      go_wp2
      refine wp_region_wd (by kernel_rfl) (by kernel_rfl) ?_
      repeat (go_big_quiet_step ((go_at_call 55; refine calls_wd (v := .string (mkT (y))) ?_; exact markX_any (y) _ (by omega) (by omega))))
      refine wpQuiet_nil ?_
      rintro W1 ⟨⟨_, B1⟩, rfl⟩
      have D1 : Below wr.heap.size wr W1 := B1
      have L1 : b < W1.heap.size := Nat.lt_of_lt_of_le hb B1.size
      have e1_1 := (B1.cell (p := ⟨b, o + k * 9 + 1, none⟩) hb).trans c1
      have e1_2 := (B1.cell (p := ⟨b, o + k * 9 + 2, none⟩) hb).trans c2
      have e1_3 := (B1.cell (p := ⟨b, o + k * 9 + 3, none⟩) hb).trans c3
      have e1_4 := (B1.cell (p := ⟨b, o + k * 9 + 4, none⟩) hb).trans c4
      have e1_5 := (B1.cell (p := ⟨b, o + k * 9 + 5, none⟩) hb).trans c5
      have e1_6 := (B1.cell (p := ⟨b, o + k * 9 + 6, none⟩) hb).trans c6
      have e1_7 := (B1.cell (p := ⟨b, o + k * 9 + 7, none⟩) hb).trans c7
      have e1_8 := (B1.cell (p := ⟨b, o + k * 9 + 8, none⟩) hb).trans c8
      clear q1 c0 c1 c2 c3 c4 c5 c6 c7 c8
      have q2 := Wd.cell e1_1
      go_wp2
      refine wp_region_wd (by kernel_rfl) (by kernel_rfl) ?_
      repeat (go_big_quiet_step ((go_at_call 55; refine calls_wd (v := .string (mkT (y + 1))) ?_; exact markX_any (y + 1) _ (by omega) (by omega))))
      refine wpQuiet_nil ?_
      rintro W2 ⟨⟨_, B2⟩, rfl⟩
      have D2 : Below wr.heap.size wr W2 := D1.trans (B2.mono D1.size)
      have L2 : b < W2.heap.size := Nat.lt_of_lt_of_le L1 B2.size
      have e2_2 := (B2.cell (p := ⟨b, o + k * 9 + 2, none⟩) L1).trans e1_2
      have e2_3 := (B2.cell (p := ⟨b, o + k * 9 + 3, none⟩) L1).trans e1_3
      have e2_4 := (B2.cell (p := ⟨b, o + k * 9 + 4, none⟩) L1).trans e1_4
      have e2_5 := (B2.cell (p := ⟨b, o + k * 9 + 5, none⟩) L1).trans e1_5
      have e2_6 := (B2.cell (p := ⟨b, o + k * 9 + 6, none⟩) L1).trans e1_6
      have e2_7 := (B2.cell (p := ⟨b, o + k * 9 + 7, none⟩) L1).trans e1_7
      have e2_8 := (B2.cell (p := ⟨b, o + k * 9 + 8, none⟩) L1).trans e1_8
      clear q2 e1_1 e1_2 e1_3 e1_4 e1_5 e1_6 e1_7 e1_8
      go_wp2_with fail
      refine (HH.out _ D2).mono ?_
      rintro e W3 ⟨rfl, B3⟩
      have D3 : Below wr.heap.size wr W3 := D2.trans (B3.mono D2.size)
      have L3 : b < W3.heap.size := Nat.lt_of_lt_of_le L2 B3.size
      have e3_6 := (B3.cell (p := ⟨b, o + k * 9 + 6, none⟩) L2).trans e2_6
      have e3_7 := (B3.cell (p := ⟨b, o + k * 9 + 7, none⟩) L2).trans e2_7
      have e3_8 := (B3.cell (p := ⟨b, o + k * 9 + 8, none⟩) L2).trans e2_8
      clear HH e2_5 e2_6 e2_7 e2_8
      go_wp2
      go_roundw
      case rel => exact ⟨k + 1, y + 1 + 1 + 1 + 1 + 1 + C + 1 + 1 + 1, by omega, by go_num, rfl, HCN.out.symm, hbel.trans (D3.mono hbel.size)⟩
      case measure => simp [intOf]; omega
    · have hkn : k = ps.length := by rw [HN.out]; omega
      have HE : Hid (y = x + cnL cnPo ps) := by rw [hkn, List.take_length] at HY; exact HY
      clear HY hkn
      go_wp2
      go_ret
      exact ⟨by rw [HE.out]; rfl, hbel⟩
end Go.Proofs.Ytkfhmeiiicidaaa
