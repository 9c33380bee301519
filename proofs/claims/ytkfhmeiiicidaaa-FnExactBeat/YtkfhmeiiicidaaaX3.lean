/-
  Runs whose rows are owned, each between blocks of its own, marked from any number on: the walks. Runs held against the marks: the walks. A board whose rows are owned, each between blocks of its own, marked, and held against the marks: the walks. Rows that came in, made anew for the program by the law's copies, each row between blocks of its own: the walks.
-/
import Derived.Test.YtkfhmeiiicidaaaX1
import Derived.Test.YtkfhmeiiicidaaaRns
import Derived.Test.YtkfhmeiiicidaaaX2
namespace Go.Proofs.Ytkfhmeiiicidaaa
open Go Go.RowKit
set_option linter.unusedVariables false

/-- A run whose states lie between two blocks. -/
structure OneRkI (lo hi : Nat) (w : World) (k : Rk) (r : Rr) : Prop where
  nm : k.nm = r.nm
  fr : k.fr = r.fr
  up : k.up = r.up
  ep : k.ep = r.ep
  own : ownsR w lo 47 k.tv r.st
  top : ∀ q, k.tv.ownBlock = some q → q < hi
theorem keepRk : KeepI OneRkI := fun lo hi w W k t h hW => ⟨h.nm, h.fr, h.up, h.ep, h.own.hold fun q hq => hW q (h.own.lt q hq).1 (h.top q hq) (h.own.lt q hq).2, h.top⟩
theorem OneRkI.one {lo hi : Nat} {w : World} {k : Rk} {r : Rr} (h : OneRkI lo hi w k r) : OneRk w k r := ⟨h.nm, h.fr, h.up, h.ep, h.own.reads⟩
def mkRr (x : Int) (t : Rr) : Rr := ⟨mkT (x), x + 1, x + 1 + 1, x + 1 + 1 + 1, marksSa (x + 1 + 1 + 1 + 1) t.st.length⟩
def cnRr (t : Rr) : Int := 4 + 4 * (t.st.length : Int)
theorem cnRr_nonneg (t : Rr) : 0 ≤ cnRr t := by unfold cnRr; omega
/-- Cells of an owned row. -/
theorem rk_ownX {w : World} {B : Nat} {g n cap : Nat} {l : List Rk} (h : ownsR w B 52 (.slice (some ⟨g, 0, none⟩) n cap) l) {i : Nat} {x : Rk} (hi : l[i]? = some x) :
    g < w.heap.size ∧ (∀ j, j < 5 → w.frozen? ⟨g, i * 5 + j, none⟩ = false) ∧ w.cell? ⟨g, i * 5, none⟩ = some (.string x.nm) ∧ w.cell? ⟨g, i * 5 + 1, none⟩ = some (.int .i64 x.fr) ∧ w.cell? ⟨g, i * 5 + 2, none⟩ = some (.int .i64 x.up) ∧ w.cell? ⟨g, i * 5 + 3, none⟩ = some (.int .i64 x.ep) ∧ w.cell? ⟨g, i * 5 + 4, none⟩ = some x.tv := by
  obtain ⟨h1, _, _, h2⟩ := h.at hi
  exact ⟨h1, fun j hj => (h2 j hj).2, (h2 0 (by decide)).1, (h2 1 (by decide)).1, (h2 2 (by decide)).1, (h2 3 (by decide)).1, (h2 4 (by decide)).1⟩
set_option maxHeartbeats 1000000 in
theorem markRunSI_none (ao : Option Addr) (c : Nat) (x : Int) (w : World) :
    Calls Try.prog 29 #[.slice ao 0 c, .int .i64 x] w fun e w' => e = .returned (.int .i64 x) ∧ Below w.heap.size w w' := by
  go_enter Try.func29, Try.ntmps29
  go_wp2
  refine wp_loop_rounds 1 ?_
  rw [rounds_succ]
  go_wp2
  go_ret
  exact ⟨rfl, Below.refl _ _⟩
set_option maxRecDepth 10000 in
set_option maxHeartbeats 8000000 in
theorem markRunSI_some {lo hi g n c : Nat} {w : World} {ks : List Rk} {a b : Nat → Nat} {ps : List Rr} (x : Int) (h : DK OneRkI 52 lo hi w (.slice (some ⟨g, 0, none⟩) n c) ks a b ps) (hn : n ≤ 1048576) (hsz : ∀ p ∈ ps, p.st.length ≤ 1048577) (hx0 : 0 < x) (hx : x ≤ 2000000000000000000) :
    Calls Try.prog 29 #[.slice (some ⟨g, 0, none⟩) n c, .int .i64 x] w fun e w' => e = .returned (.int .i64 (x + cnL cnRr ps)) ∧ (∃ ks a b, DK OneRkI 52 lo hi w' (.slice (some ⟨g, 0, none⟩) n c) ks a b (mkL mkRr cnRr x ps)) ∧ Twi lo hi w w' := by
  have HN : Hid (ps.length = n) := by rw [← h.len]; exact h.own.reads.len.symm
  have hgl : lo ≤ g := (h.own.lt g rfl).1
  have hgh : g < hi := h.top g rfl
  have HB : Hid (∀ k, k ≤ n → 0 ≤ cnL cnRr (ps.take k) ∧ cnL cnRr (ps.take k) ≤ 4398054899712) := fun k hk => by
    refine ⟨cnL_nonneg cnRr_nonneg _, ?_⟩
    have h1 := cnL_le (cn := cnRr) (M := 4194312) (ps.take k) fun t ht => by have := hsz t (List.mem_of_mem_take ht); unfold cnRr; omega
    have h2 : (ps.take k).length ≤ 1048576 := by rw [List.length_take]; omega
    have h3 : ((ps.take k).length : Int) * 4194312 ≤ 1048576 * 4194312 := Int.mul_le_mul_of_nonneg_right (by omega) (by decide)
    omega
  have HA : Hid (∀ p ∈ ps, p.st.length ≤ 1048577) := hsz
  have H0 : Hid (∃ ks, DK OneRkI 52 lo hi w (.slice (some ⟨g, 0, none⟩) n c) ks a b (midL mkRr cnRr x ps 0)) := ⟨ks, by rw [midL_zero]; exact h⟩
  clear h hsz
  go_enter Try.func29, Try.ntmps29
  go_wp2
  go_loopw [1, 5] (fun q i wr => ∃ (k : Nat) (y : Int), k ≤ n ∧ i = .int .i64 k ∧ q = .int .i64 y ∧ y = x + cnL cnRr (ps.take k) ∧ Hid (∃ ks, DK OneRkI 52 lo hi wr (.slice (some ⟨g, 0, none⟩) n c) ks a b (midL mkRr cnRr x ps k)) ∧ Hid (Twi lo hi w wr)) (fun _ i _ => n - (intOf i).toNat)
  case atStart => exact ⟨0, x, Nat.zero_le _, rfl, rfl, by simp [cnL], H0, Twi.refl _ _ _⟩
  case round =>
    clear H0
    obtain ⟨k, y, hk, rfl, rfl, hy, HK, HT⟩ := hrel
    have HY : Hid (y = x + cnL cnRr (ps.take k)) := hy
    have hy1 : 0 < y := by have := (HB.out k hk).1; omega
    have hy2 : y ≤ 2000000000000000000 + 4398054899712 := by have := (HB.out k hk).2; omega
    clear hy
    by_cases hlt : k < n
    · obtain ⟨ks, hks⟩ := HK.out
      obtain ⟨t, ht⟩ : ∃ t, ps[k]? = some t := ⟨_, List.getElem?_eq_getElem (by rw [HN.out]; exact hlt)⟩
      have HTT : Hid (ps[k]? = some t) := ht
      obtain ⟨z, hz, ha1, hb1, hz1⟩ := hks.got (midL_at x ht)
      have HZ : Hid (ks[k]? = some z) := hz
      have hkl : Hid (k < ks.length) := (List.getElem?_eq_some_iff.1 hz).1
      have hll : Hid (k < (midL mkRr cnRr x ps k).length) := (List.getElem?_eq_some_iff.1 (midL_at x ht)).1
      have HA1 := HA.out t (List.mem_of_getElem? ht)
      have HKS0 : Hid (DK OneRkI 52 lo hi wr (.slice (some ⟨g, 0, none⟩) n c) (ks.set k ⟨z.nm, z.fr, z.up, z.ep, z.tv⟩) a b ((midL mkRr cnRr x ps k).set k ⟨t.nm, t.fr, t.up, t.ep, t.st⟩)) := by
        have e1 : ks.set k ⟨z.nm, z.fr, z.up, z.ep, z.tv⟩ = ks := set_selfX hz
        have e2 : (midL mkRr cnRr x ps k).set k ⟨t.nm, t.fr, t.up, t.ep, t.st⟩ = (midL mkRr cnRr x ps k) := set_selfX (midL_at x ht)
        rw [e1, e2]
        exact hks
      obtain ⟨C, HC⟩ : ∃ C, Hid (4 * (t.st.length : Int) = C) := ⟨_, rfl⟩
      have hC : 0 ≤ C ∧ C ≤ 4194308 := by rw [← HC.out]; omega
      have HAA : Hid (t.st.length ≤ 1048577) := HA1
      obtain ⟨av, HAV⟩ : ∃ av, Hid (z.tv = av) := ⟨_, rfl⟩
      clear hks hz hz1 HK ht HA1
      go_wp2_with fail
      refine (markX_any (y) _ (by omega) (by omega)).mono ?_
      rintro e w1 ⟨rfl, hb1⟩
      have HU1 : Hid (DK OneRkI 52 lo hi w1 (.slice (some ⟨g, 0, none⟩) n c) (ks.set k ⟨z.nm, z.fr, z.up, z.ep, z.tv⟩) a b ((midL mkRr cnRr x ps k).set k ⟨t.nm, t.fr, t.up, t.ep, t.st⟩)) := HKS0.out.up keepRk hb1
      have HX1 : Hid (Twi lo hi w w1) := HT.out.up hb1
      clear hb1 HKS0 HT
      obtain ⟨hg1, hf1, d1_0, d1_1, d1_2, d1_3, d1_4⟩ := rk_ownX HU1.out.own (List.getElem?_set_self hkl.out)
      have f1_0 : w1.frozen? ⟨g, k * 5, none⟩ = false := hf1 0 (by decide)
      have f1_1 : w1.frozen? ⟨g, k * 5 + 1, none⟩ = false := hf1 1 (by decide)
      have f1_2 : w1.frozen? ⟨g, k * 5 + 2, none⟩ = false := hf1 2 (by decide)
      have f1_3 : w1.frozen? ⟨g, k * 5 + 3, none⟩ = false := hf1 3 (by decide)
      replace d1_4 : w1.cell? ⟨g, k * 5 + 4, none⟩ = some av := by rw [← HAV.out]; exact d1_4
      clear hf1 
      obtain ⟨V1, HV1⟩ : ∃ V, Hid (((((w1.setCell ⟨g, k * 5, none⟩ (.string (mkT (y)))).setCell ⟨g, k * 5 + 1, none⟩ (.int .i64 (y + 1))).setCell ⟨g, k * 5 + 2, none⟩ (.int .i64 (y + 1 + 1))).setCell ⟨g, k * 5 + 3, none⟩ (.int .i64 (y + 1 + 1 + 1))) = V) := ⟨_, rfl⟩
      have HW1 : Hid (DK OneRkI 52 lo hi V1 (.slice (some ⟨g, 0, none⟩) n c) (ks.set k ⟨mkT (y), y + 1, y + 1 + 1, y + 1 + 1 + 1, z.tv⟩) a b ((midL mkRr cnRr x ps k).set k ⟨mkT (y), y + 1, y + 1 + 1, y + 1 + 1 + 1, t.st⟩)) := by
        rw [← HV1.out]
        have g0 := HU1.out.set keepRk (j := 0) (List.getElem?_set_self hkl.out) (List.getElem?_set_self hll.out) ⟨mkT (y), z.fr, z.up, z.ep, z.tv⟩ ⟨mkT (y), t.fr, t.up, t.ep, t.st⟩ (u := .string (mkT (y))) (by decide) rfl fun a b W h => ⟨rfl, h.fr, h.up, h.ep, h.own, h.top⟩
        rw [List.set_set, List.set_set] at g0
        have g1 := g0.set keepRk (j := 1) (List.getElem?_set_self hkl.out) (List.getElem?_set_self hll.out) ⟨mkT (y), y + 1, z.up, z.ep, z.tv⟩ ⟨mkT (y), y + 1, t.up, t.ep, t.st⟩ (u := .int .i64 (y + 1)) (by decide) rfl fun a b W h => ⟨h.nm, rfl, h.up, h.ep, h.own, h.top⟩
        rw [List.set_set, List.set_set] at g1
        have g2 := g1.set keepRk (j := 2) (List.getElem?_set_self hkl.out) (List.getElem?_set_self hll.out) ⟨mkT (y), y + 1, y + 1 + 1, z.ep, z.tv⟩ ⟨mkT (y), y + 1, y + 1 + 1, t.ep, t.st⟩ (u := .int .i64 (y + 1 + 1)) (by decide) rfl fun a b W h => ⟨h.nm, h.fr, rfl, h.ep, h.own, h.top⟩
        rw [List.set_set, List.set_set] at g2
        have g3 := g2.set keepRk (j := 3) (List.getElem?_set_self hkl.out) (List.getElem?_set_self hll.out) ⟨mkT (y), y + 1, y + 1 + 1, y + 1 + 1 + 1, z.tv⟩ ⟨mkT (y), y + 1, y + 1 + 1, y + 1 + 1 + 1, t.st⟩ (u := .int .i64 (y + 1 + 1 + 1)) (by decide) rfl fun a b W h => ⟨h.nm, h.fr, h.up, rfl, h.own, h.top⟩
        rw [List.set_set, List.set_set] at g3
        exact g3
      have HY1 : Hid (Twi lo hi w V1) := by
        rw [← HV1.out]
        exact ((((HX1.out.set (p := ⟨g, k * 5, none⟩) hgl hgh _).set (p := ⟨g, k * 5 + 1, none⟩) hgl hgh _).set (p := ⟨g, k * 5 + 2, none⟩) hgl hgh _).set (p := ⟨g, k * 5 + 3, none⟩) hgl hgh _)
      clear HU1 HX1
      have HMS : Hid (Calls Try.prog 57 #[av, .int .i64 (y + 1 + 1 + 1 + 1)] V1 fun e w' => e = .returned (.int .i64 (y + 1 + 1 + 1 + 1 + C)) ∧ DK OneRkI 52 lo hi w' (.slice (some ⟨g, 0, none⟩) n c) (ks.set k ⟨mkT (y), y + 1, y + 1 + 1, y + 1 + 1 + 1, z.tv⟩) a b ((midL mkRr cnRr x ps k).set k ⟨mkT (y), y + 1, y + 1 + 1, y + 1 + 1 + 1, marksSa (y + 1 + 1 + 1 + 1) t.st.length⟩) ∧ Twi lo hi w w') := by
        obtain ⟨e1, e2, e3⟩ := HW1.out.el k _ _ (List.getElem?_set_self hkl.out) (List.getElem?_set_self hll.out)
        have ho : ownsR V1 (a k) 47 z.tv t.st := e3.own
        have htp : ∀ q, z.tv.ownBlock = some q → q < b k := e3.top
        rw [← HAV.out, ← HC.out]
        refine (markStateS_any (x := y + 1 + 1 + 1 + 1) ho HAA.out (by omega) (by omega)).mono ?_
        rintro e w' ⟨rfl, ho', hg'⟩
        have hout : ∀ q, q < V1.heap.size → (q < a k ∨ b k ≤ q) → w'.heap[q]? = V1.heap[q]? := fun q hq h1 => hg'.block q hq fun e => by
          have h2 := (ho.lt q e.symm).1
          have h3 := htp q e.symm
          omega
        refine ⟨rfl, ?_, ⟨hg'.os.trans HY1.out.os, hg'.tape.trans HY1.out.tape, hg'.output.trans HY1.out.output, Nat.le_trans HY1.out.size hg'.size, fun q hq h1 => (hout q (Nat.lt_of_lt_of_le hq HY1.out.size) (by omega)).trans (HY1.out.block q hq h1)⟩⟩
        have := HW1.out.nest keepRk (List.getElem?_set_self hkl.out) (List.getElem?_set_self hll.out) ⟨mkT (y), y + 1, y + 1 + 1, y + 1 + 1 + 1, marksSa (y + 1 + 1 + 1 + 1) t.st.length⟩ (W := w') ⟨rfl, rfl, rfl, rfl, ho', htp⟩ hout
        rw [List.set_set] at this
        exact this
      go_wp2_with fail
      rw [HV1.out]
      refine HMS.out.mono ?_
      rintro e w2 ⟨rfl, hk2, hx2⟩
      have HU2 : Hid (DK OneRkI 52 lo hi w2 (.slice (some ⟨g, 0, none⟩) n c) (ks.set k ⟨mkT (y), y + 1, y + 1 + 1, y + 1 + 1 + 1, z.tv⟩) a b ((midL mkRr cnRr x ps k).set k ⟨mkT (y), y + 1, y + 1 + 1, y + 1 + 1 + 1, marksSa (y + 1 + 1 + 1 + 1) t.st.length⟩)) := hk2
      have HX2 : Hid (Twi lo hi w w2) := hx2
      clear hk2 hx2 HMS HW1 HY1 HV1
      obtain ⟨hg2, hf2, d2_0, d2_1, d2_2, d2_3, d2_4⟩ := rk_ownX HU2.out.own (List.getElem?_set_self hkl.out)
      clear hf2 d2_0 d2_1 d2_2 d2_3 d2_4
      have HW2 : Hid (DK OneRkI 52 lo hi w2 (.slice (some ⟨g, 0, none⟩) n c) (ks.set k ⟨mkT (y), y + 1, y + 1 + 1, y + 1 + 1 + 1, z.tv⟩) a b ((midL mkRr cnRr x ps k).set k ⟨mkT (y), y + 1, y + 1 + 1, y + 1 + 1 + 1, marksSa (y + 1 + 1 + 1 + 1) t.st.length⟩)) := by
        show DK OneRkI 52 lo hi w2 (.slice (some ⟨g, 0, none⟩) n c) (ks.set k ⟨mkT (y), y + 1, y + 1 + 1, y + 1 + 1 + 1, z.tv⟩) a b ((midL mkRr cnRr x ps k).set k ⟨mkT (y), y + 1, y + 1 + 1, y + 1 + 1 + 1, marksSa (y + 1 + 1 + 1 + 1) t.st.length⟩)

        exact HU2.out
      have HY2 : Hid (Twi lo hi w w2) := by
        show Twi lo hi w w2
        exact HX2.out
      clear HU2 HX2
      have HCN : Hid (x + cnL cnRr (ps.take (k + 1)) = y + 1 + 1 + 1 + 1 + C) := by
        show _ = _
        rw [cnL_take HTT.out, HY.out, cnRr, HC.out]
        omega
      have HFIN : Hid (∃ ks, DK OneRkI 52 lo hi w2 (.slice (some ⟨g, 0, none⟩) n c) ks a b (midL mkRr cnRr x ps (k + 1))) := by
        refine ⟨ks.set k ⟨mkT (y), y + 1, y + 1 + 1, y + 1 + 1 + 1, z.tv⟩, ?_⟩
        have h := HW2.out
        have e1 : ⟨mkT (y), y + 1, y + 1 + 1, y + 1 + 1 + 1, marksSa (y + 1 + 1 + 1 + 1) t.st.length⟩ = mkRr y t := rfl
        rw [e1] at h
        have e2 : (midL mkRr cnRr x ps k).set k (mkRr y t) = midL mkRr cnRr x ps (k + 1) := by rw [HY.out]; exact midL_set x HTT.out
        rw [e2] at h
        exact h
      clear HW2 HTT HZ hkl hll HAA HAV HC
      go_wp2
      go_roundw
      case rel => exact ⟨k + 1, y + 1 + 1 + 1 + 1 + C, by omega, by go_num, rfl, HCN.out.symm, HFIN, HY2⟩
      case measure => simp [intOf]; omega
    · have hkn : k = ps.length := by rw [HN.out]; omega
      have HR : Hid (∃ ks a b, DK OneRkI 52 lo hi wr (.slice (some ⟨g, 0, none⟩) n c) ks a b (mkL mkRr cnRr x ps)) := by
        obtain ⟨ks, h⟩ := HK.out
        rw [hkn, midL_all] at h
        exact ⟨ks, a, b, h⟩
      have HE : Hid (y = x + cnL cnRr ps) := by rw [hkn, List.take_length] at HY; exact HY
      clear HK HY hkn
      go_wp2
      go_ret
      exact ⟨by rw [HE.out]; rfl, HR.out, HT.out⟩
/-- A row of such records. -/
def RunsI (lo hi : Nat) (w : World) (v : Value) (ps : List Rr) : Prop := ∃ ks a b, DK OneRkI 52 lo hi w v ks a b ps
theorem RunsI.keep {lo hi : Nat} {w W : World} {v : Value} {ps : List Rr} (h : RunsI lo hi w v ps) (hW : ∀ q, lo ≤ q → q < hi → q < w.heap.size → W.heap[q]? = w.heap[q]?) : RunsI lo hi W v ps := by
  obtain ⟨ks, a, b, h⟩ := h
  exact ⟨ks, a, b, h.keep keepRk hW⟩
theorem RunsI.up {lo hi : Nat} {w W : World} {v : Value} {ps : List Rr} (h : RunsI lo hi w v ps) (hb : Below w.heap.size w W) : RunsI lo hi W v ps := h.keep fun q _ _ hq => hb.block q hq
theorem RunsI.row {lo hi : Nat} {w : World} {v : Value} {ps : List Rr} (h : RunsI lo hi w v ps) : DRow OneRk w v ps := by
  obtain ⟨ks, a, b, h⟩ := h
  exact h.row fun a b k t ho => ho.one
theorem markRunSI_any {lo hi : Nat} {w : World} {v : Value} {ps : List Rr} (x : Int) (h : RunsI lo hi w v ps) (hn : ps.length ≤ 1048576) (hsz : ∀ p ∈ ps, p.st.length ≤ 1048577) (hx0 : 0 < x) (hx : x ≤ 2000000000000000000) :
    Calls Try.prog 29 #[v, .int .i64 x] w fun e w' => e = .returned (.int .i64 (x + cnL cnRr ps)) ∧ RunsI lo hi w' v (mkL mkRr cnRr x ps) ∧ Twi lo hi w w' := by
  obtain ⟨ks, a, b, h⟩ := h
  have hl : ks.length = ps.length := h.len
  rcases h.own.2 with ⟨rfl, h0⟩ | ⟨g, cap, cur, rfl, _⟩
  · have hl0 : ps = [] := List.eq_nil_of_length_eq_zero (by rw [← hl]; exact h0)
    subst hl0
    exact (markRunSI_none none 0 x w).mono fun e w' ⟨he, hb⟩ => ⟨by simpa [cnL] using he, ⟨[], fun _ => 0, fun _ => 0, dk_none _ _ _ _ _⟩, Twi.of_below hb⟩
  · exact markRunSI_some x h (by rw [hl]; exact hn) hsz hx0 hx
end Go.Proofs.Ytkfhmeiiicidaaa

namespace Go.Proofs.Ytkfhmeiiicidaaa
open Go Go.RowKit
set_option linter.unusedVariables false

set_option maxRecDepth 10000 in
set_option maxHeartbeats 8000000 in
theorem heldRunSI_any (ao : Option Addr) (n c : Nat) (x : Int) (ps : List Rr) (w : World) (hr : DRow OneRk w (.slice ao n c) (mkL mkRr cnRr x ps)) (hl : ps.length = n) (hn : n ≤ 1048576) (hsz : ∀ p ∈ ps, p.st.length ≤ 1048577) (hx0 : 0 < x) (hx : x ≤ 2000000000000000000) :
    Calls Try.prog 32 #[.slice ao n c, .int .i64 x] w fun e w' => e = .returned (.int .i64 (x + cnL cnRr ps)) ∧ Below w.heap.size w w' := by
  have HN : Hid (ps.length = n) := hl
  have HR : Hid (∀ W, Below w.heap.size w W → DRow OneRk W (.slice ao n c) (mkL mkRr cnRr x ps)) := fun W h => hr.below oneRk_below h
  have HB : Hid (∀ k, k ≤ n → 0 ≤ cnL cnRr (ps.take k) ∧ cnL cnRr (ps.take k) ≤ 4398054899712) := fun k hk => by
    refine ⟨cnL_nonneg cnRr_nonneg _, ?_⟩
    have h1 := cnL_le (cn := cnRr) (M := 4194312) (ps.take k) fun t ht => by have := hsz t (List.mem_of_mem_take ht); unfold cnRr; omega
    have h2 : (ps.take k).length ≤ 1048576 := by rw [List.length_take]; omega
    have h3 : ((ps.take k).length : Int) * 4194312 ≤ 1048576 * 4194312 := Int.mul_le_mul_of_nonneg_right (by omega) (by decide)
    omega
  have HA : Hid (∀ p ∈ ps, p.st.length ≤ 1048577) := hsz
  clear hr hsz hl
  go_enter Try.func32, Try.ntmps32
  go_wp2
  go_loopw [1, 5] (fun q i wr => ∃ (k : Nat) (y : Int), k ≤ n ∧ i = .int .i64 k ∧ q = .int .i64 y ∧ y = x + cnL cnRr (ps.take k) ∧ Below w.heap.size w wr) (fun _ i _ => n - (intOf i).toNat)
  case atStart => exact ⟨0, x, Nat.zero_le _, rfl, rfl, by simp [cnL], Below.refl _ _⟩
  case round =>
    obtain ⟨k, y, hk, rfl, rfl, hy, hbel⟩ := hrel
    have HY : Hid (y = x + cnL cnRr (ps.take k)) := hy
    have hy1 : 0 < y := by have := (HB.out k hk).1; omega
    have hy2 : y ≤ 2000000000000000000 + 4398054899712 := by have := (HB.out k hk).2; omega
    clear hy
    by_cases hlt : k < n
    · obtain ⟨t, ht⟩ : ∃ t, ps[k]? = some t := ⟨_, List.getElem?_eq_getElem (by rw [HN.out]; exact hlt)⟩
      have HTT : Hid (ps[k]? = some t) := ht
      have HA1 := HA.out t (List.mem_of_getElem? ht)
      have hat := mkL_at (mk := mkRr) (cn := cnRr) x ps ht
      rw [← HY.out] at hat
      obtain ⟨b, o, av, rfl, hb, c0, c1, c2, c3, c4, hav⟩ := rk_at (C := 0) (HR.out wr hbel) hat
      replace c0 : wr.cell? ⟨b, o + k * 5, none⟩ = some (.string (mkT (y))) := c0
      replace c1 : wr.cell? ⟨b, o + k * 5 + 1, none⟩ = some (.int .i64 (y + 1)) := c1
      replace c2 : wr.cell? ⟨b, o + k * 5 + 2, none⟩ = some (.int .i64 (y + 1 + 1)) := c2
      replace c3 : wr.cell? ⟨b, o + k * 5 + 3, none⟩ = some (.int .i64 (y + 1 + 1 + 1)) := c3
      replace hav : Reads wr av (marksSa (y + 1 + 1 + 1 + 1) t.st.length) := hav
      obtain ⟨C, HC⟩ : ∃ C, Hid (4 * (t.st.length : Int) = C) := ⟨_, rfl⟩
      have hC : 0 ≤ C ∧ C ≤ 4194308 := by
        rw [← HC.out]
        omega
      obtain ⟨fo, fc, rfl⟩ := reads_slice hav
      rw [marksSa_length] at c4 hav
      have HH : Hid (∀ W, Below wr.heap.size wr W → Calls Try.prog 59 #[.slice fo t.st.length fc, .int .i64 (y + 1 + 1 + 1 + 1)] W fun e w' => e = .returned (.int .i64 (y + 1 + 1 + 1 + 1 + C)) ∧ Below W.heap.size W w') := fun W h => by
        have := heldStateS_any fo t.st.length fc (y + 1 + 1 + 1 + 1) W (hav.below h) HA1 (by omega) (by omega)
        rw [HC.out] at this
        exact this
      have HCN : Hid (x + cnL cnRr (ps.take (k + 1)) = y + 1 + 1 + 1 + 1 + C) := by
        show _ = _
        rw [cnL_take HTT.out, HY.out, cnRr, HC.out]
        omega
      generalize t.st.length = ml at c4 HH
      clear hav HC HTT HY HA1 ht hat
      have q1 := Wd.cell c0
      go_wp2
      refine wp_region_wd (by kernel_rfl) (by kernel_rfl) ?_
      repeat (go_big_quiet_step ((go_at_call 55; refine calls_wd (v := .string (mkT (y))) ?_; exact markX_any (y) _ (by omega) (by omega))))
      refine wpQuiet_nil ?_
      rintro W1 ⟨⟨_, B1⟩, rfl⟩
      have D1 : Below wr.heap.size wr W1 := B1
      have L1 : b < W1.heap.size := Nat.lt_of_lt_of_le hb B1.size
      have e1_1 := (B1.cell (p := ⟨b, o + k * 5 + 1, none⟩) hb).trans c1
      have e1_2 := (B1.cell (p := ⟨b, o + k * 5 + 2, none⟩) hb).trans c2
      have e1_3 := (B1.cell (p := ⟨b, o + k * 5 + 3, none⟩) hb).trans c3
      have e1_4 := (B1.cell (p := ⟨b, o + k * 5 + 4, none⟩) hb).trans c4
      clear q1 c0 c1 c2 c3 c4
      go_wp2_with fail
      refine (HH.out _ D1).mono ?_
      rintro e W2 ⟨rfl, B2⟩
      have D2 : Below wr.heap.size wr W2 := D1.trans (B2.mono D1.size)
      have L2 : b < W2.heap.size := Nat.lt_of_lt_of_le L1 B2.size
      clear HH e1_4
      go_wp2
      go_roundw
      case rel => exact ⟨k + 1, y + 1 + 1 + 1 + 1 + C, by omega, by go_num, rfl, HCN.out.symm, hbel.trans (D2.mono hbel.size)⟩
      case measure => simp [intOf]; omega
    · have hkn : k = ps.length := by rw [HN.out]; omega
      have HE : Hid (y = x + cnL cnRr ps) := by rw [hkn, List.take_length] at HY; exact HY
      clear HY hkn
      go_wp2
      go_ret
      exact ⟨by rw [HE.out]; rfl, hbel⟩
end Go.Proofs.Ytkfhmeiiicidaaa

namespace Go.Proofs.Ytkfhmeiiicidaaa
open Go Go.RowKit
set_option linter.unusedVariables false

/-- A board whose rows lie between blocks, apart from each other. -/
structure BdI (lo hi : Nat) (w : World) (sv pv rv : Value) (b : Bo) (s0 s1 p0 p1 r0 r1 : Nat) : Prop where
  ses : ownsR w s0 65 sv b.ses
  stop : ∀ q, sv.ownBlock = some q → q < s1
  plans : PlansI p0 p1 w pv b.plans
  runs : RunsI r0 r1 w rv b.runs
  ls : lo ≤ s0
  hs : s1 ≤ hi
  lp : lo ≤ p0
  hp : p1 ≤ hi
  lr : lo ≤ r0
  hr : r1 ≤ hi
  sp : s1 ≤ p0 ∨ p1 ≤ s0
  sr : s1 ≤ r0 ∨ r1 ≤ s0
  pr : p1 ≤ r0 ∨ r1 ≤ p0
section
variable {lo hi : Nat} {w W : World} {sv pv rv : Value} {b : Bo} {s0 s1 p0 p1 r0 r1 : Nat}
theorem BdI.keep (h : BdI lo hi w sv pv rv b s0 s1 p0 p1 r0 r1) (hW : ∀ q, lo ≤ q → q < hi → q < w.heap.size → W.heap[q]? = w.heap[q]?) : BdI lo hi W sv pv rv b s0 s1 p0 p1 r0 r1 :=
  ⟨h.ses.hold fun q hq => hW q (Nat.le_trans h.ls (h.ses.lt q hq).1) (Nat.lt_of_lt_of_le (h.stop q hq) h.hs) (h.ses.lt q hq).2, h.stop, h.plans.keep fun q q1 q2 q3 => hW q (Nat.le_trans h.lp q1) (Nat.lt_of_lt_of_le q2 h.hp) q3, h.runs.keep fun q q1 q2 q3 => hW q (Nat.le_trans h.lr q1) (Nat.lt_of_lt_of_le q2 h.hr) q3, h.ls, h.hs, h.lp, h.hp, h.lr, h.hr, h.sp, h.sr, h.pr⟩
theorem BdI.up (h : BdI lo hi w sv pv rv b s0 s1 p0 p1 r0 r1) (hb : Below w.heap.size w W) : BdI lo hi W sv pv rv b s0 s1 p0 p1 r0 r1 := h.keep fun q _ _ hq => hb.block q hq
theorem BdI.all (h : BdI lo hi w sv pv rv b s0 s1 p0 p1 r0 r1) : BdA w sv pv rv b := ⟨h.ses.reads, h.plans.row, h.runs.row⟩
end
def mkBo (b : Bo) : Bo := ⟨marksSe 1 b.ses.length, mkL mkPo cnPo (1 + 3 * (b.ses.length : Int)) b.plans, mkL mkRr cnRr (1 + 3 * (b.ses.length : Int) + cnL cnPo b.plans) b.runs⟩
def cnBo (b : Bo) : Int := 1 + 3 * (b.ses.length : Int) + cnL cnPo b.plans + cnL cnRr b.runs
theorem cnP_le {ps : List Po} (hn : ps.length ≤ 1048576) (hsz : ∀ p ∈ ps, p.tasks.length ≤ 1048576 ∧ ∀ t ∈ p.tasks, t.after.length ≤ 1048576) : 0 ≤ cnL cnPo ps ∧ cnL cnPo ps ≤ 1152927002173374464 := by
  refine ⟨cnL_nonneg cnPo_nonneg _, ?_⟩
  have h1 := cnL_le (cn := cnPo) (M := 1099516870664) ps fun t ht => by
    have hq := hsz t ht
    have h1 := cnL_le (cn := cnTa) (M := 1048580) t.tasks fun u hu => by have := hq.2 u hu; unfold cnTa; omega
    have h3 : (t.tasks.length : Int) * 1048580 ≤ 1048576 * 1048580 := Int.mul_le_mul_of_nonneg_right (by omega) (by decide)
    unfold cnPo
    omega
  have h3 : (ps.length : Int) * 1099516870664 ≤ 1048576 * 1099516870664 := Int.mul_le_mul_of_nonneg_right (by omega) (by decide)
  omega
theorem cnR_le {rs : List Rr} (hn : rs.length ≤ 1048576) (hsz : ∀ p ∈ rs, p.st.length ≤ 1048577) : 0 ≤ cnL cnRr rs ∧ cnL cnRr rs ≤ 4398054899712 := by
  refine ⟨cnL_nonneg cnRr_nonneg _, ?_⟩
  have h1 := cnL_le (cn := cnRr) (M := 4194312) rs fun t ht => by have := hsz t ht; unfold cnRr; omega
  have h3 : (rs.length : Int) * 4194312 ≤ 1048576 * 4194312 := Int.mul_le_mul_of_nonneg_right (by omega) (by decide)
  omega
set_option maxRecDepth 10000 in
set_option maxHeartbeats 4000000 in
theorem markBoard_any {lo hi : Nat} {w : World} {sv pv rv : Value} {b : Bo} {s0 s1 p0 p1 r0 r1 : Nat} (ck tk : Int) (h : BdI lo hi w sv pv rv b s0 s1 p0 p1 r0 r1) (hz : SizB b) (hw : hi ≤ w.heap.size) :
    Calls Try.prog 10 #[bdV sv pv rv ck tk, .int .i64 1] w fun e w' => e = .returned (.int .i64 (cnBo b)) ∧ BdI lo hi w' sv pv rv (mkBo b) s0 s1 p0 p1 r0 r1 ∧ Twi lo hi w w' := by
  have hP := cnP_le hz.pn hz.plans
  have HZ : Hid (SizB b) := hz
  have hsn := hz.sn
  obtain ⟨W0, HW0⟩ : ∃ W0, Hid (w.alloc (.cells #[sv, pv, rv, .int .i64 ck, .int .i64 tk] 32) = W0) := ⟨_, rfl⟩
  have X0 : B5 32 W0 w.heap.size sv pv rv (.int .i64 ck) (.int .i64 tk) := by rw [← HW0.out]; exact B5.new _ _ _ _ _ _ _
  have B0 : Below w.heap.size w W0 := by rw [← HW0.out]; exact ba (Below.refl _ _) _
  have H0 := h.up B0
  have T0 : Twi lo hi w W0 := Twi.of_below B0
  have hf : hi ≤ w.heap.size := hw
  obtain ⟨C, HC⟩ : ∃ C, Hid (cnL cnPo b.plans = C) := ⟨_, rfl⟩
  obtain ⟨ns, HS⟩ : ∃ ns : Nat, Hid (b.ses.length = ns) := ⟨_, rfl⟩
  obtain ⟨D, HD⟩ : ∃ D, Hid (cnL cnRr b.runs = D) := ⟨_, rfl⟩
  rw [HC.out] at hP
  rw [HS.out] at hsn
  have H1 : Hid (Calls Try.prog 27 #[sv, .int .i64 1] W0 fun e w' => e = .returned (.int .i64 (1 + 3 * (ns : Int))) ∧ BdI lo hi w' sv pv rv ⟨marksSe 1 ns, b.plans, b.runs⟩ s0 s1 p0 p1 r0 r1 ∧ Twi lo hi w w' ∧ B5 32 w' w.heap.size sv pv rv (.int .i64 ck) (.int .i64 tk)) := by
    have hm := markSessionS_any (x := 1) H0.ses (by rw [HS.out]; omega) (by decide) (by decide)
    rw [HS.out] at hm
    refine hm.mono ?_
    rintro e w' ⟨rfl, ho, hg⟩
    have hb : ∀ q, q < W0.heap.size → (q < s0 ∨ s1 ≤ q) → w'.heap[q]? = W0.heap[q]? := fun q hq h1 => hg.block q hq fun e => by
      have h2 := (H0.ses.lt q e.symm).1
      have h3 := H0.stop q e.symm
      omega
    have hs := H0.sp
    have hs2 := H0.sr
    have h5 := H0.hs
    have h6 := H0.ls
    refine ⟨rfl, ⟨ho, H0.stop, H0.plans.keep fun q q1 q2 q3 => hb q q3 (by omega), H0.runs.keep fun q q1 q2 q3 => hb q q3 (by omega), H0.ls, H0.hs, H0.lp, H0.hp, H0.lr, H0.hr, H0.sp, H0.sr, H0.pr⟩, T0.trans ⟨hg.os, hg.tape, hg.output, hg.size, fun q hq h1 => hb q hq (by omega)⟩, ?_⟩
    exact (hb _ X0.lt (by omega)).trans X0
  have H2 : Hid (∀ W, BdI lo hi W sv pv rv ⟨marksSe 1 ns, b.plans, b.runs⟩ s0 s1 p0 p1 r0 r1 → Twi lo hi w W → B5 32 W w.heap.size sv pv rv (.int .i64 ck) (.int .i64 tk) → Calls Try.prog 28 #[pv, .int .i64 (1 + 3 * (ns : Int))] W fun e w' => e = .returned (.int .i64 (1 + 3 * (ns : Int) + C)) ∧ BdI lo hi w' sv pv rv ⟨marksSe 1 ns, mkL mkPo cnPo (1 + 3 * (ns : Int)) b.plans, b.runs⟩ s0 s1 p0 p1 r0 r1 ∧ Twi lo hi w w' ∧ B5 32 w' w.heap.size sv pv rv (.int .i64 ck) (.int .i64 tk)) := fun W H T X => by
    have hm := markPlanSI_any (1 + 3 * (ns : Int)) H.plans HZ.out.pn HZ.out.plans (by omega) (by omega)
    rw [HC.out] at hm
    refine hm.mono ?_
    rintro e w' ⟨rfl, ho, hg⟩
    have hs := H.sp
    have hs2 := H.pr
    have h5 := H.hp
    have h6 := H.lp
    refine ⟨rfl, ⟨H.ses.hold fun q hq => hg.block q (H.ses.lt q hq).2 (by have := (H.ses.lt q hq).1; have := H.stop q hq; omega), H.stop, ho, H.runs.keep fun q q1 q2 q3 => hg.block q q3 (by omega), H.ls, H.hs, H.lp, H.hp, H.lr, H.hr, H.sp, H.sr, H.pr⟩, T.trans (hg.mono h6 h5), ?_⟩
    exact (hg.block _ X.lt (by omega)).trans X
  have H3 : Hid (∀ W, BdI lo hi W sv pv rv ⟨marksSe 1 ns, mkL mkPo cnPo (1 + 3 * (ns : Int)) b.plans, b.runs⟩ s0 s1 p0 p1 r0 r1 → Twi lo hi w W → Calls Try.prog 29 #[rv, .int .i64 (1 + 3 * (ns : Int) + C)] W fun e w' => e = .returned (.int .i64 (1 + 3 * (ns : Int) + C + D)) ∧ BdI lo hi w' sv pv rv ⟨marksSe 1 ns, mkL mkPo cnPo (1 + 3 * (ns : Int)) b.plans, mkL mkRr cnRr (1 + 3 * (ns : Int) + C) b.runs⟩ s0 s1 p0 p1 r0 r1 ∧ Twi lo hi w w') := fun W H T => by
    have hm := markRunSI_any (1 + 3 * (ns : Int) + C) H.runs HZ.out.rn (fun p hp => by have := HZ.out.runs p hp; omega) (by omega) (by omega)
    rw [HD.out] at hm
    refine hm.mono ?_
    rintro e w' ⟨rfl, ho, hg⟩
    have hs := H.sr
    have hs2 := H.pr
    have h5 := H.hr
    have h6 := H.lr
    refine ⟨rfl, ⟨H.ses.hold fun q hq => hg.block q (H.ses.lt q hq).2 (by have := (H.ses.lt q hq).1; have := H.stop q hq; omega), H.stop, H.plans.keep fun q q1 q2 q3 => hg.block q q3 (by omega), ho, H.ls, H.hs, H.lp, H.hp, H.lr, H.hr, H.sp, H.sr, H.pr⟩, T.trans (hg.mono h6 h5)⟩
  have HE : Hid (1 + 3 * (ns : Int) + C + D = cnBo b ∧ (⟨marksSe 1 ns, mkL mkPo cnPo (1 + 3 * (ns : Int)) b.plans, mkL mkRr cnRr (1 + 3 * (ns : Int) + C) b.runs⟩ : Bo) = mkBo b) := by
    refine ⟨?_, ?_⟩
    · unfold cnBo; rw [HS.out, HC.out, HD.out]
    · unfold mkBo; rw [HS.out, HC.out]
  have c0 := X0.c0
  clear h hz H0 T0 B0 HS HC HD HZ
  go_enter Try.func10, Try.ntmps10
  go_wp2_with fail
  rw [HW0.out]
  refine H1.out.mono ?_
  rintro e W1 ⟨rfl, h1, t1, X1⟩
  have c1 := X1.c1
  have G1 : Hid (BdI lo hi W1 sv pv rv ⟨marksSe 1 ns, b.plans, b.runs⟩ s0 s1 p0 p1 r0 r1 ∧ Twi lo hi w W1 ∧ B5 32 W1 w.heap.size sv pv rv (.int .i64 ck) (.int .i64 tk)) := ⟨h1, t1, X1⟩
  clear h1 t1 X1 H1 HW0 X0 c0
  go_wp2_with fail
  refine (H2.out W1 G1.out.1 G1.out.2.1 G1.out.2.2).mono ?_
  rintro e W2 ⟨rfl, h2, t2, X2⟩
  have c2 := X2.c2
  have G2 : Hid (BdI lo hi W2 sv pv rv ⟨marksSe 1 ns, mkL mkPo cnPo (1 + 3 * (ns : Int)) b.plans, b.runs⟩ s0 s1 p0 p1 r0 r1 ∧ Twi lo hi w W2) := ⟨h2, t2⟩
  clear h2 t2 X2 H2 G1 c1
  go_wp2_with fail
  refine (H3.out W2 G2.out.1 G2.out.2).mono ?_
  rintro e W3 ⟨rfl, h3, t3⟩
  have G3 : Hid (BdI lo hi W3 sv pv rv ⟨marksSe 1 ns, mkL mkPo cnPo (1 + 3 * (ns : Int)) b.plans, mkL mkRr cnRr (1 + 3 * (ns : Int) + C) b.runs⟩ s0 s1 p0 p1 r0 r1 ∧ Twi lo hi w W3) := ⟨h3, t3⟩
  clear h3 t3 H3 G2 c2
  go_wp2
  go_ret
  obtain ⟨g1, g2⟩ := G3.out
  rw [HE.out.2] at g1
  exact ⟨by rw [← HE.out.1]; rfl, g1, g2⟩
set_option maxRecDepth 10000 in
set_option maxHeartbeats 4000000 in
theorem heldBoard_any (so po ro : Option Addr) (sn sc pn pc rn rc : Nat) (ck tk : Int) (b : Bo) (w : World) (hr : BdA w (.slice so sn sc) (.slice po pn pc) (.slice ro rn rc) (mkBo b)) (hz : SizB b) :
    Calls Try.prog 11 #[bdV (.slice so sn sc) (.slice po pn pc) (.slice ro rn rc) ck tk, .int .i64 1] w fun e w' => e = .returned (.int .i64 (cnBo b)) ∧ Below w.heap.size w w' := by
  have hP := cnP_le hz.pn hz.plans
  have hR := cnR_le hz.rn fun p hp => by have := hz.runs p hp; omega
  have hsn := hz.sn
  have hpn0 := hz.pn
  have hrn0 := hz.rn
  have hp0 := hz.plans
  have hr0 : ∀ p ∈ b.runs, p.st.length ≤ 1048577 := fun p hp => by have := hz.runs p hp; omega
  have e0 : b.ses.length = sn := by have := hr.ses.len; unfold mkBo at this; rw [marksSe_length] at this; exact this.symm
  have e1 : b.plans.length = pn := by have := hr.plans.len; unfold mkBo at this; rw [mkL_length] at this; exact this
  have e2 : b.runs.length = rn := by have := hr.runs.len; unfold mkBo at this; rw [mkL_length] at this; exact this
  obtain ⟨C, HC⟩ : ∃ C, Hid (cnL cnPo b.plans = C) := ⟨_, rfl⟩
  obtain ⟨D, HD⟩ : ∃ D, Hid (cnL cnRr b.runs = D) := ⟨_, rfl⟩
  rw [HC.out] at hP
  rw [HD.out] at hR
  rw [e0] at hsn
  have H1 : Hid (∀ W, Below w.heap.size w W → Calls Try.prog 30 #[.slice so sn sc, .int .i64 1] W fun e w' => e = .returned (.int .i64 (1 + 3 * (sn : Int))) ∧ Below W.heap.size W w') := fun W hb => by
    have h1 := hr.ses.below hb
    have h2 : Reads W (.slice so sn sc) (marksSe 1 sn) := by rw [← e0] at h1 ⊢; exact h1
    exact heldSessionS_any so sn sc 1 W h2 (by omega) (by decide) (by decide)
  have H2 : Hid (∀ W, Below w.heap.size w W → Calls Try.prog 31 #[.slice po pn pc, .int .i64 (1 + 3 * (sn : Int))] W fun e w' => e = .returned (.int .i64 (1 + 3 * (sn : Int) + C)) ∧ Below W.heap.size W w') := fun W hb => by
    have h1 : DRow OnePl W (.slice po pn pc) (mkL mkPo cnPo (1 + 3 * (sn : Int)) b.plans) := by rw [← e0]; exact hr.plans.below onePl_below hb
    have := heldPlanSI_any po pn pc (1 + 3 * (sn : Int)) b.plans W h1 e1 (by omega) hp0 (by omega) (by omega)
    rw [HC.out] at this
    exact this
  have H3 : Hid (∀ W, Below w.heap.size w W → Calls Try.prog 32 #[.slice ro rn rc, .int .i64 (1 + 3 * (sn : Int) + C)] W fun e w' => e = .returned (.int .i64 (1 + 3 * (sn : Int) + C + D)) ∧ Below W.heap.size W w') := fun W hb => by
    have h1 : DRow OneRk W (.slice ro rn rc) (mkL mkRr cnRr (1 + 3 * (sn : Int) + C) b.runs) := by rw [← e0, ← HC.out]; exact hr.runs.below oneRk_below hb
    have := heldRunSI_any ro rn rc (1 + 3 * (sn : Int) + C) b.runs W h1 e2 (by omega) hr0 (by omega) (by omega)
    rw [HD.out] at this
    exact this
  have HE : Hid (1 + 3 * (sn : Int) + C + D = cnBo b) := by show _ = _; unfold cnBo; rw [e0, HC.out, HD.out]
  obtain ⟨W0, HW0⟩ : ∃ W0, Hid (w.alloc (.cells #[.slice so sn sc, .slice po pn pc, .slice ro rn rc, .int .i64 ck, .int .i64 tk] 32) = W0) := ⟨_, rfl⟩
  have X0 : B5 32 W0 w.heap.size (.slice so sn sc) (.slice po pn pc) (.slice ro rn rc) (.int .i64 ck) (.int .i64 tk) := by rw [← HW0.out]; exact B5.new _ _ _ _ _ _ _
  have B0 : Below w.heap.size w W0 := by rw [← HW0.out]; exact ba (Below.refl _ _) _
  clear hr hz hp0 hr0 HC HD e0 e1 e2 hpn0 hrn0
  go_enter Try.func11, Try.ntmps11
  go_wp2_with fail
  rw [HW0.out]
  refine (H1.out W0 B0).mono ?_
  rintro e W1 ⟨rfl, b1⟩
  have X1 := X0.up b1
  have B1 := Below.on B0 b1
  clear b1 H1 HW0 X0 B0
  have c1 := X1.c1
  go_wp2_with fail
  refine (H2.out W1 B1).mono ?_
  rintro e W2 ⟨rfl, b2⟩
  have X2 := X1.up b2
  have B2 := Below.on B1 b2
  clear b2 H2 X1 B1 c1
  have c2 := X2.c2
  go_wp2_with fail
  refine (H3.out W2 B2).mono ?_
  rintro e W3 ⟨rfl, b3⟩
  have B3 := Below.on B2 b3
  clear b3 H3 X2 B2 c2
  go_wp2
  go_ret
  exact ⟨by rw [← HE.out]; rfl, B3⟩
end Go.Proofs.Ytkfhmeiiicidaaa

namespace Go.Proofs.Ytkfhmeiiicidaaa
open Go Go.RowKit
set_option linter.unusedVariables false

/-- The first k of a list, then as many of another one as lack. -/
def fillL {τ : Type} (l : List τ) (d : τ) (k : Nat) : List τ := l.take k ++ List.replicate (l.length - k) d
theorem fillL_zero {τ : Type} (l : List τ) (d : τ) : fillL l d 0 = List.replicate l.length d := by simp [fillL]
theorem fillL_all {τ : Type} (l : List τ) (d : τ) : fillL l d l.length = l := by simp [fillL]
theorem fillL_length {τ : Type} (l : List τ) (d : τ) {k : Nat} (h : k ≤ l.length) : (fillL l d k).length = l.length := by simp [fillL]; omega
theorem fillL_set {τ : Type} {l : List τ} (d : τ) {k : Nat} {t : τ} (h : l[k]? = some t) : (fillL l d k).set k t = fillL l d (k + 1) := by
  have hk := (List.getElem?_eq_some_iff.1 h).1
  have e : l.take (k + 1) = l.take k ++ [t] := by rw [List.take_add_one, h]; rfl
  unfold fillL
  rw [e, List.set_append_right _ _ (by rw [List.length_take]; omega), List.length_take, Nat.min_eq_left (by omega), Nat.sub_self, show l.length - k = (l.length - (k + 1)) + 1 by omega, List.replicate_succ]
  simp
/-- A row on the way: the first k are made, each with rows of its own. -/
structure WayI {κ τ : Type} [Rec κ] [Inhabited κ] (One : Nat → Nat → World → κ → τ → Prop) (d : τ) (ty : TypeId) (w : World) (B n : Nat) (l : List τ) (k : Nat) (ks : List κ) (W : World) : Prop where
  dk : ∃ a b, DK One ty B W.heap.size W (.slice (some ⟨B, 0, none⟩) n n) ks a b (fillL l d k)
  bel : Below B w W
  rest : ∀ i, k ≤ i → i < n → ks[i]? = some default
  low : w.heap.size = B
  lt : B < W.heap.size
section
variable {κ τ : Type} [Rec κ] [Inhabited κ] {One : Nat → Nat → World → κ → τ → Prop} {d : τ} {ty : TypeId} {w : World} {B n : Nat} {l : List τ} {k : Nat} {ks : List κ} {W W' w2 : World}
theorem WayI.own (h : WayI One d ty w B n l k ks W) : ownsR W B ty (.slice (some ⟨B, 0, none⟩) n n) ks := by
  obtain ⟨a, b, h⟩ := h.dk
  exact h.own
theorem WayI.put (hK : KeepI One) (h : WayI One d ty w B n l k ks W) (hn : l.length = n) (hk : k < n) {t : τ} (ht : l[k]? = some t) (f : κ) (hb : Below W.heap.size W w2) (hone : One W.heap.size w2.heap.size w2 f t) (ho : ownsR W' B ty (.slice (some ⟨B, 0, none⟩) n n) (ks.set k f)) (hs : W'.heap.size = w2.heap.size) (hW : ∀ j, j ≠ B → W'.heap[j]? = w2.heap[j]?) (hbel : Below B w W') : WayI One d ty w B n l (k + 1) (ks.set k f) W' := by
  obtain ⟨a, b, h1⟩ := h.dk
  refine ⟨⟨fun m => if m = k then W.heap.size else a m, fun m => if m = k then w2.heap.size else b m, ?_⟩, hbel, fun i hi hin => ?_, h.low, by rw [hs]; exact Nat.lt_of_lt_of_le h.lt hb.size⟩
  · have := (h1.up hK hb).put hK (W := W') (i := k) (a' := W.heap.size) (b' := w2.heap.size) (x' := f) (t' := t) (by rw [fillL_length _ _ (by omega)]; omega) (Nat.le_of_lt h.lt) (Nat.le_refl _) hb.size ho (hK _ _ _ _ _ _ hone fun q q1 q2 q3 => hW q (by have := h.lt; omega)) (fun q hq hne => hW q fun e => hne (by rw [e]; rfl))
    rw [fillL_set d ht] at this
    rw [hs]
    exact this
  · rw [List.getElem?_set_ne (by omega)]
    exact h.rest i (by omega) hin
theorem WayI.start (hd : ∀ W, One B B W default d) (hl : l.length = n) (hw : w.heap.size = B) (hlt : B < W.heap.size) (hown : ownsR W B ty (.slice (some ⟨B, 0, none⟩) n n) (List.replicate n (default : κ))) (hbel : Below B w W) : WayI One d ty w B n l 0 (List.replicate n default) W := by
  refine ⟨⟨fun _ => B, fun _ => B, hown, fun q hq => by cases hq; exact hlt, by rw [fillL_zero, List.length_replicate, List.length_replicate, hl], fun i x t hx ht => ?_, fun i hi q hq => by cases hq; exact .inr (Nat.le_refl _), fun i j hi hj hne => .inl (Nat.le_refl _)⟩, hbel, fun i _ hi => by rw [List.getElem?_replicate, if_pos hi], hw, hlt⟩
  rw [fillL_zero] at ht
  rw [List.getElem?_replicate] at hx ht
  split at hx
  · cases hx
    split at ht
    · cases ht
      exact ⟨Nat.le_refl _, Nat.le_of_lt hlt, hd W⟩
    · cases ht
  · cases hx
theorem WayI.all (h : WayI One d ty w B n l n ks W) (hn : l.length = n) : ∃ a b, DK One ty B W.heap.size W (.slice (some ⟨B, 0, none⟩) n n) ks a b l := by
  obtain ⟨a, b, h1⟩ := h.dk
  rw [← hn, fillL_all] at h1
  rw [← hn]
  exact ⟨a, b, h1⟩
end
theorem TasksI.wide {lo hi lo' hi' : Nat} {w : World} {v : Value} {ts : List Ta} (h : TasksI lo hi w v ts) (h1 : lo' ≤ lo) (h2 : hi ≤ hi') : TasksI lo' hi' w v ts := by
  obtain ⟨ks, a, b, h⟩ := h
  exact ⟨ks, a, b, (h.low' h1).top' h2⟩
/-- Tasks whose rows lie from a block on. -/
def TasksX (B : Nat) (w : World) (v : Value) (ts : List Ta) : Prop := ∃ hi, hi ≤ w.heap.size ∧ TasksI B hi w v ts
theorem TasksX.mono {B B' : Nat} {w : World} {v : Value} {ts : List Ta} (h : TasksX B w v ts) (hB : B' ≤ B) : TasksX B' w v ts := by
  obtain ⟨hi, h1, h2⟩ := h
  exact ⟨hi, h1, h2.wide hB (Nat.le_refl _)⟩
theorem TasksX.high {B : Nat} {w W : World} {v : Value} {ts : List Ta} (h : TasksX B w v ts) (hs : w.heap.size ≤ W.heap.size) (hW : ∀ k, B ≤ k → W.heap[k]? = w.heap[k]?) : TasksX B W v ts := by
  obtain ⟨hi, h1, h2⟩ := h
  exact ⟨hi, Nat.le_trans h1 hs, h2.keep fun q hq _ _ => hW q hq⟩
theorem TasksX.full {B : Nat} {w : World} {v : Value} {ts : List Ta} (h : TasksX B w v ts) : TasksI B w.heap.size w v ts := by
  obtain ⟨hi, h1, h2⟩ := h
  exact h2.wide (Nat.le_refl _) h1
theorem far5X (W : World) (B k q : Nat) (f : Tk) (hq : q ≠ B) : (((((W.setCell ⟨B, k * 5, none⟩ (.string f.name)).setCell ⟨B, k * 5 + 1, none⟩ (.string f.pool)).setCell ⟨B, k * 5 + 2, none⟩ (.int .i64 f.ret)).setCell ⟨B, k * 5 + 3, none⟩ (.bool f.past)).setCell ⟨B, k * 5 + 4, none⟩ f.after).heap[q]? = W.heap[q]? := by
  rw [heap_setCell_other _ ⟨B, k * 5 + 4, none⟩ q _ hq, heap_setCell_other _ ⟨B, k * 5 + 3, none⟩ q _ hq, heap_setCell_other _ ⟨B, k * 5 + 2, none⟩ q _ hq, heap_setCell_other _ ⟨B, k * 5 + 1, none⟩ q _ hq, heap_setCell_other _ ⟨B, k * 5, none⟩ q _ hq]
set_option maxRecDepth 10000 in
set_option maxHeartbeats 2000000 in
theorem toTI_own (nm po : ByteArray) (rt : Int) (pa : Bool) (fo : Option Addr) (m fc : Nat) (af : List ByteArray) (w : World) (hr : Reads w (.slice fo m fc) af) (hm : m ≤ 1048576) :
    Calls Try.prog 87 #[.agg #[.string nm, .string po, .int .i64 rt, .bool pa, .slice fo m fc]] w fun e w' => ∃ g, e = .returned (.agg #[.string nm, .string po, .int .i64 rt, .bool pa, .slice (some ⟨g, 0, none⟩) m m]) ∧ w.heap.size ≤ g ∧ ownsR w' w.heap.size 9 (.slice (some ⟨g, 0, none⟩) m m) af ∧ Below w.heap.size w w' := by
  have HS : Hid (∀ W, Below w.heap.size w W → Calls Try.prog 90 #[.slice fo m fc] W fun e w' => e = .returned (.slice (some ⟨W.heap.size, 0, none⟩) m m) ∧ ownsR w' W.heap.size 9 (.slice (some ⟨W.heap.size, 0, none⟩) m m) af ∧ Below W.heap.size W w') := fun W hb => toS_any fo m fc af W (hr.below hb) hm
  clear hr
  go_enter Try.func87, Try.ntmps87
  go_wp2_with fail
  obtain ⟨W0, hW⟩ : ∃ W, ((w.alloc (.cells #[.string nm, .string po, .int .i64 rt, .bool pa, .slice fo m fc] 136)).alloc (.cells #[.string ⟨#[]⟩, .string ⟨#[]⟩, .int .i64 0, .bool false, .slice none 0 0] 109)).alloc (.cells #[.string nm, .string po, .int .i64 rt, .bool pa, .slice none 0 0] 109) = W := ⟨_, rfl⟩
  have Z1 : B5 109 W0 (w.heap.size + 1) (.string ⟨#[]⟩) (.string ⟨#[]⟩) (.int .i64 0) (.bool false) (.slice none 0 0) := by
    rw [← hW]
    have := (B5.new 109 (w.alloc (.cells #[.string nm, .string po, .int .i64 rt, .bool pa, .slice fo m fc] 136)) (.string ⟨#[]⟩) (.string ⟨#[]⟩) (.int .i64 0) (.bool false) (.slice none 0 0)).alloc (.cells #[.string nm, .string po, .int .i64 rt, .bool pa, .slice none 0 0] 109)
    simpa using this
  have Z2 : B5 109 W0 (w.heap.size + 1 + 1) (.string nm) (.string po) (.int .i64 rt) (.bool pa) (.slice none 0 0) := by
    rw [← hW]
    have := B5.new 109 ((w.alloc (.cells #[.string nm, .string po, .int .i64 rt, .bool pa, .slice fo m fc] 136)).alloc (.cells #[.string ⟨#[]⟩, .string ⟨#[]⟩, .int .i64 0, .bool false, .slice none 0 0] 109)) (.string nm) (.string po) (.int .i64 rt) (.bool pa) (.slice none 0 0)
    simpa using this
  have B0 : Below w.heap.size w W0 := by rw [← hW]; exact ba (ba (ba (Below.refl _ _) _) _) _
  rw [hW]
  clear hW
  refine (HS.out W0 B0).mono ?_
  rintro x W1 ⟨rfl, ho, hb1⟩
  have Y1 := Z1.up hb1
  have Y2 := Z2.up hb1
  have B1 := Below.on B0 hb1
  have hlow : w.heap.size + 1 + 1 < W0.heap.size := Z2.lt
  clear HS Z1 Z2 B0 hb1
  obtain ⟨g, HG⟩ : ∃ g, Hid (W0.heap.size = g) := ⟨_, rfl⟩
  rw [HG.out] at hlow ho
  rw [HG.out]
  have HO : Hid (ownsR W1 g 9 (.slice (some ⟨g, 0, none⟩) m m) af) := ho
  clear ho HG
  have X2 := Y2.s4 (.slice (some ⟨g, 0, none⟩) m m)
  have X1 := Y1.far (p := ⟨w.heap.size + 1 + 1, 4, none⟩) (by show w.heap.size + 1 + 1 ≠ w.heap.size + 1; omega) (.slice (some ⟨g, 0, none⟩) m m)
  have HX : Hid (ownsR (W1.setCell ⟨w.heap.size + 1 + 1, 4, none⟩ (.slice (some ⟨g, 0, none⟩) m m)) g 9 (.slice (some ⟨g, 0, none⟩) m m) af) := HO.out.setB (by show w.heap.size + 1 + 1 < g; omega) _
  have BX : Below w.heap.size w (W1.setCell ⟨w.heap.size + 1 + 1, 4, none⟩ (.slice (some ⟨g, 0, none⟩) m m)) := B1.setCell (p := ⟨w.heap.size + 1 + 1, 4, none⟩) (by show w.heap.size ≤ w.heap.size + 1 + 1; omega) _
  have c4 := Y2.c4
  have f4 := Y2.fr 4
  obtain ⟨W2, hW2⟩ : ∃ W, W1.setCell ⟨w.heap.size + 1 + 1, 4, none⟩ (.slice (some ⟨g, 0, none⟩) m m) = W := ⟨_, rfl⟩
  rw [hW2] at X1 X2 HX BX
  have HW2 : Hid (W1.setCell ⟨w.heap.size + 1 + 1, 4, none⟩ (.slice (some ⟨g, 0, none⟩) m m) = W2) := hW2
  have e0 := X2.c0
  have e1 := X2.c1
  have e2 := X2.c2
  have e3 := X2.c3
  have e4 := X2.c4
  have h0 := X1.c0
  have h1 := X1.c1
  have h2 := X1.c2
  have h3 := X1.c3
  have h4 := X1.c4
  have k0 := X1.fr 0
  have k1 := X1.fr 1
  have k2 := X1.fr 2
  have k3 := X1.fr 3
  have k4 := X1.fr 4
  go_wp2
  have HE := X1.set (.string nm) (.string po) (.int .i64 rt) (.bool pa) (.slice (some ⟨g, 0, none⟩) m m)
  refine bodyPost_ret (ret_t1 rfl rfl HE) rfl ?_
  refine ⟨g, rfl, by omega, ?_, below_set5 BX (by omega) _ _ _ _ _⟩
  exact (ownsR_set5 HX.out (by omega) _ _ _ _ _).mono (by omega)
set_option maxRecDepth 10000 in
set_option maxHeartbeats 2000000 in
theorem toTSI_own (ao : Option Addr) (n cap : Nat) (ts : List Ta) (w : World) (hr : Tasks w (.slice ao n cap) ts) (hn : n ≤ 1048576) (ha : ∀ t ∈ ts, t.after.length ≤ 1048576) :
    Calls Try.prog 80 #[.slice ao n cap] w fun e w' => e = .returned (.slice (some ⟨w.heap.size, 0, none⟩) n n) ∧ TasksX w.heap.size w' (.slice (some ⟨w.heap.size, 0, none⟩) n n) ts ∧ Below w.heap.size w w' := by
  obtain ⟨i0, hi0, hz0, hz1, hz2⟩ := info_parts infoTk
  have HN : Hid (ts.length = n) := by
    obtain ⟨ao', cap', e⟩ := hr.slice
    injection e with _ e2 _
    exact e2.symm
  have HR : Hid (∀ W, Below w.heap.size w W → Tasks W (.slice ao n cap) ts) := fun W hb => hr.below hb
  have HA : Hid (∀ t ∈ ts, t.after.length ≤ 1048576) := ha
  clear hr ha
  go_enter Try.func80, Try.ntmps80
  go_wp2_with (at_make; refine wpList_make_full _ rfl _ _ 66 rfl w.heap.size 109 i0 _ 5 Try.underlying66 hi0 hz0 hz1 .i64 .i64 _ _ n rfl rfl rfl rfl (by rw [hz2]; omega) (by unfold maxLen; omega) (Nat.le_refl _) ?_; intro w1 ho hg)
  rw [madeTk] at ho
  have hS : WayI OneTkI (⟨⟨#[]⟩, ⟨#[]⟩, 0, false, []⟩ : Ta) 109 w w.heap.size n ts 0 (List.replicate n default) w1 := by
    have ho' : ownsR w1 w.heap.size 109 (.slice (some ⟨w.heap.size, 0, none⟩) n n) (List.replicate n (default : Tk)) := by
      unfold ownsR
      rw [List.length_replicate]
      exact ho
    exact WayI.start (fun W => ⟨rfl, rfl, rfl, rfl, ownsR_nil _ _ _, fun q hq => by cases hq⟩) HN.out rfl (ho'.lt _ rfl).2 ho' ((Below.refl _ w).grown hg (Nat.le_refl _) (fun j hj => by cases hj))
  clear ho hg
  generalize hB : w.heap.size = B at *
  go_loopw [4] (fun i wr => ∃ (k : Nat) (ks : List Tk), k ≤ n ∧ i = .int .i64 k ∧ Hid (WayI OneTkI (⟨⟨#[]⟩, ⟨#[]⟩, 0, false, []⟩ : Ta) 109 w B n ts k ks wr)) (fun i _ => n - (intOf i).toNat)
  case atStart => exact ⟨0, _, Nat.zero_le _, rfl, hS⟩
  case round =>
    clear hS
    obtain ⟨k, ks, hk, rfl, HS⟩ := hrel
    by_cases hlt : k < n
    · obtain ⟨t, ht⟩ : ∃ t, ts[k]? = some t := ⟨_, List.getElem?_eq_getElem (by rw [HN.out]; exact hlt)⟩
      have HT : Hid (ts[k]? = some t) := ht
      obtain ⟨b', o, av, rfl, hb, c0, c1, c2, c3, c4, hav⟩ := (HR.out wr (hB ▸ HS.out.bel)).at ht
      obtain ⟨fo, fc, rfl, _⟩ := id hav
      obtain ⟨m, HM⟩ : ∃ m, Hid (t.after.length = m) := ⟨_, rfl⟩
      have hm : m ≤ 1048576 := by rw [← HM.out]; exact HA.out t (List.mem_of_getElem? ht)
      rw [HM.out] at hav c4
      have HC : Hid (Calls Try.prog 87 #[.agg #[.string t.name, .string t.pool, .int .i64 t.ret, .bool t.past, .slice fo m fc]] wr fun e w' => ∃ g, e = .returned (.agg #[.string t.name, .string t.pool, .int .i64 t.ret, .bool t.past, .slice (some ⟨g, 0, none⟩) m m]) ∧ wr.heap.size ≤ g ∧ ownsR w' wr.heap.size 9 (.slice (some ⟨g, 0, none⟩) m m) t.after ∧ Below wr.heap.size wr w') := toTI_own t.name t.pool t.ret t.past fo m fc t.after wr hav hm
      clear ht hav
      obtain ⟨hgs, -, -, _⟩ := HS.out.own.at (HS.out.rest k (Nat.le_refl _) hlt)
      go_wp2_with fail
      refine HC.out.mono ?_
      rintro e w2 ⟨g, rfl, hg1, hrd, hb2⟩
      have hk2 : ks[k]? = some default := HS.out.rest k (Nat.le_refl _) hlt
      have HO2 : Hid (ownsR w2 B 109 (.slice (some ⟨B, 0, none⟩) n n) ks ∧ ks[k]? = some default) := ⟨HS.out.own.all hb2, hk2⟩
      have bel2 : Below B w w2 := HS.out.bel.trans (hb2.mono (Nat.le_of_lt HS.out.lt))
      have HP : Hid (WayI OneTkI (⟨⟨#[]⟩, ⟨#[]⟩, 0, false, []⟩ : Ta) 109 w B n ts (k + 1) (ks.set k ⟨t.name, t.pool, t.ret, t.past, .slice (some ⟨g, 0, none⟩) m m⟩) (((((w2.setCell ⟨B, k * 5, none⟩ (.string t.name)).setCell ⟨B, k * 5 + 1, none⟩ (.string t.pool)).setCell ⟨B, k * 5 + 2, none⟩ (.int .i64 t.ret)).setCell ⟨B, k * 5 + 3, none⟩ (.bool t.past)).setCell ⟨B, k * 5 + 4, none⟩ (.slice (some ⟨g, 0, none⟩) m m))) :=
        HS.out.put keepTk HN.out hlt HT.out ⟨t.name, t.pool, t.ret, t.past, .slice (some ⟨g, 0, none⟩) m m⟩ hb2 ⟨rfl, rfl, rfl, rfl, hrd, fun q hq => (hrd.lt q hq).2⟩ (tk_put HO2.out.1 ⟨t.name, t.pool, t.ret, t.past, .slice (some ⟨g, 0, none⟩) m m⟩ HO2.out.2) (by simp) (fun j hj => far5X w2 B k j ⟨t.name, t.pool, t.ret, t.past, .slice (some ⟨g, 0, none⟩) m m⟩ hj) (((((bel2.setCell (p := ⟨B, k * 5, none⟩) (Nat.le_refl _) _).setCell (p := ⟨B, k * 5 + 1, none⟩) (Nat.le_refl _) _).setCell (p := ⟨B, k * 5 + 2, none⟩) (Nat.le_refl _) _).setCell (p := ⟨B, k * 5 + 3, none⟩) (Nat.le_refl _) _).setCell (p := ⟨B, k * 5 + 4, none⟩) (Nat.le_refl _) _)
      obtain ⟨hgs2, -, -, hat⟩ := HO2.out.1.at HO2.out.2
      have d0 : w2.cell? ⟨B, k * 5, none⟩ = some (.string ⟨#[]⟩) := (hat 0 (by decide)).1
      have f0 : w2.frozen? ⟨B, k * 5, none⟩ = false := (hat 0 (by decide)).2
      have d1 : w2.cell? ⟨B, k * 5 + 1, none⟩ = some (.string ⟨#[]⟩) := (hat 1 (by decide)).1
      have f1 : w2.frozen? ⟨B, k * 5 + 1, none⟩ = false := (hat 1 (by decide)).2
      have d2 : w2.cell? ⟨B, k * 5 + 2, none⟩ = some (.int .i64 0) := (hat 2 (by decide)).1
      have f2 : w2.frozen? ⟨B, k * 5 + 2, none⟩ = false := (hat 2 (by decide)).2
      have d3 : w2.cell? ⟨B, k * 5 + 3, none⟩ = some (.bool false) := (hat 3 (by decide)).1
      have f3 : w2.frozen? ⟨B, k * 5 + 3, none⟩ = false := (hat 3 (by decide)).2
      have d4 : w2.cell? ⟨B, k * 5 + 4, none⟩ = some (.slice none 0 0) := (hat 4 (by decide)).1
      have f4 : w2.frozen? ⟨B, k * 5 + 4, none⟩ = false := (hat 4 (by decide)).2
      clear hat HS HO2 HC hrd hb2 hk2 bel2 c0 c1 c2 c3 c4
      go_wp2
      go_roundw
      case rel => exact ⟨k + 1, _, by omega, by go_num, HP⟩
      case measure => simp [intOf]; omega
    · have hkn : k = n := by omega
      subst hkn
      go_wp2
      go_ret
      subst hB
      obtain ⟨a, b, hd⟩ := HS.out.all HN.out
      exact ⟨rfl, ⟨_, Nat.le_refl _, _, a, b, hd⟩, HS.out.bel⟩
set_option maxRecDepth 10000 in
set_option maxHeartbeats 4000000 in
theorem toDI_own (ao : Option Addr) (n cap : Nat) (nm cr : ByteArray) (fr up : Int) (cu : Bool) (ts : List Ta) (w : World) (hr : Tasks w (.slice ao n cap) ts) (hn : n ≤ 1048576) (ha : ∀ t ∈ ts, t.after.length ≤ 1048576) :
    Calls Try.prog 65 #[.agg #[.string nm, .string cr, .int .i64 fr, .int .i64 up, .bool cu, .slice ao n cap]] w fun e w' => ∃ g, e = .returned (.agg #[.string nm, .string cr, .int .i64 fr, .int .i64 up, .bool cu, .slice (some ⟨g, 0, none⟩) n n]) ∧ TasksX w.heap.size w' (.slice (some ⟨g, 0, none⟩) n n) ts ∧ Below w.heap.size w w' := by
  have HS : Hid (∀ W, Below w.heap.size w W → Calls Try.prog 80 #[.slice ao n cap] W fun e w' => e = .returned (.slice (some ⟨W.heap.size, 0, none⟩) n n) ∧ TasksX W.heap.size w' (.slice (some ⟨W.heap.size, 0, none⟩) n n) ts ∧ Below W.heap.size W w') := fun W hb => toTSI_own ao n cap ts W (hr.below hb) hn ha
  clear hr ha
  go_enter Try.func65, Try.ntmps65
  go_wp2_with fail
  obtain ⟨W0, hW⟩ : ∃ W, ((w.alloc (.cells #[.string nm, .string cr, .int .i64 fr, .int .i64 up, .bool cu, .slice ao n cap] 83)).alloc (.cells #[.string ⟨#[]⟩, .string ⟨#[]⟩, .int .i64 0, .int .i64 0, .bool false, .slice none 0 0] 68)).alloc (.cells #[.string nm, .string cr, .int .i64 fr, .int .i64 up, .bool cu, .slice none 0 0] 68) = W := ⟨_, rfl⟩
  have Z1 : P6 W0 (w.heap.size + 1) ⟨#[]⟩ ⟨#[]⟩ 0 0 false (.slice none 0 0) := by
    rw [← hW]
    have := (P6.new (w.alloc (.cells #[.string nm, .string cr, .int .i64 fr, .int .i64 up, .bool cu, .slice ao n cap] 83)) ⟨#[]⟩ ⟨#[]⟩ 0 0 false (.slice none 0 0)).on (ba (Below.refl _ _) (.cells #[.string nm, .string cr, .int .i64 fr, .int .i64 up, .bool cu, .slice none 0 0] 68))
    simpa using this
  have Z2 : P6 W0 (w.heap.size + 1 + 1) nm cr fr up cu (.slice none 0 0) := by
    rw [← hW]
    have := P6.new ((w.alloc (.cells #[.string nm, .string cr, .int .i64 fr, .int .i64 up, .bool cu, .slice ao n cap] 83)).alloc (.cells #[.string ⟨#[]⟩, .string ⟨#[]⟩, .int .i64 0, .int .i64 0, .bool false, .slice none 0 0] 68)) nm cr fr up cu (.slice none 0 0)
    simpa using this
  have B0 : Below w.heap.size w W0 := by rw [← hW]; exact ba (ba (ba (Below.refl _ _) _) _) _
  rw [hW]
  clear hW
  refine (HS.out W0 B0).mono ?_
  rintro x W1 ⟨rfl, ht, hb1⟩
  have Y1 := Z1.on hb1
  have Y2 := Z2.on hb1
  have B1 := Below.on B0 hb1
  have hlow : w.heap.size + 1 + 1 < W0.heap.size := Z2.lt
  clear HS Z1 Z2 B0 hb1
  obtain ⟨g, HG⟩ : ∃ g, Hid (W0.heap.size = g) := ⟨_, rfl⟩
  rw [HG.out] at hlow ht
  rw [HG.out]
  have HO : Hid (TasksX g W1 (.slice (some ⟨g, 0, none⟩) n n) ts) := ht
  clear ht HG
  have X2 := Y2.s5 (.slice (some ⟨g, 0, none⟩) n n)
  have X1 := Y1.far (a := ⟨w.heap.size + 1 + 1, 5, none⟩) (by show w.heap.size + 1 + 1 ≠ w.heap.size + 1; omega) (.slice (some ⟨g, 0, none⟩) n n)
  have HX : Hid (TasksX g (W1.setCell ⟨w.heap.size + 1 + 1, 5, none⟩ (.slice (some ⟨g, 0, none⟩) n n)) (.slice (some ⟨g, 0, none⟩) n n) ts) := HO.out.high (by simp) fun k hk => heap_setCell_other W1 ⟨w.heap.size + 1 + 1, 5, none⟩ k _ (fun e => by have e' : k = w.heap.size + 1 + 1 := e; omega)
  have BX : Below w.heap.size w (W1.setCell ⟨w.heap.size + 1 + 1, 5, none⟩ (.slice (some ⟨g, 0, none⟩) n n)) := B1.setCell (p := ⟨w.heap.size + 1 + 1, 5, none⟩) (by show w.heap.size ≤ w.heap.size + 1 + 1; omega) _
  have c4 := Y2.c5
  have f4 := Y2.fz 5
  obtain ⟨W2, hW2⟩ : ∃ W, W1.setCell ⟨w.heap.size + 1 + 1, 5, none⟩ (.slice (some ⟨g, 0, none⟩) n n) = W := ⟨_, rfl⟩
  rw [hW2] at X1 X2 HX BX
  have e0 := X2.c0
  have e1 := X2.c1
  have e2 := X2.c2
  have e3 := X2.c3
  have e4 := X2.c4
  have e5 := X2.c5
  have h0 := X1.c0
  have h1 := X1.c1
  have h2 := X1.c2
  have h3 := X1.c3
  have h4 := X1.c4
  have h5 := X1.c5
  have k0 := X1.fz 0
  have k1 := X1.fz 1
  have k2 := X1.fz 2
  have k3 := X1.fz 3
  have k4 := X1.fz 4
  have k5 := X1.fz 5
  go_wp2
  have HE := ((((((X1.s0 nm).s1 cr).s2 fr).s3 up).s4 cu).s5 (.slice (some ⟨g, 0, none⟩) n n))
  refine bodyPost_ret (ret_g1 rfl rfl HE) rfl ?_
  have low : w.heap.size ≤ w.heap.size + 1 := Nat.le_succ _
  refine ⟨g, rfl, ?_, (((((BX.setCell (p := ⟨w.heap.size + 1, 0, none⟩) low _).setCell (p := ⟨w.heap.size + 1, 1, none⟩) low _).setCell (p := ⟨w.heap.size + 1, 2, none⟩) low _).setCell (p := ⟨w.heap.size + 1, 3, none⟩) low _).setCell (p := ⟨w.heap.size + 1, 4, none⟩) low _).setCell (p := ⟨w.heap.size + 1, 5, none⟩) low _⟩
  have HH := HX.out.high (W := (((((W2.setCell ⟨w.heap.size + 1, 0, none⟩ (.string nm)).setCell ⟨w.heap.size + 1, 1, none⟩ (.string cr)).setCell ⟨w.heap.size + 1, 2, none⟩ (.int .i64 fr)).setCell ⟨w.heap.size + 1, 3, none⟩ (.int .i64 up)).setCell ⟨w.heap.size + 1, 4, none⟩ (.bool cu)).setCell ⟨w.heap.size + 1, 5, none⟩ (.slice (some ⟨g, 0, none⟩) n n)) (by simp) (fun k hk => by
    have hne : k ≠ w.heap.size + 1 := by omega
    rw [heap_setCell_other _ ⟨w.heap.size + 1, 5, none⟩ k _ hne, heap_setCell_other _ ⟨w.heap.size + 1, 4, none⟩ k _ hne, heap_setCell_other _ ⟨w.heap.size + 1, 3, none⟩ k _ hne, heap_setCell_other _ ⟨w.heap.size + 1, 2, none⟩ k _ hne, heap_setCell_other _ ⟨w.heap.size + 1, 1, none⟩ k _ hne, heap_setCell_other _ ⟨w.heap.size + 1, 0, none⟩ k _ hne])
  exact HH.mono (by omega)
set_option maxRecDepth 10000 in
set_option maxHeartbeats 8000000 in
theorem toPlanI_any (ao : Option Addr) (n cap : Nat) (name cron : ByteArray) (fr up : Int) (cu : Bool) (ts : List Ta) (paused : Bool) (cursor floor : Int) (w : World) (hr : Tasks w (.slice ao n cap) ts) (hn : n ≤ 1048576) (ha : ∀ t ∈ ts, t.after.length ≤ 1048576) :
    Calls Try.prog 46 #[.agg #[.string name, .string cron, .int .i64 fr, .int .i64 up, .bool cu, .slice ao n cap, .bool paused, .int .i64 cursor, .int .i64 floor]] w fun e w' => ∃ (g : Option Addr) (gc : Nat), e = .returned (.agg #[.string name, .string cron, .int .i64 fr, .int .i64 up, .bool cu, .slice g n gc, .bool paused, .int .i64 cursor, .int .i64 floor]) ∧ OnePlI w.heap.size w'.heap.size w' ⟨name, cron, fr, up, cu, .slice g n gc, paused, cursor, floor⟩ ⟨name, cron, fr, up, cu, ts, paused, cursor, floor⟩ ∧ Below w.heap.size w w' := by
  have HS : Hid (∀ W, Below w.heap.size w W → Calls Try.prog 65 #[.agg #[.string name, .string cron, .int .i64 fr, .int .i64 up, .bool cu, .slice ao n cap]] W fun e w' => ∃ g, e = .returned (.agg #[.string name, .string cron, .int .i64 fr, .int .i64 up, .bool cu, .slice (some ⟨g, 0, none⟩) n n]) ∧ TasksX W.heap.size w' (.slice (some ⟨g, 0, none⟩) n n) ts ∧ Below W.heap.size W w') := fun W hb => toDI_own ao n cap name cron fr up cu ts W (hr.below hb) hn ha
  clear hr ha
  obtain ⟨W0, hW⟩ : ∃ W, ((w.alloc (.cells #[.string name, .string cron, .int .i64 fr, .int .i64 up, .bool cu, .slice ao n cap, .bool paused, .int .i64 cursor, .int .i64 floor] 85)).alloc (.cells #[.string ⟨#[]⟩, .string ⟨#[]⟩, .int .i64 0, .int .i64 0, .bool false, .slice none 0 0, .bool false, .int .i64 0, .int .i64 0] 70)).alloc (.cells #[.string ⟨#[]⟩, .string ⟨#[]⟩, .int .i64 0, .int .i64 0, .bool false, .slice none 0 0, .bool false, .int .i64 0, .int .i64 0] 70) = W := ⟨_, rfl⟩
  have Z0 : B9 85 W0 w.heap.size (.string name) (.string cron) (.int .i64 fr) (.int .i64 up) (.bool cu) (.slice ao n cap) (.bool paused) (.int .i64 cursor) (.int .i64 floor) := by rw [← hW]; exact ((B9.new _ _ _ _ _ _ _ _ _ _ _).alloc _).alloc _
  have Z1 : B9 70 W0 (w.heap.size + 1) (.string ⟨#[]⟩) (.string ⟨#[]⟩) (.int .i64 0) (.int .i64 0) (.bool false) (.slice none 0 0) (.bool false) (.int .i64 0) (.int .i64 0) := by
    rw [← hW]
    have := (B9.new 70 (w.alloc (.cells #[.string name, .string cron, .int .i64 fr, .int .i64 up, .bool cu, .slice ao n cap, .bool paused, .int .i64 cursor, .int .i64 floor] 85)) (.string ⟨#[]⟩) (.string ⟨#[]⟩) (.int .i64 0) (.int .i64 0) (.bool false) (.slice none 0 0) (.bool false) (.int .i64 0) (.int .i64 0)).alloc (.cells #[.string ⟨#[]⟩, .string ⟨#[]⟩, .int .i64 0, .int .i64 0, .bool false, .slice none 0 0, .bool false, .int .i64 0, .int .i64 0] 70)
    simpa using this
  have Z2 : B9 70 W0 (w.heap.size + 1 + 1) (.string ⟨#[]⟩) (.string ⟨#[]⟩) (.int .i64 0) (.int .i64 0) (.bool false) (.slice none 0 0) (.bool false) (.int .i64 0) (.int .i64 0) := by
    rw [← hW]
    have := B9.new 70 ((w.alloc (.cells #[.string name, .string cron, .int .i64 fr, .int .i64 up, .bool cu, .slice ao n cap, .bool paused, .int .i64 cursor, .int .i64 floor] 85)).alloc (.cells #[.string ⟨#[]⟩, .string ⟨#[]⟩, .int .i64 0, .int .i64 0, .bool false, .slice none 0 0, .bool false, .int .i64 0, .int .i64 0] 70)) (.string ⟨#[]⟩) (.string ⟨#[]⟩) (.int .i64 0) (.int .i64 0) (.bool false) (.slice none 0 0) (.bool false) (.int .i64 0) (.int .i64 0)
    simpa using this
  have B0 : Below w.heap.size w W0 := by rw [← hW]; exact ba (ba (ba (Below.refl _ _) _) _) _
  have HW : Hid (((w.alloc (.cells #[.string name, .string cron, .int .i64 fr, .int .i64 up, .bool cu, .slice ao n cap, .bool paused, .int .i64 cursor, .int .i64 floor] 85)).alloc (.cells #[.string ⟨#[]⟩, .string ⟨#[]⟩, .int .i64 0, .int .i64 0, .bool false, .slice none 0 0, .bool false, .int .i64 0, .int .i64 0] 70)).alloc (.cells #[.string ⟨#[]⟩, .string ⟨#[]⟩, .int .i64 0, .int .i64 0, .bool false, .slice none 0 0, .bool false, .int .i64 0, .int .i64 0] 70) = W0) := hW
  clear hW
  have z0 := Z0.c0
  have z1 := Z0.c1
  have z2 := Z0.c2
  have z3 := Z0.c3
  have z4 := Z0.c4
  have z5 := Z0.c5
  go_enter Try.func46, Try.ntmps46
  go_wp2_with fail
  rw [HW.out]
  refine (HS.out W0 B0).mono ?_
  rintro x W1 ⟨g, rfl, ht, hb1⟩
  have Y0 := Z0.up hb1
  have Y1 := Z1.up hb1
  have Y2 := Z2.up hb1
  have B1 := Below.on B0 hb1
  have hlow : w.heap.size + 1 + 1 < W0.heap.size := Z2.lt
  clear HS Z0 Z1 Z2 B0 hb1 HW z0 z1 z2 z3 z4 z5
  obtain ⟨C, HC⟩ : ∃ C, Hid (W0.heap.size = C) := ⟨_, rfl⟩
  rw [HC.out] at hlow ht
  have HO : Hid (TasksX C W1 (.slice (some ⟨g, 0, none⟩) n n) ts) := ht
  clear ht HC
  have lw : w.heap.size ≤ w.heap.size + 1 + 1 := by omega
  have ne : w.heap.size + 1 + 1 ≠ w.heap.size + 1 := by omega
  obtain ⟨W2, hW2⟩ : ∃ W, ((((((((W1.setCell ⟨w.heap.size + 1 + 1, 0, none⟩ (.string name)).setCell ⟨w.heap.size + 1 + 1, 1, none⟩ (.string cron)).setCell ⟨w.heap.size + 1 + 1, 2, none⟩ (.int .i64 fr)).setCell ⟨w.heap.size + 1 + 1, 3, none⟩ (.int .i64 up)).setCell ⟨w.heap.size + 1 + 1, 4, none⟩ (.bool cu)).setCell ⟨w.heap.size + 1 + 1, 5, none⟩ (.slice (some ⟨g, 0, none⟩) n n)).setCell ⟨w.heap.size + 1 + 1, 6, none⟩ (.bool paused)).setCell ⟨w.heap.size + 1 + 1, 7, none⟩ (.int .i64 cursor)).setCell ⟨w.heap.size + 1 + 1, 8, none⟩ (.int .i64 floor) = W := ⟨_, rfl⟩
  have X2 : B9 70 W2 (w.heap.size + 1 + 1) (.string name) (.string cron) (.int .i64 fr) (.int .i64 up) (.bool cu) (.slice (some ⟨g, 0, none⟩) n n) (.bool paused) (.int .i64 cursor) (.int .i64 floor) := by rw [← hW2]; exact ((((((((Y2.s0 _).s1 _).s2 _).s3 _).s4 _).s5 _).s6 _).s7 _).s8 _
  have X1 : B9 70 W2 (w.heap.size + 1) (.string ⟨#[]⟩) (.string ⟨#[]⟩) (.int .i64 0) (.int .i64 0) (.bool false) (.slice none 0 0) (.bool false) (.int .i64 0) (.int .i64 0) := by rw [← hW2]; exact ((((((((Y1.far (by exact ne) _).far (by exact ne) _).far (by exact ne) _).far (by exact ne) _).far (by exact ne) _).far (by exact ne) _).far (by exact ne) _).far (by exact ne) _).far (by exact ne) _
  have HX : Hid (TasksX C W2 (.slice (some ⟨g, 0, none⟩) n n) ts) := by
    rw [← hW2]
    refine HO.out.high (by simp) fun k hk => ?_
    have hne : k ≠ w.heap.size + 1 + 1 := by omega
    rw [heap_setCell_other _ ⟨w.heap.size + 1 + 1, 8, none⟩ k _ hne, heap_setCell_other _ ⟨w.heap.size + 1 + 1, 7, none⟩ k _ hne, heap_setCell_other _ ⟨w.heap.size + 1 + 1, 6, none⟩ k _ hne, heap_setCell_other _ ⟨w.heap.size + 1 + 1, 5, none⟩ k _ hne, heap_setCell_other _ ⟨w.heap.size + 1 + 1, 4, none⟩ k _ hne, heap_setCell_other _ ⟨w.heap.size + 1 + 1, 3, none⟩ k _ hne, heap_setCell_other _ ⟨w.heap.size + 1 + 1, 2, none⟩ k _ hne, heap_setCell_other _ ⟨w.heap.size + 1 + 1, 1, none⟩ k _ hne, heap_setCell_other _ ⟨w.heap.size + 1 + 1, 0, none⟩ k _ hne]
  have BX : Below w.heap.size w W2 := by
    rw [← hW2]
    exact Below.setCell (Below.setCell (Below.setCell (Below.setCell (Below.setCell (Below.setCell (Below.setCell (Below.setCell (Below.setCell B1 lw _) lw _) lw _) lw _) lw _) lw _) lw _) lw _) lw _
  have y0 := Y2.c0
  have v0 := Y2.fr 0
  have y1 := Y2.c1
  have v1 := Y2.fr 1
  have y2 := Y2.c2
  have v2 := Y2.fr 2
  have y3 := Y2.c3
  have v3 := Y2.fr 3
  have y4 := Y2.c4
  have v4 := Y2.fr 4
  have y5 := Y2.c5
  have v5 := Y2.fr 5
  have y6 := Y2.c6
  have v6 := Y2.fr 6
  have y7 := Y2.c7
  have v7 := Y2.fr 7
  have y8 := Y2.c8
  have v8 := Y2.fr 8
  have a6 := Y0.c6
  have a7 := Y0.c7
  have a8 := Y0.c8
  clear Y0 Y1 Y2 B1 HO
  have p0 := X2.c0
  have p1 := X2.c1
  have p2 := X2.c2
  have p3 := X2.c3
  have p4 := X2.c4
  have p5 := X2.c5
  have p6 := X2.c6
  have p7 := X2.c7
  have p8 := X2.c8
  have r0 := X1.c0
  have s0 := X1.fr 0
  have r1 := X1.c1
  have s1 := X1.fr 1
  have r2 := X1.c2
  have s2 := X1.fr 2
  have r3 := X1.c3
  have s3 := X1.fr 3
  have r4 := X1.c4
  have s4 := X1.fr 4
  have r5 := X1.c5
  have s5 := X1.fr 5
  have r6 := X1.c6
  have s6 := X1.fr 6
  have r7 := X1.c7
  have s7 := X1.fr 7
  have r8 := X1.c8
  have s8 := X1.fr 8
  go_wp2
  have HE := ((((((((X1.s0 (.string name)).s1 (.string cron)).s2 (.int .i64 fr)).s3 (.int .i64 up)).s4 (.bool cu)).s5 (.slice (some ⟨g, 0, none⟩) n n)).s6 (.bool paused)).s7 (.int .i64 cursor)).s8 (.int .i64 floor)
  refine bodyPost_ret (ret_plan rfl rfl HE) rfl ?_
  have lw1 : w.heap.size ≤ w.heap.size + 1 := Nat.le_succ _
  refine ⟨some ⟨g, 0, none⟩, n, rfl, ⟨rfl, rfl, rfl, rfl, rfl, ?_, rfl, rfl, rfl⟩, Below.setCell (Below.setCell (Below.setCell (Below.setCell (Below.setCell (Below.setCell (Below.setCell (Below.setCell (Below.setCell BX lw1 _) lw1 _) lw1 _) lw1 _) lw1 _) lw1 _) lw1 _) lw1 _) lw1 _⟩
  refine TasksX.full ?_
  refine (HX.out.high (by simp) fun k hk => ?_).mono (show w.heap.size ≤ C by omega)
  have hne : k ≠ w.heap.size + 1 := by omega
  rw [heap_setCell_other _ ⟨w.heap.size + 1, 8, none⟩ k _ hne, heap_setCell_other _ ⟨w.heap.size + 1, 7, none⟩ k _ hne, heap_setCell_other _ ⟨w.heap.size + 1, 6, none⟩ k _ hne, heap_setCell_other _ ⟨w.heap.size + 1, 5, none⟩ k _ hne, heap_setCell_other _ ⟨w.heap.size + 1, 4, none⟩ k _ hne, heap_setCell_other _ ⟨w.heap.size + 1, 3, none⟩ k _ hne, heap_setCell_other _ ⟨w.heap.size + 1, 2, none⟩ k _ hne, heap_setCell_other _ ⟨w.heap.size + 1, 1, none⟩ k _ hne, heap_setCell_other _ ⟨w.heap.size + 1, 0, none⟩ k _ hne]

set_option maxRecDepth 10000 in
set_option maxHeartbeats 4000000 in
theorem toPlanSI_any (ao : Option Addr) (n cap : Nat) (l : List Po) (w : World) (hr : DRow OnePl w (.slice ao n cap) l) (hn : n ≤ 1048576) (ha : ∀ x ∈ l, x.tasks.length ≤ 1048576 ∧ ∀ t ∈ x.tasks, t.after.length ≤ 1048576) :
    Calls Try.prog 20 #[.slice ao n cap] w fun e w' => e = .returned (.slice (some ⟨w.heap.size, 0, none⟩) n n) ∧ (∃ ks a b, DK OnePlI 70 w.heap.size w'.heap.size w' (.slice (some ⟨w.heap.size, 0, none⟩) n n) ks a b l) ∧ Below w.heap.size w w' := by
  obtain ⟨i0, hi0, hz0, hz1, hz2⟩ := info_parts infoPl
  have HN : Hid (l.length = n) := hr.len
  have HR : Hid (∀ W, Below w.heap.size w W → DRow OnePl W (.slice ao n cap) l) := fun W hb => hr.below onePl_below hb
  have HA : Hid (∀ x ∈ l, x.tasks.length ≤ 1048576 ∧ ∀ t ∈ x.tasks, t.after.length ≤ 1048576) := ha
  clear hr ha
  go_enter Try.func20, Try.ntmps20
  go_wp2_with (at_make; refine wpList_make_full _ rfl _ _ 29 rfl w.heap.size 70 i0 _ 9 underPl hi0 hz0 hz1 .i64 .i64 _ _ n rfl rfl rfl rfl (by rw [hz2]; omega) (by unfold maxLen; omega) (Nat.le_refl _) ?_; intro w1 ho hg)
  rw [madePl] at ho
  have hS : WayI OnePlI (⟨⟨#[]⟩, ⟨#[]⟩, 0, 0, false, [], false, 0, 0⟩ : Po) 70 w w.heap.size n l 0 (List.replicate n default) w1 := by
    have ho' : ownsR w1 w.heap.size 70 (.slice (some ⟨w.heap.size, 0, none⟩) n n) (List.replicate n (default : Pl)) := by
      unfold ownsR
      rw [List.length_replicate]
      exact ho
    exact WayI.start (fun W => ⟨rfl, rfl, rfl, rfl, rfl, ⟨[], fun _ => 0, fun _ => 0, dk_none _ _ _ _ _⟩, rfl, rfl, rfl⟩) HN.out rfl (ho'.lt _ rfl).2 ho' ((Below.refl _ w).grown hg (Nat.le_refl _) (fun j hj => by cases hj))
  clear ho hg
  generalize hB : w.heap.size = B at *
  go_loopw [4] (fun i wr => ∃ (k : Nat) (ks : List Pl), k ≤ n ∧ i = .int .i64 k ∧ Hid (WayI OnePlI (⟨⟨#[]⟩, ⟨#[]⟩, 0, 0, false, [], false, 0, 0⟩ : Po) 70 w B n l k ks wr)) (fun i _ => n - (intOf i).toNat)
  case atStart => exact ⟨0, _, Nat.zero_le _, rfl, hS⟩
  case round =>
    clear hS
    obtain ⟨k, ks, hk, rfl, HS⟩ := hrel
    by_cases hlt : k < n
    · obtain ⟨t, ht⟩ : ∃ t, l[k]? = some t := ⟨_, List.getElem?_eq_getElem (by rw [HN.out]; exact hlt)⟩
      have HT : Hid (l[k]? = some t) := ht
      obtain ⟨b', o, av, rfl, hb, c0, c1, c2, c3, c4, c5, c6, c7, c8, hav⟩ := pl_at (C := 0) (HR.out wr (hB ▸ HS.out.bel)) ht
      obtain ⟨fo, fc, rfl⟩ := hav.slice
      obtain ⟨m, HM⟩ : ∃ m, Hid (t.tasks.length = m) := ⟨_, rfl⟩
      have hA := HA.out t (List.mem_of_getElem? ht)
      rw [HM.out] at hav c5
      have HC := (show Hid (Calls Try.prog 46 #[.agg #[.string t.name, .string t.cron, .int .i64 t.fr, .int .i64 t.up, .bool t.cu, .slice fo m fc, .bool t.paused, .int .i64 t.cursor, .int .i64 t.floor]] wr fun e w' => ∃ (g : Option Addr) (gc : Nat), e = .returned (.agg #[.string t.name, .string t.cron, .int .i64 t.fr, .int .i64 t.up, .bool t.cu, .slice g m gc, .bool t.paused, .int .i64 t.cursor, .int .i64 t.floor]) ∧ OnePlI wr.heap.size w'.heap.size w' ⟨t.name, t.cron, t.fr, t.up, t.cu, .slice g m gc, t.paused, t.cursor, t.floor⟩ t ∧ Below wr.heap.size wr w') from toPlanI_any fo m fc t.name t.cron t.fr t.up t.cu t.tasks t.paused t.cursor t.floor wr hav (by rw [← HM.out]; exact hA.1) hA.2)
      clear ht hav hA
      obtain ⟨hgs, -, -, _⟩ := HS.out.own.at (HS.out.rest k (Nat.le_refl _) hlt)
      go_wp2_with fail
      refine HC.out.mono ?_
      rintro e w2 ⟨g, gc, rfl, hone, hb2⟩
      have hk2 : ks[k]? = some default := HS.out.rest k (Nat.le_refl _) hlt
      have HO2 : Hid (ownsR w2 B 70 (.slice (some ⟨B, 0, none⟩) n n) ks ∧ ks[k]? = some default) := ⟨HS.out.own.all hb2, hk2⟩
      have bel2 : Below B w w2 := HS.out.bel.trans (hb2.mono (Nat.le_of_lt HS.out.lt))
      have HP : Hid (WayI OnePlI (⟨⟨#[]⟩, ⟨#[]⟩, 0, 0, false, [], false, 0, 0⟩ : Po) 70 w B n l (k + 1) (ks.set k ⟨t.name, t.cron, t.fr, t.up, t.cu, .slice g m gc, t.paused, t.cursor, t.floor⟩) (putPl w2 B k ⟨t.name, t.cron, t.fr, t.up, t.cu, .slice g m gc, t.paused, t.cursor, t.floor⟩)) :=
        HS.out.put keepPl HN.out hlt HT.out _ hb2 hone (pl_put HO2.out.1 _ HO2.out.2) (putPl_size _ _ _ _) (fun j hj => putPl_other _ _ _ _ hj) (below_putPl bel2 (Nat.le_refl _) _ _)
      obtain ⟨hgs2, -, -, hat⟩ := HO2.out.1.at HO2.out.2
      have d0 : w2.cell? ⟨B, k * 9, none⟩ = some (.string ⟨#[]⟩) := (hat 0 (by decide)).1
      have f0 : w2.frozen? ⟨B, k * 9, none⟩ = false := (hat 0 (by decide)).2
      have d1 : w2.cell? ⟨B, k * 9 + 1, none⟩ = some (.string ⟨#[]⟩) := (hat 1 (by decide)).1
      have f1 : w2.frozen? ⟨B, k * 9 + 1, none⟩ = false := (hat 1 (by decide)).2
      have d2 : w2.cell? ⟨B, k * 9 + 2, none⟩ = some (.int .i64 0) := (hat 2 (by decide)).1
      have f2 : w2.frozen? ⟨B, k * 9 + 2, none⟩ = false := (hat 2 (by decide)).2
      have d3 : w2.cell? ⟨B, k * 9 + 3, none⟩ = some (.int .i64 0) := (hat 3 (by decide)).1
      have f3 : w2.frozen? ⟨B, k * 9 + 3, none⟩ = false := (hat 3 (by decide)).2
      have d4 : w2.cell? ⟨B, k * 9 + 4, none⟩ = some (.bool false) := (hat 4 (by decide)).1
      have f4 : w2.frozen? ⟨B, k * 9 + 4, none⟩ = false := (hat 4 (by decide)).2
      have d5 : w2.cell? ⟨B, k * 9 + 5, none⟩ = some (.slice none 0 0) := (hat 5 (by decide)).1
      have f5 : w2.frozen? ⟨B, k * 9 + 5, none⟩ = false := (hat 5 (by decide)).2
      have d6 : w2.cell? ⟨B, k * 9 + 6, none⟩ = some (.bool false) := (hat 6 (by decide)).1
      have f6 : w2.frozen? ⟨B, k * 9 + 6, none⟩ = false := (hat 6 (by decide)).2
      have d7 : w2.cell? ⟨B, k * 9 + 7, none⟩ = some (.int .i64 0) := (hat 7 (by decide)).1
      have f7 : w2.frozen? ⟨B, k * 9 + 7, none⟩ = false := (hat 7 (by decide)).2
      have d8 : w2.cell? ⟨B, k * 9 + 8, none⟩ = some (.int .i64 0) := (hat 8 (by decide)).1
      have f8 : w2.frozen? ⟨B, k * 9 + 8, none⟩ = false := (hat 8 (by decide)).2
      clear hat HS HO2 HC hone hb2 hk2 bel2 c0 c1 c2 c3 c4 c5 c6 c7 c8
      go_wp2
      go_roundw
      case rel => exact ⟨k + 1, _, by omega, by go_num, HP⟩
      case measure => simp [intOf]; omega
    · have hkn : k = n := by omega
      subst hkn
      go_wp2
      go_ret
      subst hB
      exact ⟨rfl, ⟨_, HS.out.all HN.out⟩, HS.out.bel⟩
theorem toRunI_any (ao : Option Addr) (n cap : Nat) (r : Rr) (w : World) (hr : Reads w (.slice ao n cap) r.st) (hn : n ≤ 1048576) (hl : r.st.length = n) :
    Calls Try.prog 47 #[.agg #[.string r.nm, .int .i64 r.fr, .int .i64 r.up, .int .i64 r.ep, .slice ao n cap]] w fun e w' => ∃ (va : Option Addr) (vc : Nat), e = .returned (.agg #[.string r.nm, .int .i64 r.fr, .int .i64 r.up, .int .i64 r.ep, .slice va n vc]) ∧ OneRkI w.heap.size w'.heap.size w' ⟨r.nm, r.fr, r.up, r.ep, .slice va n vc⟩ r ∧ Below w.heap.size w w' :=
  (toRun_any ao n cap r.nm r.fr r.up r.ep r.st w hr hn).mono fun e w' ⟨v, he, ho, hb⟩ => by
    obtain ⟨va, vc, ev, hc⟩ := ho.cap
    rw [hl] at ev hc
    subst ev
    exact ⟨va, vc, he, ⟨rfl, rfl, rfl, rfl, ho, fun q hq => (ho.lt q hq).2⟩, hb⟩
set_option maxRecDepth 10000 in
set_option maxHeartbeats 4000000 in
theorem toRunSI_any (ao : Option Addr) (n cap : Nat) (l : List Rr) (w : World) (hr : DRow OneRk w (.slice ao n cap) l) (hn : n ≤ 1048576) (ha : ∀ x ∈ l, x.st.length ≤ 1048576) :
    Calls Try.prog 21 #[.slice ao n cap] w fun e w' => e = .returned (.slice (some ⟨w.heap.size, 0, none⟩) n n) ∧ (∃ ks a b, DK OneRkI 52 w.heap.size w'.heap.size w' (.slice (some ⟨w.heap.size, 0, none⟩) n n) ks a b l) ∧ Below w.heap.size w w' := by
  obtain ⟨i0, hi0, hz0, hz1, hz2⟩ := info_parts infoRk
  have HN : Hid (l.length = n) := hr.len
  have HR : Hid (∀ W, Below w.heap.size w W → DRow OneRk W (.slice ao n cap) l) := fun W hb => hr.below oneRk_below hb
  have HA : Hid (∀ x ∈ l, x.st.length ≤ 1048576) := ha
  clear hr ha
  go_enter Try.func21, Try.ntmps21
  go_wp2_with (at_make; refine wpList_make_full _ rfl _ _ 30 rfl w.heap.size 52 i0 _ 5 underRk hi0 hz0 hz1 .i64 .i64 _ _ n rfl rfl rfl rfl (by rw [hz2]; omega) (by unfold maxLen; omega) (Nat.le_refl _) ?_; intro w1 ho hg)
  rw [madeRk] at ho
  have hS : WayI OneRkI (⟨⟨#[]⟩, 0, 0, 0, []⟩ : Rr) 52 w w.heap.size n l 0 (List.replicate n default) w1 := by
    have ho' : ownsR w1 w.heap.size 52 (.slice (some ⟨w.heap.size, 0, none⟩) n n) (List.replicate n (default : Rk)) := by
      unfold ownsR
      rw [List.length_replicate]
      exact ho
    exact WayI.start (fun W => ⟨rfl, rfl, rfl, rfl, ownsR_nil _ _ _, fun q hq => by cases hq⟩) HN.out rfl (ho'.lt _ rfl).2 ho' ((Below.refl _ w).grown hg (Nat.le_refl _) (fun j hj => by cases hj))
  clear ho hg
  generalize hB : w.heap.size = B at *
  go_loopw [4] (fun i wr => ∃ (k : Nat) (ks : List Rk), k ≤ n ∧ i = .int .i64 k ∧ Hid (WayI OneRkI (⟨⟨#[]⟩, 0, 0, 0, []⟩ : Rr) 52 w B n l k ks wr)) (fun i _ => n - (intOf i).toNat)
  case atStart => exact ⟨0, _, Nat.zero_le _, rfl, hS⟩
  case round =>
    clear hS
    obtain ⟨k, ks, hk, rfl, HS⟩ := hrel
    by_cases hlt : k < n
    · obtain ⟨t, ht⟩ : ∃ t, l[k]? = some t := ⟨_, List.getElem?_eq_getElem (by rw [HN.out]; exact hlt)⟩
      have HT : Hid (l[k]? = some t) := ht
      obtain ⟨b', o, av, rfl, hb, c0, c1, c2, c3, c4, hav⟩ := rk_at (C := 0) (HR.out wr (hB ▸ HS.out.bel)) ht
      obtain ⟨fo, fc, rfl⟩ := reads_slice hav
      obtain ⟨m, HM⟩ : ∃ m, Hid (t.st.length = m) := ⟨_, rfl⟩
      have hA := HA.out t (List.mem_of_getElem? ht)
      rw [HM.out] at hav c4
      have HC := (show Hid (Calls Try.prog 47 #[.agg #[.string t.nm, .int .i64 t.fr, .int .i64 t.up, .int .i64 t.ep, .slice fo m fc]] wr fun e w' => ∃ (va : Option Addr) (vc : Nat), e = .returned (.agg #[.string t.nm, .int .i64 t.fr, .int .i64 t.up, .int .i64 t.ep, .slice va m vc]) ∧ OneRkI wr.heap.size w'.heap.size w' ⟨t.nm, t.fr, t.up, t.ep, .slice va m vc⟩ t ∧ Below wr.heap.size wr w') from toRunI_any fo m fc t wr hav (by rw [← HM.out]; exact hA) HM.out)
      clear ht hav hA
      obtain ⟨hgs, -, -, _⟩ := HS.out.own.at (HS.out.rest k (Nat.le_refl _) hlt)
      go_wp2_with fail
      refine HC.out.mono ?_
      rintro e w2 ⟨g, gc, rfl, hone, hb2⟩
      have hk2 : ks[k]? = some default := HS.out.rest k (Nat.le_refl _) hlt
      have HO2 : Hid (ownsR w2 B 52 (.slice (some ⟨B, 0, none⟩) n n) ks ∧ ks[k]? = some default) := ⟨HS.out.own.all hb2, hk2⟩
      have bel2 : Below B w w2 := HS.out.bel.trans (hb2.mono (Nat.le_of_lt HS.out.lt))
      have HP : Hid (WayI OneRkI (⟨⟨#[]⟩, 0, 0, 0, []⟩ : Rr) 52 w B n l (k + 1) (ks.set k ⟨t.nm, t.fr, t.up, t.ep, .slice g m gc⟩) (putRk w2 B k ⟨t.nm, t.fr, t.up, t.ep, .slice g m gc⟩)) :=
        HS.out.put keepRk HN.out hlt HT.out _ hb2 hone (rk_put HO2.out.1 _ HO2.out.2) (putRk_size _ _ _ _) (fun j hj => putRk_other _ _ _ _ hj) (below_putRk bel2 (Nat.le_refl _) _ _)
      obtain ⟨hgs2, -, -, hat⟩ := HO2.out.1.at HO2.out.2
      have d0 : w2.cell? ⟨B, k * 5, none⟩ = some (.string ⟨#[]⟩) := (hat 0 (by decide)).1
      have f0 : w2.frozen? ⟨B, k * 5, none⟩ = false := (hat 0 (by decide)).2
      have d1 : w2.cell? ⟨B, k * 5 + 1, none⟩ = some (.int .i64 0) := (hat 1 (by decide)).1
      have f1 : w2.frozen? ⟨B, k * 5 + 1, none⟩ = false := (hat 1 (by decide)).2
      have d2 : w2.cell? ⟨B, k * 5 + 2, none⟩ = some (.int .i64 0) := (hat 2 (by decide)).1
      have f2 : w2.frozen? ⟨B, k * 5 + 2, none⟩ = false := (hat 2 (by decide)).2
      have d3 : w2.cell? ⟨B, k * 5 + 3, none⟩ = some (.int .i64 0) := (hat 3 (by decide)).1
      have f3 : w2.frozen? ⟨B, k * 5 + 3, none⟩ = false := (hat 3 (by decide)).2
      have d4 : w2.cell? ⟨B, k * 5 + 4, none⟩ = some (.slice none 0 0) := (hat 4 (by decide)).1
      have f4 : w2.frozen? ⟨B, k * 5 + 4, none⟩ = false := (hat 4 (by decide)).2
      clear hat HS HO2 HC hone hb2 hk2 bel2 c0 c1 c2 c3 c4
      go_wp2
      go_roundw
      case rel => exact ⟨k + 1, _, by omega, by go_num, HP⟩
      case measure => simp [intOf]; omega
    · have hkn : k = n := by omega
      subst hkn
      go_wp2
      go_ret
      subst hB
      exact ⟨rfl, ⟨_, HS.out.all HN.out⟩, HS.out.bel⟩

end Go.Proofs.Ytkfhmeiiicidaaa
