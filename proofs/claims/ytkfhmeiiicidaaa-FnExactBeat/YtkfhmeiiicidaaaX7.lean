/-
  A task that runs goes on: a state on a board changed in its place. Beat, as the specification tells it: the walk. Plans by their names: a map of pointers into a row of plans: the walks. The task of the plan that a run is of, found by the map: the walk.
-/
import Derived.Test.YtkfhmeiiicidaaaX5
import Derived.Test.YtkfhmeiiicidaaaX6
import Derived.Maps.OwnSet
import Derived.Maps.Views
import Derived.StringKeys
namespace Go.Proofs.Ytkfhmeiiicidaaa
open Go Go.RowKit
set_option linter.unusedVariables false

/-- A board on which a task goes on till a time. -/
def tilR (rs : List Rr) (k i : Nat) (u : Int) : List Rr := match rs[k]? with
  | some r => match r.st[i]? with
    | some s => rs.set k { r with st := r.st.set i { s with til := u } }
    | none => rs
  | none => rs
theorem tilR_at {rs : List Rr} {k i : Nat} {r : Rr} {s : Sa} (h1 : rs[k]? = some r) (h2 : r.st[i]? = some s) (u : Int) : tilR rs k i u = rs.set k { r with st := r.st.set i { s with til := u } } := by unfold tilR; rw [h1]; simp only []; rw [h2]
theorem ret_boardT {W : World} {b : Nat} {x0 x1 x2 x3 x4 y : Value} {fn : Func} {p q : Tmp} {tmps : Array Value} (h : fn.results = #[.cell p 32, .tmp q]) (hp : tmps.getD p undef = .pointer (some ⟨b, 0, none⟩)) (hq : tmps.getD q undef = y) (hb : B5 32 W b x0 x1 x2 x3 x4) :
    (results fn tmps).run Try.prog W = .ok (.tuple #[.agg #[x0, x1, x2, x3, x4], y]) W := by
  have hp' : tmps[p]?.getD undef = .pointer (some ⟨b, 0, none⟩) := by simpa using hp
  have hq' : tmps[q]?.getD undef = y := by simpa using hq
  simp [results, h, hp', hq', hb.c0, hb.c1, hb.c2, hb.c3, hb.c4, asAddr, go_sem]
theorem RunsI.beat {lo hi : Nat} {w : World} {rv : Value} {rs : List Rr} (h : RunsI lo hi w rv rs) {k i : Nat} {r : Rr} {s : Sa} (h1 : rs[k]? = some r) (h2 : r.st[i]? = some s) :
    ∃ gr cr gs cs, rv = .slice (some ⟨gr, 0, none⟩) rs.length cr ∧ gr < w.heap.size ∧ w.cell? ⟨gr, k * 5 + 4, none⟩ = some (.slice (some ⟨gs, 0, none⟩) r.st.length cs) ∧ gs < w.heap.size ∧ w.cell? ⟨gs, i * 4 + 3, none⟩ = some (.int .i64 s.til) ∧ w.frozen? ⟨gs, i * 4 + 3, none⟩ = false ∧ lo ≤ gs ∧ gs < hi ∧ ∀ u, RunsI lo hi (w.setCell ⟨gs, i * 4 + 3, none⟩ (.int .i64 u)) rv (tilR rs k i u) := by
  obtain ⟨ks, a, b, hd⟩ := h
  obtain ⟨x, hx, e1, e2, ho⟩ := hd.got h1
  have hkl : ks.length = rs.length := hd.len
  rcases hd.own.2 with ⟨rfl, h0⟩ | ⟨gr, cr, cur, rfl, _⟩
  · have := (List.getElem?_eq_some_iff.1 hx).1
    omega
  have hrow := hd.own.at hx
  have hso := ho.own
  obtain ⟨tv, htv⟩ : ∃ tv, x.tv = tv := ⟨_, rfl⟩
  rw [htv] at hso
  rcases hso.2 with ⟨rfl, h0⟩ | ⟨gs, cs, cur2, rfl, _⟩
  · have := (List.getElem?_eq_some_iff.1 h2).1
    omega
  have hst := hso.at h2
  have hcell : w.cell? ⟨gr, k * 5 + 4, none⟩ = some (.slice (some ⟨gs, 0, none⟩) r.st.length cs) := by rw [← htv]; exact (hrow.2.2.2 4 (by decide)).1
  have hgs : a k ≤ gs ∧ gs < b k := ⟨(hso.lt gs rfl).1, ho.top gs (by rw [htv]; rfl)⟩
  refine ⟨gr, cr, gs, cs, by rw [hkl], hrow.1, hcell, hst.1, (hst.2.2.2 3 (by decide)).1, (hst.2.2.2 3 (by decide)).2, Nat.le_trans e1 hgs.1, Nat.lt_of_lt_of_le hgs.2 e2, fun u => ?_⟩
  rw [tilR_at h1 h2]
  refine ⟨ks, a, b, hd.nest keepRk hx h1 _ (W := w.setCell ⟨gs, i * 4 + 3, none⟩ (.int .i64 u)) ⟨ho.nm, ho.fr, ho.up, ho.ep, ?_, ho.top⟩ fun q hq hne => heap_setCell_other w ⟨gs, i * 4 + 3, none⟩ q _ fun e => ?_⟩
  · rw [htv]
    exact hso.put (j := 3) (u := .int .i64 u) { s with til := u } h2 (by decide) rfl
  · have e : q = gs := e
    omega
theorem tilR_length (rs : List Rr) (k i : Nat) (u : Int) : (tilR rs k i u).length = rs.length := by
  unfold tilR
  split
  · split
    · simp
    · rfl
  · rfl
theorem tokF_some {rs : List Rr} {tok : Int} {k i : Nat} (h : tokF rs tok = some (k, i)) : ∃ r s, rs[k]? = some r ∧ r.st[i]? = some s := by
  unfold tokF at h
  have hm := List.mem_of_find?_eq_some h
  unfold rp rpA at hm
  obtain ⟨m, hm1, hm2⟩ := List.mem_flatMap.1 hm
  obtain ⟨j, hj, e⟩ := List.mem_map.1 hm2
  cases e
  have hk : k < rs.length := List.mem_range.1 hm1
  unfold runI at hj
  have hj2 := List.mem_range.1 (List.mem_filter.1 hj).1
  have hr : rs[k]? = some rs[k] := List.getElem?_eq_getElem hk
  rw [stAt_at hr] at hj2
  exact ⟨rs[k], _, hr, List.getElem?_eq_getElem hj2⟩
end Go.Proofs.Ytkfhmeiiicidaaa

namespace Go.Proofs.Ytkfhmeiiicidaaa
open Go Go.RowKit
set_option linter.unusedVariables false

def okT : ByteArray := ⟨#[111, 107]⟩
def staleT : ByteArray := ⟨#[115, 116, 97, 108, 101]⟩
/-- What Beat leaves of a board's runs, and what it replies. -/
def beatR (rs : List Rr) (ck tok : Int) : List Rr := match tokF rs tok with
  | some (k, i) => tilR rs k i (wrap64 (ck + 5))
  | none => rs
def beatT (rs : List Rr) (tok : Int) : ByteArray := match tokF rs tok with
  | some _ => okT
  | none => staleT
def BeatP (b : Bo) (ck tk tok : Int) (w : World) (e : Ending) (w' : World) : Prop := ∃ (sv pv rv : Value) (s0 s1 p0 p1 r0 r1 : Nat), e = .returned (.tuple #[bdV sv pv rv ck tk, .string (beatT b.runs tok)]) ∧ BdI w.heap.size w'.heap.size w' sv pv rv ⟨b.ses, b.plans, beatR b.runs ck tok⟩ s0 s1 p0 p1 r0 r1 ∧ Below w.heap.size w w'
theorem BdI.loUp {lo lo' hi : Nat} {w : World} {sv pv rv : Value} {b : Bo} {s0 s1 p0 p1 r0 r1 : Nat} (h : BdI lo hi w sv pv rv b s0 s1 p0 p1 r0 r1) (hh : lo' ≤ lo) : BdI lo' hi w sv pv rv b s0 s1 p0 p1 r0 r1 := ⟨h.ses, h.stop, h.plans, h.runs, Nat.le_trans hh h.ls, h.hs, Nat.le_trans hh h.lp, h.hp, Nat.le_trans hh h.lr, h.hr, h.sp, h.sr, h.pr⟩
theorem BdI.out {lo hi : Nat} {w : World} {sv pv rv : Value} {b : Bo} {s0 s1 p0 p1 r0 r1 : Nat} (h : BdI lo hi w sv pv rv b s0 s1 p0 p1 r0 r1) {a : Addr} (ha : a.block < lo ∨ hi ≤ a.block) (u : Value) : BdI lo hi (w.setCell a u) sv pv rv b s0 s1 p0 p1 r0 r1 := h.keep fun q q1 q2 _ => heap_setCell_other w a q u fun e => by omega
theorem BdI.forms {lo hi : Nat} {w : World} {sv pv rv : Value} {b : Bo} {s0 s1 p0 p1 r0 r1 : Nat} (h : BdI lo hi w sv pv rv b s0 s1 p0 p1 r0 r1) : (∃ a n c, sv = .slice a n c) ∧ (∃ a n c, pv = .slice a n c) ∧ ∃ a c, rv = .slice a b.runs.length c := by
  obtain ⟨pk, pa, pb, hp⟩ := h.plans
  obtain ⟨rk, ra, rb, hr⟩ := h.runs
  obtain ⟨a, n, c, e⟩ := h.ses.slice3
  obtain ⟨a2, n2, c2, e2⟩ := hp.own.slice3
  obtain ⟨a3, c3, e3⟩ := reads_slice hr.own.reads
  exact ⟨⟨a, n, c, e⟩, ⟨a2, n2, c2, e2⟩, a3, c3, by rw [e3, hr.len]⟩
set_option maxRecDepth 10000 in
set_option maxHeartbeats 4000000 in
theorem specBeat_any (so po ro : Option Addr) (sn sc pn pc rn rc : Nat) (ck tk tok : Int) (b : Bo) (w : World) (hr : BdA w (.slice so sn sc) (.slice po pn pc) (.slice ro rn rc) b) (hz : SizB b) :
    Calls Try.prog 6 #[bdV (.slice so sn sc) (.slice po pn pc) (.slice ro rn rc) ck tk, .int .i64 tok] w (BeatP b ck tk tok w) := by
  have hrn : b.runs.length = rn := hr.runs.len
  have hr1 : rn ≤ 1048576 := by rw [← hrn]; exact hz.rn
  have HCP : Hid (∀ W, Below w.heap.size w W → Calls Try.prog 17 #[bdV (.slice so sn sc) (.slice po pn pc) (.slice ro rn rc) ck tk] W fun e w' => ∃ (sv pv rv : Value) (s0 s1 p0 p1 r0 r1 : Nat), e = .returned (bdV sv pv rv ck tk) ∧ BdI W.heap.size w'.heap.size w' sv pv rv b s0 s1 p0 p1 r0 r1 ∧ Below W.heap.size W w') := fun W hb => boardCopy_any so po ro sn sc pn pc rn rc ck tk b W (hr.below hb) hz
  have HTK : Hid (∀ W, Below w.heap.size w W → Calls Try.prog 18 #[bdV (.slice so sn sc) (.slice po pn pc) (.slice ro rn rc) ck tk, .int .i64 tok] W fun e w' => e = .returned (tokV (tokF b.runs tok)) ∧ Below W.heap.size W w') := fun W hb => specToken_any so po ro sn sc pn pc rn rc ck tk b.runs tok W (hr.runs.below oneRk_below hb) (by omega) (fun r h => hz.runs r h)
  clear hr hz
  obtain ⟨W0, HW0⟩ : ∃ W, Hid ((w.alloc (.cells #[.slice so sn sc, .slice po pn pc, .slice ro rn rc, .int .i64 ck, .int .i64 tk] 32)).alloc (.cells #[.slice none 0 0, .slice none 0 0, .slice none 0 0, .int .i64 0, .int .i64 0] 32) = W) := ⟨_, rfl⟩
  have X0 : B5 32 W0 w.heap.size (.slice so sn sc) (.slice po pn pc) (.slice ro rn rc) (.int .i64 ck) (.int .i64 tk) := by rw [← HW0.out]; exact (B5.new _ _ _ _ _ _ _).alloc _
  have Z0 : B5 32 W0 (w.heap.size + 1) (.slice none 0 0) (.slice none 0 0) (.slice none 0 0) (.int .i64 0) (.int .i64 0) := by
    rw [← HW0.out]
    have := B5.new 32 (w.alloc (.cells #[.slice so sn sc, .slice po pn pc, .slice ro rn rc, .int .i64 ck, .int .i64 tk] 32)) (.slice none 0 0) (.slice none 0 0) (.slice none 0 0) (.int .i64 0) (.int .i64 0)
    simpa using this
  have B0 : Below w.heap.size w W0 := by rw [← HW0.out]; exact ba (ba (Below.refl _ _) _) _
  have hl0 : w.heap.size + 1 < W0.heap.size := Z0.lt
  have x0 := X0.c0
  have x1 := X0.c1
  have x2 := X0.c2
  have x3 := X0.c3
  have x4 := X0.c4
  go_enter Try.func6, Try.ntmps6
  go_wp2_with fail
  rw [HW0.out]
  refine (HCP.out _ B0).mono ?_
  rintro e w1 ⟨sv, pv, rv, s0, s1, p0, p1, r0, r1, rfl, hd, hb1⟩
  have hf := hd.forms
  rw [hrn] at hf
  obtain ⟨⟨a1, n1, c1, rfl⟩, ⟨a2, n2, c2, rfl⟩, a3, c3, rfl⟩ := hf
  have X1 := X0.up hb1
  have Z1 := Z0.up hb1
  have B1 := Below.on B0 hb1
  have hl1 : W0.heap.size ≤ w1.heap.size := hb1.size
  obtain ⟨W2, HW2⟩ : ∃ W, Hid (w1.alloc (.cells #[.slice a1 n1 c1, .slice a2 n2 c2, .slice a3 rn c3, .int .i64 ck, .int .i64 tk] 32) = W) := ⟨_, rfl⟩
  have C2 : Below w1.heap.size w1 W2 := by rw [← HW2.out]; exact ba (Below.refl _ _) _
  have O2 : B5 32 W2 w1.heap.size (.slice a1 n1 c1) (.slice a2 n2 c2) (.slice a3 rn c3) (.int .i64 ck) (.int .i64 tk) := by rw [← HW2.out]; exact B5.new _ _ _ _ _ _ _
  have HD2 : Hid (BdI W0.heap.size w1.heap.size W2 (.slice a1 n1 c1) (.slice a2 n2 c2) (.slice a3 rn c3) b s0 s1 p0 p1 r0 r1) := hd.up C2
  have X2 := X1.up C2
  have Z2 := Z1.up C2
  have B2 := Below.on B1 C2
  clear hd hb1 X0 Z0 B0 X1 Z1 B1 HCP HW0 x0 x1 x2 x3 x4
  have x0 := X2.c0
  have x1 := X2.c1
  have x2 := X2.c2
  have x3 := X2.c3
  have x4 := X2.c4
  have hW2 : w1.alloc (.cells #[.slice a1 n1 c1, .slice a2 n2 c2, .slice a3 rn c3, .int .i64 ck, .int .i64 tk] 32) = W2 := HW2.out
  go_wp2_with fail
  refine (HTK.out _ B2).mono ?_
  rintro e w3 ⟨rfl, hb3⟩
  have HD3 : Hid (BdI W0.heap.size w1.heap.size w3 (.slice a1 n1 c1) (.slice a2 n2 c2) (.slice a3 rn c3) b s0 s1 p0 p1 r0 r1) := HD2.out.up hb3
  have X3 := X2.up hb3
  have Z3 := Z2.up hb3
  have O3 := O2.up hb3
  have B3 := Below.on B2 hb3
  have hl3 : w1.heap.size < w3.heap.size := O3.lt
  clear HD2 X2 Z2 O2 B2 hb3 HTK HW2 hW2 C2 x0 x1 x2 x3 x4
  have o0 := O3.c0
  have o1 := O3.c1
  have o2 := O3.c2
  have o3 := O3.c3
  have o4 := O3.c4
  have z0 := Z3.c0
  have z1 := Z3.c1
  have z2 := Z3.c2
  have z3 := Z3.c3
  have z4 := Z3.c4
  have f0 := Z3.fr 0
  have f1 := Z3.fr 1
  have f2 := Z3.fr 2
  have f3 := Z3.fr 3
  have f4 := Z3.fr 4
  have l1 : w.heap.size + 1 < W0.heap.size := hl0
  cases hq : tokF b.runs tok with
  | none =>
    have HT : Hid (beatT b.runs tok = staleT ∧ beatR b.runs ck tok = b.runs) := by
      refine ⟨?_, ?_⟩
      · unfold beatT; rw [hq]
      · unfold beatR; rw [hq]
    clear hq
    simp only [tokV]
    go_wp2
    have HE := Z3.set (.slice a1 n1 c1) (.slice a2 n2 c2) (.slice a3 rn c3) (.int .i64 ck) (.int .i64 tk)
    refine bodyPost_ret (ret_boardT rfl rfl rfl HE) rfl ?_
    refine ⟨_, _, _, s0, s1, p0, p1, r0, r1, by rw [HT.out.1]; rfl, ?_, below_set5 B3 (by omega) _ _ _ _ _⟩
    rw [HT.out.2]
    have hd5 := (((((HD3.out.out (a := ⟨w.heap.size + 1, 0, none⟩) (.inl l1) (.slice a1 n1 c1)).out (a := ⟨w.heap.size + 1, 1, none⟩) (.inl l1) (.slice a2 n2 c2)).out (a := ⟨w.heap.size + 1, 2, none⟩) (.inl l1) (.slice a3 rn c3)).out (a := ⟨w.heap.size + 1, 3, none⟩) (.inl l1) (.int .i64 ck)).out (a := ⟨w.heap.size + 1, 4, none⟩) (.inl l1) (.int .i64 tk))
    exact (hd5.loUp (by omega)).hiUp (by simp; omega)
  | some p =>
    obtain ⟨k, i⟩ := p
    obtain ⟨r, s, h1, h2⟩ := tokF_some hq
    have HT : Hid (beatT b.runs tok = okT ∧ beatR b.runs ck tok = tilR b.runs k i (wrap64 (ck + 5))) := by
      refine ⟨?_, ?_⟩
      · unfold beatT; rw [hq]
      · unfold beatR; rw [hq]
    obtain ⟨gr, cr, gs, cs, er, hgr, d4, hgs, d3, df, hlo, hhi, hup⟩ := HD3.out.runs.beat h1 h2
    rw [hrn] at er
    injection er with er1 er2 er3
    subst er1
    subst er3
    have HUP : Hid (∀ u, RunsI r0 r1 (w3.setCell ⟨gs, i * 4 + 3, none⟩ (.int .i64 u)) (.slice (some ⟨gr, 0, none⟩) rn c3) (tilR b.runs k i u)) := hup
    have hk : k < rn := by rw [← hrn]; exact (List.getElem?_eq_some_iff.1 h1).1
    obtain ⟨m, HM⟩ : ∃ m, Hid (r.st.length = m) := ⟨_, rfl⟩
    have hi : i < m := by rw [← HM.out]; exact (List.getElem?_eq_some_iff.1 h2).1
    rw [HM.out] at d4
    clear hq h1 h2 hup
    simp only [tokV]
    have q2 := Wd.cell o2
    have qx := Wd.cell X3.c3
    have qd := Wd.cell d4
    have hdr : Below w3.heap.size w3 w3.drew := (Below.refl _ _).drew
    go_wp2_with fail
    refine wp_region_pick (fun w' => ∃ x : Wd w3, w' = x.at') [0, 1, 2, 3, 4, 5, 6, 7, 8, 9] 10 0 (by kernel_rfl) (by decide) (by decide) (by kernel_rfl) (fun _ _ d _ _ h => by cases d <;> exact h) ⟨⟨w3.drew, hdr⟩, rfl⟩ ?_
    (repeat (refine wpTakes_l rfl (by first | (intro x h; cases h; done) | (intro x h; cases h; exact ⟨_, rfl⟩)) ?_; go_big_quiet_step (fail); refine wpQuiet_nil ?_)); refine takes_nil ?_
    refine any_done (by kernel_rfl) ?_
    simp only [List.drop_succ_cons, List.drop_zero]
    clear q2 qx qd
    obtain ⟨V, HV⟩ : ∃ V, Hid ((w3.setCell ⟨gs, i * 4 + 3, none⟩ (.int .i64 (wrap64 (ck + 5)))).drew = V) := ⟨_, rfl⟩
    have hgl : W0.heap.size ≤ gs := Nat.le_trans HD3.out.lr hlo
    have hgh : gs < w1.heap.size := Nat.lt_of_lt_of_le hhi HD3.out.hr
    have hVq : ∀ q, q ≠ gs → V.heap[q]? = w3.heap[q]? := fun q hq => by rw [← HV.out]; exact heap_setCell_other w3 ⟨gs, i * 4 + 3, none⟩ q _ hq
    have hVz : V.heap.size = w3.heap.size := by rw [← HV.out]; simp
    have HDV : Hid (BdI W0.heap.size w1.heap.size V (.slice a1 n1 c1) (.slice a2 n2 c2) (.slice (some ⟨gr, 0, none⟩) rn c3) ⟨b.ses, b.plans, tilR b.runs k i (wrap64 (ck + 5))⟩ s0 s1 p0 p1 r0 r1) := by
      have hh := HD3.out
      have g1 := hh.sr
      have g2 := hh.pr
      refine ⟨hh.ses.hold fun q hq => hVq q (by have := (hh.ses.lt q hq).1; have := hh.stop q hq; omega), hh.stop, hh.plans.keep fun q q1 q2 _ => hVq q (by omega), ?_, hh.ls, hh.hs, hh.lp, hh.hp, hh.lr, hh.hr, hh.sp, hh.sr, hh.pr⟩
      rw [← HV.out]
      exact (HUP.out (wrap64 (ck + 5))).keep fun q _ _ _ => rfl
    have OV : B5 32 V w1.heap.size (.slice a1 n1 c1) (.slice a2 n2 c2) (.slice (some ⟨gr, 0, none⟩) rn c3) (.int .i64 ck) (.int .i64 tk) := (hVq _ (by omega)).trans O3
    have ZV : B5 32 V (w.heap.size + 1) (.slice none 0 0) (.slice none 0 0) (.slice none 0 0) (.int .i64 0) (.int .i64 0) := (hVq _ (by omega)).trans Z3
    have BV : Below w.heap.size w V := by rw [← HV.out]; exact (B3.setCell (p := ⟨gs, i * 4 + 3, none⟩) (by show w.heap.size ≤ gs; omega) _).drew
    have hV : (w3.setCell ⟨gs, i * 4 + 3, none⟩ (.int .i64 (wrap64 (ck + 5)))).drew = V := HV.out
    clear o0 o1 o2 o3 o4 z0 z1 z2 z3 z4 f0 f1 f2 f3 f4
    have o0 := OV.c0
    have o1 := OV.c1
    have o2 := OV.c2
    have o3 := OV.c3
    have o4 := OV.c4
    have z0 := ZV.c0
    have z1 := ZV.c1
    have z2 := ZV.c2
    have z3 := ZV.c3
    have z4 := ZV.c4
    have f0 := ZV.fr 0
    have f1 := ZV.fr 1
    have f2 := ZV.fr 2
    have f3 := ZV.fr 3
    have f4 := ZV.fr 4
    go_wp2
    have HE := ZV.set (.slice a1 n1 c1) (.slice a2 n2 c2) (.slice (some ⟨gr, 0, none⟩) rn c3) (.int .i64 ck) (.int .i64 tk)
    refine bodyPost_ret (ret_boardT rfl rfl rfl HE) rfl ?_
    refine ⟨_, _, _, s0, s1, p0, p1, r0, r1, by rw [HT.out.1]; rfl, ?_, below_set5 BV (by omega) _ _ _ _ _⟩
    rw [HT.out.2]
    have hd5 := (((((HDV.out.out (a := ⟨w.heap.size + 1, 0, none⟩) (.inl l1) (.slice a1 n1 c1)).out (a := ⟨w.heap.size + 1, 1, none⟩) (.inl l1) (.slice a2 n2 c2)).out (a := ⟨w.heap.size + 1, 2, none⟩) (.inl l1) (.slice (some ⟨gr, 0, none⟩) rn c3)).out (a := ⟨w.heap.size + 1, 3, none⟩) (.inl l1) (.int .i64 ck)).out (a := ⟨w.heap.size + 1, 4, none⟩) (.inl l1) (.int .i64 tk))
    exact (hd5.loUp (by omega)).hiUp (by simp; omega)
end Go.Proofs.Ytkfhmeiiicidaaa

namespace Go.Proofs.Ytkfhmeiiicidaaa
open Go Go.RowKit Go.Maps
set_option linter.unusedVariables false

/-- How a pointer into a row reads: its offset there. -/
def ptrE (b : Nat) : Value → Option (DataW Unit × List MemPlace)
  | .pointer none => some (.lit (.int .i64 (-1)), [])
  | .pointer (some ⟨b', o, none⟩) => if b' = b then some (.lit (.int .i64 (o : Int)), []) else none
  | _ => none
theorem ptrE_at (b o : Nat) : ptrE b (.pointer (some ⟨b, o, none⟩)) = some (.lit (.int .i64 (o : Int)), []) := by simp [ptrE]
theorem ptrE_inv {b : Nat} {v : Value} {x : Int} {ps : List MemPlace} (h : ptrE b v = some (.lit (.int .i64 x), ps)) : (x = -1 ∧ v = .pointer none) ∨ ∃ o : Nat, x = (o : Int) ∧ v = .pointer (some ⟨b, o, none⟩) := by
  unfold ptrE at h
  split at h
  · simp at h; exact .inl ⟨h.1.symm, rfl⟩
  · split at h
    · rename_i e; subst e; simp at h; exact .inr ⟨_, h.1.symm, rfl⟩
    · cases h
  · cases h
def keyN (p : Po) : List UInt8 := p.name.data.toList
def fIx (l : List Po) (s : List UInt8) : Option Nat := l.findIdx? fun p => keyN p == s
theorem fIx_snoc (l : List Po) (p : Po) (s : List UInt8) : fIx (l ++ [p]) s = match fIx l s with
    | some i => some i
    | none => if keyN p = s then some l.length else none := by
  unfold fIx
  rw [List.findIdx?_append]
  cases h : l.findIdx? fun p => keyN p == s with
  | some i => simp
  | none => by_cases e : keyN p = s <;> simp [e]
def offL (o : Nat) : Option Nat → DataW Unit
  | none => .lit (.int .i64 (-1))
  | some k => .lit (.int .i64 ((o + k * 9 : Nat) : Int))
def ptrO (b o : Nat) : Option Nat → Value
  | none => .pointer none
  | some k => .pointer (some ⟨b, o + k * 9, none⟩)
/-- In w the map M leads by names to the first plan of each. -/
def PMap (w : World) (M b o : Nat) (l : List Po) : Prop := ∃ n D, w.ownsMap Try.prog 9 (ptrE b) M n D ∧ n ≤ l.length ∧ ∀ s, D.atKey (.string s) (.lit (.int .i64 (-1))) = offL o (fIx l s)
theorem PMap.kept {w w' : World} {M b o : Nat} {l : List Po} {row : Option Nat} (h : PMap w M b o l) (hg : w.grownBy w' row) (hne : some M ≠ row) : PMap w' M b o l := by
  obtain ⟨n, D, h1, h2, h3⟩ := h
  exact ⟨n, D, h1.kept hg hne, h2, h3⟩
theorem PMap.below {w w' : World} {M b o : Nat} {l : List Po} (h : PMap w M b o l) (hb : Below w.heap.size w w') : PMap w' M b o l := h.kept (grown_of_below hb none) (by simp)
theorem PMap.lt {w : World} {M b o : Nat} {l : List Po} (h : PMap w M b o l) : M < w.heap.size := by
  obtain ⟨n, D, h1, _⟩ := h
  exact h1.lt
theorem lit_neK {s t : List UInt8} (h : s ≠ t) : (Lit.string s) ≠ .string t := fun e => h (by injection e)
theorem litK (s : List UInt8) : WideAt.IsKeyLit (.string s) := trivial
theorem keyedS : Keyed Try.prog 9 := string_keyed Try.underlying9
theorem keyS {s : ByteArray} (hs : s.size ≤ 1048577) : keyOf Try.prog 9 (.string s) = some (.string s.data.toList) := Go.WideMaps.keyOf_string_mk Try.underlying9 (Nat.le_trans hs (by decide))
theorem pm_skip {w : World} {M b o i : Nat} {l : List Po} {p : Po} (h : PMap w M b o l) (hsome : fIx l (keyN p) = some i) : PMap w M b o (l ++ [p]) := by
  obtain ⟨n, D, hown, hn, hat⟩ := h
  refine ⟨n, D, hown, by simp; omega, fun s => ?_⟩
  rw [hat s, fIx_snoc]
  cases hf : fIx l s with
  | some j => rfl
  | none =>
    rw [if_neg]
    intro e
    subst e
    rw [hsome] at hf
    cases hf
theorem pm_none (w : World) (b o : Nat) : PMap (w.alloc (.map #[] 0)) w.heap.size b o [] := ⟨0, _, World.ownsMap_made w Try.prog 9 (ptrE b), Nat.le_refl _, fun s => rfl⟩
end Go.Proofs.Ytkfhmeiiicidaaa

namespace Go.Proofs.Ytkfhmeiiicidaaa
open Go Go.RowKit Go.Maps
set_option linter.unusedVariables false

def TofP (ps : List Po) (rn : ByteArray) (i : Nat) (e : Ending) (w' : World) : Prop := ∃ tb to9 pool, e = .returned (.pointer (some ⟨tb, to9, none⟩)) ∧ w'.cell? ⟨tb, to9 + 1, none⟩ = some (.string pool) ∧ poolOf ps rn i = some pool
theorem fIx_find (s : ByteArray) : ∀ l : List Po, (fIx l s.data.toList = none ∧ l.find? (fun p => decide (p.name = s)) = none) ∨ ∃ k x, fIx l s.data.toList = some k ∧ l[k]? = some x ∧ l.find? (fun p => decide (p.name = s)) = some x
  | [] => .inl ⟨rfl, rfl⟩
  | p :: r => by
    by_cases h : p.name = s
    · exact .inr ⟨0, p, by unfold fIx; rw [List.findIdx?_cons]; simp [keyN, h], rfl, by simp [h]⟩
    · have hk : (keyN p == s.data.toList) = false := beq_eq_false_iff_ne.2 fun e => h (ByteArray.ext (Array.toList_inj.1 e))
      rcases fIx_find s r with ⟨h1, h2⟩ | ⟨k, x, h1, h2, h3⟩
      · refine .inl ⟨?_, by simp [h, h2]⟩
        unfold fIx at h1 ⊢
        rw [List.findIdx?_cons, hk, h1]
        rfl
      · refine .inr ⟨k + 1, x, ?_, by simpa using h2, by simp [h, h3]⟩
        unfold fIx at h1 ⊢
        rw [List.findIdx?_cons, hk, h1]
        rfl
end Go.Proofs.Ytkfhmeiiicidaaa
