/-
  How many tasks run, by names of plans and of pools: the walk.
-/
import Derived.Test.YtjmclcjhimcehaaRui
import Derived.Test.YtjmclcjhimcehaaRgo
namespace Go.Proofs.Ytjmclcjhimcehaa
open Go Go.RowKit Go.Shelf Go.Maps
attribute [local go_sem] Oper.semAt_some
set_option linter.unusedVariables false

theorem h_new (W : World) (o : Obj) {k : Nat} (hk : W.heap.size = k) : (W.alloc o).heap[k]? = some o := hk ▸ World.alloc_heap_new W o
theorem h_old {W : World} {k : Nat} {p : Obj} (h : W.heap[k]? = some p) (o : Obj) : (W.alloc o).heap[k]? = some p := ((ba (Below.refl _ W) o).block k (Array.getElem?_eq_some_iff.1 h).1).trans h
def intE : Value → Option (DataW Unit × List MemPlace)
  | .int .i64 x => some (.lit (.int .i64 x), [])
  | _ => none
theorem intE_inv {v : Value} {x : Int} {ps : List MemPlace} (h : intE v = some (.lit (.int .i64 x), ps)) : v = .int .i64 x := by
  unfold intE at h
  split at h
  · simp at h; rw [h.1]
  · cases h
/-- In w the map M counts. -/
def CMap (w : World) (M N : Nat) (f : List UInt8 → Nat) : Prop := ∃ n D, w.ownsMap Try.prog 9 intE M n D ∧ n ≤ N ∧ ∀ s, D.atKey (.string s) (.lit (.int .i64 0)) = .lit (.int .i64 (f s : Int))
theorem CMap.kept {w w' : World} {M N : Nat} {f : List UInt8 → Nat} {row : Option Nat} (h : CMap w M N f) (hg : w.grownBy w' row) (hne : some M ≠ row) : CMap w' M N f := by
  obtain ⟨n, D, h1, h2, h3⟩ := h
  exact ⟨n, D, h1.kept hg hne, h2, h3⟩
theorem CMap.below {w w' : World} {M N : Nat} {f : List UInt8 → Nat} (h : CMap w M N f) (hb : Below w.heap.size w w') : CMap w' M N f := h.kept (grown_of_below hb none) (by simp)
theorem CMap.lt {w : World} {M N : Nat} {f : List UInt8 → Nat} (h : CMap w M N f) : M < w.heap.size := by
  obtain ⟨n, D, h1, _⟩ := h
  exact h1.lt
theorem CMap.mono {w : World} {M N : Nat} {f : List UInt8 → Nat} (h : CMap w M N f) : CMap w M (N + 1) f := by
  obtain ⟨n, D, h1, h2, h3⟩ := h
  exact ⟨n, D, h1, by omega, h3⟩
theorem ne_some {a b : Nat} (h : a ≠ b) : some a ≠ some b := fun e => h (by injection e)
theorem CMap.obj {w : World} {M N : Nat} {f : List UInt8 → Nat} (h : CMap w M N f) : ∃ o, w.heap[M]? = some o ∧ o.isCells = false := by
  obtain ⟨n, D, ⟨es, clock, hb, _⟩, _⟩ := h
  exact ⟨_, hb, rfl⟩
theorem kpR_map {n₀ M N : Nat} {f : List UInt8 → Nat} {A B : World} (hn : n₀ ≤ A.heap.size) (hM : n₀ ≤ M) (h : CMap A M N f) (hg : A.grownBy B (some M)) : KpR n₀ A B :=
  ⟨(Below.refl _ _).grown hg hn (fun k e => by cases e; exact hM), fun j p hp hc => (hg.block j (Array.getElem?_eq_some_iff.1 hp).1 (fun e => by
    injection e with e
    subst e
    obtain ⟨o, ho, hcc⟩ := h.obj
    rw [ho] at hp; injection hp with hp; subst hp; rw [hcc] at hc; cases hc)).trans hp⟩
theorem pool_sz {ps : List Po} {nm pool : ByteArray} {i : Nat} (h : poolOf ps nm i = some pool) : ∃ p ∈ ps, ∃ t ∈ p.tasks, t.pool = pool := by
  unfold poolOf at h
  cases hf : ps.find? (fun p => decide (p.name = nm)) with
  | none => rw [hf] at h; cases h
  | some p =>
    rw [hf] at h
    cases ht : p.tasks[i]? with
    | none => simp [ht] at h
    | some t => simp [ht] at h; exact ⟨p, List.mem_of_find?_eq_some hf, t, List.mem_of_getElem? ht, h⟩
theorem grown_wider {A B : World} {M : Nat} (h : Below A.heap.size A B) : A.grownBy B (some M) := ⟨h.os, h.tape, h.output, h.size, fun k hk _ => h.block k hk⟩
theorem underCM : Try.prog.underlying 73 = some (.map 9 3) := by kernel_rfl
theorem zeroCM (w : World) : (zeroValue 3).run Try.prog w = .ok (.int .i64 0) w := by kernel_rfl
theorem mk_cmap {w : World} : (Instr.makeMap 73 none).run Try.prog w = .ok (.map (some w.heap.size)) (w.alloc (.map #[] 0)) := by
  simp [Instr.makeMap, go_sem]
theorem cm_none (w : World) : CMap (w.alloc (.map #[] 0)) w.heap.size 0 (fun _ => 0) := ⟨0, _, World.ownsMap_made w Try.prog 9 intE, Nat.le_refl _, fun s => rfl⟩
theorem keyM {s : ByteArray} (hs : s.size ≤ maxLen) : keyOf Try.prog 9 (.string s) = some (.string s.data.toList) := Go.WideMaps.keyOf_string_mk Try.underlying9 hs
theorem le_ml {k : Nat} (h : k ≤ 1048577) : k ≤ maxLen := by unfold maxLen; omega
theorem cm_look {w : World} {M N : Nat} {f : List UInt8 → Nat} {s : ByteArray} (h : CMap w M N f) (hs : s.size ≤ maxLen) :
    (Instr.lookup 73 (.map (some M)) (.string s) false).run Try.prog w = .ok (.int .i64 (f s.data.toList : Int)) w := by
  obtain ⟨n, D, hown, hn, hat⟩ := h
  obtain ⟨v, ps, hrun, hv⟩ := hown.lookup keyedS underCM (zeroCM w) (show intE (.int .i64 0) = some (.lit (.int .i64 0), []) from rfl) (keyM hs)
  rw [hrun]
  refine congrArg (fun x => Result.ok x w) ?_
  rw [hat] at hv
  exact intE_inv hv
theorem cm_put {w : World} {M N : Nat} {f g : List UInt8 → Nat} {s : ByteArray} (h : CMap w M N f) (hN : N ≤ 1099513724929) (hs : s.size ≤ maxLen) (h1 : g s.data.toList = f s.data.toList + 1) (h2 : ∀ t, t ≠ s.data.toList → g t = f t) :
    ∃ w', (Instr.mapUpdate 73 (.map (some M)) (.string s) (.int .i64 ((f s.data.toList : Int) + 1))).run Try.prog w = .ok () w' ∧ CMap w' M (N + 1) g ∧ w.grownBy w' (some M) := by
  obtain ⟨n, D, hown, hn, hat⟩ := h
  obtain ⟨w', hrun, k1, k2⟩ := hown.update keyedS underCM (by unfold maxLen; omega) (keyM hs) (show intE (.int .i64 ((f s.data.toList : Int) + 1)) = some (.lit (.int .i64 ((f s.data.toList : Int) + 1)), []) from rfl)
  refine ⟨w', hrun, ⟨n + 1, _, k1, by omega, fun t => ?_⟩, k2⟩
  by_cases e : t = s.data.toList
  · subst e
    rw [h1]
    refine (atKey_put_same (k := Lit.string s.data.toList) hown.isMap (litK _) _ _).trans ?_
    simp
  · refine (atKey_put_other (k := Lit.string s.data.toList) (k' := Lit.string t) (lit_neK e) _ _).trans ?_
    rw [hat t, h2 t e]
/-- Counted by the bytes of a name. -/
def actK (rs : List Rr) (s : List UInt8) : Nat × Nat → Bool := fun p => decide ((nmAt rs p.1).data.toList = s)
def useK (ps : List Po) (rs : List Rr) (s : List UInt8) : Nat × Nat → Bool := fun p => decide ((poolOf ps (nmAt rs p.1) p.2).map (fun q => q.data.toList) = some s)
theorem ba_inj {a b : ByteArray} (h : a.data.toList = b.data.toList) : a = b := ByteArray.ext (Array.toList_inj.1 h)
theorem actK_Q (rs : List Rr) (s : ByteArray) : actK rs s.data.toList = actQ rs s := by
  funext p
  unfold actK actQ
  by_cases h : nmAt rs p.1 = s
  · rw [h]; simp
  · rw [decide_eq_false h, decide_eq_false fun e => h (ba_inj e)]
theorem useK_Q (ps : List Po) (rs : List Rr) (s : ByteArray) : useK ps rs s.data.toList = useQ ps rs s := by
  funext p
  unfold useK useQ
  by_cases h : poolOf ps (nmAt rs p.1) p.2 = some s
  · rw [h]; simp
  · rw [decide_eq_false h, decide_eq_false fun e => h ?_]
    cases hq : poolOf ps (nmAt rs p.1) p.2 with
    | none => rw [hq] at e; cases e
    | some q => rw [hq] at e; injection e with e; rw [ba_inj e]
/-- What the count holds between two rounds. -/
structure TI {rn : Nat} (n₀ M b o A U pb q : Nat) (bd : Value × Value × Value × Value × Value) (ps : List Po) (rs : List Rr) (w : World) (pre : List (Px rn)) (W : World) : Prop where
  bd : B5 26 W n₀ bd.1 bd.2.1 bd.2.2.1 bd.2.2.2.1 bd.2.2.2.2
  rz : W.heap[n₀ + 1]? = some (.cells #[.map none, .map none] 75)
  pb : W.heap[pb]? = some (.cells #[.map (some M)] 102)
  tl : W.heap[q]? = some (.cells #[.map (some A), .map (some U)] 75)
  pm : PMap W M b o ps
  ca : CMap W A pre.length (fun s => cnt (actK rs s) (valsP pre))
  cu : CMap W U pre.length (fun s => cnt (useK ps rs s) (valsP pre))
  be : Below n₀ w W
theorem cells_kept {W W' : World} {row : Option Nat} {k : Nat} {cs : Array Value} {t : TypeId} (h : W.heap[k]? = some (.cells cs t)) (hg : W.grownBy W' row) (hr : ∀ r, row = some r → ∃ o : Obj, W.heap[r]? = some o ∧ o.isCells = false) : W'.heap[k]? = some (.cells cs t) :=
  (hg.block k (Array.getElem?_eq_some_iff.1 h).1 fun e => by
    obtain ⟨o, ho, hc⟩ := hr k e.symm
    rw [h] at ho; injection ho with ho; subst ho; cases hc).trans h
theorem TI.own {rn : Nat} {n₀ M b o A U pb q B : Nat} {bd : Value × Value × Value × Value × Value} {ps : List Po} {rs : List Rr} {w : World} (hn : n₀ ≤ B) (hw : n₀ = w.heap.size) (hM : M < B) (hA : A < B) (hU : U < B) : OwnFrom B (TI (rn := rn) n₀ M b o A U pb q bd ps rs w) := fun pre W W' row h hg hr => by
  have hc : ∀ r, row = some r → ∃ o : Obj, W.heap[r]? = some o ∧ o.isCells = false := fun r e => (hr r e).2
  have hne : ∀ K, K < B → some K ≠ row := fun K hK e => by have := (hr K e.symm).1; omega
  exact ⟨cells_kept h.bd hg hc, cells_kept h.rz hg hc, cells_kept h.pb hg hc, cells_kept h.tl hg hc, h.pm.kept hg (hne _ hM), h.ca.kept hg (hne _ hA), h.cu.kept hg (hne _ hU), ownFrom_below (Nat.le_of_eq hw) hn pre W W' row h.be hg hr⟩

def TlyP (ps : List Po) (rs : List Rr) (w : World) (e : Ending) (w' : World) : Prop := ∃ A U N, e = .returned (.agg #[.map (some A), .map (some U)]) ∧ CMap w' A N (fun s => cnt (actK rs s) (rp rs)) ∧ CMap w' U N (fun s => cnt (useK ps rs s) (rp rs)) ∧ Below w.heap.size w w'
set_option maxRecDepth 100000 in
set_option maxHeartbeats 4000000 in
theorem tally_any (so po ro : Option Addr) (sn sc pn pc rn rc : Nat) (ck tk : Int) (ps : List Po) (rs : List Rr) (w : World) (hp : DRow OnePl w (.slice po pn pc) ps) (hpn : pn ≤ 1048577) (hr : DRow OneRk w (.slice ro rn rc) rs) (hrn : rn ≤ 1048577) (hz : ∀ r ∈ rs, r.st.length ≤ 1048576 ∧ r.nm.size ≤ 1048577) (hzp : ∀ p ∈ ps, p.tasks.length ≤ 1048576 ∧ p.name.size ≤ 1048577 ∧ ∀ t ∈ p.tasks, t.pool.size ≤ maxLen) :
    Calls Try.prog 42 #[bdV (.slice so sn sc) (.slice po pn pc) (.slice ro rn rc) ck tk] w (TlyP ps rs w) := by
  refine (callsIn_wide (n := 3)).1 ?_
  have HP : Hid (∀ W, Below w.heap.size w W → CallsIn Fence.wide 2 Try.prog 57 #[.slice po pn pc] W fun e w' => ∃ b o, (ps ≠ [] → po = some ⟨b, o, none⟩) ∧ e = .returned (.map (some W.heap.size)) ∧ PMap w' W.heap.size b o ps ∧ Below W.heap.size W w') := fun W hb => callsIn_wide.2 (plansOf_any po pn pc ps W (hp.below onePl_below hb) hpn fun p h => (hzp p h).2.1)
  have HD : Hid (∀ W, Below w.heap.size w W → DRow OnePl W (.slice po pn pc) ps) := fun W hb => hp.below onePl_below hb
  have HR : Hid (DRow OneRk w (.slice ro rn rc) rs) := hr
  have HZ : Hid (∀ r ∈ rs, r.st.length ≤ 1048576 ∧ r.nm.size ≤ 1048577) := hz
  have HZP : Hid (∀ p ∈ ps, p.tasks.length ≤ 1048576 ∧ p.name.size ≤ 1048577 ∧ ∀ t ∈ p.tasks, t.pool.size ≤ maxLen) := hzp
  have hmk : ∀ W : World, (Instr.makeMap 73 none).run Try.prog W = .ok (.map (some W.heap.size)) (W.alloc (.map #[] 0)) := fun W => mk_cmap
  clear hp hr hz hzp
  refine callsIn_of_wp_marks Try.func42 rfl trivial ?_ rfl
  simp only [bdV, Try.ntmps42, List.size_toArray, List.length_cons, List.length_nil, Nat.reduceAdd, Nat.reduceSub, Array.replicate_succ, Array.replicate_zero, List.push_toArray, List.append_toArray, List.nil_append, List.cons_append]
  gi_wp2_with fail
  refine ⟨trivial, ?_⟩
  gi_at_call 57
  refine (HP.out _ (ba (ba (Below.refl _ _) _) _)).mono ?_
  rintro e w1 ⟨b, o, hbo, rfl, hM, hb1⟩
  have K1 := ((B5.new 26 w (.slice so sn sc) (.slice po pn pc) (.slice ro rn rc) (.int .i64 ck) (.int .i64 tk)).up (ba (Below.refl _ _) _)).up hb1
  have K2 := (((K1.up (ba (Below.refl _ _) (.cells #[.map (some (w.heap.size + 1 + 1))] 102))).up (ba (Below.refl _ _) (.map #[] 0))).up (ba (Below.refl _ _) (.map #[] 0))).up (ba (Below.refl _ _) (.cells #[.map (some (w1.heap.size + 1)), .map (some (w1.heap.size + 1 + 1))] 75))
  have HK1 : Hid (B5 26 w1 w.heap.size (.slice so sn sc) (.slice po pn pc) (.slice ro rn rc) (.int .i64 ck) (.int .i64 tk)) := K1
  have HMM : Hid (PMap w1 (w.heap.size + 1 + 1) b o ps) := (show PMap w1 (w.heap.size + 1 + 1) b o ps by simpa using hM)
  have HB1 : Hid (Below w.heap.size w w1) := (ba (ba (Below.refl _ _) _) _).trans (hb1.mono (by simp; omega))
  have HRZ : Hid (w1.heap[w.heap.size + 1]? = some (.cells #[.map none, .map none] 75)) := (hb1.block (w.heap.size + 1) (by simp)).trans (h_new (w.alloc _) _ (by simp))
  have HBO : Hid (ps ≠ [] → po = some ⟨b, o, none⟩) := hbo
  clear hbo hM hb1
  have k0 := K2.c0
  have k1 := K2.c1
  have k2 := K2.c2
  have k3 := K2.c3
  have k4 := K2.c4
  gi_wp2_with (refine ⟨trivial, ?_⟩; gi_at_call 58; refine (running_in 2 _ _ _ _ _ _).mono ?_; rintro e w' ⟨rfl, rfl⟩)
  obtain ⟨bd, hbd⟩ : ∃ bd : Value × Value × Value × Value × Value, (.slice so sn sc, .slice po pn pc, .slice ro rn rc, .int .i64 ck, .int .i64 tk) = bd := ⟨_, rfl⟩
  obtain ⟨W0, hW0⟩ : ∃ W0, ((((w1.alloc (.cells #[.map (some (w.heap.size + 1 + 1))] 102)).alloc (.map #[] 0)).alloc (.map #[] 0)).alloc (.cells #[.map (some (w1.heap.size + 1)), .map (some (w1.heap.size + 1 + 1))] 75)).alloc (.cells #[.slice so sn sc, .slice po pn pc, .slice ro rn rc, .int .i64 ck, .int .i64 tk] 26) = W0 := ⟨_, rfl⟩
  obtain ⟨s1, hs1⟩ : ∃ s1, w1.heap.size = s1 := ⟨_, rfl⟩
  have hsz0 : W0.heap.size = s1 + 1 + 1 + 1 + 1 + 1 := by rw [← hW0, ← hs1]; simp
  have hle : w.heap.size + 1 < s1 := by rw [← hs1]; exact (Array.getElem?_eq_some_iff.1 HRZ.out).1
  have hM0 : w.heap.size + 1 + 1 < s1 := by rw [← hs1]; exact HMM.out.lt
  have hbW : Below w1.heap.size w1 W0 := by rw [← hW0]; exact ba (ba (ba (ba (ba (Below.refl _ _) _) _) _) _) _
  have T0 : TI (rn := rn) w.heap.size (w.heap.size + 1 + 1) b o (s1 + 1) (s1 + 1 + 1) s1 (s1 + 1 + 1 + 1) bd ps rs w [] W0 := by
    refine ⟨?_, ?_, ?_, ?_, HMM.out.below hbW, ?_, ?_, HB1.out.trans (hbW.mono HB1.out.size)⟩
    · rw [← hbd]; exact HK1.out.up hbW
    · exact (hbW.block _ (by omega)).trans HRZ.out
    · rw [← hW0]; exact h_old (h_old (h_old (h_old (h_new _ _ hs1) _) _) _) _
    · rw [← hW0, ← hs1]; refine h_old (h_new _ _ ?_) _; simp only [World.size_alloc]
    · have h := ((cm_none (w1.alloc (.cells #[.map (some (w.heap.size + 1 + 1))] 102))).below (ba (Below.refl _ _) (.map #[] 0))).below (ba (Below.refl _ _) (.cells #[.map (some (w1.heap.size + 1)), .map (some (w1.heap.size + 1 + 1))] 75))
      have h2 := h.below (ba (Below.refl _ _) (.cells #[.slice so sn sc, .slice po pn pc, .slice ro rn rc, .int .i64 ck, .int .i64 tk] 26))
      rw [hW0, World.size_alloc, hs1] at h2
      exact h2
    · have h := (cm_none ((w1.alloc (.cells #[.map (some (w.heap.size + 1 + 1))] 102)).alloc (.map #[] 0))).below (ba (Below.refl _ _) (.cells #[.map (some (w1.heap.size + 1)), .map (some (w1.heap.size + 1 + 1))] 75))
      have h2 := h.below (ba (Below.refl _ _) (.cells #[.slice so sn sc, .slice po pn pc, .slice ro rn rc, .int .i64 ck, .int .i64 tk] 26))
      rw [hW0, World.size_alloc, World.size_alloc, hs1] at h2
      exact h2
  have Z0 : B5 26 W0 (s1 + 1 + 1 + 1 + 1) (.slice so sn sc) (.slice po pn pc) (.slice ro rn rc) (.int .i64 ck) (.int .i64 tk) := by
    rw [← hW0]; refine h_new _ _ ?_; simp only [World.size_alloc, hs1]
  rw [hW0]
  simp only [hs1]
  refine wpIn_rangeFunc_ownG rfl (by omega) (gf := 70) (lb := #[.pointer (some ⟨s1 + 1 + 1 + 1 + 1, 0, none⟩)]) rfl trivial (enters_of Try.func70 (by kernel_rfl) rfl)
    (running_stops 2 (by omega) (s1 + 1 + 1 + 1 + 1) (.slice so sn sc) (.slice po pn pc) ro rn rc (.int .i64 ck) (.int .i64 tk) rs w W0 HR.out hrn (fun r h => (HZ.out r h).1) Z0 T0.be) kpR_t (kpR_b (by omega)) (Below.refl _ _) (fun _ => rfl)
    (fun pre W => TI (rn := rn) w.heap.size (w.heap.size + 1 + 1) b o (s1 + 1) (s1 + 1 + 1) s1 (s1 + 1 + 1 + 1) bd ps rs w pre W) (fun _ _ _ => False) (TI.own (by omega) rfl (by omega) (by omega) (by omega)) (fun _ _ _ _ _ hs _ _ => hs)
    T0
    (fun x => { tmps := #[.agg #[.slice so sn sc, .slice po pn pc, .slice ro rn rc, .int .i64 ck, .int .i64 tk], .pointer (some ⟨w.heap.size, 0, none⟩), .pointer (some ⟨w.heap.size + 1, 0, none⟩), .pointer (some ⟨s1, 0, none⟩), .pointer (some ⟨s1 + 1 + 1 + 1, 0, none⟩), .int .i64 x.1.1, .int .i64 x.1.2, undef, undef, .pointer (some ⟨w.heap.size, 1, none⟩), .slice po pn pc, .map (some (w.heap.size + 1 + 1)), .map (some (s1 + 1)), .map (some (s1 + 1 + 1)), .agg #[.map (some (s1 + 1)), .map (some (s1 + 1 + 1))], .agg #[.slice so sn sc, .slice po pn pc, .slice ro rn rc, .int .i64 ck, .int .i64 tk], .func (.func 70) #[] #[.pointer (some ⟨s1 + 1 + 1 + 1 + 1, 0, none⟩)], .int .i64 x.1.1, .int .i64 x.1.2, undef, undef, undef, undef, undef, undef, undef, undef, undef, undef, undef, undef, undef, undef, undef, undef, undef, undef, undef, undef, undef, undef, undef, undef, undef, undef], defers := [] }) ?assign ?body ?done ?stop
  case assign =>
    intro l x W K hK
    simp only [encP]
    gi_wp2
    exact hK
  case body =>
    intro l pre x W T hlt
    obtain ⟨k, HK⟩ : ∃ k, Hid (x.1.1 = k) := ⟨_, rfl⟩
    obtain ⟨i, HI⟩ : ∃ i, Hid (x.1.2 = i) := ⟨_, rfl⟩
    have hk : k < rn := by rw [← HK.out]; exact x.2.1
    have hi : i ≤ 1048576 := by rw [← HI.out]; exact x.2.2
    have HXX : Hid (x.1 = (k, i)) := by show _ = _; rw [← HK.out, ← HI.out]
    have HV : Hid (valsP (pre ++ [x]) = valsP pre ++ [(k, i)]) := by show _ = _; rw [valsP_snoc, HXX.out]
    simp only [HK.out, HI.out]
    obtain ⟨r, hr⟩ : ∃ r, rs[k]? = some r := ⟨_, List.getElem?_eq_getElem (by rw [HR.out.len]; exact hk)⟩
    obtain ⟨b', o', av9, e', hb, c0, c1, c2, c3, c4, hav⟩ := rk_at (C := 0) (HR.out.below oneRk_below T.be) hr
    obtain ⟨fo, fc, ev⟩ := reads_slice hav
    obtain ⟨m, HMM9⟩ : ∃ m, Hid (r.st.length = m) := ⟨_, rfl⟩
    rw [HMM9.out] at ev
    subst ev
    clear hav
    have hnm : r.nm.size ≤ 1048577 := (HZ.out r (List.mem_of_getElem? hr)).2
    have HNM : Hid (nmAt rs k = r.nm) := nmAt_at hr
    have kb : W.cell? ⟨w.heap.size, 2, none⟩ = some (.slice (some ⟨b', o', none⟩) rn rc) := by have h := T.bd.c2; rw [← hbd, e'] at h; exact h
    obtain ⟨cA, HA⟩ : ∃ cA, Hid (cnt (actK rs r.nm.data.toList) (valsP pre) = cA) := ⟨_, rfl⟩
    have hcA : cA ≤ 1099513724929 := by rw [← HA.out]; exact Nat.le_trans (cnt_le _ _) (by rw [valsP_len]; omega)
    have hba := ba (Below.refl _ W) (.cells #[.string r.nm, .int .i64 r.fr, .int .i64 r.up, .int .i64 r.ep, (.slice fo m fc)] 65)
    have X := R5.new W r.nm r.fr r.up r.ep (.slice fo m fc)
    have tl1 := h_old T.tl (.cells #[.string r.nm, .int .i64 r.fr, .int .i64 r.up, .int .i64 r.ep, (.slice fo m fc)] 65)
    have pb1 := h_old T.pb (.cells #[.string r.nm, .int .i64 r.fr, .int .i64 r.up, .int .i64 r.ep, (.slice fo m fc)] 65)
    have hlA := cm_look (T.ca.below hba) (le_ml hnm)
    simp only [HA.out] at hlA
    have hAW := T.ca.lt
    have hUW := T.cu.lt
    have hqW : s1 + 1 + 1 + 1 < W.heap.size := (Array.getElem?_eq_some_iff.1 T.tl).1
    have hact : ∀ s, actK rs s (k, i) = decide (r.nm.data.toList = s) := fun s => by unfold actK; rw [HNM.out]
    obtain ⟨w2, hpA, hcA2, hgA⟩ := cm_put (g := fun s => cnt (actK rs s) (valsP (pre ++ [x]))) (T.ca.below hba) (by omega) (le_ml hnm) (by simp only [HV.out]; rw [cnt_snoc, hact, decide_eq_true rfl]; rfl) (fun t ht => by simp only [HV.out]; rw [cnt_snoc, hact, decide_eq_false fun e => ht e.symm]; rfl)
    simp only [HA.out] at hpA
    have X2 := X.grown hgA (ne_some (by omega))
    have tl2 : w2.heap[s1 + 1 + 1 + 1]? = some (.cells #[.map (some (s1 + 1)), .map (some (s1 + 1 + 1))] 75) := (hgA.block _ (Array.getElem?_eq_some_iff.1 tl1).1 (ne_some (by omega))).trans tl1
    have pb2 : w2.heap[s1]? = some (.cells #[.map (some (w.heap.size + 1 + 1))] 102) := (hgA.block _ (Array.getElem?_eq_some_iff.1 pb1).1 (ne_some (by omega))).trans pb1
    have pm2 := (T.pm.below hba).kept hgA (ne_some (by omega))
    have HCU2 : Hid (CMap w2 (s1 + 1 + 1) pre.length (fun s => cnt (useK ps rs s) (valsP pre))) := (T.cu.below hba).kept hgA (ne_some (by omega))
    have be1 : Below w.heap.size w (W.alloc (.cells #[.string r.nm, .int .i64 r.fr, .int .i64 r.up, .int .i64 r.ep, (.slice fo m fc)] 65)) := T.be.trans (hba.mono T.be.size)
    have be2 : Below w.heap.size w w2 := be1.grown hgA be1.size (fun j hj => by cases hj; omega)
    have t0 : (W.alloc (.cells #[.string r.nm, .int .i64 r.fr, .int .i64 r.up, .int .i64 r.ep, (.slice fo m fc)] 65)).cell? ⟨s1 + 1 + 1 + 1, 0, none⟩ = some (.map (some (s1 + 1))) := by simp only [World.cell?, tl1]; rfl
    have t2 : w2.cell? ⟨s1, 0, none⟩ = some (.map (some (w.heap.size + 1 + 1))) := by simp only [World.cell?, pb2]; rfl
    have x0 := X2.c0
    have x1 := X2.c1
    have x2 := X2.c2
    have x3 := X2.c3
    have x4 := X2.c4
    have HKR : Hid (KeepsFrom W0.heap.size W w2 ∧ KpR w.heap.size W w2) :=
      ⟨(KeepsFrom.of_grownBy (World.grownBy_alloc W _ none) (fun j e => by cases e)).trans (KeepsFrom.of_grownBy hgA (fun j e => by cases e; omega)), kpR_t (kpR_of T.be.size hba) (kpR_map be1.size (by omega) (T.ca.below hba) hgA)⟩
    have bd2 : B5 26 w2 w.heap.size bd.1 bd.2.1 bd.2.2.1 bd.2.2.2.1 bd.2.2.2.2 := (T.bd.up hba).grown hgA (ne_some (by omega))
    have rz1 := h_old T.rz (.cells #[.string r.nm, .int .i64 r.fr, .int .i64 r.up, .int .i64 r.ep, (.slice fo m fc)] 65)
    have rz2 : w2.heap[w.heap.size + 1]? = some (.cells #[.map none, .map none] 75) := (hgA.block _ (Array.getElem?_eq_some_iff.1 rz1).1 (ne_some (by omega))).trans rz1
    have HCA : Hid (CMap w2 (s1 + 1) (pre ++ [x]).length (fun s => cnt (actK rs s) (valsP (pre ++ [x])))) := by
      show CMap _ _ _ _
      rw [List.length_append]; exact hcA2
    have HT3 : Hid (∀ W3, w2.grownBy W3 (some (s1 + 1 + 1)) → CMap W3 (s1 + 1 + 1) (pre ++ [x]).length (fun s => cnt (useK ps rs s) (valsP (pre ++ [x]))) → TI (rn := rn) w.heap.size (w.heap.size + 1 + 1) b o (s1 + 1) (s1 + 1 + 1) s1 (s1 + 1 + 1 + 1) bd ps rs w (pre ++ [x]) W3) := fun W3 hg hc =>
      ⟨bd2.grown hg (ne_some (by omega)), (hg.block _ (Array.getElem?_eq_some_iff.1 rz2).1 (ne_some (by omega))).trans rz2, (hg.block _ (Array.getElem?_eq_some_iff.1 pb2).1 (ne_some (by omega))).trans pb2, (hg.block _ (Array.getElem?_eq_some_iff.1 tl2).1 (ne_some (by omega))).trans tl2, pm2.kept hg (ne_some (by omega)), HCA.out.kept hg (ne_some (by omega)), hc, be2.grown hg be2.size (fun j e => by cases e; omega)⟩
    have HTO : Hid (∀ W3, CallsIn Fence.wide W3 Try.prog 59 #[.map (some (w.heap.size + 1 + 1)), .agg #[.string r.nm, .int .i64 r.fr, .int .i64 r.up, .int .i64 r.ep, (.slice fo m fc)], .int .i64 i] w2 fun e w' => ((e = .returned (.pointer none) ∧ poolOf ps r.nm i = none) ∨ TofP ps r.nm i e w') ∧ Below w2.heap.size w2 w') := fun W3 => callsIn_wide.2 (taskOf_any (w.heap.size + 1 + 1) b o po pn pc ps r.nm r.fr r.up r.ep (.slice fo m fc) i w2 pm2 (HD.out w2 be2) HBO.out hnm (fun p h => (HZP.out p h).1) (by omega))
    have HPM2 : Hid (PMap w2 (w.heap.size + 1 + 1) b o ps) := pm2
    cases hq : poolOf ps r.nm i with
    | none =>
      have HT2 : Hid (∀ n, CallsIn Fence.wide n Try.prog 59 #[.map (some (w.heap.size + 1 + 1)), .agg #[.string r.nm, .int .i64 r.fr, .int .i64 r.up, .int .i64 r.ep, (.slice fo m fc)], .int .i64 i] w2 fun e w' => e = .returned (.pointer none) ∧ Below w2.heap.size w2 w') := fun n => (HTO.out n).mono (by
        rintro e w' ⟨⟨rfl, _⟩ | ⟨_, _, _, _, _, h⟩, hb⟩
        · exact ⟨rfl, hb⟩
        · rw [hq] at h; cases h)
      have HQ : Hid (poolOf ps r.nm i = none) := hq
      clear HTO hq pm2 tl1 pb1 hcA2 hr bd2 rz1 rz2
      gi_wp2_with (refine ⟨trivial, ?_⟩; gi_at_call 59; refine (CallsIn.inRound l (HT2.out _)).mono ?_; rintro e w3 ⟨rfl, hb3⟩)
      have HU3 : Hid (CMap w3 (s1 + 1 + 1) (pre ++ [x]).length (fun s => cnt (useK ps rs s) (valsP (pre ++ [x])))) := by
        have h := (HCU2.out.below hb3).mono
        have e : (fun s => cnt (useK ps rs s) (valsP (pre ++ [x]))) = fun s => cnt (useK ps rs s) (valsP pre) := by
          funext s
          rw [HV.out, cnt_snoc]
          have : useK ps rs s (k, i) = false := by unfold useK; rw [HNM.out, HQ.out]; rfl
          rw [this]; rfl
        show CMap _ _ _ _
        rw [e, List.length_append]
        exact h
      exact ⟨HKR.out.1.trans (KeepsFrom.of_grownBy (grown_of hb3) (fun j e => by cases e)), kpR_t HKR.out.2 (kpR_of be2.size hb3), HT3.out _ (grown_wider hb3) HU3.out⟩
    | some pool =>
      have HT2 : Hid (∀ n, CallsIn Fence.wide n Try.prog 59 #[.map (some (w.heap.size + 1 + 1)), .agg #[.string r.nm, .int .i64 r.fr, .int .i64 r.up, .int .i64 r.ep, (.slice fo m fc)], .int .i64 i] w2 fun e w' => ∃ tb to9, e = .returned (.pointer (some ⟨tb, to9, none⟩)) ∧ w'.cell? ⟨tb, to9 + 1, none⟩ = some (.string pool) ∧ Below w2.heap.size w2 w') := fun n => (HTO.out n).mono (by
        rintro e w' ⟨⟨rfl, h⟩ | ⟨tb, to9, pl, rfl, hc, h⟩, hb⟩
        · rw [hq] at h; cases h
        · rw [hq] at h; injection h with h; subst h; exact ⟨tb, to9, rfl, hc, hb⟩)
      have HQ : Hid (poolOf ps r.nm i = some pool) := hq
      have hpz : pool.size ≤ maxLen := by
        obtain ⟨p, hp, t, ht, rfl⟩ := pool_sz hq
        exact (HZP.out p hp).2.2 t ht
      obtain ⟨cU, HU⟩ : ∃ cU, Hid (cnt (useK ps rs pool.data.toList) (valsP pre) = cU) := ⟨_, rfl⟩
      have hcU : cU ≤ 1099513724929 := by rw [← HU.out]; exact Nat.le_trans (cnt_le _ _) (by rw [valsP_len]; omega)
      have huse : Hid (∀ s, useK ps rs s (k, i) = decide (pool.data.toList = s)) := fun s => by unfold useK; rw [HNM.out, HQ.out]; simp
      have HTL : Hid (w2.heap[s1 + 1 + 1 + 1]? = some (.cells #[.map (some (s1 + 1)), .map (some (s1 + 1 + 1))] 75)) := tl2
      clear HTO hq pm2 tl1 pb1 hcA2 hr bd2 rz1 rz2 tl2 pb2
      gi_wp2_with (refine ⟨trivial, ?_⟩; gi_at_call 59; refine (CallsIn.inRound l (HT2.out _)).mono ?_; rintro e w3 ⟨tb, to9, rfl, hcell, hb3⟩)
      have tl3 : w3.heap[s1 + 1 + 1 + 1]? = some (.cells #[.map (some (s1 + 1)), .map (some (s1 + 1 + 1))] 75) := (hb3.block _ (Array.getElem?_eq_some_iff.1 HTL.out).1).trans HTL.out
      have t3 : w3.cell? ⟨s1 + 1 + 1 + 1, 1, none⟩ = some (.map (some (s1 + 1 + 1))) := by simp only [World.cell?, tl3]; rfl
      have cu2 : CMap w3 (s1 + 1 + 1) pre.length (fun s => cnt (useK ps rs s) (valsP pre)) := HCU2.out.below hb3
      have cu3 : CMap w3.drew (s1 + 1 + 1) pre.length (fun s => cnt (useK ps rs s) (valsP pre)) := cu2
      have hlU := cm_look cu3 hpz
      simp only [HU.out] at hlU
      obtain ⟨w4, hpU, hcU4, hgU⟩ := cm_put (g := fun s => cnt (useK ps rs s) (valsP (pre ++ [x]))) cu3 (by omega) hpz (by simp only [HV.out]; rw [cnt_snoc, huse.out, decide_eq_true rfl]; rfl) (fun t ht => by simp only [HV.out]; rw [cnt_snoc, huse.out, decide_eq_false fun e => ht e.symm]; rfl)
      simp only [HU.out] at hpU
      have HU4 : Hid (CMap w4 (s1 + 1 + 1) (pre ++ [x]).length (fun s => cnt (useK ps rs s) (valsP (pre ++ [x])))) := by
        show CMap _ _ _ _
        rw [List.length_append]; exact hcU4
      clear hcU4 tl3
      have hgU3 : w3.grownBy w4 (some (s1 + 1 + 1)) := ⟨hgU.os, hgU.tape, hgU.output, hgU.size, hgU.block⟩
      have HGU : Hid (w2.grownBy w4 (some (s1 + 1 + 1))) := (grown_wider hb3).trans hgU3
      have HK4 : Hid (KeepsFrom W0.heap.size W w4 ∧ KpR w.heap.size W w4) :=
        ⟨(HKR.out.1.trans (KeepsFrom.of_grownBy (grown_of hb3) (fun j e => by cases e))).trans (KeepsFrom.of_grownBy hgU3 (fun j e => by cases e; omega)), kpR_t (kpR_t HKR.out.2 (kpR_of be2.size hb3)) (kpR_map (be2.trans (hb3.mono be2.size)).size (by omega) cu2 hgU3)⟩
      clear hgU hgU3 cu2 cu3
      refine wpIn_region_orders rfl (os := [[0, 1, 2, 3, 4, 5, 6, 7, 8], [0, 2, 1, 3, 4, 5, 6, 7, 8], [0, 2, 3, 1, 4, 5, 6, 7, 8], [0, 2, 3, 4, 1, 5, 6, 7, 8], [0, 2, 3, 4, 5, 1, 6, 7, 8], [2, 0, 1, 3, 4, 5, 6, 7, 8], [2, 0, 3, 1, 4, 5, 6, 7, 8], [2, 0, 3, 4, 1, 5, 6, 7, 8], [2, 0, 3, 4, 5, 1, 6, 7, 8], [2, 3, 0, 1, 4, 5, 6, 7, 8], [2, 3, 0, 4, 1, 5, 6, 7, 8], [2, 3, 0, 4, 5, 1, 6, 7, 8], [2, 3, 4, 0, 1, 5, 6, 7, 8], [2, 3, 4, 0, 5, 1, 6, 7, 8], [2, 3, 4, 5, 0, 1, 6, 7, 8]]) (by kernel_rfl) ?_
      intro o ho
      simp only [List.mem_cons, List.not_mem_nil, or_false] at ho
      rcases ho with rfl | rfl | rfl | rfl | rfl | rfl | rfl | rfl | rfl | rfl | rfl | rfl | rfl | rfl | rfl
      all_goals simp only [List.filterMap_cons, List.filterMap_nil, List.getElem?_toArray, List.getElem?_cons_zero, List.getElem?_cons_succ]
      all_goals gi_wp2
      all_goals exact ⟨HK4.out.1, HK4.out.2, HT3.out _ HGU.out HU4.out⟩
  case done =>
    rintro D ys W hD hys T hK
    have tl := T.tl
    have rz := T.rz
    have t0 : W.cell? ⟨s1 + 1 + 1 + 1, 0, none⟩ = some (.map (some (s1 + 1))) := by simp only [World.cell?, tl]; rfl
    have t1 : W.cell? ⟨s1 + 1 + 1 + 1, 1, none⟩ = some (.map (some (s1 + 1 + 1))) := by simp only [World.cell?, tl]; rfl
    have z0 : W.cell? ⟨w.heap.size + 1, 0, none⟩ = some (.map none) := by simp only [World.cell?, rz]; rfl
    have z1 : W.cell? ⟨w.heap.size + 1, 1, none⟩ = some (.map none) := by simp only [World.cell?, rz]; rfl
    have f0 : W.frozen? ⟨w.heap.size + 1, 0, none⟩ = false := by simp [World.frozen?, rz]
    have f1 : W.frozen? ⟨w.heap.size + 1, 1, none⟩ = false := by simp [World.frozen?, rz]
    have Z5 : ((W.setCell ⟨w.heap.size + 1, 0, none⟩ (.map (some (s1 + 1)))).setCell ⟨w.heap.size + 1, 1, none⟩ (.map (some (s1 + 1 + 1)))).heap[w.heap.size + 1]? = some (.cells #[.map (some (s1 + 1)), .map (some (s1 + 1 + 1))] 75) := by simp [World.setCell, Array.getElem?_modify, rz]
    have K5 : ((W.setCell ⟨w.heap.size + 1, 0, none⟩ (.map (some (s1 + 1)))).setCell ⟨w.heap.size + 1, 1, none⟩ (.map (some (s1 + 1 + 1)))).heap[D]? = some (.deferred (some [])) := (heap_setCell_other _ ⟨w.heap.size + 1, 1, none⟩ D _ (by simp; omega)).trans ((heap_setCell_other _ ⟨w.heap.size + 1, 0, none⟩ D _ (by simp; omega)).trans hK)
    have G5 : W.grownBy ((W.setCell ⟨w.heap.size + 1, 0, none⟩ (.map (some (s1 + 1)))).setCell ⟨w.heap.size + 1, 1, none⟩ (.map (some (s1 + 1 + 1)))) (some (w.heap.size + 1)) := (grown_set W (w.heap.size + 1) 0 _).trans (grown_set _ (w.heap.size + 1) 1 _)
    have HE : Hid (valsP ys = rp rs) := hys
    have A5 := T.ca.kept G5 (ne_some (by omega))
    have U5 := T.cu.kept G5 (ne_some (by omega))
    have B5 := T.be.grown G5 T.be.size (fun j e => by cases e; omega)
    rw [HE.out] at A5 U5
    have HA5 : Hid _ := A5
    have HU5 : Hid _ := U5
    clear A5 U5 T hys
    gi_wp2
    obtain ⟨w5, hw5⟩ : ∃ w5, ((W.setCell ⟨w.heap.size + 1, 0, none⟩ (.map (some (s1 + 1)))).setCell ⟨w.heap.size + 1, 1, none⟩ (.map (some (s1 + 1 + 1)))) = w5 := ⟨_, rfl⟩
    rw [hw5] at Z5 K5 HA5 HU5 B5 ⊢
    clear hw5
    refine ⟨by simp, .inl ⟨_, _, rfl, run_takeDeferred K5, ?_⟩⟩
    refine ⟨_, results_cell_row rfl _ _ (w.heap.size + 1) 75 _ _ _ rfl ((World.putObj_heap_other (by omega)).trans Z5) Try.underlying75 rfl (by kernel_rfl), s1 + 1, s1 + 1 + 1, ys.length, rfl, ?_, ?_, B5.trans (belowK_b (w := w) (Nat.le_refl _) _ D _ _ (by omega) K5 rfl rfl)⟩
    · exact CMap.kept HA5.out (grownBy_putObj' _ D _) (ne_some (by omega))
    · exact CMap.kept HU5.out (grownBy_putObj' _ D _) (ne_some (by omega))
  case stop =>
    rintro D c pre W _ _ h _
    exact h.elim
end Go.Proofs.Ytjmclcjhimcehaa
