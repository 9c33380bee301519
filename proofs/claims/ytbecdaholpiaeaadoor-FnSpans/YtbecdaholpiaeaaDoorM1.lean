/-
  Spans from one minute that fires to the next, as the program tells them: the walks. Spans, the latest one, and what lacks, as the specification tells them: the walks. Lists of spans, and the latest one, as the program tells them: the walks. Spans and the latest of them, as the program tells them: they are the specification's.
-/
import Derived.Test.YtbecdaholpiaeaaDoorSpn
import Derived.Test.YtbecdaholpiaeaaDoorNfi
import Derived.Maps.AppendAt
namespace Go.Proofs.YtbecdaholpiaeaaDoor
open Go Go.RowKit
set_option linter.unusedVariables false

/-- The first span from a minute on. -/
def spanO (f : Int → Option Int) (fr : Int) : Option Sp := match f fr with
  | some b => (match f (b + 1) with
    | some e => some ⟨b, e⟩
    | none => none)
  | none => none
/-- Spans one behind the other, so many at most. -/
def progG (f : Int → Option Int) (upto : Int) : Nat → Option Sp → List Sp
  | 0, _ => []
  | n + 1, some s => if s.up ≤ upto then s :: progG f upto n (spanO f s.up) else []
  | n + 1, none => []
theorem progG_none (f : Int → Option Int) (upto : Int) (n : Nat) : progG f upto n none = [] := by cases n <;> rfl
theorem progG_far {f : Int → Option Int} {upto : Int} {s : Sp} (h : ¬ s.up ≤ upto) (n : Nat) : progG f upto n (some s) = [] := by
  cases n with
  | zero => rfl
  | succ n => unfold progG; rw [if_neg h]
theorem progG_next {f : Int → Option Int} {upto : Int} {s : Sp} (h : s.up ≤ upto) (n : Nat) : progG f upto (n + 1) (some s) = s :: progG f upto n (spanO f s.up) := by
  rw [progG, if_pos h]
/-- What NextFire tells comes back from itself; behind the last minute there is none. -/
def Again (f : Int → Option Int) : Prop := (∀ x b, f x = some b → f b = some b) ∧ ∀ a, ¬ a < 68374079 → f (a + 1) = none
theorem prog_spans {f : Int → Option Int} (hf : Again f) (upto : Int) : ∀ (n : Nat) (x a : Int), f x = some a → progG f upto n (spanO f a) = spansG f upto n a
  | 0, _, _, _ => rfl
  | n + 1, x, a, ha => by
    have h1 := hf.1 x a ha
    unfold spanO spansG
    rw [h1]
    simp only
    by_cases hlt : a < 68374079
    · rw [if_pos hlt]
      cases hb : f (a + 1) with
      | none => rfl
      | some b =>
        simp only
        unfold progG
        simp only
        by_cases hu : b ≤ upto
        · rw [if_pos hu, if_pos hu, prog_spans hf upto n _ b hb]
        · rw [if_neg hu, if_neg hu]
    · rw [if_neg hlt, hf.2 a hlt]
      rfl
theorem prog_all {f : Int → Option Int} (hf : Again f) (fr upto most : Int) : progG f upto most.toNat (spanO f fr) = spansL f fr upto most := by
  unfold spansL
  cases ha : f fr with
  | none =>
    have : spanO f fr = none := by unfold spanO; rw [ha]
    rw [this, progG_none]
  | some a =>
    have : spanO f fr = spanO f a := by
      unfold spanO
      rw [ha, hf.1 fr a ha]
    rw [this, prog_spans hf upto _ fr a ha]
theorem nf_again (a b c d e : List Int) (hx : ∀ m, ∃ o, NfP a b c d e m 400 o) : Again (fun m => nfO a b c d e m 400) := by
  refine ⟨fun x y h => ?_, fun y h => ?_⟩
  · obtain ⟨o, ho⟩ := hx x
    have h1 : o = some y := (nfO_is ho).symm.trans h
    subst h1
    refine nfO_is ?_
    unfold NfP at ho
    split at ho
    · rename_i hc
      have hf := ho.2.2.1
      have hr := (fires_iff.1 hf).1
      exact nf_some (D := y / 1440) hc.1 hr (by decide) (Int.le_refl _) ⟨hf, fun m g0 g1 => absurd g1 (by omega)⟩ (by rw [if_neg (by decide)]; omega) (by omega)
    · cases ho
  · exact nfO_is (nf_no fun hc => h (by omega))
/-- Two cells in a block. -/
def C2 (t : TypeId) (W : World) (b : Nat) (x y : Value) : Prop := W.heap[b]? = some (.cells #[x, y] t)
section
variable {t : TypeId} {W W' : World} {b : Nat} {x y : Value}
theorem C2.lt (h : C2 t W b x y) : b < W.heap.size := (Array.getElem?_eq_some_iff.1 h).1
theorem C2.up (h : C2 t W b x y) (hb : Below W.heap.size W W') : C2 t W' b x y := (hb.block _ h.lt).trans h
theorem C2.grown {r : Option Nat} (h : C2 t W b x y) (hg : W.grownBy W' r) (hr : some b ≠ r) : C2 t W' b x y := (hg.block b h.lt hr).trans h
theorem C2.c0 (h : C2 t W b x y) : W.cell? ⟨b, 0, none⟩ = some x := by simp [World.cell?, show W.heap[b]? = _ from h]
theorem C2.c1 (h : C2 t W b x y) : W.cell? ⟨b, 1, none⟩ = some y := by simp [World.cell?, show W.heap[b]? = _ from h]
theorem C2.fr (h : C2 t W b x y) (j : Nat) : W.frozen? ⟨b, j, none⟩ = false := by simp [World.frozen?, show W.heap[b]? = _ from h]
theorem C2.new (t : TypeId) (W : World) (x y : Value) : C2 t (W.alloc (.cells #[x, y] t)) W.heap.size x y := by
  show (W.heap.push _)[W.heap.size]? = _
  rw [Array.getElem?_push, if_pos rfl]
theorem C2.s0 (h : C2 t W b x y) (u : Value) : C2 t (W.setCell ⟨b, 0, none⟩ u) b u y := by simp [C2, World.setCell, Array.getElem?_modify, show W.heap[b]? = _ from h]
theorem C2.s1 (h : C2 t W b x y) (u : Value) : C2 t (W.setCell ⟨b, 1, none⟩ u) b x u := by simp [C2, World.setCell, Array.getElem?_modify, show W.heap[b]? = _ from h]
theorem C2.set (h : C2 t W b x y) (u v : Value) : C2 t ((W.setCell ⟨b, 0, none⟩ u).setCell ⟨b, 1, none⟩ v) b u v := (h.s0 u).s1 v
end
theorem C5.set2 {t : TypeId} {W : World} {b g : Nat} {x0 x1 x2 x3 x4 : Value} (h : C5 t W b x0 x1 x2 x3 x4) (hne : b ≠ g) (u v : Value) : C5 t ((W.setCell ⟨g, 0, none⟩ u).setCell ⟨g, 1, none⟩ v) b x0 x1 x2 x3 x4 := by
  have e1 := heap_setCell_other W ⟨g, 0, none⟩ b u hne
  have e2 := heap_setCell_other (W.setCell ⟨g, 0, none⟩ u) ⟨g, 1, none⟩ b v hne
  exact (e2.trans e1).trans h
theorem ownsR.set2 {α : Type} [Rec α] {w : World} {B e g : Nat} {v : Value} {l : List α} (h : ownsR w B e v l) (hne : some g ≠ v.ownBlock) (x y : Value) : ownsR ((w.setCell ⟨g, 0, none⟩ x).setCell ⟨g, 1, none⟩ y) B e v l := by
  have hg := grown_trans (grown_set w g 0 x) (grown_set (w.setCell ⟨g, 0, none⟩ x) g 1 y)
  refine h.other hg ?_
  by_cases hv : v.ownBlock = none
  · exact .inl hv
  · exact .inr (fun e => hne e.symm)
open Rec in
/-- One record more behind a row that the call owns: and where the row lies then. -/
theorem append_recA {α : Type} [Rec α] {P : Program} (w w0 : World) {ops : Array Oper} {rest : List Oper} {o : Oper} {a : Act} {Q : Exit → Act → World → Prop} (hgd : o.guard = none) (s x : Operand) (t : TypeId)
    (ho : o.op = .call { callee := .builtin .append, args := #[s, x], argTypes := #[t, t] })
    (B : Nat) (e : TypeId) (z : Value) (bytes : Nat) (ht : P.underlying t = some (.slice e)) (hi : (P.info? e).map (fun i => (i.zero, i.size, i.bytes)) = some (some z, width α, bytes)) (hz : z.cells.size = width α)
    (v : Value) (l : List α) (hs : a.eval s = v) (hown : ownsR w B e v l) (hbel : Below B w0 w)
    (b c : Nat) (n : α) (hx : a.eval x = .slice (some ⟨b, 0, none⟩) 1 c) (hc : ∀ j u, (cells n)[j]? = some u → w.cell? ⟨b, j, none⟩ = some u ∧ u.oneCell' = true)
    (hlen : l.length ≤ 1048576) (hby : bytes ≤ 134217000) (hB : B ≤ w.heap.size)
    (h : ∀ v' w', ownsR w' B e v' (l ++ [n]) → Below B w0 w' → w.grownBy w' v.ownBlock → (v'.ownBlock = v.ownBlock ∨ v'.ownBlock = some w.heap.size) → wpList P ops Q rest (a.put o.dst v') w') : wpList P ops Q (o :: rest) a w := by
  obtain ⟨i0, hi0, hz0, hz1, hz2⟩ := info_parts hi
  refine wpList_append_own_at w hgd s x t ho B e i0 z (width α) bytes ht hi0 hz0 hz1 hz2 hz Rec.pos v l.length _ hs hown ⟨b, 0, none⟩ 1 c (cells n) hx (by rw [Rec.len]; simp) ?_ ?_ (by unfold maxLen; omega) ?_ hB ?_
  · intro j u hj
    have := (hc j u hj).1
    by_cases h0 : j = 0
    · subst h0; simpa [Addr.add] using this
    · simpa [Addr.add, h0] using this
  · intro u hu
    obtain ⟨j, hj⟩ := List.getElem?_of_mem hu
    exact (hc j u hj).2
  · have : (l.length + 1) * bytes ≤ 1048577 * 134217000 := Nat.mul_le_mul (by omega) hby
    omega
  · intro v' w' h1 h2 _ h4
    exact h v' w' (by simpa [ownsR, Rec.len] using h1) (hbel.grown h2 hB fun k hk => (hown.lt k hk).1) h2 h4
theorem run_ne_sp (x y z u : Int) (wx : World) : (binOp .neq 34 (.agg #[.int .i64 x, .int .i64 y]) (.agg #[.int .i64 z, .int .i64 u])).run Tryd.prog wx = .ok (.bool (!((x == z) && (y == u)))) wx := by
  have hf : Tryd.prog.underlying 34 = some (.struct (Tryd.prog.fieldsOf 34)) := by kernel_rfl
  rw [run_neq_struct, run_equalIn_agg wx 9999 34 _ _ hf (by kernel_rfl)]
  cases h1 : (x == z) <;> cases h2 : (y == u) <;> simp [go_sem, h1, h2]
/-- What NextFire of the program tells, as a function. -/
theorem nextF (va vb vc vd ve : Value) (a b c d e : List Int) (w : World) (h1 : Reads w va a) (h2 : Reads w vb b) (h3 : Reads w vc c) (h4 : Reads w vd d) (h5 : Reads w ve e)
    (n1 : a.length ≤ 1048577) (n2 : b.length ≤ 1048577) (n3 : c.length ≤ 1048577) (n4 : d.length ≤ 1048577) (n5 : e.length ≤ 1048577) (hg : RchIs w) (m : Int) :
    Calls Tryd.prog 54 #[.agg #[va, vb, vc, vd, ve], .int .i64 m, .int .i64 400] w fun x w' => x = .returned (.tuple #[.int .i64 ((nfO a b c d e m 400).getD 0), .bool (nfO a b c d e m 400).isSome]) ∧ Below w.heap.size w w' ∧ ∀ r, nfO a b c d e m 400 = some r → 0 ≤ r ∧ r ≤ 68374079 ∧ m ≤ r := by
  refine (implNext_any va vb vc vd ve a b c d e m 400 w h1 h2 h3 h4 h5 n1 n2 n3 n4 n5 hg).mono ?_
  rintro x w' ⟨o, rfl, ho, hb'⟩
  have e1 : nfO a b c d e m 400 = o := nfO_is ho
  rw [e1]
  refine ⟨rfl, hb', fun r hr => ?_⟩
  subst hr
  unfold NfP at ho
  split at ho
  · exact ⟨(fires_iff.1 ho.2.2.1).1.1, (fires_iff.1 ho.2.2.1).1.2, ho.1⟩
  · cases ho
theorem ret_sp1 {fn : Func} {p : Tmp} {w : World} {g : Nat} {a b : Int} {tmps : Array Value} (h : fn.results = #[.cell p 34]) (hp : tmps.getD p undef = .pointer (some ⟨g, 0, none⟩)) (h0 : w.cell? ⟨g, 0, none⟩ = some (.int .i64 a)) (h1 : w.cell? ⟨g, 1, none⟩ = some (.int .i64 b)) :
    (results fn tmps).run Tryd.prog w = .ok (.agg #[.int .i64 a, .int .i64 b]) w := by
  have hp' : tmps[p]?.getD undef = .pointer (some ⟨g, 0, none⟩) := by simpa using hp
  simp [results, h, hp', h0, h1, asAddr, go_sem]
/-- What spanFrom answers. -/
def SfP (f : Int → Option Int) (fr : Int) (w : World) (x : Ending) (w' : World) : Prop :=
  x = .returned (.agg #[.int .i64 ((spanO f fr).getD ⟨0, 0⟩).fr, .int .i64 ((spanO f fr).getD ⟨0, 0⟩).up]) ∧ Below w.heap.size w w' ∧ ∀ s, spanO f fr = some s → 0 ≤ s.fr ∧ s.fr < s.up ∧ s.up ≤ 68374079
set_option maxRecDepth 10000 in
set_option maxHeartbeats 2000000 in
theorem spanFrom_any (f : Int → Option Int) (va vb vc vd ve : Value) (fr : Int) (w : World)
    (HN : ∀ W m, Below w.heap.size w W → Calls Tryd.prog 54 #[.agg #[va, vb, vc, vd, ve], .int .i64 m, .int .i64 400] W fun x w' => x = .returned (.tuple #[.int .i64 ((f m).getD 0), .bool (f m).isSome]) ∧ Below W.heap.size W w' ∧ ∀ r, f m = some r → 0 ≤ r ∧ r ≤ 68374079 ∧ m ≤ r) :
    Calls Tryd.prog 46 #[.agg #[va, vb, vc, vd, ve], .int .i64 fr] w (SfP f fr w) := by
  have HNX : Hid (∀ W m, Below w.heap.size w W → Calls Tryd.prog 54 #[.agg #[va, vb, vc, vd, ve], .int .i64 m, .int .i64 400] W fun x w' => x = .returned (.tuple #[.int .i64 ((f m).getD 0), .bool (f m).isSome]) ∧ Below W.heap.size W w' ∧ ∀ r, f m = some r → 0 ≤ r ∧ r ≤ 68374079 ∧ m ≤ r) := HN
  clear HN
  have HA : Hid (C5 26 ((w.alloc (.cells #[va, vb, vc, vd, ve] 26)).alloc (.cells #[.int .i64 0, .int .i64 0] 34)) w.heap.size va vb vc vd ve) := (C5.new 26 w va vb vc vd ve).up (ba (Below.refl _ _) _)
  have HC : Hid (C2 34 ((w.alloc (.cells #[va, vb, vc, vd, ve] 26)).alloc (.cells #[.int .i64 0, .int .i64 0] 34)) (w.heap.size + 1) (.int .i64 0) (.int .i64 0)) := by
    have := C2.new 34 (w.alloc (.cells #[va, vb, vc, vd, ve] 26)) (.int .i64 0) (.int .i64 0)
    show C2 _ _ _ _ _
    simpa using this
  go_enter Tryd.func46, Tryd.ntmps46
  go_wp2_with fail
  refine (HNX.out _ fr (ba (ba (Below.refl _ _) _) _)).mono ?_
  rintro x w1 ⟨rfl, hb1, hr1⟩
  have Z1 := HA.out.up hb1
  have D1 := HC.out.up hb1
  have B1 : Below w.heap.size w w1 := Below.on (ba (ba (Below.refl _ _) _) _) hb1
  have HR1 : Hid (∀ r, f fr = some r → 0 ≤ r ∧ r ≤ 68374079 ∧ fr ≤ r) := hr1
  clear hb1 hr1 HA HC
  cases hf : f fr with
  | none =>
    have HO : Hid (spanO f fr = none) := by show spanO f fr = none; unfold spanO; rw [hf]
    clear hf
    have c0 := D1.c0
    have c1 := D1.c1
    have f0 := D1.fr 0
    have f1 := D1.fr 1
    have HS : Hid (C2 34 ((w1.setCell ⟨w.heap.size + 1, 0, none⟩ (.int .i64 0)).setCell ⟨w.heap.size + 1, 1, none⟩ (.int .i64 0)) (w.heap.size + 1) (.int .i64 0) (.int .i64 0)) := D1.set _ _
    go_wp2
    refine bodyPost_ret (ret_sp1 rfl rfl HS.out.c0 HS.out.c1) rfl ⟨by rw [HO.out]; rfl, ?_, fun s hs => by rw [HO.out] at hs; cases hs⟩
    refine Below.setCell (Below.setCell B1 ?_ _) ?_ _ <;> simp
  | some r =>
    have hr := HR1.out r hf
    have c0 := Z1.c0
    have c1 := Z1.c1
    have c2 := Z1.c2
    have c3 := Z1.c3
    have c4 := Z1.c4
    go_wp2_with fail
    refine (HNX.out _ (r + 1) B1).mono ?_
    rintro x w2 ⟨rfl, hb2, hr2⟩
    have D2 := D1.up hb2
    have B2 : Below w.heap.size w w2 := Below.on B1 hb2
    clear hb2 c0 c1 c2 c3 c4 Z1 D1 B1
    have c0 := D2.c0
    have c1 := D2.c1
    have f0 := D2.fr 0
    have f1 := D2.fr 1
    cases hg : f (r + 1) with
    | none =>
      have HO : Hid (spanO f fr = none) := by show spanO f fr = none; unfold spanO; rw [hf]; simp only; rw [hg]
      clear hf hg
      have HS : Hid (C2 34 ((w2.setCell ⟨w.heap.size + 1, 0, none⟩ (.int .i64 0)).setCell ⟨w.heap.size + 1, 1, none⟩ (.int .i64 0)) (w.heap.size + 1) (.int .i64 0) (.int .i64 0)) := D2.set _ _
      go_wp2
      refine bodyPost_ret (ret_sp1 rfl rfl HS.out.c0 HS.out.c1) rfl ⟨by rw [HO.out]; rfl, ?_, fun s hs => by rw [HO.out] at hs; cases hs⟩
      refine Below.setCell (Below.setCell B2 ?_ _) ?_ _ <;> simp
    | some q =>
      have hq := hr2 q hg
      have HO : Hid (spanO f fr = some ⟨r, q⟩) := by show spanO f fr = _; unfold spanO; rw [hf]; simp only; rw [hg]
      have HF : Hid (0 ≤ r ∧ r < q ∧ q ≤ 68374079) := ⟨hr.1, by omega, hq.2.1⟩
      clear hf hg
      have HS : Hid (C2 34 ((w2.setCell ⟨w.heap.size + 1, 0, none⟩ (.int .i64 r)).setCell ⟨w.heap.size + 1, 1, none⟩ (.int .i64 q)) (w.heap.size + 1) (.int .i64 r) (.int .i64 q)) := D2.set _ _
      go_wp2
      refine bodyPost_ret (ret_sp1 rfl rfl HS.out.c0 HS.out.c1) rfl ⟨by rw [HO.out]; rfl, ?_, fun s hs => by rw [HO.out] at hs; cases hs; exact HF.out⟩
      refine Below.setCell (Below.setCell B2 ?_ _) ?_ _ <;> simp
end Go.Proofs.YtbecdaholpiaeaaDoor

namespace Go.Proofs.YtbecdaholpiaeaaDoor
open Go Go.RowKit

set_option maxRecDepth 10000 in
set_option maxHeartbeats 1000000 in
theorem spans_any (va vb vc vd ve : Value) (a b c d e : List Int) (from' upto most : Int) (w : World) (h1 : Reads w va a) (h2 : Reads w vb b) (h3 : Reads w vc c) (h4 : Reads w vd d) (h5 : Reads w ve e)
    (n1 : a.length ≤ 1048577) (n2 : b.length ≤ 1048577) (n3 : c.length ≤ 1048577) (n4 : d.length ≤ 1048577) (n5 : e.length ≤ 1048577) :
    Calls Tryd.prog 12 #[.agg #[va, vb, vc, vd, ve], .int .i64 from', .int .i64 upto, .int .i64 most] w fun x w' => ∃ v', x = .returned v' ∧ ownsR w' w.heap.size 34 v' (spansL (fun m => nfO a b c d e m 400) from' upto (if 20 < most then 20 else most)) ∧ Below w.heap.size w w' := by
  obtain ⟨ao, ac, rfl, -⟩ := id h1
  obtain ⟨bo, bc, rfl, -⟩ := id h2
  obtain ⟨co, cc, rfl, -⟩ := id h3
  obtain ⟨d0, dc, rfl, -⟩ := id h4
  obtain ⟨eo, ec, rfl, -⟩ := id h5
  have HS : Hid (∀ W v most, Below w.heap.size w W → most ≤ 1000 → ownsR W w.heap.size 34 v ([] : List Sp) → Calls Tryd.prog 33 #[.agg #[.slice ao a.length ac, .slice bo b.length bc, .slice co c.length cc, .slice d0 d.length dc, .slice eo e.length ec], .int .i64 from', .int .i64 upto, .int .i64 most, v] W fun x w' => ∃ v', x = .returned v' ∧ ownsR w' w.heap.size 34 v' (spansL (fun m => nfO a b c d e m 400) from' upto most) ∧ Below w.heap.size w w') := fun W v most hb hm ho => l11Spans_any _ _ _ _ _ v a b c d e from' upto most w W hb h1 h2 h3 h4 h5 n1 n2 n3 n4 n5 hm ho
  clear h1 h2 h3 h4 h5
  obtain ⟨f, HF⟩ : ∃ f, Hid ((fun m => nfO a b c d e m 400) = f) := ⟨_, rfl⟩
  rw [HF.out] at HS ⊢
  clear HF
  generalize a.length = la at *
  generalize b.length = lb at *
  generalize c.length = lc at *
  generalize d.length = ld at *
  generalize e.length = le at *
  by_cases hm : 20 < most
  · rw [if_pos hm]
    go_enter Tryd.func12, Tryd.ntmps12
    go_wp2_with fail
    refine (HS.out _ _ 20 (ba (ba (Below.refl _ _) _) _) (by decide) (by have := sp_made (w.alloc (.cells #[.slice ao la ac, .slice bo lb bc, .slice co lc cc, .slice d0 ld dc, .slice eo le ec] 26)) w.heap.size (by simp); simpa using this)).mono ?_
    rintro x w1 ⟨v', rfl, ho, hb⟩
    go_wp2
    go_ret
    exact ⟨_, rfl, ho, hb⟩
  · rw [if_neg hm]
    go_enter Tryd.func12, Tryd.ntmps12
    go_wp2_with fail
    refine (HS.out _ _ most (ba (ba (Below.refl _ _) _) _) (by omega) (by have := sp_made (w.alloc (.cells #[.slice ao la ac, .slice bo lb bc, .slice co lc cc, .slice d0 ld dc, .slice eo le ec] 26)) w.heap.size (by simp); simpa using this)).mono ?_
    rintro x w1 ⟨v', rfl, ho, hb⟩
    go_wp2
    go_ret
    exact ⟨_, rfl, ho, hb⟩

theorem ret_sp2 {fn : Func} {p u : Tmp} {w : World} {g : Nat} {a b : Int} {x : Value} {tmps : Array Value} (h : fn.results = #[.cell p 34, .tmp u]) (hp : tmps.getD p undef = .pointer (some ⟨g, 0, none⟩)) (hu : tmps.getD u undef = x) (h0 : w.cell? ⟨g, 0, none⟩ = some (.int .i64 a)) (h1 : w.cell? ⟨g, 1, none⟩ = some (.int .i64 b)) :
    (results fn tmps).run Tryd.prog w = .ok (.tuple #[.agg #[.int .i64 a, .int .i64 b], x]) w := by
  have hp' : tmps[p]?.getD undef = .pointer (some ⟨g, 0, none⟩) := by simpa using hp
  have hu' : tmps[u]?.getD undef = x := by simpa using hu
  simp [results, h, hp', hu', h0, h1, asAddr, go_sem]
/-- The latest of spans. -/
def lastO (l : List Sp) : Option Sp := if l.length = 0 then none else l[l.length - 1]?
set_option maxRecDepth 10000 in
set_option maxHeartbeats 1000000 in
theorem latest_any (va vb vc vd ve : Value) (a b c d e : List Int) (from' upto : Int) (w : World) (h1 : Reads w va a) (h2 : Reads w vb b) (h3 : Reads w vc c) (h4 : Reads w vd d) (h5 : Reads w ve e)
    (n1 : a.length ≤ 1048577) (n2 : b.length ≤ 1048577) (n3 : c.length ≤ 1048577) (n4 : d.length ≤ 1048577) (n5 : e.length ≤ 1048577) :
    Calls Tryd.prog 19 #[.agg #[va, vb, vc, vd, ve], .int .i64 from', .int .i64 upto] w fun x w' => x = .returned (.tuple #[.agg #[.int .i64 ((lastO (spansL (fun m => nfO a b c d e m 400) from' upto 200)).getD ⟨0, 0⟩).fr, .int .i64 ((lastO (spansL (fun m => nfO a b c d e m 400) from' upto 200)).getD ⟨0, 0⟩).up], .bool (lastO (spansL (fun m => nfO a b c d e m 400) from' upto 200)).isSome]) ∧ Below w.heap.size w w' := by
  obtain ⟨ao, ac, rfl, -⟩ := id h1
  obtain ⟨bo, bc, rfl, -⟩ := id h2
  obtain ⟨co, cc, rfl, -⟩ := id h3
  obtain ⟨d0, dc, rfl, -⟩ := id h4
  obtain ⟨eo, ec, rfl, -⟩ := id h5
  obtain ⟨L, HL⟩ : ∃ L, Hid (spansL (fun m => nfO a b c d e m 400) from' upto 200 = L) := ⟨_, rfl⟩
  have hL : L.length ≤ 200 := by
    rw [← HL.out]; unfold spansL
    split
    · exact spansG_len _ _ _ _
    · simp
  have HS : Hid (∀ W0 W v, Below w.heap.size w W0 → Below W0.heap.size W0 W → ownsR W W0.heap.size 34 v ([] : List Sp) → Calls Tryd.prog 33 #[.agg #[.slice ao a.length ac, .slice bo b.length bc, .slice co c.length cc, .slice d0 d.length dc, .slice eo e.length ec], .int .i64 from', .int .i64 upto, .int .i64 200, v] W fun x w' => ∃ v', x = .returned v' ∧ ownsR w' W0.heap.size 34 v' L ∧ Below W0.heap.size W0 w') := fun W0 W v hb0 hb ho => by
    rw [← HL.out]
    exact l11Spans_any _ _ _ _ _ v a b c d e from' upto 200 W0 W hb (h1.below hb0) (h2.below hb0) (h3.below hb0) (h4.below hb0) (h5.below hb0) n1 n2 n3 n4 n5 (by decide) ho
  rw [HL.out]
  clear h1 h2 h3 h4 h5 HL
  generalize a.length = la at *
  generalize b.length = lb at *
  generalize c.length = lc at *
  generalize d.length = ld at *
  generalize e.length = le at *
  obtain ⟨W0, HW0⟩ : ∃ W0, Hid ((w.alloc (.cells #[.slice ao la ac, .slice bo lb bc, .slice co lc cc, .slice d0 ld dc, .slice eo le ec] 26)).alloc (.cells #[.int .i64 0, .int .i64 0] 34) = W0) := ⟨_, rfl⟩
  have B0 : Below w.heap.size w W0 := by rw [← HW0.out]; exact ba (ba (Below.refl _ _) _) _
  have q0 : W0.cell? ⟨w.heap.size + 1, 0, none⟩ = some (.int .i64 0) := by rw [← HW0.out]; simp [go_sem]
  have q1 : W0.cell? ⟨w.heap.size + 1, 1, none⟩ = some (.int .i64 0) := by rw [← HW0.out]; simp [go_sem]
  have f0 : W0.frozen? ⟨w.heap.size + 1, 0, none⟩ = false := by rw [← HW0.out]; simp [go_sem]
  have f1 : W0.frozen? ⟨w.heap.size + 1, 1, none⟩ = false := by rw [← HW0.out]; simp [go_sem]
  have hs0 : W0.heap.size = w.heap.size + 2 := by rw [← HW0.out]; simp
  go_enter Tryd.func19, Tryd.ntmps19
  go_wp2_with fail
  rw [HW0.out]
  refine (HS.out W0 _ _ B0 (ba (Below.refl _ _) _) (by have := sp_made W0 W0.heap.size (Nat.le_refl _); rw [hs0] at this ⊢; exact this)).mono ?_
  rintro x w1 ⟨v', rfl, ho, hb⟩
  have r0 := (hb.cell (p := ⟨w.heap.size + 1, 0, none⟩) (by show w.heap.size + 1 < _; omega)).trans q0
  have r1 := (hb.cell (p := ⟨w.heap.size + 1, 1, none⟩) (by show w.heap.size + 1 < _; omega)).trans q1
  have g0 := (hb.frozen (p := ⟨w.heap.size + 1, 0, none⟩) (by show w.heap.size + 1 < _; omega)).trans f0
  have g1 := (hb.frozen (p := ⟨w.heap.size + 1, 1, none⟩) (by show w.heap.size + 1 < _; omega)).trans f1
  have B1 : Below w.heap.size w w1 := B0.trans (hb.mono (by omega))
  have hRD : Hid (Reads w1 v' L) := ho.reads
  obtain ⟨oo, oc, rfl⟩ := ho.slice
  clear ho hb q0 q1 f0 f1 HW0 HS B0
  obtain ⟨n, HN⟩ : ∃ n, Hid (L.length = n) := ⟨_, rfl⟩
  rw [HN.out] at hRD hL ⊢
  by_cases hn : n = 0
  · have HO : Hid (lastO L = none) := by show lastO L = none; unfold lastO; rw [HN.out, if_pos hn]
    subst hn
    go_wp2
    refine bodyPost_ret (ret_sp2 (a := 0) (b := 0) rfl rfl rfl (by simp [go_sem, r0]) (by simp [go_sem, r1])) rfl ⟨by rw [HO.out]; rfl, ?_⟩
    refine Below.setCell (Below.setCell B1 ?_ _) ?_ _ <;> simp
  · obtain ⟨x, hx⟩ : ∃ x, L[n - 1]? = some x := ⟨_, List.getElem?_eq_getElem (by rw [HN.out]; omega)⟩
    have HO : Hid (lastO L = some x) := by show lastO L = some x; unfold lastO; rw [HN.out, if_neg hn, hx]
    obtain ⟨k, rfl⟩ : ∃ k, n = k + 1 := ⟨n - 1, by omega⟩
    rw [Nat.add_sub_cancel] at hx
    obtain ⟨b, o, rfl, hb, c0, c1⟩ := sp_at hRD.out hx
    obtain ⟨fr, up⟩ := x
    simp only at c0 c1
    have hbeq : ((((k + 1 : Nat) : Int)) == 0) = false := beq_eq_false_iff_ne.2 (by omega)
    clear hx
    go_wp2
    refine bodyPost_ret (ret_sp2 (a := fr) (b := up) rfl rfl rfl (by simp [go_sem, r0]) (by simp [go_sem, r1])) rfl ⟨by rw [HO.out]; rfl, ?_⟩
    refine Below.setCell (Below.setCell B1 ?_ _) ?_ _ <;> simp
end Go.Proofs.YtbecdaholpiaeaaDoor

namespace Go.Proofs.YtbecdaholpiaeaaDoor
open Go Go.RowKit
set_option linter.unusedVariables false

def lenV : Value → Nat
  | .slice _ n _ => n
  | _ => 0
/-- A row that grew lies where it lay, or in new memory: not in an old block that it was not in. -/
theorem row_else {W : World} {o : Obj} {g : Nat} {v v' : Value} (hg : g < W.heap.size) (h : some g ≠ v.ownBlock) (hat : v'.ownBlock = v.ownBlock ∨ v'.ownBlock = some (W.alloc o).heap.size) : some g ≠ v'.ownBlock := by
  rcases hat with e | e
  · rw [e]; exact h
  · rw [e]; intro k; have := Option.some.inj k; simp at this; omega
set_option maxRecDepth 10000 in
set_option maxHeartbeats 4000000 in
theorem firstSpans_any (f : Int → Option Int) (va vb vc vd ve : Value) (fr upto most : Int) (w : World) (hm : most ≤ 1000)
    (HN : ∀ W m, Below w.heap.size w W → Calls Tryd.prog 54 #[.agg #[va, vb, vc, vd, ve], .int .i64 m, .int .i64 400] W fun x w' => x = .returned (.tuple #[.int .i64 ((f m).getD 0), .bool (f m).isSome]) ∧ Below W.heap.size W w' ∧ ∀ r, f m = some r → 0 ≤ r ∧ r ≤ 68374079 ∧ m ≤ r) :
    Calls Tryd.prog 32 #[.agg #[va, vb, vc, vd, ve], .int .i64 fr, .int .i64 upto, .int .i64 most] w fun x w' => ∃ v', x = .returned v' ∧ ownsR w' w.heap.size 34 v' (progG f upto most.toNat (spanO f fr)) ∧ Below w.heap.size w w' := by
  have HSF : Hid (∀ W m, Below w.heap.size w W → Calls Tryd.prog 46 #[.agg #[va, vb, vc, vd, ve], .int .i64 m] W (SfP f m W)) := fun W m hb => spanFrom_any f va vb vc vd ve m W fun W' m' hb' => HN W' m' (Below.on hb hb')
  clear HN
  have HA : Hid (C5 26 ((w.alloc (.cells #[va, vb, vc, vd, ve] 26)).alloc (.cells #[] 34)) w.heap.size va vb vc vd ve) := (C5.new 26 w va vb vc vd ve).up (ba (Below.refl _ _) _)
  have HO : Hid (ownsR ((w.alloc (.cells #[va, vb, vc, vd, ve] 26)).alloc (.cells #[] 34)) w.heap.size 34 (.slice (some ⟨w.heap.size + 1, 0, none⟩) 0 0) ([] : List Sp)) := by
    have := sp_made (w.alloc (.cells #[va, vb, vc, vd, ve] 26)) w.heap.size (by simp)
    show ownsR _ _ _ _ _
    simpa using this
  obtain ⟨s0, HS0⟩ : ∃ s0, Hid (spanO f fr = s0) := ⟨_, rfl⟩
  obtain ⟨L, HL⟩ : ∃ L, Hid (progG f upto most.toNat s0 = L) := ⟨_, rfl⟩
  rw [HS0.out, HL.out]
  go_enter Tryd.func32, Tryd.ntmps32
  go_wp2_with fail
  refine (HSF.out _ fr (ba (ba (Below.refl _ _) _) _)).mono ?_
  rintro x w1 ⟨hx, hb1, hr1⟩
  rw [HS0.out] at hx hr1
  subst hx
  have HZ1 : Hid (C5 26 w1 w.heap.size va vb vc vd ve) := HA.out.up hb1
  have HO1 : Hid (ownsR w1 w.heap.size 34 (.slice (some ⟨w.heap.size + 1, 0, none⟩) 0 0) ([] : List Sp)) := HO.out.all hb1
  have HB1 : Hid (Below w.heap.size w w1) := Below.on (ba (ba (Below.refl _ _) _) _) hb1
  have HF1 : Hid (∀ s, s0 = some s → 0 ≤ s.fr ∧ s.fr < s.up ∧ s.up ≤ 68374079) := hr1
  clear hb1 hr1 HA HO
  clear HS0
  obtain ⟨g, hg⟩ : ∃ g, w1.heap.size = g := ⟨_, rfl⟩
  have HC2 : Hid (C2 34 (w1.alloc (.cells #[.int .i64 (s0.getD ⟨0, 0⟩).fr, .int .i64 (s0.getD ⟨0, 0⟩).up] 34)) g (.int .i64 (s0.getD ⟨0, 0⟩).fr) (.int .i64 (s0.getD ⟨0, 0⟩).up)) := by rw [← hg]; exact C2.new _ _ _ _
  have HNE : Hid (some g ≠ (Value.slice (some ⟨w.heap.size + 1, 0, none⟩) 0 0).ownBlock) := by rw [← hg]; exact cell_apart_new HO1.out
  have HZ2 : Hid (C5 26 (w1.alloc (.cells #[.int .i64 (s0.getD ⟨0, 0⟩).fr, .int .i64 (s0.getD ⟨0, 0⟩).up] 34)) w.heap.size va vb vc vd ve) := HZ1.out.up (ba (Below.refl _ _) _)
  have HGW : Hid (w.heap.size < g) := by rw [← hg]; exact HZ1.out.lt
  go_wp2
  go_loopw [9] (fun ov wr => ∃ (l : List Sp) (n : Nat) (s : Option Sp), (l.length : Int) + n = most.toNat ∧ Hid (L = l ++ progG f upto n s) ∧ Hid (∀ x, s = some x → 0 ≤ x.fr ∧ x.fr < x.up ∧ x.up ≤ 68374079) ∧ ownsR wr w.heap.size 34 ov l ∧ Hid (some g ≠ ov.ownBlock) ∧ Hid (C5 26 wr w.heap.size va vb vc vd ve) ∧ Hid (C2 34 wr g (.int .i64 (s.getD ⟨0, 0⟩).fr) (.int .i64 (s.getD ⟨0, 0⟩).up)) ∧ Hid (Below w.heap.size w wr)) (fun ov _ => most.toNat - lenV ov)
  case atStart => exact ⟨[], most.toNat, s0, by simp, by rw [← HL.out]; rfl, HF1, HO1.out.alloc _, HNE, HZ2, HC2, ba HB1.out _⟩
  case round =>
    obtain ⟨l, n, s, hln, HE, HF, hown, HNG, HZ, HC, HB⟩ := hrel
    clear HZ1 HO1 HB1 HF1 HL HC2 HNE HZ2 hg
    obtain ⟨oo, oc, rfl⟩ := hown.slice
    have k0 := HC.out.c0
    have k1 := HC.out.c1
    cases s with
    | none =>
      have HE2 : Hid (L = l) := HE.out.trans (by rw [progG_none, List.append_nil])
      simp only [Option.getD_none] at k0 k1
      have he : ∀ wx, (binOp .neq 34 (.agg #[.int .i64 0, .int .i64 0]) (.agg #[.int .i64 0, .int .i64 0])).run Tryd.prog wx = .ok (.bool false) wx := fun wx => run_ne_sp 0 0 0 0 wx
      go_wp2
      go_ret
      exact ⟨_, rfl, by rw [HE2.out]; exact hown, HB.out⟩
    | some x =>
      obtain ⟨a, b⟩ := x
      have hx := HF.out _ rfl
      simp only at hx
      simp only [Option.getD_some] at k0 k1
      have he : ∀ wx, (binOp .neq 34 (.agg #[.int .i64 a, .int .i64 b]) (.agg #[.int .i64 0, .int .i64 0])).run Tryd.prog wx = .ok (.bool true) wx := fun wx => by
        rw [run_ne_sp, show (b == 0) = false from beq_eq_false_iff_ne.2 (by omega)]; simp
      by_cases hu : b ≤ upto
      · by_cases hlm : (l.length : Int) < most
        · obtain ⟨n, rfl⟩ : ∃ k, n = k + 1 := ⟨n - 1, by omega⟩
          have HE2 : Hid (L = l ++ [⟨a, b⟩] ++ progG f upto n (spanO f b)) := HE.out.trans (by rw [progG_next (by exact hu)]; simp)
          have hl9 : l.length ≤ 1048576 := by omega
          have hsz : w.heap.size ≤ wr.heap.size := HB.out.size
          have HD : Hid (C2 34 (wr.alloc (.cells #[.int .i64 a, .int .i64 b] 34)) g (.int .i64 a) (.int .i64 b)) := HC.out.up (ba (Below.refl _ _) _)
          clear HE HF
          go_wp2_with (at_builtin; refine append_recA _ w rfl (.tmp 30) (.tmp 32) 30 rfl w.heap.size 34 _ 16 Tryd.underlying30 infoSp rfl _ l rfl (hown.alloc _) (HB.out.alloc hsz _) wr.heap.size 1 (Sp.mk a b) rfl (cell_sp (by simp [go_sem]) (by simp [go_sem])) hl9 (by decide) (by simp; omega) ?_; intro v' w4 hown4 hbel4 hg4 hat; have HZ4 : Hid (C5 26 w4 w.heap.size va vb vc vd ve) := C5.appended HZ.out hown (by decide) hg4; have HD4 : Hid (C2 34 w4 g (.int .i64 a) (.int .i64 b)) := HD.out.grown hg4 HNG.out; have HN4 : Hid (some g ≠ v'.ownBlock) := row_else HC.out.lt HNG.out hat; have c0 := HZ4.out.c0; have c1 := HZ4.out.c1; have c2 := HZ4.out.c2; have c3 := HZ4.out.c3; have c4 := HZ4.out.c4; have d1 := HD4.out.c1; clear hg4 hat k0 k1 he hown)
          clear c0 c1 c2 c3 c4 d1 hu
          refine (HSF.out _ b hbel4).mono ?_
          rintro x w5 ⟨hx5, hb5, hr5⟩
          have HZ5 : Hid (C5 26 w5 w.heap.size va vb vc vd ve) := HZ4.out.up hb5
          have HD5 : Hid (C2 34 w5 g (.int .i64 a) (.int .i64 b)) := HD4.out.up hb5
          have HO5 : Hid (ownsR w5 w.heap.size 34 v' (l ++ [⟨a, b⟩])) := hown4.all hb5
          have HB5 : Hid (Below w.heap.size w w5) := Below.on hbel4 hb5
          have HF5 : Hid (∀ s, spanO f b = some s → 0 ≤ s.fr ∧ s.fr < s.up ∧ s.up ≤ 68374079) := hr5
          clear hb5 hr5 hown4 hbel4 HZ4 HD4 HZ HB HC HNG HD
          obtain ⟨s5, HS5⟩ : ∃ s5, Hid (spanO f b = s5) := ⟨_, rfl⟩
          rw [HS5.out] at hx5 HF5 HE2
          subst hx5
          obtain ⟨x5, HX5⟩ : ∃ x, Hid ((s5.getD ⟨0, 0⟩).fr = x) := ⟨_, rfl⟩
          obtain ⟨y5, HY5⟩ : ∃ x, Hid ((s5.getD ⟨0, 0⟩).up = x) := ⟨_, rfl⟩
          rw [HX5.out, HY5.out]
          have e0 := HD5.out.c0
          have e1 := HD5.out.c1
          have f0 := HD5.out.fr 0
          have f1 := HD5.out.fr 1
          have HD6 : Hid (C2 34 ((w5.setCell ⟨g, 0, none⟩ (.int .i64 x5)).setCell ⟨g, 1, none⟩ (.int .i64 y5)) g (.int .i64 x5) (.int .i64 y5)) := HD5.out.set _ _
          have HZ6 : Hid (C5 26 ((w5.setCell ⟨g, 0, none⟩ (.int .i64 x5)).setCell ⟨g, 1, none⟩ (.int .i64 y5)) w.heap.size va vb vc vd ve) := HZ5.out.set2 (by have := HGW.out; omega) _ _
          have HO6 : Hid (ownsR ((w5.setCell ⟨g, 0, none⟩ (.int .i64 x5)).setCell ⟨g, 1, none⟩ (.int .i64 y5)) w.heap.size 34 v' (l ++ [⟨a, b⟩])) := HO5.out.set2 HN4.out _ _
          have HB6 : Hid (Below w.heap.size w ((w5.setCell ⟨g, 0, none⟩ (.int .i64 x5)).setCell ⟨g, 1, none⟩ (.int .i64 y5))) := Below.setCell (Below.setCell HB5.out (by have := HGW.out; show w.heap.size ≤ g; omega) _) (by have := HGW.out; show w.heap.size ≤ g; omega) _
          obtain ⟨z, q, r, rfl⟩ := HO5.out.slice3
          have hzl : q = l.length + 1 := by have := HO5.out.reads.len; simpa using this
          subst hzl
          clear HZ5 HD5 HO5 HB5
          go_wp2
          go_roundw
          case rel => exact ⟨l ++ [⟨a, b⟩], n, s5, by simp; omega, HE2, HF5, HO6.out, HN4, HZ6, by rw [HX5.out, HY5.out]; exact HD6, HB6⟩
          case measure => simp [lenV]; omega
        · obtain rfl : n = 0 := by omega
          have HE2 : Hid (L = l) := HE.out.trans (List.append_nil _)
          go_wp2
          go_ret
          exact ⟨_, rfl, by rw [HE2.out]; exact hown, HB.out⟩
      · have HE2 : Hid (L = l) := HE.out.trans (by rw [progG_far (by exact hu), List.append_nil])
        go_wp2
        go_ret
        exact ⟨_, rfl, by rw [HE2.out]; exact hown, HB.out⟩
end Go.Proofs.YtbecdaholpiaeaaDoor

namespace Go.Proofs.YtbecdaholpiaeaaDoor
open Go Go.RowKit
set_option linter.unusedVariables false

theorem least_ex (f : Int → Bool) (a : Int) : ∀ n : Nat, ∃ o, Least f a (a + n) o
  | 0 => ⟨none, fun m h0 h1 => absurd h1 (by omega)⟩
  | n + 1 => by
    obtain ⟨o, ho⟩ := least_ex f a n
    cases o with
    | some r => exact ⟨some r, ho.1, by have := ho.2.1; omega, ho.2.2⟩
    | none =>
      cases hf : f (a + n) with
      | true => exact ⟨some (a + n), by omega, by omega, hf, fun m h0 h1 => ho m h0 h1⟩
      | false => exact ⟨none, fun m h0 h1 => by
          by_cases hm : m < a + n
          · exact ho m h0 hm
          · rw [show m = a + n by omega]; exact hf⟩
theorem nf_ex (a b c d e : List Int) (m days : Int) : ∃ o, NfP a b c d e m days o := by
  unfold NfP
  by_cases hc : cronB a b c d e = true ∧ (0 ≤ m ∧ m ≤ 68374079) ∧ 0 ≤ days
  · simp only [if_pos hc]
    by_cases hm : m ≤ endN m days
    · obtain ⟨o, ho⟩ := least_ex (firesB a b c d e) m (endN m days - m).toNat
      rw [show m + ((endN m days - m).toNat : Int) = endN m days by omega] at ho
      exact ⟨o, ho⟩
    · exact ⟨none, fun x h0 h1 => absurd h1 (by omega)⟩
  · simp only [if_neg hc]
    exact ⟨none, rfl⟩
theorem nfO_again (a b c d e : List Int) : Again (fun m => nfO a b c d e m 400) := nf_again a b c d e fun m => nf_ex a b c d e m 400
/-- How many are asked for at most. -/
def capS (most : Int) : Int := if 20 < most then 20 else most
set_option maxRecDepth 10000 in
set_option maxHeartbeats 1000000 in
theorem implSpans_any (va vb vc vd ve : Value) (a b c d e : List Int) (fr upto most : Int) (w : World) (h1 : Reads w va a) (h2 : Reads w vb b) (h3 : Reads w vc c) (h4 : Reads w vd d) (h5 : Reads w ve e)
    (n1 : a.length ≤ 1048577) (n2 : b.length ≤ 1048577) (n3 : c.length ≤ 1048577) (n4 : d.length ≤ 1048577) (n5 : e.length ≤ 1048577) (hg : RchIs w) :
    Calls Tryd.prog 10 #[.agg #[va, vb, vc, vd, ve], .int .i64 fr, .int .i64 upto, .int .i64 most] w fun x w' => ∃ v', x = .returned v' ∧ ownsR w' w.heap.size 34 v' (spansL (fun m => nfO a b c d e m 400) fr upto (if 20 < most then 20 else most)) ∧ Below w.heap.size w w' := by
  have HS : Hid (∀ W M, Below w.heap.size w W → M ≤ 1000 → Calls Tryd.prog 32 #[.agg #[va, vb, vc, vd, ve], .int .i64 fr, .int .i64 upto, .int .i64 M] W fun x w' => ∃ v', x = .returned v' ∧ ownsR w' W.heap.size 34 v' (spansL (fun m => nfO a b c d e m 400) fr upto M) ∧ Below W.heap.size W w') := fun W M hb hM => by
    rw [← prog_all (nfO_again a b c d e)]
    exact firstSpans_any _ va vb vc vd ve fr upto M W hM fun W' m hb' => nextF va vb vc vd ve a b c d e W' (h1.below (Below.on hb hb')) (h2.below (Below.on hb hb')) (h3.below (Below.on hb hb')) (h4.below (Below.on hb hb')) (h5.below (Below.on hb hb')) n1 n2 n3 n4 n5 (hg.up (Below.on hb hb')) m
  clear h1 h2 h3 h4 h5
  obtain ⟨f, HF⟩ : ∃ f, Hid ((fun m => nfO a b c d e m 400) = f) := ⟨_, rfl⟩
  rw [HF.out] at HS ⊢
  clear HF
  by_cases hm : 20 < most
  · rw [if_pos hm]
    go_enter Tryd.func10, Tryd.ntmps10
    go_wp2_with fail
    refine (HS.out _ 20 (ba (Below.refl _ _) _) (by decide)).mono ?_
    rintro x w1 ⟨v', rfl, ho, hb⟩
    go_wp2
    go_ret
    exact ⟨_, rfl, ho.mono (by simp), below_new hb⟩
  · rw [if_neg hm]
    go_enter Tryd.func10, Tryd.ntmps10
    go_wp2_with fail
    refine (HS.out _ most (ba (Below.refl _ _) _) (by omega)).mono ?_
    rintro x w1 ⟨v', rfl, ho, hb⟩
    go_wp2
    go_ret
    exact ⟨_, rfl, ho.mono (by simp), below_new hb⟩
set_option maxRecDepth 10000 in
set_option maxHeartbeats 1000000 in
theorem implLatest_any (va vb vc vd ve : Value) (a b c d e : List Int) (fr upto : Int) (w : World) (h1 : Reads w va a) (h2 : Reads w vb b) (h3 : Reads w vc c) (h4 : Reads w vd d) (h5 : Reads w ve e)
    (n1 : a.length ≤ 1048577) (n2 : b.length ≤ 1048577) (n3 : c.length ≤ 1048577) (n4 : d.length ≤ 1048577) (n5 : e.length ≤ 1048577) (hg : RchIs w) :
    Calls Tryd.prog 18 #[.agg #[va, vb, vc, vd, ve], .int .i64 fr, .int .i64 upto] w fun x w' => x = .returned (.tuple #[.agg #[.int .i64 ((lastO (spansL (fun m => nfO a b c d e m 400) fr upto 200)).getD ⟨0, 0⟩).fr, .int .i64 ((lastO (spansL (fun m => nfO a b c d e m 400) fr upto 200)).getD ⟨0, 0⟩).up], .bool (lastO (spansL (fun m => nfO a b c d e m 400) fr upto 200)).isSome]) ∧ Below w.heap.size w w' := by
  obtain ⟨L, HL⟩ : ∃ L, Hid (spansL (fun m => nfO a b c d e m 400) fr upto 200 = L) := ⟨_, rfl⟩
  have hL : L.length ≤ 200 := by
    rw [← HL.out]; unfold spansL
    split
    · exact spansG_len _ _ _ _
    · simp
  have HS : Hid (∀ W, Below w.heap.size w W → Calls Tryd.prog 32 #[.agg #[va, vb, vc, vd, ve], .int .i64 fr, .int .i64 upto, .int .i64 200] W fun x w' => ∃ v', x = .returned v' ∧ ownsR w' W.heap.size 34 v' L ∧ Below W.heap.size W w') := fun W hb => by
    rw [← HL.out, ← prog_all (nfO_again a b c d e)]
    exact firstSpans_any _ va vb vc vd ve fr upto 200 W (by decide) fun W' m hb' => nextF va vb vc vd ve a b c d e W' (h1.below (Below.on hb hb')) (h2.below (Below.on hb hb')) (h3.below (Below.on hb hb')) (h4.below (Below.on hb hb')) (h5.below (Below.on hb hb')) n1 n2 n3 n4 n5 (hg.up (Below.on hb hb')) m
  rw [HL.out]
  clear h1 h2 h3 h4 h5 HL
  obtain ⟨W0, HW0⟩ : ∃ W0, Hid ((w.alloc (.cells #[va, vb, vc, vd, ve] 26)).alloc (.cells #[.int .i64 0, .int .i64 0] 34) = W0) := ⟨_, rfl⟩
  have B0 : Below w.heap.size w W0 := by rw [← HW0.out]; exact ba (ba (Below.refl _ _) _) _
  have HC0 : Hid (C2 34 W0 (w.heap.size + 1) (.int .i64 0) (.int .i64 0)) := by
    have := C2.new 34 (w.alloc (.cells #[va, vb, vc, vd, ve] 26)) (.int .i64 0) (.int .i64 0)
    show C2 _ _ _ _ _
    rw [← HW0.out]
    simpa using this
  go_enter Tryd.func18, Tryd.ntmps18
  go_wp2_with fail
  rw [HW0.out]
  refine (HS.out W0 B0).mono ?_
  rintro x w1 ⟨v', rfl, ho, hb⟩
  have HC1 : Hid (C2 34 w1 (w.heap.size + 1) (.int .i64 0) (.int .i64 0)) := HC0.out.up hb
  have r0 := HC1.out.c0
  have r1 := HC1.out.c1
  have g0 := HC1.out.fr 0
  have g1 := HC1.out.fr 1
  have B1 : Below w.heap.size w w1 := Below.on B0 hb
  have hRD : Hid (Reads w1 v' L) := ho.reads
  obtain ⟨oo, oc, rfl⟩ := ho.slice
  clear ho hb HW0 HS B0 HC0
  obtain ⟨n, HN⟩ : ∃ n, Hid (L.length = n) := ⟨_, rfl⟩
  rw [HN.out] at hRD hL ⊢
  by_cases hn : n = 0
  · have HO : Hid (lastO L = none) := by show lastO L = none; unfold lastO; rw [HN.out, if_pos hn]
    subst hn
    go_wp2
    refine bodyPost_ret (ret_sp2 (a := 0) (b := 0) rfl rfl rfl (by simp [go_sem, r0]) (by simp [go_sem, r1])) rfl ⟨by rw [HO.out]; rfl, ?_⟩
    refine Below.setCell (Below.setCell B1 ?_ _) ?_ _ <;> simp
  · obtain ⟨x, hx⟩ : ∃ x, L[n - 1]? = some x := ⟨_, List.getElem?_eq_getElem (by rw [HN.out]; omega)⟩
    have HO : Hid (lastO L = some x) := by show lastO L = some x; unfold lastO; rw [HN.out, if_neg hn, hx]
    obtain ⟨k, rfl⟩ : ∃ k, n = k + 1 := ⟨n - 1, by omega⟩
    rw [Nat.add_sub_cancel] at hx
    obtain ⟨b, o, rfl, hb, c0, c1⟩ := sp_at hRD.out hx
    obtain ⟨fr, up⟩ := x
    simp only at c0 c1
    have hbeq : ((((k + 1 : Nat) : Int)) == 0) = false := beq_eq_false_iff_ne.2 (by omega)
    clear hx
    go_wp2
    refine bodyPost_ret (ret_sp2 (a := fr) (b := up) rfl rfl rfl (by simp [go_sem, r0]) (by simp [go_sem, r1])) rfl ⟨by rw [HO.out]; rfl, ?_⟩
    refine Below.setCell (Below.setCell B1 ?_ _) ?_ _ <;> simp
end Go.Proofs.YtbecdaholpiaeaaDoor
