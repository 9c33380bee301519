/-
  Blocks of five cells. Arguments that are rows of records, opened. Over any program. Numbers that came in as an argument, opened. Rules: the law's helpers on them (sizes, copies, held against each other): the walks. The table of reaches, as the row lists it; a rule that came in as an argument, opened.
-/
import Derived.Test.YtbecdaholpiaeaaDoorProg
import Derived.Test.YtbecdaholpiaeaaDoorGn
import Derived.Test.YtbecdaholpiaeaaDoorRec
import Derived.Deep.Slices
import Derived.Deep.Strs
import Derived.ProofKit
import Derived.OpenShut
import Derived.Test.YtbecdaholpiaeaaDoorRi
import Derived.Test.YtbecdaholpiaeaaDoorRows
import Derived.Test.YtbecdaholpiaeaaDoorRo
import Derived.Lib.LaidU8
namespace Go.Proofs.YtbecdaholpiaeaaDoor
open Go Go.RowKit

/-- A block of five cells. -/
def B5 (t : TypeId) (W : World) (b : Nat) (x0 x1 x2 x3 x4 : Value) : Prop := W.heap[b]? = some (.cells #[x0, x1, x2, x3, x4] t)
section
variable {t : TypeId} {W W' : World} {b : Nat} {x0 x1 x2 x3 x4 : Value}
theorem B5.lt (h : B5 t W b x0 x1 x2 x3 x4) : b < W.heap.size := (Array.getElem?_eq_some_iff.1 h).1
theorem B5.up (h : B5 t W b x0 x1 x2 x3 x4) (hb : Below W.heap.size W W') : B5 t W' b x0 x1 x2 x3 x4 := (hb.block _ h.lt).trans h
theorem B5.grown {r : Option Nat} (h : B5 t W b x0 x1 x2 x3 x4) (hg : W.grownBy W' r) (hr : some b ≠ r) : B5 t W' b x0 x1 x2 x3 x4 := (hg.block b h.lt hr).trans h
theorem B5.c0 (h : B5 t W b x0 x1 x2 x3 x4) : W.cell? ⟨b, 0, none⟩ = some x0 := by simp [World.cell?, show W.heap[b]? = _ from h]
theorem B5.c1 (h : B5 t W b x0 x1 x2 x3 x4) : W.cell? ⟨b, 1, none⟩ = some x1 := by simp [World.cell?, show W.heap[b]? = _ from h]
theorem B5.c2 (h : B5 t W b x0 x1 x2 x3 x4) : W.cell? ⟨b, 2, none⟩ = some x2 := by simp [World.cell?, show W.heap[b]? = _ from h]
theorem B5.c3 (h : B5 t W b x0 x1 x2 x3 x4) : W.cell? ⟨b, 3, none⟩ = some x3 := by simp [World.cell?, show W.heap[b]? = _ from h]
theorem B5.c4 (h : B5 t W b x0 x1 x2 x3 x4) : W.cell? ⟨b, 4, none⟩ = some x4 := by simp [World.cell?, show W.heap[b]? = _ from h]
theorem B5.fr (h : B5 t W b x0 x1 x2 x3 x4) (o : Nat) : W.frozen? ⟨b, o, none⟩ = false := by simp [World.frozen?, show W.heap[b]? = _ from h]
theorem B5.s0 (h : B5 t W b x0 x1 x2 x3 x4) (u : Value) : B5 t (W.setCell ⟨b, 0, none⟩ u) b u x1 x2 x3 x4 := by simp [B5, World.setCell, Array.getElem?_modify, show W.heap[b]? = _ from h]
theorem B5.s1 (h : B5 t W b x0 x1 x2 x3 x4) (u : Value) : B5 t (W.setCell ⟨b, 1, none⟩ u) b x0 u x2 x3 x4 := by simp [B5, World.setCell, Array.getElem?_modify, show W.heap[b]? = _ from h]
theorem B5.s2 (h : B5 t W b x0 x1 x2 x3 x4) (u : Value) : B5 t (W.setCell ⟨b, 2, none⟩ u) b x0 x1 u x3 x4 := by simp [B5, World.setCell, Array.getElem?_modify, show W.heap[b]? = _ from h]
theorem B5.s3 (h : B5 t W b x0 x1 x2 x3 x4) (u : Value) : B5 t (W.setCell ⟨b, 3, none⟩ u) b x0 x1 x2 u x4 := by simp [B5, World.setCell, Array.getElem?_modify, show W.heap[b]? = _ from h]
theorem B5.s4 (h : B5 t W b x0 x1 x2 x3 x4) (u : Value) : B5 t (W.setCell ⟨b, 4, none⟩ u) b x0 x1 x2 x3 u := by simp [B5, World.setCell, Array.getElem?_modify, show W.heap[b]? = _ from h]
theorem B5.far {p : Addr} (h : B5 t W b x0 x1 x2 x3 x4) (hp : p.block ≠ b) (u : Value) : B5 t (W.setCell p u) b x0 x1 x2 x3 x4 := (heap_setCell_other W p b u (fun e => hp e.symm)).trans h
theorem B5.new (t : TypeId) (W : World) (x0 x1 x2 x3 x4 : Value) : B5 t (W.alloc (.cells #[x0, x1, x2, x3, x4] t)) W.heap.size x0 x1 x2 x3 x4 := by
  show (W.heap.push _)[W.heap.size]? = _; simp
theorem cell_far {p q : Addr} {x : Value} (h : W.cell? q = some x) (hne : p.block ≠ q.block) (u : Value) : (W.setCell p u).cell? q = some x := by
  have e := heap_setCell_other W p q.block u (fun e => hne e.symm)
  unfold World.cell? at h ⊢
  rw [e]
  exact h
theorem B5.alloc (h : B5 t W b x0 x1 x2 x3 x4) (o : Obj) : B5 t (W.alloc o) b x0 x1 x2 x3 x4 := h.up (ba (Below.refl _ _) _)
/-- The five stores of a record. -/
abbrev set5 (W : World) (b : Nat) (u0 u1 u2 u3 u4 : Value) : World := ((((W.setCell ⟨b, 0, none⟩ u0).setCell ⟨b, 1, none⟩ u1).setCell ⟨b, 2, none⟩ u2).setCell ⟨b, 3, none⟩ u3).setCell ⟨b, 4, none⟩ u4
theorem B5.set (h : B5 t W b x0 x1 x2 x3 x4) (u0 u1 u2 u3 u4 : Value) : B5 t (set5 W b u0 u1 u2 u3 u4) b u0 u1 u2 u3 u4 := ((((h.s0 u0).s1 u1).s2 u2).s3 u3).s4 u4
theorem below_set5 {B : Nat} {V : World} (h : Below B V W) (hb : B ≤ b) (u0 u1 u2 u3 u4 : Value) : Below B V (set5 W b u0 u1 u2 u3 u4) :=
  Below.setCell (Below.setCell (Below.setCell (Below.setCell (Below.setCell h hb _) hb _) hb _) hb _) hb _
theorem ownsR.setB {α : Type} [Rec α] {B : Nat} {e : TypeId} {v : Value} {l : List α} {a : Addr} (h : ownsR W B e v l) (ha : a.block < B) (u : Value) : ownsR (W.setCell a u) B e v l := ownsRow_setCell_below h ha u
theorem ownsR_set5 {α : Type} [Rec α] {B : Nat} {e : TypeId} {v : Value} {l : List α} (h : ownsR W B e v l) (hb : b < B) (u0 u1 u2 u3 u4 : Value) : ownsR (set5 W b u0 u1 u2 u3 u4) B e v l :=
  ((((h.setB hb _).setB hb _).setB hb _).setB hb _).setB hb _
theorem ret_c2 {fn : Func} {p u : Tmp} {x : Value} {tmps : Array Value} (h : fn.results = #[.cell p 26, .tmp u]) (hp : tmps.getD p undef = .pointer (some ⟨b, 0, none⟩)) (hu : tmps.getD u undef = x) (hb : B5 26 W b x0 x1 x2 x3 x4) :
    (results fn tmps).run Tryd.prog W = .ok (.tuple #[.agg #[x0, x1, x2, x3, x4], x]) W := by
  have hp' : tmps[p]?.getD undef = .pointer (some ⟨b, 0, none⟩) := by simpa using hp
  have hu' : tmps[u]?.getD undef = x := by simpa using hu
  simp [results, h, hp', hu', hb.c0, hb.c1, hb.c2, hb.c3, hb.c4, asAddr, go_sem]
end

theorem ret_c1 {W : World} {b : Nat} {x0 x1 x2 x3 x4 : Value} {fn : Func} {p : Tmp} {tmps : Array Value} (h : fn.results = #[.cell p 26]) (hp : tmps.getD p undef = .pointer (some ⟨b, 0, none⟩)) (hb : B5 26 W b x0 x1 x2 x3 x4) :
    (results fn tmps).run Tryd.prog W = .ok (.agg #[x0, x1, x2, x3, x4]) W := by
  have hp' : tmps[p]?.getD undef = .pointer (some ⟨b, 0, none⟩) := by simpa using hp
  simp [results, h, hp', hb.c0, hb.c1, hb.c2, hb.c3, hb.c4, asAddr, go_sem]
end Go.Proofs.YtbecdaholpiaeaaDoor

namespace Go.Proofs.YtbecdaholpiaeaaDoor
open Go Go.RowKit Go.ChangeShapes Go.WideShapes

theorem len1 {α : Type} {l : List α} (h : l.length = 1) : ∃ a, l = [a] := by
  match l, h with
  | [a], _ => exact ⟨a, rfl⟩
theorem len3 {α : Type} {l : List α} (h : l.length = 3) : ∃ a b c, l = [a, b, c] := by
  match l, h with
  | [a, b, c], _ => exact ⟨a, b, c, rfl⟩
theorem len4 {α : Type} {l : List α} (h : l.length = 4) : ∃ a b c d, l = [a, b, c, d] := by
  match l, h with
  | [a, b, c, d], _ => exact ⟨a, b, c, d, rfl⟩
theorem arr1 {α : Type} {l : Array α} (h : l.toList.length = 1) : ∃ a, l = #[a] := by
  obtain ⟨l⟩ := l
  obtain ⟨a, rfl⟩ := len1 h
  exact ⟨a, rfl⟩
theorem arr4 {α : Type} {l : Array α} (h : l.toList.length = 4) : ∃ a b c d, l = #[a, b, c, d] := by
  obtain ⟨l⟩ := l
  obtain ⟨a, b, c, d, rfl⟩ := len4 h
  exact ⟨a, b, c, d, rfl⟩

section
variable {α : Type} [Rec α] [Inhabited α] {H : Type} {enc : TypeId × Value → H} {P : Program} {w : World} {held : Bool}

/-- A slice of records that came in: the records that it reads as. -/
theorem open_rows {t e : TypeId} {fuel : Nat} {a : Option Addr} {len cap : Nat} {x : DataW H × List MemPlace} (G : α → Prop) (ht : P.underlying t = some (.slice e)) (hc : P.cellsOf e = Rec.width α)
    (each : ∀ n cs y, DataW.trod enc P w 0 (fun _ => true) held n e cs = some y → ∃ r : α, cs = Rec.cells r ∧ G r)
    (h : DataW.trod enc P w 0 (fun _ => true) held fuel t [.slice a len cap] = some x) : ∃ l : List α, Reads w (.slice a len cap) l ∧ (∀ r ∈ l, G r) ∧ len ≤ maxLen := by
  rcases Deep.open_slice ht h with ⟨hcs, _⟩ | ⟨b, len', cap', m, n, D, Pl, hcs, _, hl, hm, hmm, _, hx⟩
  · simp only [List.cons.injEq, Value.slice.injEq, and_true] at hcs
    obtain ⟨rfl, rfl, rfl⟩ := hcs
    exact ⟨[], reads_none w none 0, fun r hr => by simp at hr, Nat.zero_le _⟩
  · simp only [List.cons.injEq, Value.slice.injEq, and_true] at hcs
    obtain ⟨rfl, rfl, rfl⟩ := hcs
    simp only [if_true] at hmm
    subst hmm
    have hex : ∀ i, i < len → ∃ r : α, G r ∧ ∀ j u, (Rec.cells r)[j]? = some u → w.cell? (b.add (i * Rec.width α + j)) = some u := by
      intro i hi
      obtain ⟨cs', h1, h2⟩ := hx i (by omega)
      obtain ⟨r, rfl, hG⟩ := each _ _ _ h2
      rw [hc] at h1
      obtain ⟨_, hlen, hcell⟩ := World.cells?_some h1
      refine ⟨r, hG, fun j u hu => ?_⟩
      have hj := (List.getElem?_eq_some_iff.1 hu).1
      have := hcell j (by rw [← Rec.len r]; exact hj)
      rw [Deep.add_add] at this
      rw [this, hu]
    obtain ⟨f, hf⟩ := Deep.choose_lt hex
    refine ⟨(List.range len).map f, ⟨some b, _, by simp; rfl, fun hne => ?_⟩, ?_, by omega⟩
    · have hpos : 0 < len := by
        rcases Nat.eq_zero_or_pos len with h0 | h0
        · subst h0; simp at hne
        · exact h0
      have hw : 0 < Rec.width α := Rec.pos
      obtain ⟨u, hu⟩ : ∃ u, (Rec.cells (f 0))[0]? = some u := ⟨_, List.getElem?_eq_getElem (by rw [Rec.len]; exact hw)⟩
      have h0 := (hf 0 hpos).2 0 u hu
      obtain ⟨bb, oo, sp⟩ := b
      have hsp : sp = none := by
        simp only [Nat.zero_mul, Nat.add_zero, Addr.add, if_true, World.cell?] at h0
        cases sp with
        | none => rfl
        | some s => split at h0 <;> simp at h0
      subst hsp
      have hlt : bb < w.heap.size := by
        have := World.block_lt_of_cell? w _ h0
        simpa [Addr.add] using this
      refine ⟨bb, oo, rfl, hlt, fun i r hr j u hu => ?_⟩
      rw [List.getElem?_map] at hr
      by_cases hi : i < len
      · rw [List.getElem?_range hi] at hr
        simp only [Option.map_some, Option.some.injEq] at hr
        subst hr
        have := (hf i hi).2 j u hu
        have hadd : (⟨bb, oo, none⟩ : Addr).add (i * Rec.width α + j) = ⟨bb, oo + (i * Rec.width α + j), none⟩ := by unfold Addr.add; split <;> simp_all
        rw [hadd, ← Nat.add_assoc] at this
        exact this
      · rw [List.getElem?_eq_none (by simp; omega)] at hr
        simp at hr
    · intro r hr
      obtain ⟨i, hi, rfl⟩ := List.mem_map.1 hr
      exact (hf i (List.mem_range.1 hi)).1
end
end Go.Proofs.YtbecdaholpiaeaaDoor

namespace Go.Proofs.YtbecdaholpiaeaaDoor
open Go Go.RowKit Go.ChangeShapes Go.WideShapes

theorem cells3' : Tryd.prog.cellsOf 3 = 1 := by kernel_rfl
theorem open_intS {H : Type} {enc : TypeId × Value → H} {W : World} {v : Value} {d : DataW H} {p : List MemPlace} (hv : ∃ a len cap, v = .slice a len cap) (h : DataW.Trod enc Tryd.prog W 0 (fun _ => true) true 24 v d p) :
    ∃ a len cap, ∃ l : List Int, v = .slice a len cap ∧ Reads W (.slice a len cap) l ∧ True ∧ len ≤ 9223372036854775807 := by
  obtain ⟨a, len, cap, rfl⟩ := hv
  obtain ⟨fuel, hf⟩ := h
  obtain ⟨l, hr, _, hm⟩ := open_rows (fun _ : Int => True) Tryd.underlying24 cells3' (fun n cs y h => by
    obtain ⟨k, rfl, _, _⟩ := DataW.trod_int Tryd.underlying3 h
    exact ⟨k, rfl, trivial⟩) hf
  exact ⟨a, len, cap, l, rfl, hr, trivial, hm⟩
end Go.Proofs.YtbecdaholpiaeaaDoor

namespace Go.Proofs.YtbecdaholpiaeaaDoor
open Go Go.RowKit
set_option linter.unusedVariables false

set_option maxHeartbeats 1000000 in
theorem szIntS_any (ao : Option Addr) (n c : Nat) (left : Int) (w : World) (hl : left ≤ 1048576) (h0 : 0 ≤ left) (hn : n ≤ 9223372036854775807) :
    Calls Tryd.prog 41 #[.slice ao n c, .int .i64 left] w fun e w' => ∃ r : Int, e = .returned (.int .i64 r) ∧ (r = -1 ∨ 0 ≤ r ∧ r = left - n) ∧ w' = w := by
  go_enter Tryd.func41, Tryd.ntmps41
  go_wp2
  · go_ret
    exact ⟨-1, rfl, .inl rfl, rfl⟩
  · go_ret
    exact ⟨left - n, by go_num, .inr ⟨by omega, rfl⟩, rfl⟩
/-- What szCron answers. -/
def SzP (l0 l1 l2 l3 l4 : Nat) (r : Int) : Prop := r = -1 ∨ (0 ≤ r ∧ l0 ≤ 1048576 ∧ l1 ≤ 1048576 ∧ l2 ≤ 1048576 ∧ l3 ≤ 1048576 ∧ l4 ≤ 1048576)
set_option maxRecDepth 10000 in
set_option maxHeartbeats 2000000 in
theorem szCron_try (ao bo co d0 eo : Option Addr) (l0 l1 l2 l3 l4 ac bc cc dc ec : Nat) (w : World) (h0 : l0 ≤ 9223372036854775807) (h1 : l1 ≤ 9223372036854775807) (h2 : l2 ≤ 9223372036854775807) (h3 : l3 ≤ 9223372036854775807) (h4 : l4 ≤ 9223372036854775807) :
    Calls Tryd.prog 20 #[.agg #[.slice ao l0 ac, .slice bo l1 bc, .slice co l2 cc, .slice d0 l3 dc, .slice eo l4 ec], .int .i64 1048576] w fun e w' => ∃ r : Int, e = .returned (.int .i64 r) ∧ SzP l0 l1 l2 l3 l4 r ∧ Below w.heap.size w w' := by
  go_enter Tryd.func20, Tryd.ntmps20
  go_wp2_with fail
  refine (szIntS_any ao l0 ac 1048576 _ (by decide) (by decide) h0).mono ?_
  rintro e w0 ⟨r0, rfl, g0, hw⟩
  have hw2 := hw.symm
  subst hw2
  rcases g0 with rfl | ⟨g0, k0⟩
  · go_wp2
    go_ret
    exact ⟨-1, rfl, .inl rfl, ba (Below.refl _ _) _⟩
  have hg0 : ¬ r0 < 0 := by omega
  have H0 : Hid (0 ≤ r0 ∧ r0 + l0 ≤ 1048576 ∧ l0 ≤ 1048576) := by refine ⟨g0, ?_⟩; omega
  clear k0
  go_wp2_with fail
  refine (szIntS_any bo l1 bc r0 _ (by have := H0.out; omega) H0.out.1 h1).mono ?_
  rintro e w1 ⟨r1, rfl, g1, hw⟩
  have hw2 := hw.symm
  subst hw2
  rcases g1 with rfl | ⟨g1, k1⟩
  · go_wp2
    go_ret
    exact ⟨-1, rfl, .inl rfl, ba (Below.refl _ _) _⟩
  have hg1 : ¬ r1 < 0 := by omega
  have H1 : Hid (0 ≤ r1 ∧ r1 + l1 ≤ 1048576 ∧ l0 ≤ 1048576 ∧ l1 ≤ 1048576) := by have := H0.out; refine ⟨g1, ?_⟩; omega
  clear k1 hg0
  go_wp2_with fail
  refine (szIntS_any co l2 cc r1 _ (by have := H1.out; omega) H1.out.1 h2).mono ?_
  rintro e w2 ⟨r2, rfl, g2, hw⟩
  have hw2 := hw.symm
  subst hw2
  rcases g2 with rfl | ⟨g2, k2⟩
  · go_wp2
    go_ret
    exact ⟨-1, rfl, .inl rfl, ba (Below.refl _ _) _⟩
  have hg2 : ¬ r2 < 0 := by omega
  have H2 : Hid (0 ≤ r2 ∧ r2 + l2 ≤ 1048576 ∧ l0 ≤ 1048576 ∧ l1 ≤ 1048576 ∧ l2 ≤ 1048576) := by have := H1.out; refine ⟨g2, ?_⟩; omega
  clear k2 hg1
  go_wp2_with fail
  refine (szIntS_any d0 l3 dc r2 _ (by have := H2.out; omega) H2.out.1 h3).mono ?_
  rintro e w3 ⟨r3, rfl, g3, hw⟩
  have hw2 := hw.symm
  subst hw2
  rcases g3 with rfl | ⟨g3, k3⟩
  · go_wp2
    go_ret
    exact ⟨-1, rfl, .inl rfl, ba (Below.refl _ _) _⟩
  have hg3 : ¬ r3 < 0 := by omega
  have H3 : Hid (0 ≤ r3 ∧ r3 + l3 ≤ 1048576 ∧ l0 ≤ 1048576 ∧ l1 ≤ 1048576 ∧ l2 ≤ 1048576 ∧ l3 ≤ 1048576) := by have := H2.out; refine ⟨g3, ?_⟩; omega
  clear k3 hg2
  go_wp2_with fail
  refine (szIntS_any eo l4 ec r3 _ (by have := H3.out; omega) H3.out.1 h4).mono ?_
  rintro e w4 ⟨r4, rfl, g4, hw⟩
  have hw2 := hw.symm
  subst hw2
  rcases g4 with rfl | ⟨g4, k4⟩
  · go_wp2
    go_ret
    exact ⟨-1, rfl, .inl rfl, ba (Below.refl _ _) _⟩
  have hg4 : ¬ r4 < 0 := by omega
  have H4 : Hid (0 ≤ r4 ∧ r4 + l4 ≤ 1048576 ∧ l0 ≤ 1048576 ∧ l1 ≤ 1048576 ∧ l2 ≤ 1048576 ∧ l3 ≤ 1048576 ∧ l4 ≤ 1048576) := by have := H3.out; refine ⟨g4, ?_⟩; omega
  clear k4 hg3
  go_wp2
  go_ret
  exact ⟨r4, rfl, .inr ⟨H4.out.1, by have := H4.out; omega, by have := H4.out; omega, by have := H4.out; omega, by have := H4.out; omega, by have := H4.out; omega⟩, ba (Below.refl _ _) _⟩

/-- What lies there while a rule is copied. -/
structure TcS (w : World) (B : Nat) (W : World) (s0 s1 s2 s3 s4 x0 x1 x2 x3 x4 : Value) : Prop where
  z0 : B5 44 W B s0 s1 s2 s3 s4
  z1 : B5 26 W (B + 1) (.slice none 0 0) (.slice none 0 0) (.slice none 0 0) (.slice none 0 0) (.slice none 0 0)
  z2 : B5 26 W (B + 1 + 1) x0 x1 x2 x3 x4
  be : Below B w W
section
variable {w W W' : World} {B : Nat} {s0 s1 s2 s3 s4 x0 x1 x2 x3 x4 : Value}
theorem TcS.lt (h : TcS w B W s0 s1 s2 s3 s4 x0 x1 x2 x3 x4) : B + 1 + 1 < W.heap.size := h.z2.lt
theorem TcS.up (h : TcS w B W s0 s1 s2 s3 s4 x0 x1 x2 x3 x4) (hb : Below W.heap.size W W') : TcS w B W' s0 s1 s2 s3 s4 x0 x1 x2 x3 x4 := ⟨h.z0.up hb, h.z1.up hb, h.z2.up hb, h.be.trans (hb.mono (by have := h.lt; omega))⟩
theorem TcS.p0 (h : TcS w B W s0 s1 s2 s3 s4 x0 x1 x2 x3 x4) (u : Value) : TcS w B (W.setCell ⟨B + 1 + 1, 0, none⟩ u) s0 s1 s2 s3 s4 u x1 x2 x3 x4 := ⟨h.z0.far (by show B + 1 + 1 ≠ B; omega) _, h.z1.far (by show B + 1 + 1 ≠ B + 1; omega) _, h.z2.s0 u, Below.setCell h.be (by show B ≤ B + 1 + 1; omega) _⟩
theorem TcS.p1 (h : TcS w B W s0 s1 s2 s3 s4 x0 x1 x2 x3 x4) (u : Value) : TcS w B (W.setCell ⟨B + 1 + 1, 1, none⟩ u) s0 s1 s2 s3 s4 x0 u x2 x3 x4 := ⟨h.z0.far (by show B + 1 + 1 ≠ B; omega) _, h.z1.far (by show B + 1 + 1 ≠ B + 1; omega) _, h.z2.s1 u, Below.setCell h.be (by show B ≤ B + 1 + 1; omega) _⟩
theorem TcS.p2 (h : TcS w B W s0 s1 s2 s3 s4 x0 x1 x2 x3 x4) (u : Value) : TcS w B (W.setCell ⟨B + 1 + 1, 2, none⟩ u) s0 s1 s2 s3 s4 x0 x1 u x3 x4 := ⟨h.z0.far (by show B + 1 + 1 ≠ B; omega) _, h.z1.far (by show B + 1 + 1 ≠ B + 1; omega) _, h.z2.s2 u, Below.setCell h.be (by show B ≤ B + 1 + 1; omega) _⟩
theorem TcS.p3 (h : TcS w B W s0 s1 s2 s3 s4 x0 x1 x2 x3 x4) (u : Value) : TcS w B (W.setCell ⟨B + 1 + 1, 3, none⟩ u) s0 s1 s2 s3 s4 x0 x1 x2 u x4 := ⟨h.z0.far (by show B + 1 + 1 ≠ B; omega) _, h.z1.far (by show B + 1 + 1 ≠ B + 1; omega) _, h.z2.s3 u, Below.setCell h.be (by show B ≤ B + 1 + 1; omega) _⟩
theorem TcS.p4 (h : TcS w B W s0 s1 s2 s3 s4 x0 x1 x2 x3 x4) (u : Value) : TcS w B (W.setCell ⟨B + 1 + 1, 4, none⟩ u) s0 s1 s2 s3 s4 x0 x1 x2 x3 u := ⟨h.z0.far (by show B + 1 + 1 ≠ B; omega) _, h.z1.far (by show B + 1 + 1 ≠ B + 1; omega) _, h.z2.s4 u, Below.setCell h.be (by show B ≤ B + 1 + 1; omega) _⟩
end
/-- Two rows that lie apart. -/
def Apt (u v : Value) : Prop := u.ownBlock = none ∨ u.ownBlock ≠ v.ownBlock
theorem Apt.symm {u v : Value} (h : Apt u v) : Apt v u := by
  by_cases hv : v.ownBlock = none
  · exact .inl hv
  · rcases h with h | h
    · exact .inr (by rw [h]; exact hv)
    · exact .inr (fun e => h e.symm)
/-- Five rows that lie apart. -/
structure Ap5 (v0 v1 v2 v3 v4 : Value) : Prop where
  a01 : Apt v0 v1
  a02 : Apt v0 v2
  a03 : Apt v0 v3
  a04 : Apt v0 v4
  a12 : Apt v1 v2
  a13 : Apt v1 v3
  a14 : Apt v1 v4
  a23 : Apt v2 v3
  a24 : Apt v2 v4
  a34 : Apt v3 v4
/-- What toCron answers. -/
def TcP (a b c d e : List Int) (w : World) (x : Ending) (w' : World) : Prop :=
  ∃ v0 v1 v2 v3 v4, x = .returned (.agg #[v0, v1, v2, v3, v4]) ∧ ownsR w' w.heap.size 3 v0 a ∧ ownsR w' w.heap.size 3 v1 b ∧ ownsR w' w.heap.size 3 v2 c ∧ ownsR w' w.heap.size 3 v3 d ∧ ownsR w' w.heap.size 3 v4 e ∧ Below w.heap.size w w'
/-- The same, and its rows lie apart. -/
def TcQ (a b c d e : List Int) (w : World) (x : Ending) (w' : World) : Prop :=
  ∃ v0 v1 v2 v3 v4, x = .returned (.agg #[v0, v1, v2, v3, v4]) ∧ ownsR w' w.heap.size 3 v0 a ∧ ownsR w' w.heap.size 3 v1 b ∧ ownsR w' w.heap.size 3 v2 c ∧ ownsR w' w.heap.size 3 v3 d ∧ ownsR w' w.heap.size 3 v4 e ∧ Below w.heap.size w w' ∧ Ap5 v0 v1 v2 v3 v4
set_option maxRecDepth 10000 in
set_option maxHeartbeats 4000000 in
theorem toCron_apart (va vb vc vd ve : Value) (a b c d e : List Int) (w : World) (h0 : Reads w va a) (h1 : Reads w vb b) (h2 : Reads w vc c) (h3 : Reads w vd d) (h4 : Reads w ve e)
    (n0 : a.length ≤ 1048576) (n1 : b.length ≤ 1048576) (n2 : c.length ≤ 1048576) (n3 : d.length ≤ 1048576) (n4 : e.length ≤ 1048576) :
    Calls Tryd.prog 21 #[.agg #[va, vb, vc, vd, ve]] w (TcQ a b c d e w) := by
  obtain ⟨ao, ac, rfl, _⟩ := id h0
  obtain ⟨bo, bc, rfl, _⟩ := id h1
  obtain ⟨co, cc, rfl, _⟩ := id h2
  obtain ⟨d0, dc, rfl, _⟩ := id h3
  obtain ⟨eo, ec, rfl, _⟩ := id h4
  have H0 : Hid (∀ W, Below w.heap.size w W → Calls Tryd.prog 42 #[.slice ao a.length ac] W fun x w' => ∃ v, x = .returned v ∧ ownsR w' W.heap.size 3 v a ∧ Below W.heap.size W w') := fun W hb => toIntS_any ao _ ac a W (h0.below hb) n0
  have H1 : Hid (∀ W, Below w.heap.size w W → Calls Tryd.prog 42 #[.slice bo b.length bc] W fun x w' => ∃ v, x = .returned v ∧ ownsR w' W.heap.size 3 v b ∧ Below W.heap.size W w') := fun W hb => toIntS_any bo _ bc b W (h1.below hb) n1
  have H2 : Hid (∀ W, Below w.heap.size w W → Calls Tryd.prog 42 #[.slice co c.length cc] W fun x w' => ∃ v, x = .returned v ∧ ownsR w' W.heap.size 3 v c ∧ Below W.heap.size W w') := fun W hb => toIntS_any co _ cc c W (h2.below hb) n2
  have H3 : Hid (∀ W, Below w.heap.size w W → Calls Tryd.prog 42 #[.slice d0 d.length dc] W fun x w' => ∃ v, x = .returned v ∧ ownsR w' W.heap.size 3 v d ∧ Below W.heap.size W w') := fun W hb => toIntS_any d0 _ dc d W (h3.below hb) n3
  have H4 : Hid (∀ W, Below w.heap.size w W → Calls Tryd.prog 42 #[.slice eo e.length ec] W fun x w' => ∃ v, x = .returned v ∧ ownsR w' W.heap.size 3 v e ∧ Below W.heap.size W w') := fun W hb => toIntS_any eo _ ec e W (h4.below hb) n4
  clear h0 h1 h2 h3 h4 n0 n1 n2 n3 n4
  generalize hl0 : a.length = l0 at *
  generalize hl1 : b.length = l1 at *
  generalize hl2 : c.length = l2 at *
  generalize hl3 : d.length = l3 at *
  generalize hl4 : e.length = l4 at *
  go_enter Tryd.func21, Tryd.ntmps21
  go_wp2_with fail
  obtain ⟨W0, hW⟩ : ∃ W, ((w.alloc (.cells #[.slice ao l0 ac, .slice bo l1 bc, .slice co l2 cc, .slice d0 l3 dc, .slice eo l4 ec] 44)).alloc (.cells #[.slice none 0 0, .slice none 0 0, .slice none 0 0, .slice none 0 0, .slice none 0 0] 26)).alloc (.cells #[.slice none 0 0, .slice none 0 0, .slice none 0 0, .slice none 0 0, .slice none 0 0] 26) = W := ⟨_, rfl⟩
  obtain ⟨B, hB⟩ : ∃ B, w.heap.size = B := ⟨_, rfl⟩
  have T0 : TcS w B W0 (.slice ao l0 ac) (.slice bo l1 bc) (.slice co l2 cc) (.slice d0 l3 dc) (.slice eo l4 ec) (.slice none 0 0) (.slice none 0 0) (.slice none 0 0) (.slice none 0 0) (.slice none 0 0) := by
    subst hB
    rw [← hW]
    refine ⟨((B5.new 44 w _ _ _ _ _).alloc _).alloc _, ?_, ?_, ba (ba (ba (Below.refl _ _) _) _) _⟩
    · have := (B5.new 26 (w.alloc (.cells #[.slice ao l0 ac, .slice bo l1 bc, .slice co l2 cc, .slice d0 l3 dc, .slice eo l4 ec] 44)) (.slice none 0 0) (.slice none 0 0) (.slice none 0 0) (.slice none 0 0) (.slice none 0 0)).alloc (.cells #[.slice none 0 0, .slice none 0 0, .slice none 0 0, .slice none 0 0, .slice none 0 0] 26)
      simpa using this
    · have := B5.new 26 ((w.alloc (.cells #[.slice ao l0 ac, .slice bo l1 bc, .slice co l2 cc, .slice d0 l3 dc, .slice eo l4 ec] 44)).alloc (.cells #[.slice none 0 0, .slice none 0 0, .slice none 0 0, .slice none 0 0, .slice none 0 0] 26)) (.slice none 0 0) (.slice none 0 0) (.slice none 0 0) (.slice none 0 0) (.slice none 0 0)
      simpa using this
  rw [hW]
  have HB : Hid (w.heap.size = B) := hB
  rw [hB]
  clear hW hB
  refine (H0.out W0 (by rw [HB.out]; exact T0.be)).mono ?_
  rintro x y0 ⟨v0, rfl, ho0, hb0⟩
  obtain ⟨a0, m0, k0, rfl⟩ := ho0.slice3
  have P0_0 : Hid (ownsR y0 (B + 1 + 1 + 1) 3 (.slice a0 m0 k0) a) := ho0.mono T0.lt
  have U0 := T0.up hb0
  clear T0 ho0 hb0 H0
  have HU0 : Hid (TcS w B y0 (.slice ao l0 ac) (.slice bo l1 bc) (.slice co l2 cc) (.slice d0 l3 dc) (.slice eo l4 ec) (.slice none 0 0) (.slice none 0 0) (.slice none 0 0) (.slice none 0 0) (.slice none 0 0)) := U0
  have q1 := U0.z2.c0
  have q2 := U0.z2.fr 0
  have q0 := U0.z0.c1
  have q3 : (y0.setCell ⟨B + 1 + 1, 0, none⟩ (.slice a0 m0 k0)).cell? ⟨B, 1, none⟩ = some (.slice bo l1 bc) := (U0.p0 _).z0.c1
  clear U0
  go_wp2_with fail
  clear q0 q1 q2 q3
  have T1' := HU0.out.p0 (.slice a0 m0 k0)
  have R0_0 : Hid (ownsR (y0.setCell ⟨B + 1 + 1, 0, none⟩ (.slice a0 m0 k0)) (B + 1 + 1 + 1) 3 (.slice a0 m0 k0) a) := P0_0.out.setB (by show B + 1 + 1 < B + 1 + 1 + 1; omega) _
  obtain ⟨W1, hW⟩ : ∃ W, y0.setCell ⟨B + 1 + 1, 0, none⟩ (.slice a0 m0 k0) = W := ⟨_, rfl⟩
  rw [hW] at T1' R0_0
  rw [hW]
  clear hW
  have T1 : TcS w B W1 (.slice ao l0 ac) (.slice bo l1 bc) (.slice co l2 cc) (.slice d0 l3 dc) (.slice eo l4 ec) (.slice a0 m0 k0) (.slice none 0 0) (.slice none 0 0) (.slice none 0 0) (.slice none 0 0) := T1'
  have Q0_0 : Hid (ownsR W1 (B + 1 + 1 + 1) 3 (.slice a0 m0 k0) a) := R0_0.out
  clear T1' HU0 R0_0 P0_0
  refine (H1.out W1 (by rw [HB.out]; exact T1.be)).mono ?_
  rintro x y1 ⟨v1, rfl, ho1, hb1⟩
  obtain ⟨a1, m1, k1, rfl⟩ := ho1.slice3
  have AP0_1 : Hid (Apt (.slice a0 m0 k0) (.slice a1 m1 k1)) := apart_new Q0_0.out ho1
  have P0_1 : Hid (ownsR y1 (B + 1 + 1 + 1) 3 (.slice a0 m0 k0) a) := Q0_0.out.all hb1
  have P1_1 : Hid (ownsR y1 (B + 1 + 1 + 1) 3 (.slice a1 m1 k1) b) := ho1.mono T1.lt
  have U1 := T1.up hb1
  clear T1 ho1 hb1 H1
  have HU1 : Hid (TcS w B y1 (.slice ao l0 ac) (.slice bo l1 bc) (.slice co l2 cc) (.slice d0 l3 dc) (.slice eo l4 ec) (.slice a0 m0 k0) (.slice none 0 0) (.slice none 0 0) (.slice none 0 0) (.slice none 0 0)) := U1
  have q1 := U1.z2.c1
  have q2 := U1.z2.fr 1
  have q0 := U1.z0.c2
  have q3 : (y1.setCell ⟨B + 1 + 1, 1, none⟩ (.slice a1 m1 k1)).cell? ⟨B, 2, none⟩ = some (.slice co l2 cc) := (U1.p1 _).z0.c2
  clear U1
  go_wp2_with fail
  clear q0 q1 q2 q3
  have T2' := HU1.out.p1 (.slice a1 m1 k1)
  have R0_1 : Hid (ownsR (y1.setCell ⟨B + 1 + 1, 1, none⟩ (.slice a1 m1 k1)) (B + 1 + 1 + 1) 3 (.slice a0 m0 k0) a) := P0_1.out.setB (by show B + 1 + 1 < B + 1 + 1 + 1; omega) _
  have R1_1 : Hid (ownsR (y1.setCell ⟨B + 1 + 1, 1, none⟩ (.slice a1 m1 k1)) (B + 1 + 1 + 1) 3 (.slice a1 m1 k1) b) := P1_1.out.setB (by show B + 1 + 1 < B + 1 + 1 + 1; omega) _
  obtain ⟨W2, hW⟩ : ∃ W, y1.setCell ⟨B + 1 + 1, 1, none⟩ (.slice a1 m1 k1) = W := ⟨_, rfl⟩
  rw [hW] at T2' R0_1 R1_1
  rw [hW]
  clear hW
  have T2 : TcS w B W2 (.slice ao l0 ac) (.slice bo l1 bc) (.slice co l2 cc) (.slice d0 l3 dc) (.slice eo l4 ec) (.slice a0 m0 k0) (.slice a1 m1 k1) (.slice none 0 0) (.slice none 0 0) (.slice none 0 0) := T2'
  have Q0_1 : Hid (ownsR W2 (B + 1 + 1 + 1) 3 (.slice a0 m0 k0) a) := R0_1.out
  have Q1_1 : Hid (ownsR W2 (B + 1 + 1 + 1) 3 (.slice a1 m1 k1) b) := R1_1.out
  clear T2' HU1 R0_1 P0_1 R1_1 P1_1
  refine (H2.out W2 (by rw [HB.out]; exact T2.be)).mono ?_
  rintro x y2 ⟨v2, rfl, ho2, hb2⟩
  obtain ⟨a2, m2, k2, rfl⟩ := ho2.slice3
  have AP0_2 : Hid (Apt (.slice a0 m0 k0) (.slice a2 m2 k2)) := apart_new Q0_1.out ho2
  have AP1_2 : Hid (Apt (.slice a1 m1 k1) (.slice a2 m2 k2)) := apart_new Q1_1.out ho2
  have P0_2 : Hid (ownsR y2 (B + 1 + 1 + 1) 3 (.slice a0 m0 k0) a) := Q0_1.out.all hb2
  have P1_2 : Hid (ownsR y2 (B + 1 + 1 + 1) 3 (.slice a1 m1 k1) b) := Q1_1.out.all hb2
  have P2_2 : Hid (ownsR y2 (B + 1 + 1 + 1) 3 (.slice a2 m2 k2) c) := ho2.mono T2.lt
  have U2 := T2.up hb2
  clear T2 ho2 hb2 H2
  have HU2 : Hid (TcS w B y2 (.slice ao l0 ac) (.slice bo l1 bc) (.slice co l2 cc) (.slice d0 l3 dc) (.slice eo l4 ec) (.slice a0 m0 k0) (.slice a1 m1 k1) (.slice none 0 0) (.slice none 0 0) (.slice none 0 0)) := U2
  have q1 := U2.z2.c2
  have q2 := U2.z2.fr 2
  have q0 := U2.z0.c3
  have q3 : (y2.setCell ⟨B + 1 + 1, 2, none⟩ (.slice a2 m2 k2)).cell? ⟨B, 3, none⟩ = some (.slice d0 l3 dc) := (U2.p2 _).z0.c3
  clear U2
  go_wp2_with fail
  clear q0 q1 q2 q3
  have T3' := HU2.out.p2 (.slice a2 m2 k2)
  have R0_2 : Hid (ownsR (y2.setCell ⟨B + 1 + 1, 2, none⟩ (.slice a2 m2 k2)) (B + 1 + 1 + 1) 3 (.slice a0 m0 k0) a) := P0_2.out.setB (by show B + 1 + 1 < B + 1 + 1 + 1; omega) _
  have R1_2 : Hid (ownsR (y2.setCell ⟨B + 1 + 1, 2, none⟩ (.slice a2 m2 k2)) (B + 1 + 1 + 1) 3 (.slice a1 m1 k1) b) := P1_2.out.setB (by show B + 1 + 1 < B + 1 + 1 + 1; omega) _
  have R2_2 : Hid (ownsR (y2.setCell ⟨B + 1 + 1, 2, none⟩ (.slice a2 m2 k2)) (B + 1 + 1 + 1) 3 (.slice a2 m2 k2) c) := P2_2.out.setB (by show B + 1 + 1 < B + 1 + 1 + 1; omega) _
  obtain ⟨W3, hW⟩ : ∃ W, y2.setCell ⟨B + 1 + 1, 2, none⟩ (.slice a2 m2 k2) = W := ⟨_, rfl⟩
  rw [hW] at T3' R0_2 R1_2 R2_2
  rw [hW]
  clear hW
  have T3 : TcS w B W3 (.slice ao l0 ac) (.slice bo l1 bc) (.slice co l2 cc) (.slice d0 l3 dc) (.slice eo l4 ec) (.slice a0 m0 k0) (.slice a1 m1 k1) (.slice a2 m2 k2) (.slice none 0 0) (.slice none 0 0) := T3'
  have Q0_2 : Hid (ownsR W3 (B + 1 + 1 + 1) 3 (.slice a0 m0 k0) a) := R0_2.out
  have Q1_2 : Hid (ownsR W3 (B + 1 + 1 + 1) 3 (.slice a1 m1 k1) b) := R1_2.out
  have Q2_2 : Hid (ownsR W3 (B + 1 + 1 + 1) 3 (.slice a2 m2 k2) c) := R2_2.out
  clear T3' HU2 R0_2 P0_2 R1_2 P1_2 R2_2 P2_2
  refine (H3.out W3 (by rw [HB.out]; exact T3.be)).mono ?_
  rintro x y3 ⟨v3, rfl, ho3, hb3⟩
  obtain ⟨a3, m3, k3, rfl⟩ := ho3.slice3
  have AP0_3 : Hid (Apt (.slice a0 m0 k0) (.slice a3 m3 k3)) := apart_new Q0_2.out ho3
  have AP1_3 : Hid (Apt (.slice a1 m1 k1) (.slice a3 m3 k3)) := apart_new Q1_2.out ho3
  have AP2_3 : Hid (Apt (.slice a2 m2 k2) (.slice a3 m3 k3)) := apart_new Q2_2.out ho3
  have P0_3 : Hid (ownsR y3 (B + 1 + 1 + 1) 3 (.slice a0 m0 k0) a) := Q0_2.out.all hb3
  have P1_3 : Hid (ownsR y3 (B + 1 + 1 + 1) 3 (.slice a1 m1 k1) b) := Q1_2.out.all hb3
  have P2_3 : Hid (ownsR y3 (B + 1 + 1 + 1) 3 (.slice a2 m2 k2) c) := Q2_2.out.all hb3
  have P3_3 : Hid (ownsR y3 (B + 1 + 1 + 1) 3 (.slice a3 m3 k3) d) := ho3.mono T3.lt
  have U3 := T3.up hb3
  clear T3 ho3 hb3 H3
  have HU3 : Hid (TcS w B y3 (.slice ao l0 ac) (.slice bo l1 bc) (.slice co l2 cc) (.slice d0 l3 dc) (.slice eo l4 ec) (.slice a0 m0 k0) (.slice a1 m1 k1) (.slice a2 m2 k2) (.slice none 0 0) (.slice none 0 0)) := U3
  have q1 := U3.z2.c3
  have q2 := U3.z2.fr 3
  have q0 := U3.z0.c4
  have q3 : (y3.setCell ⟨B + 1 + 1, 3, none⟩ (.slice a3 m3 k3)).cell? ⟨B, 4, none⟩ = some (.slice eo l4 ec) := (U3.p3 _).z0.c4
  clear U3
  go_wp2_with fail
  clear q0 q1 q2 q3
  have T4' := HU3.out.p3 (.slice a3 m3 k3)
  have R0_3 : Hid (ownsR (y3.setCell ⟨B + 1 + 1, 3, none⟩ (.slice a3 m3 k3)) (B + 1 + 1 + 1) 3 (.slice a0 m0 k0) a) := P0_3.out.setB (by show B + 1 + 1 < B + 1 + 1 + 1; omega) _
  have R1_3 : Hid (ownsR (y3.setCell ⟨B + 1 + 1, 3, none⟩ (.slice a3 m3 k3)) (B + 1 + 1 + 1) 3 (.slice a1 m1 k1) b) := P1_3.out.setB (by show B + 1 + 1 < B + 1 + 1 + 1; omega) _
  have R2_3 : Hid (ownsR (y3.setCell ⟨B + 1 + 1, 3, none⟩ (.slice a3 m3 k3)) (B + 1 + 1 + 1) 3 (.slice a2 m2 k2) c) := P2_3.out.setB (by show B + 1 + 1 < B + 1 + 1 + 1; omega) _
  have R3_3 : Hid (ownsR (y3.setCell ⟨B + 1 + 1, 3, none⟩ (.slice a3 m3 k3)) (B + 1 + 1 + 1) 3 (.slice a3 m3 k3) d) := P3_3.out.setB (by show B + 1 + 1 < B + 1 + 1 + 1; omega) _
  obtain ⟨W4, hW⟩ : ∃ W, y3.setCell ⟨B + 1 + 1, 3, none⟩ (.slice a3 m3 k3) = W := ⟨_, rfl⟩
  rw [hW] at T4' R0_3 R1_3 R2_3 R3_3
  rw [hW]
  clear hW
  have T4 : TcS w B W4 (.slice ao l0 ac) (.slice bo l1 bc) (.slice co l2 cc) (.slice d0 l3 dc) (.slice eo l4 ec) (.slice a0 m0 k0) (.slice a1 m1 k1) (.slice a2 m2 k2) (.slice a3 m3 k3) (.slice none 0 0) := T4'
  have Q0_3 : Hid (ownsR W4 (B + 1 + 1 + 1) 3 (.slice a0 m0 k0) a) := R0_3.out
  have Q1_3 : Hid (ownsR W4 (B + 1 + 1 + 1) 3 (.slice a1 m1 k1) b) := R1_3.out
  have Q2_3 : Hid (ownsR W4 (B + 1 + 1 + 1) 3 (.slice a2 m2 k2) c) := R2_3.out
  have Q3_3 : Hid (ownsR W4 (B + 1 + 1 + 1) 3 (.slice a3 m3 k3) d) := R3_3.out
  clear T4' HU3 R0_3 P0_3 R1_3 P1_3 R2_3 P2_3 R3_3 P3_3
  refine (H4.out W4 (by rw [HB.out]; exact T4.be)).mono ?_
  rintro x y4 ⟨v4, rfl, ho4, hb4⟩
  obtain ⟨a4, m4, k4, rfl⟩ := ho4.slice3
  have AP0_4 : Hid (Apt (.slice a0 m0 k0) (.slice a4 m4 k4)) := apart_new Q0_3.out ho4
  have AP1_4 : Hid (Apt (.slice a1 m1 k1) (.slice a4 m4 k4)) := apart_new Q1_3.out ho4
  have AP2_4 : Hid (Apt (.slice a2 m2 k2) (.slice a4 m4 k4)) := apart_new Q2_3.out ho4
  have AP3_4 : Hid (Apt (.slice a3 m3 k3) (.slice a4 m4 k4)) := apart_new Q3_3.out ho4
  have P0_4 : Hid (ownsR y4 (B + 1 + 1 + 1) 3 (.slice a0 m0 k0) a) := Q0_3.out.all hb4
  have P1_4 : Hid (ownsR y4 (B + 1 + 1 + 1) 3 (.slice a1 m1 k1) b) := Q1_3.out.all hb4
  have P2_4 : Hid (ownsR y4 (B + 1 + 1 + 1) 3 (.slice a2 m2 k2) c) := Q2_3.out.all hb4
  have P3_4 : Hid (ownsR y4 (B + 1 + 1 + 1) 3 (.slice a3 m3 k3) d) := Q3_3.out.all hb4
  have P4_4 : Hid (ownsR y4 (B + 1 + 1 + 1) 3 (.slice a4 m4 k4) e) := ho4.mono T4.lt
  have U4 := T4.up hb4
  clear T4 ho4 hb4 H4
  have HU4 : Hid (TcS w B y4 (.slice ao l0 ac) (.slice bo l1 bc) (.slice co l2 cc) (.slice d0 l3 dc) (.slice eo l4 ec) (.slice a0 m0 k0) (.slice a1 m1 k1) (.slice a2 m2 k2) (.slice a3 m3 k3) (.slice none 0 0)) := U4
  have q1 := U4.z2.c4
  have q2 := U4.z2.fr 4
  clear U4 q1 q2
  have T5 := HU4.out.p4 (.slice a4 m4 k4)
  have e0 := HU4.out.z2.c4
  have e1 := HU4.out.z2.fr 4
  have HT5 : Hid (TcS w B (y4.setCell ⟨B + 1 + 1, 4, none⟩ (.slice a4 m4 k4)) (.slice ao l0 ac) (.slice bo l1 bc) (.slice co l2 cc) (.slice d0 l3 dc) (.slice eo l4 ec) (.slice a0 m0 k0) (.slice a1 m1 k1) (.slice a2 m2 k2) (.slice a3 m3 k3) (.slice a4 m4 k4)) := T5
  have r0 := T5.z2.c0
  have s0 := T5.z1.c0
  have f0 := T5.z1.fr 0
  have r1 := T5.z2.c1
  have s1 := T5.z1.c1
  have f1 := T5.z1.fr 1
  have r2 := T5.z2.c2
  have s2 := T5.z1.c2
  have f2 := T5.z1.fr 2
  have r3 := T5.z2.c3
  have s3 := T5.z1.c3
  have f3 := T5.z1.fr 3
  have r4 := T5.z2.c4
  have s4 := T5.z1.c4
  have f4 := T5.z1.fr 4
  clear T5
  obtain ⟨V, HV⟩ : ∃ V, Hid (y4.setCell ⟨B + 1 + 1, 4, none⟩ (.slice a4 m4 k4) = V) := ⟨_, rfl⟩
  rw [HV.out] at HT5 r0 s0 f0 r1 s1 f1 r2 s2 f2 r3 s3 f3 r4 s4 f4
  go_wp2_with (rw [HV.out])
  have HE : Hid (B5 26 (set5 V (B + 1) (.slice a0 m0 k0) (.slice a1 m1 k1) (.slice a2 m2 k2) (.slice a3 m3 k3) (.slice a4 m4 k4)) (B + 1) (.slice a0 m0 k0) (.slice a1 m1 k1) (.slice a2 m2 k2) (.slice a3 m3 k3) (.slice a4 m4 k4)) := HT5.out.z1.set _ _ _ _ _
  refine bodyPost_ret (ret_c1 rfl rfl HE.out) rfl ?_
  have HW : ∀ (v : Value) (l : List Int), ownsR y4 (B + 1 + 1 + 1) 3 v l → ownsR (set5 V (B + 1) (.slice a0 m0 k0) (.slice a1 m1 k1) (.slice a2 m2 k2) (.slice a3 m3 k3) (.slice a4 m4 k4)) w.heap.size 3 v l := fun v l h => by
    rw [← HV.out, HB.out]
    exact (ownsR_set5 (h.setB (by show B + 1 + 1 < B + 1 + 1 + 1; omega) _) (by omega) _ _ _ _ _).mono (by omega)
  refine ⟨_, _, _, _, _, rfl, HW _ _ P0_4.out, HW _ _ P1_4.out, HW _ _ P2_4.out, HW _ _ P3_4.out, HW _ _ P4_4.out, ?_, ⟨AP0_1.out, AP0_2.out, AP0_3.out, AP0_4.out, AP1_2.out, AP1_3.out, AP1_4.out, AP2_3.out, AP2_4.out, AP3_4.out⟩⟩
  rw [HB.out]
  exact below_set5 HT5.out.be (by omega) _ _ _ _ _
theorem toCron_any (va vb vc vd ve : Value) (a b c d e : List Int) (w : World) (h0 : Reads w va a) (h1 : Reads w vb b) (h2 : Reads w vc c) (h3 : Reads w vd d) (h4 : Reads w ve e)
    (n0 : a.length ≤ 1048576) (n1 : b.length ≤ 1048576) (n2 : c.length ≤ 1048576) (n3 : d.length ≤ 1048576) (n4 : e.length ≤ 1048576) :
    Calls Tryd.prog 21 #[.agg #[va, vb, vc, vd, ve]] w (TcP a b c d e w) :=
  (toCron_apart va vb vc vd ve a b c d e w h0 h1 h2 h3 h4 n0 n1 n2 n3 n4).mono fun x w' ⟨v0, v1, v2, v3, v4, h, o0, o1, o2, o3, o4, hb, _⟩ => ⟨v0, v1, v2, v3, v4, h, o0, o1, o2, o3, o4, hb⟩

set_option maxRecDepth 10000 in
set_option maxHeartbeats 4000000 in
theorem eqCron_any (va vb vc vd ve ua ub uc ud ue : Value) (a b c d e : List Int) (w : World) (h0 : Reads w va a) (h1 : Reads w vb b) (h2 : Reads w vc c) (h3 : Reads w vd d) (h4 : Reads w ve e) (g0 : Reads w ua a) (g1 : Reads w ub b) (g2 : Reads w uc c) (g3 : Reads w ud d) (g4 : Reads w ue e)
    (n0 : a.length ≤ 1048577) (n1 : b.length ≤ 1048577) (n2 : c.length ≤ 1048577) (n3 : d.length ≤ 1048577) (n4 : e.length ≤ 1048577) :
    Calls Tryd.prog 23 #[.agg #[va, vb, vc, vd, ve], .agg #[ua, ub, uc, ud, ue]] w fun x w' => x = .returned (.bool true) ∧ Below w.heap.size w w' := by
  obtain ⟨ao, ac, rfl, _⟩ := id h0
  obtain ⟨bo, bc, rfl, _⟩ := id h1
  obtain ⟨co, cc, rfl, _⟩ := id h2
  obtain ⟨d0, dc, rfl, _⟩ := id h3
  obtain ⟨eo, ec, rfl, _⟩ := id h4
  obtain ⟨a2, ad, rfl, _⟩ := id g0
  obtain ⟨b2, bd, rfl, _⟩ := id g1
  obtain ⟨c2, cd, rfl, _⟩ := id g2
  obtain ⟨d2, dd, rfl, _⟩ := id g3
  obtain ⟨e2, ed, rfl, _⟩ := id g4
  have H0 : Hid (∀ W, Below w.heap.size w W → Calls Tryd.prog 43 #[.slice ao a.length ac, .slice a2 a.length ad] W fun e w' => e = .returned (.bool true) ∧ Below W.heap.size W w') := fun W hb => eqIntS_any ao a2 _ ac ad a W (h0.below hb) (g0.below hb) n0
  have H1 : Hid (∀ W, Below w.heap.size w W → Calls Tryd.prog 43 #[.slice bo b.length bc, .slice b2 b.length bd] W fun e w' => e = .returned (.bool true) ∧ Below W.heap.size W w') := fun W hb => eqIntS_any bo b2 _ bc bd b W (h1.below hb) (g1.below hb) n1
  have H2 : Hid (∀ W, Below w.heap.size w W → Calls Tryd.prog 43 #[.slice co c.length cc, .slice c2 c.length cd] W fun e w' => e = .returned (.bool true) ∧ Below W.heap.size W w') := fun W hb => eqIntS_any co c2 _ cc cd c W (h2.below hb) (g2.below hb) n2
  have H3 : Hid (∀ W, Below w.heap.size w W → Calls Tryd.prog 43 #[.slice d0 d.length dc, .slice d2 d.length dd] W fun e w' => e = .returned (.bool true) ∧ Below W.heap.size W w') := fun W hb => eqIntS_any d0 d2 _ dc dd d W (h3.below hb) (g3.below hb) n3
  have H4 : Hid (∀ W, Below w.heap.size w W → Calls Tryd.prog 43 #[.slice eo e.length ec, .slice e2 e.length ed] W fun e w' => e = .returned (.bool true) ∧ Below W.heap.size W w') := fun W hb => eqIntS_any eo e2 _ ec ed e W (h4.below hb) (g4.below hb) n4
  clear h0 h1 h2 h3 h4 g0 g1 g2 g3 g4 n0 n1 n2 n3 n4
  generalize a.length = l0 at *
  generalize b.length = l1 at *
  generalize c.length = l2 at *
  generalize d.length = l3 at *
  generalize e.length = l4 at *
  go_enter Tryd.func23, Tryd.ntmps23
  go_wp2_with fail
  obtain ⟨W0, hW⟩ : ∃ W, (w.alloc (.cells #[.slice ao l0 ac, .slice bo l1 bc, .slice co l2 cc, .slice d0 l3 dc, .slice eo l4 ec] 26)).alloc (.cells #[.slice a2 l0 ad, .slice b2 l1 bd, .slice c2 l2 cd, .slice d2 l3 dd, .slice e2 l4 ed] 26) = W := ⟨_, rfl⟩
  have Z1_0 : B5 26 W0 w.heap.size (.slice ao l0 ac) (.slice bo l1 bc) (.slice co l2 cc) (.slice d0 l3 dc) (.slice eo l4 ec) := by rw [← hW]; exact (B5.new 26 w _ _ _ _ _).alloc _
  have Z2_0 : B5 26 W0 (w.heap.size + 1) (.slice a2 l0 ad) (.slice b2 l1 bd) (.slice c2 l2 cd) (.slice d2 l3 dd) (.slice e2 l4 ed) := by
    rw [← hW]
    have := B5.new 26 (w.alloc (.cells #[.slice ao l0 ac, .slice bo l1 bc, .slice co l2 cc, .slice d0 l3 dc, .slice eo l4 ec] 26)) (.slice a2 l0 ad) (.slice b2 l1 bd) (.slice c2 l2 cd) (.slice d2 l3 dd) (.slice e2 l4 ed)
    simpa using this
  have B0 : Below w.heap.size w W0 := by rw [← hW]; exact ba (ba (Below.refl _ _) _) _
  rw [hW]
  clear hW
  refine (H0.out W0 B0).mono ?_
  rintro x W1 ⟨rfl, hb0⟩
  have B1 := Below.on B0 hb0
  have Z1_1 := Z1_0.up hb0
  have Z2_1 := Z2_0.up hb0
  clear hb0 B0 Z1_0 Z2_0 H0
  have q1 := Z1_1.c1
  have q2 := Z2_1.c1
  go_wp2_with fail
  clear q1 q2
  refine (H1.out W1 B1).mono ?_
  rintro x W2 ⟨rfl, hb1⟩
  have B2 := Below.on B1 hb1
  have Z1_2 := Z1_1.up hb1
  have Z2_2 := Z2_1.up hb1
  clear hb1 B1 Z1_1 Z2_1 H1
  have q1 := Z1_2.c2
  have q2 := Z2_2.c2
  go_wp2_with fail
  clear q1 q2
  refine (H2.out W2 B2).mono ?_
  rintro x W3 ⟨rfl, hb2⟩
  have B3 := Below.on B2 hb2
  have Z1_3 := Z1_2.up hb2
  have Z2_3 := Z2_2.up hb2
  clear hb2 B2 Z1_2 Z2_2 H2
  have q1 := Z1_3.c3
  have q2 := Z2_3.c3
  go_wp2_with fail
  clear q1 q2
  refine (H3.out W3 B3).mono ?_
  rintro x W4 ⟨rfl, hb3⟩
  have B4 := Below.on B3 hb3
  have Z1_4 := Z1_3.up hb3
  have Z2_4 := Z2_3.up hb3
  clear hb3 B3 Z1_3 Z2_3 H3
  have q1 := Z1_4.c4
  have q2 := Z2_4.c4
  go_wp2_with fail
  clear q1 q2
  refine (H4.out W4 B4).mono ?_
  rintro x W5 ⟨rfl, hb4⟩
  have B5 := Below.on B4 hb4
  have Z1_5 := Z1_4.up hb4
  have Z2_5 := Z2_4.up hb4
  clear hb4 B4 Z1_4 Z2_4 H4
  go_wp2
  go_ret
  exact ⟨rfl, B5⟩
end Go.Proofs.YtbecdaholpiaeaaDoor

namespace Go.Proofs.YtbecdaholpiaeaaDoor
open Go Go.RowKit Go.ChangeShapes Go.WideShapes
set_option linter.unusedVariables false

theorem gRch : Tryd.prog.globalNamed "loop.example/g00188/impl.fieldReaches" = some 0 := by kernel_rfl
theorem tRch : (Tryd.prog.globals[0]?).map (·.type) = some 101 := by kernel_rfl
theorem cells63 : Tryd.prog.cellsOf 100 = 2 := by kernel_rfl
theorem cells64 : Tryd.prog.cellsOf 101 = 10 := by kernel_rfl
theorem under64 : Tryd.prog.underlying 101 = some (.array 5 100) := by kernel_rfl
theorem rch_of_reads {W : World} (h : Lib.VarReads Tryd.prog W "loop.example/g00188/impl.fieldReaches" (Rows.laid_loop_example_g00188_impl_fieldReaches (H := Unit))) : RchIs W := by
  obtain ⟨g, t, cs, fuel, p, hg, hty, hvar, hd⟩ := h
  obtain rfl := Option.some.inj (gRch.symm.trans hg)
  obtain rfl := Option.some.inj (tRch.symm.trans hty)
  have hc := fun j => World.var?_cell hg hvar j
  have two : ∀ (i : Nat) (lo hi : Int), i < 5 → ([.agg [.lit (.int .i64 0), .lit (.int .i64 59)], .agg [.lit (.int .i64 0), .lit (.int .i64 23)], .agg [.lit (.int .i64 1), .lit (.int .i64 31)], .agg [.lit (.int .i64 1), .lit (.int .i64 12)], .agg [.lit (.int .i64 0), .lit (.int .i64 6)]] : List (DataW Unit))[i]? = some (.agg [.lit (.int .i64 lo), .lit (.int .i64 hi)]) → cs[i * 2]? = some (.int .i64 lo) ∧ cs[i * 2 + 1]? = some (.int .i64 hi) := by
    intro i lo hi h5 hi5
    obtain ⟨f', d, q, hds, ht⟩ := Lib.array_elem under64 hd i h5
    rw [hi5] at hds
    obtain rfl := Option.some.inj hds
    rw [cells63] at ht
    have := Lib.ints_of_struct (zs := [lo, hi]) Tryd.underlying100 (by
      intro j f hj
      match j, hj with
      | 0, hj => simp at hj; subst hj; exact ⟨Tryd.underlying3, rfl, by kernel_rfl⟩
      | 1, hj => simp at hj; subst hj; exact ⟨Tryd.underlying3, rfl, by kernel_rfl⟩
      | j + 2, hj => simp at hj) (by kernel_rfl) ht
    have e0 := congrArg (fun l => l[0]?) this
    have e1 := congrArg (fun l => l[1]?) this
    simp at e0 e1
    exact ⟨by simpa using e0, by simpa using e1⟩
  have t0 := two 0 0 59 (by decide) rfl
  have t1 := two 1 0 23 (by decide) rfl
  have t2 := two 2 1 31 (by decide) rfl
  have t3 := two 3 1 12 (by decide) rfl
  have t4 := two 4 0 6 (by decide) rfl
  have hc0 : W.cell? ⟨0, 0, none⟩ = some (.int .i64 0) := (hc 0).trans t0.1
  refine ⟨World.block_lt_of_cell? W _ hc0, fun j v hv => ?_⟩
  rw [hc j]
  unfold reachL at hv
  match j, hv with
  | 0, hv => obtain rfl := Option.some.inj hv; exact t0.1
  | 1, hv => obtain rfl := Option.some.inj hv; exact t0.2
  | 2, hv => obtain rfl := Option.some.inj hv; exact t1.1
  | 3, hv => obtain rfl := Option.some.inj hv; exact t1.2
  | 4, hv => obtain rfl := Option.some.inj hv; exact t2.1
  | 5, hv => obtain rfl := Option.some.inj hv; exact t2.2
  | 6, hv => obtain rfl := Option.some.inj hv; exact t3.1
  | 7, hv => obtain rfl := Option.some.inj hv; exact t3.2
  | 8, hv => obtain rfl := Option.some.inj hv; exact t4.1
  | 9, hv => obtain rfl := Option.some.inj hv; exact t4.2
  | j + 10, hv => simp at hv
theorem len5 {α : Type} {l : List α} (h : l.length = 5) : ∃ a b c d e, l = [a, b, c, d, e] := by
  match l, h with
  | [a, b, c, d, e], _ => exact ⟨a, b, c, d, e, rfl⟩
theorem trod_struct5 {H : Type} {enc : TypeId × Value → H} {P : Program} {w : World} {base : Nat} {spare : Nat → Bool} {held : Bool} {t : TypeId} {f0 f1 f2 f3 f4 : Field} {fuel : Nat} {cs : List Value} {x : DataW H × List MemPlace} (ht : P.underlying t = some (.struct #[f0, f1, f2, f3, f4])) (h : DataW.trod enc P w base spare held fuel t cs = some x) :
    ∃ y0 y1 y2 y3 y4 n, cs.length = P.cellsOf t ∧ DataW.trod enc P w base spare held n f0.type ((cs.drop f0.offset).take (P.cellsOf f0.type)) = some y0 ∧
      DataW.trod enc P w base spare held n f1.type ((cs.drop f1.offset).take (P.cellsOf f1.type)) = some y1 ∧ DataW.trod enc P w base spare held n f2.type ((cs.drop f2.offset).take (P.cellsOf f2.type)) = some y2 ∧
      DataW.trod enc P w base spare held n f3.type ((cs.drop f3.offset).take (P.cellsOf f3.type)) = some y3 ∧ DataW.trod enc P w base spare held n f4.type ((cs.drop f4.offset).take (P.cellsOf f4.type)) = some y4 := by
  obtain ⟨xs, n, _, rfl, hl, hlen, hf⟩ := DataW.trod_struct ht h
  match xs, hlen with
  | [y0, y1, y2, y3, y4], _ => exact ⟨y0, y1, y2, y3, y4, n, hl, by simpa using hf 0 f0 rfl, by simpa using hf 1 f1 rfl, by simpa using hf 2 f2 rfl, by simpa using hf 3 f3 rfl, by simpa using hf 4 f4 rfl⟩
theorem cells41 : Tryd.prog.cellsOf 44 = 5 := by kernel_rfl
theorem cells24 : Tryd.prog.cellsOf 24 = 1 := by kernel_rfl
theorem slice_of {H : Type} {enc : TypeId × Value → H} {W : World} {fuel : Nat} {v : Value} {x : DataW H × List MemPlace} (h : DataW.trod enc Tryd.prog W 0 (fun _ => true) true fuel 24 [v] = some x) : ∃ (a : Option Addr) (n c : Nat) (l : List Int), v = .slice a n c ∧ Reads W (.slice a n c) l ∧ n ≤ 9223372036854775807 := by
  obtain ⟨a, n, c, rfl⟩ : ∃ a n c, v = .slice a n c := by
    rcases Deep.open_slice Tryd.underlying24 h with ⟨hcs, _⟩ | ⟨b, len', cap', m, n, D, Pl, hcs, _⟩
    · simp only [List.cons.injEq, and_true] at hcs
      exact ⟨_, _, _, hcs⟩
    · simp only [List.cons.injEq, and_true] at hcs
      exact ⟨_, _, _, hcs⟩
  obtain ⟨l, hr, _, hm⟩ := open_rows (fun _ : Int => True) Tryd.underlying24 cells3' (fun n cs y h => by
    obtain ⟨k, rfl, _, _⟩ := DataW.trod_int Tryd.underlying3 h
    exact ⟨k, rfl, trivial⟩) h
  exact ⟨a, n, c, l, rfl, hr, hm⟩
/-- A rule, opened. -/
theorem open_cron {H : Type} {enc : TypeId × Value → H} {W : World} {v : Value} {d : DataW H} {p : List MemPlace} (hv : ∃ cs, v = .agg cs ∧ cs.size = Tryd.prog.cellsOf 44) (h : DataW.Trod enc Tryd.prog W 0 (fun _ => true) true 44 v d p) :
    ∃ (ao bo co d0 eo : Option Addr) (l0 l1 l2 l3 l4 ac bc cc dc ec : Nat) (a b c d e : List Int), v = .agg #[.slice ao l0 ac, .slice bo l1 bc, .slice co l2 cc, .slice d0 l3 dc, .slice eo l4 ec] ∧ (Reads W (.slice ao l0 ac) a ∧ Reads W (.slice bo l1 bc) b ∧ Reads W (.slice co l2 cc) c ∧ Reads W (.slice d0 l3 dc) d ∧ Reads W (.slice eo l4 ec) e) ∧ (l0 ≤ 9223372036854775807 ∧ l1 ≤ 9223372036854775807 ∧ l2 ≤ 9223372036854775807 ∧ l3 ≤ 9223372036854775807 ∧ l4 ≤ 9223372036854775807) := by
  obtain ⟨cs, rfl, _⟩ := hv
  obtain ⟨fuel, hf⟩ := h
  obtain ⟨x0, x1, x2, x3, x4, m, hl, e0, e1, e2, e3, e4⟩ := trod_struct5 Tryd.underlying44 hf
  rw [cells41] at hl
  obtain ⟨c0, c1, c2, c3, c4, hcs⟩ := len5 hl
  simp only [cells24, hcs, List.drop_zero, List.drop_succ_cons, List.take_succ_cons, List.take_zero] at e0 e1 e2 e3 e4
  obtain ⟨ao, l0, ac, a, rfl, r0, n0⟩ := slice_of e0
  obtain ⟨bo, l1, bc, b, rfl, r1, n1⟩ := slice_of e1
  obtain ⟨co, l2, cc, c, rfl, r2, n2⟩ := slice_of e2
  obtain ⟨d0, l3, dc, d, rfl, r3, n3⟩ := slice_of e3
  obtain ⟨eo, l4, ec, e, rfl, r4, n4⟩ := slice_of e4
  refine ⟨ao, bo, co, d0, eo, l0, l1, l2, l3, l4, ac, bc, cc, dc, ec, a, b, c, d, e, ?_, ⟨r0, r1, r2, r3, r4⟩, n0, n1, n2, n3, n4⟩
  congr 1
  exact Array.toList_inj.1 hcs
end Go.Proofs.YtbecdaholpiaeaaDoor
