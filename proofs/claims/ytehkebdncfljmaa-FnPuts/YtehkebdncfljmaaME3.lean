/-
  Blocks of five cells. A rule of five fields, as the specification reads it. Whether a rule of five fields is right, as the specification tells it: the walk. A list of a rule in words, as the specification shows it. A rule in words, as the specification writes it.
-/
import Derived.Test.YtehkebdncfljmaaProg
import Derived.Test.YtehkebdncfljmaaGn
import Derived.Test.YtehkebdncfljmaaFd
import Derived.Test.YtehkebdncfljmaaME1
import Derived.Test.YtehkebdncfljmaaCrl
namespace Go.Proofs.Ytehkebdncfljmaa
open Go Go.RowKit

/-- A block of five cells. -/
def B5 (t : TypeId) (W : World) (b : Nat) (x0 x1 x2 x3 x4 : Value) : Prop := W.heap[b]? = some (.cells #[x0, x1, x2, x3, x4] t)
section B5x
variable {t : TypeId} {W W' : World} {b : Nat} {x0 x1 x2 x3 x4 : Value}
theorem B5.lt (h : B5 t W b x0 x1 x2 x3 x4) : b < W.heap.size := (Array.getElem?_eq_some_iff.1 h).1
theorem B5.up (h : B5 t W b x0 x1 x2 x3 x4) (hb : Below W.heap.size W W') : B5 t W' b x0 x1 x2 x3 x4 := (hb.block _ h.lt).trans h
theorem B5.grown {r : Option Nat} (h : B5 t W b x0 x1 x2 x3 x4) (hg : W.grownBy W' r) (hr : some b ≠ r) : B5 t W' b x0 x1 x2 x3 x4 := (hg.block b h.lt hr).trans h
theorem B5.c0 (h : B5 t W b x0 x1 x2 x3 x4) : W.cell? ⟨b, 0, none⟩ = some x0 := by simp [World.cell?, show W.heap[b]? = _ from h]
theorem B5.c1 (h : B5 t W b x0 x1 x2 x3 x4) : W.cell? ⟨b, 1, none⟩ = some x1 := by simp [World.cell?, show W.heap[b]? = _ from h]
theorem B5.c2 (h : B5 t W b x0 x1 x2 x3 x4) : W.cell? ⟨b, 2, none⟩ = some x2 := by simp [World.cell?, show W.heap[b]? = _ from h]
theorem B5.c3 (h : B5 t W b x0 x1 x2 x3 x4) : W.cell? ⟨b, 3, none⟩ = some x3 := by simp [World.cell?, show W.heap[b]? = _ from h]
theorem B5.c4 (h : B5 t W b x0 x1 x2 x3 x4) : W.cell? ⟨b, 4, none⟩ = some x4 := by simp [World.cell?, show W.heap[b]? = _ from h]
theorem B5.fr (h : B5 t W b x0 x1 x2 x3 x4) (o : Nat) : W.frozen? ⟨b, o, none⟩ = false := by simp [World.frozen?, show W.heap[b]? = _ from h]
theorem B5.s0 (h : B5 t W b x0 x1 x2 x3 x4) (u : Value) : B5 t (W.setCell ⟨b, 0, none⟩ u) b u x1 x2 x3 x4 := by simp [B5, World.setCell, Array.getElem?_modify, show W.heap[b]? = _ from h]
theorem B5.s1 (h : B5 t W b x0 x1 x2 x3 x4) (u : Value) : B5 t (W.setCell ⟨b, 1, none⟩ u) b x0 u x2 x3 x4 := by simp [B5, World.setCell, Array.getElem?_modify, show W.heap[b]? = _ from h]
theorem B5.s2 (h : B5 t W b x0 x1 x2 x3 x4) (u : Value) : B5 t (W.setCell ⟨b, 2, none⟩ u) b x0 x1 u x3 x4 := by simp [B5, World.setCell, Array.getElem?_modify, show W.heap[b]? = _ from h]
theorem B5.s3 (h : B5 t W b x0 x1 x2 x3 x4) (u : Value) : B5 t (W.setCell ⟨b, 3, none⟩ u) b x0 x1 x2 u x4 := by simp [B5, World.setCell, Array.getElem?_modify, show W.heap[b]? = _ from h]
theorem B5.s4 (h : B5 t W b x0 x1 x2 x3 x4) (u : Value) : B5 t (W.setCell ⟨b, 4, none⟩ u) b x0 x1 x2 x3 u := by simp [B5, World.setCell, Array.getElem?_modify, show W.heap[b]? = _ from h]
theorem B5.far {p : Addr} (h : B5 t W b x0 x1 x2 x3 x4) (hp : p.block ≠ b) (u : Value) : B5 t (W.setCell p u) b x0 x1 x2 x3 x4 := (heap_setCell_other W p b u (fun e => hp e.symm)).trans h
theorem B5.new (t : TypeId) (W : World) (x0 x1 x2 x3 x4 : Value) : B5 t (W.alloc (.cells #[x0, x1, x2, x3, x4] t)) W.heap.size x0 x1 x2 x3 x4 := by
  show (W.heap.push _)[W.heap.size]? = _; simp
theorem cell_far {p q : Addr} {x : Value} (h : W.cell? q = some x) (hne : p.block ≠ q.block) (u : Value) : (W.setCell p u).cell? q = some x := by
  have e := heap_setCell_other W p q.block u (fun e => hne e.symm)
  unfold World.cell? at h ⊢
  rw [e]
  exact h
theorem B5.alloc (h : B5 t W b x0 x1 x2 x3 x4) (o : Obj) : B5 t (W.alloc o) b x0 x1 x2 x3 x4 := h.up (ba (Below.refl _ _) _)
/-- The five stores of a record. -/
abbrev set5 (W : World) (b : Nat) (u0 u1 u2 u3 u4 : Value) : World := ((((W.setCell ⟨b, 0, none⟩ u0).setCell ⟨b, 1, none⟩ u1).setCell ⟨b, 2, none⟩ u2).setCell ⟨b, 3, none⟩ u3).setCell ⟨b, 4, none⟩ u4
theorem B5.set (h : B5 t W b x0 x1 x2 x3 x4) (u0 u1 u2 u3 u4 : Value) : B5 t (set5 W b u0 u1 u2 u3 u4) b u0 u1 u2 u3 u4 := ((((h.s0 u0).s1 u1).s2 u2).s3 u3).s4 u4
theorem below_set5 {B : Nat} {V : World} (h : Below B V W) (hb : B ≤ b) (u0 u1 u2 u3 u4 : Value) : Below B V (set5 W b u0 u1 u2 u3 u4) :=
  Below.setCell (Below.setCell (Below.setCell (Below.setCell (Below.setCell h hb _) hb _) hb _) hb _) hb _
theorem ownsR.setB {α : Type} [Rec α] {B : Nat} {e : TypeId} {v : Value} {l : List α} {a : Addr} (h : ownsR W B e v l) (ha : a.block < B) (u : Value) : ownsR (W.setCell a u) B e v l := ownsRow_setCell_below h ha u
theorem ownsR_set5 {α : Type} [Rec α] {B : Nat} {e : TypeId} {v : Value} {l : List α} (h : ownsR W B e v l) (hb : b < B) (u0 u1 u2 u3 u4 : Value) : ownsR (set5 W b u0 u1 u2 u3 u4) B e v l :=
  ((((h.setB hb _).setB hb _).setB hb _).setB hb _).setB hb _
theorem ret_c2 {fn : Func} {p u : Tmp} {x : Value} {tmps : Array Value} (h : fn.results = #[.cell p 146, .tmp u]) (hp : tmps.getD p undef = .pointer (some ⟨b, 0, none⟩)) (hu : tmps.getD u undef = x) (hb : B5 146 W b x0 x1 x2 x3 x4) :
    (results fn tmps).run Try.prog W = .ok (.tuple #[.agg #[x0, x1, x2, x3, x4], x]) W := by
  have hp' : tmps[p]?.getD undef = .pointer (some ⟨b, 0, none⟩) := by simpa using hp
  have hu' : tmps[u]?.getD undef = x := by simpa using hu
  simp [results, h, hp', hu', hb.c0, hb.c1, hb.c2, hb.c3, hb.c4, asAddr, go_sem]
end B5x

theorem ret_c1 {W : World} {b : Nat} {x0 x1 x2 x3 x4 : Value} {fn : Func} {p : Tmp} {tmps : Array Value} (h : fn.results = #[.cell p 146]) (hp : tmps.getD p undef = .pointer (some ⟨b, 0, none⟩)) (hb : B5 146 W b x0 x1 x2 x3 x4) :
    (results fn tmps).run Try.prog W = .ok (.agg #[x0, x1, x2, x3, x4]) W := by
  have hp' : tmps[p]?.getD undef = .pointer (some ⟨b, 0, none⟩) := by simpa using hp
  simp [results, h, hp', hb.c0, hb.c1, hb.c2, hb.c3, hb.c4, asAddr, go_sem]
end Go.Proofs.Ytehkebdncfljmaa

namespace Go.Proofs.Ytehkebdncfljmaa
open Go Go.RowKit

/-- What a rule comes to: its five lists. -/
def pcT : List ByteArray → Option (List (List Int))
  | [a, b, c, d, e] => if (fieldO a 0 59).isSome && ((fieldO b 0 23).isSome && ((fieldO c 1 31).isSome && ((fieldO d 1 12).isSome && (fieldO e 0 6).isSome))) then some [fieldL a 0 59, fieldL b 0 23, fieldL c 1 31, fieldL d 1 12, fieldL e 0 6] else none
  | _ => none
def pcO (s : ByteArray) : Option (List (List Int)) := if (partsR s).2 then pcT (texts (partsR s).1) else none
def pcN (o : Option (List (List Int))) (k : Nat) : List Int := ((o.getD [])[k]?).getD []
def PcP (s : ByteArray) (w : World) (e : Ending) (w' : World) : Prop :=
  ∃ v0 v1 v2 v3 v4, e = .returned (.tuple #[.agg #[v0, v1, v2, v3, v4], .bool (pcO s).isSome]) ∧ ownsR w' w.heap.size 3 v0 (pcN (pcO s) 0) ∧ ownsR w' w.heap.size 3 v1 (pcN (pcO s) 1) ∧ ownsR w' w.heap.size 3 v2 (pcN (pcO s) 2) ∧ ownsR w' w.heap.size 3 v3 (pcN (pcO s) 3) ∧ ownsR w' w.heap.size 3 v4 (pcN (pcO s) 4) ∧ Below w.heap.size w w'
theorem ownsR_none {α : Type} [Rec α] (w : World) (B : Nat) (e : TypeId) : ownsR w B e (.slice none 0 0) ([] : List α) := ⟨by simp, .inl ⟨rfl, rfl⟩⟩
theorem pc_no {s : ByteArray} {w W : World} (h : pcO s = none) (hb : Below w.heap.size w W) : PcP s w (.returned (.tuple #[.agg #[.slice none 0 0, .slice none 0 0, .slice none 0 0, .slice none 0 0, .slice none 0 0], .bool false])) W := by
  refine ⟨_, _, _, _, _, by rw [h]; rfl, ?_, ?_, ?_, ?_, ?_, hb⟩ <;> rw [h] <;> exact ownsR_none _ _ _
theorem pcT_len {l : List ByteArray} (h : l.length ≠ 5) : pcT l = none := by
  unfold pcT
  split
  · exact absurd rfl h
  · rfl
theorem fieldsGo_sz : ∀ (l cur t : List UInt8), t ∈ Lib.fieldsGo cur l → t.length ≤ cur.length + l.length
  | [], cur, t, h => by
    unfold Lib.fieldsGo at h
    split at h
    · cases h
    · rw [List.mem_singleton] at h; subst h; simp
  | b :: l, cur, t, h => by
    unfold Lib.fieldsGo at h
    split at h
    · split at h
      · have := fieldsGo_sz l [] t h
        simp at this ⊢; omega
      · rcases List.mem_cons.1 h with rfl | h
        · omega
        · have := fieldsGo_sz l [] t h
          simp at this ⊢; omega
    · have := fieldsGo_sz l (cur ++ [b]) t h
      simp at this ⊢; omega
theorem parts_sz {s t : ByteArray} (h : t ∈ texts (partsR s).1) : t.size ≤ 1048576 := by
  unfold texts at h
  obtain ⟨u, hu, rfl⟩ := List.mem_map.1 h
  unfold partsR at hu
  split at hu
  · cases hu
  · rename_i h6
    split at hu
    · split at hu
      · cases hu
      · have := fieldsGo_sz _ [] u hu
        have h7 : s.data.toList.length = s.size := by simp
        show u.toArray.size ≤ _
        simp at this ⊢
        have h8 : s.data.size = s.size := rfl
        omega
    · cases hu
theorem bools5 {W : World} {B D : Nat} (h : ownsR W B 4 (.slice (some ⟨D, 0, none⟩) 5 5) (List.replicate 5 false)) : B5 4 W D (.bool false) (.bool false) (.bool false) (.bool false) (.bool false) := by
  rcases h.2 with ⟨h2, _⟩ | ⟨g, cap, cur, hv, _, hg, _, _, hz, ht⟩
  · cases h2
  · injection hv with h1 h2 h3
    injection h1 with h1
    injection h1 with h1
    subst h1 h3
    have e : cur = #[.bool false, .bool false, .bool false, .bool false, .bool false] := by
      apply Array.toList_inj.1
      rw [List.take_of_length_le (by rw [Array.length_toList, hz]; exact Nat.le_refl _)] at ht
      rw [ht]; rfl
    rw [e] at hg
    exact hg
theorem five {α : Type} {l : List α} (h : l.length = 5) : ∃ a b c d e, l = [a, b, c, d, e] := by
  match l, h with
  | [a, b, c, d, e], _ => exact ⟨a, b, c, d, e, rfl⟩

set_option maxRecDepth 10000 in
set_option maxHeartbeats 2000000 in
theorem parseCron_any (s : ByteArray) (w : World) (hs : s.size ≤ 1048576) : Calls Try.prog 97 #[.string s] w (PcP s w) := by
  obtain ⟨i0, hi0, hz0, hz1, hz2⟩ := info_parts infoB
  have HPS : Hid (PartsEnd s = PartsEnd s) := rfl
  go_enter Try.func97, Try.ntmps97
  go_wp2_with fail
  refine (specParts_any s _ hs).mono ?_
  rintro e w1 ⟨vp, rfl, hop, hb1⟩
  have ZR : B5 146 w1 w.heap.size (.slice none 0 0) (.slice none 0 0) (.slice none 0 0) (.slice none 0 0) (.slice none 0 0) := (B5.new 146 w (.slice none 0 0) (.slice none 0 0) (.slice none 0 0) (.slice none 0 0) (.slice none 0 0)).up hb1
  have B1 : Below w.heap.size w w1 := below_new hb1
  have hz : w.heap.size < w1.heap.size := ZR.lt
  obtain ⟨ao, cap, rfl⟩ := ownsS_slice hop
  have HOP : Hid (ownsS w1 (w.heap.size + 1) 9 (.slice ao (texts (partsR s).1).length cap) (texts (partsR s).1)) := by show ownsS _ _ _ _ _; simpa using hop
  clear hop hb1 HPS
  have r0 := ZR.c0
  have r1 := ZR.c1
  have r2 := ZR.c2
  have r3 := ZR.c3
  have r4 := ZR.c4
  have rf := ZR.fr
  have HZR : Hid (B5 146 w1 w.heap.size (.slice none 0 0) (.slice none 0 0) (.slice none 0 0) (.slice none 0 0) (.slice none 0 0)) := ZR
  clear ZR
  cases hok : (partsR s).2 with
  | false =>
    have HN : Hid (pcO s = none) := by show _ = _; unfold pcO; rw [hok]; rfl
    clear HOP hok
    generalize (texts (partsR s).1).length = n
    go_wp2
    refine bodyPost_ret (ret_c2 rfl rfl rfl (HZR.out.set (.slice none 0 0) (.slice none 0 0) (.slice none 0 0) (.slice none 0 0) (.slice none 0 0))) rfl ?_
    exact pc_no HN.out (below_set5 B1 (Nat.le_refl _) _ _ _ _ _)
  | true =>
    by_cases h5 : (texts (partsR s).1).length = 5
    · obtain ⟨t0, t1, t2, t3, t4, hT⟩ := five h5
      have HE : Hid (pcO s = pcT [t0, t1, t2, t3, t4]) := by show _ = _; unfold pcO; rw [hok, hT]; rfl
      clear r0 r1 r2 r3 r4 rf hok h5
      have z0 : t0.size ≤ 1048576 := parts_sz (s := s) (by rw [hT]; simp)
      have z1 : t1.size ≤ 1048576 := parts_sz (s := s) (by rw [hT]; simp)
      have z2 : t2.size ≤ 1048576 := parts_sz (s := s) (by rw [hT]; simp)
      have z3 : t3.size ≤ 1048576 := parts_sz (s := s) (by rw [hT]; simp)
      have z4 : t4.size ≤ 1048576 := parts_sz (s := s) (by rw [hT]; simp)
      rw [hT] at HOP
      obtain ⟨gp, cp, hv, hgp, hcp⟩ := ownsS_read HOP.out (by simp)
      obtain ⟨rfl, -⟩ : ao = some ⟨gp, 0, none⟩ ∧ True := ⟨by injection hv, trivial⟩
      have hgl : w.heap.size + 1 ≤ gp := (HOP.out.lt gp rfl).1
      have p0_0 := hcp 0 t0 rfl
      have p1_0 := hcp 1 t1 rfl
      have p2_0 := hcp 2 t2 rfl
      have p3_0 := hcp 3 t3 rfl
      have p4_0 := hcp 4 t4 rfl
      clear hcp hv HOP
      rw [hT]
      obtain ⟨b0, HB0⟩ : ∃ q, Hid ((fieldO t0 0 59).isSome = q) := ⟨_, rfl⟩
      obtain ⟨L0, HL0⟩ : ∃ q, Hid (fieldL t0 0 59 = q) := ⟨_, rfl⟩
      have CF0 : Hid (∀ W, Calls Try.prog 106 #[.string t0, .int .i64 0, .int .i64 59] W fun e w' => ∃ v, e = .returned (.tuple #[v, .bool b0]) ∧ ownsR w' W.heap.size 3 v L0 ∧ Below W.heap.size W w') := fun W => by rw [← HB0.out, ← HL0.out]; exact l10Field_any t0 0 59 W z0 (by decide) (by decide) (by decide)
      obtain ⟨b1, HB1⟩ : ∃ q, Hid ((fieldO t1 0 23).isSome = q) := ⟨_, rfl⟩
      obtain ⟨L1, HL1⟩ : ∃ q, Hid (fieldL t1 0 23 = q) := ⟨_, rfl⟩
      have CF1 : Hid (∀ W, Calls Try.prog 106 #[.string t1, .int .i64 0, .int .i64 23] W fun e w' => ∃ v, e = .returned (.tuple #[v, .bool b1]) ∧ ownsR w' W.heap.size 3 v L1 ∧ Below W.heap.size W w') := fun W => by rw [← HB1.out, ← HL1.out]; exact l10Field_any t1 0 23 W z1 (by decide) (by decide) (by decide)
      obtain ⟨b2, HB2⟩ : ∃ q, Hid ((fieldO t2 1 31).isSome = q) := ⟨_, rfl⟩
      obtain ⟨L2, HL2⟩ : ∃ q, Hid (fieldL t2 1 31 = q) := ⟨_, rfl⟩
      have CF2 : Hid (∀ W, Calls Try.prog 106 #[.string t2, .int .i64 1, .int .i64 31] W fun e w' => ∃ v, e = .returned (.tuple #[v, .bool b2]) ∧ ownsR w' W.heap.size 3 v L2 ∧ Below W.heap.size W w') := fun W => by rw [← HB2.out, ← HL2.out]; exact l10Field_any t2 1 31 W z2 (by decide) (by decide) (by decide)
      obtain ⟨b3, HB3⟩ : ∃ q, Hid ((fieldO t3 1 12).isSome = q) := ⟨_, rfl⟩
      obtain ⟨L3, HL3⟩ : ∃ q, Hid (fieldL t3 1 12 = q) := ⟨_, rfl⟩
      have CF3 : Hid (∀ W, Calls Try.prog 106 #[.string t3, .int .i64 1, .int .i64 12] W fun e w' => ∃ v, e = .returned (.tuple #[v, .bool b3]) ∧ ownsR w' W.heap.size 3 v L3 ∧ Below W.heap.size W w') := fun W => by rw [← HB3.out, ← HL3.out]; exact l10Field_any t3 1 12 W z3 (by decide) (by decide) (by decide)
      obtain ⟨b4, HB4⟩ : ∃ q, Hid ((fieldO t4 0 6).isSome = q) := ⟨_, rfl⟩
      obtain ⟨L4, HL4⟩ : ∃ q, Hid (fieldL t4 0 6 = q) := ⟨_, rfl⟩
      have CF4 : Hid (∀ W, Calls Try.prog 106 #[.string t4, .int .i64 0, .int .i64 6] W fun e w' => ∃ v, e = .returned (.tuple #[v, .bool b4]) ∧ ownsR w' W.heap.size 3 v L4 ∧ Below W.heap.size W w') := fun W => by rw [← HB4.out, ← HL4.out]; exact l10Field_any t4 0 6 W z4 (by decide) (by decide) (by decide)
      clear hT z0 z1 z2 z3 z4
      go_wp2_with (at_make; refine wpList_make_full _ rfl _ _ 157 rfl w.heap.size 4 i0 _ 1 underB hi0 hz0 hz1 .i64 .i64 _ _ 5 rfl rfl rfl rfl (by rw [hz2]; omega) (by unfold maxLen; omega) (by simp; omega) ?_; intro w2 ho hg; have p0_1 := hg.cell (cell_up (ba (Below.refl _ w1) _) p0_0) (by simp); have p1_1 := hg.cell (cell_up (ba (Below.refl _ w1) _) p1_0) (by simp); have p2_1 := hg.cell (cell_up (ba (Below.refl _ w1) _) p2_0) (by simp); have p3_1 := hg.cell (cell_up (ba (Below.refl _ w1) _) p3_0) (by simp); have p4_1 := hg.cell (cell_up (ba (Below.refl _ w1) _) p4_0) (by simp))
      clear p0_0 p1_0 p2_0 p3_0 p4_0
      have ZD1 : B5 4 w2 (w1.heap.size + 1) (.bool false) (.bool false) (.bool false) (.bool false) (.bool false) := by
        rw [made_bools] at ho
        refine bools5 (B := w.heap.size) ?_
        unfold ownsR
        rw [List.length_replicate]
        simp only [World.size_alloc] at ho
        exact ho
      have ZC1 : B5 146 w2 w1.heap.size (.slice none 0 0) (.slice none 0 0) (.slice none 0 0) (.slice none 0 0) (.slice none 0 0) := (B5.new 146 w1 (.slice none 0 0) (.slice none 0 0) (.slice none 0 0) (.slice none 0 0) (.slice none 0 0)).grown hg (by simp)
      have ZR1 : B5 146 w2 w.heap.size (.slice none 0 0) (.slice none 0 0) (.slice none 0 0) (.slice none 0 0) (.slice none 0 0) := (HZR.out.alloc _).grown hg (by simp)
      have X1 : Below w.heap.size w w2 := (ba B1 _).grown hg (by simp; omega) (fun j hj => by cases hj)
      clear HZR B1 ho hg
      obtain ⟨R, hR⟩ : ∃ R, R = w.heap.size := ⟨_, rfl⟩
      obtain ⟨C, hC⟩ : ∃ C, C = w1.heap.size := ⟨_, rfl⟩
      obtain ⟨D, hD⟩ : ∃ D, D = w1.heap.size + 1 := ⟨_, rfl⟩
      have hCD : C ≠ D := by omega
      have hDC : D ≠ C := by omega
      have hRC : C ≠ R := by omega
      have hRD : D ≠ R := by omega
      have hgC : C ≠ gp := by omega
      have hgD : D ≠ gp := by omega
      have kC : w.heap.size ≤ C := by omega
      have kD : w.heap.size ≤ D := by omega
      have lCD : C < D := by omega
      have lRD : R < D + 1 := by omega
      have lwR : w.heap.size ≤ R := by omega
      have lwD : w.heap.size ≤ D + 1 := by omega
      rw [← hD] at ZD1 ⊢
      rw [← hC] at ZC1 ⊢
      rw [← hR] at ZR1 ⊢
      have HRw : Hid (R = w.heap.size) := hR
      clear hz hgp hgl hC hD hR
      have HX1 : Hid (D < w2.heap.size) := ZD1.lt
      refine (CF0.out _).mono ?_
      rintro e y0 ⟨v0, rfl, ho0, hb0⟩
      obtain ⟨a0, n0, d0, rfl⟩ := ho0.slice3
      have p0_2 := cell_up hb0 p0_1
      have p1_2 := cell_up hb0 p1_1
      have p2_2 := cell_up hb0 p2_1
      have p3_2 := cell_up hb0 p3_1
      have p4_2 := cell_up hb0 p4_1
      have ZD2 := ZD1.up hb0
      have ZC2 := ZC1.up hb0
      have ZR2 := ZR1.up hb0
      have X2 : Below w.heap.size w y0 := Below.on X1 hb0
      have HX2 : Hid (D < y0.heap.size) := Nat.lt_of_lt_of_le HX1.out hb0.size
      have O0_2 : Hid (ownsR y0 (D + 1) 3 (.slice a0 n0 d0) L0) := ho0.mono HX1.out
      clear hb0 ho0 ZD1 ZC1 ZR1 X1 HX1 CF0 p0_1 p1_1 p2_1 p3_1 p4_1 
      have sc := ZC2.c0
      have sd := ZD2.c0
      have fc := ZC2.fr 0
      have fd := ZD2.fr 0
      go_wp2_with fail
      clear sc sd fc fd
      have ZC3 : B5 146 ((y0.setCell ⟨C, 0, none⟩ (.slice a0 n0 d0)).setCell ⟨D, 0, none⟩ (.bool b0)) C (.slice a0 n0 d0) (.slice none 0 0) (.slice none 0 0) (.slice none 0 0) (.slice none 0 0) := (ZC2.s0 _).far hDC _
      have ZD3 : B5 4 ((y0.setCell ⟨C, 0, none⟩ (.slice a0 n0 d0)).setCell ⟨D, 0, none⟩ (.bool b0)) D (.bool b0) (.bool false) (.bool false) (.bool false) (.bool false) := (ZD2.far hCD _).s0 _
      have ZR3 : B5 146 ((y0.setCell ⟨C, 0, none⟩ (.slice a0 n0 d0)).setCell ⟨D, 0, none⟩ (.bool b0)) R (.slice none 0 0) (.slice none 0 0) (.slice none 0 0) (.slice none 0 0) (.slice none 0 0) := (ZR2.far hRC _).far hRD _
      have X3 : Below w.heap.size w ((y0.setCell ⟨C, 0, none⟩ (.slice a0 n0 d0)).setCell ⟨D, 0, none⟩ (.bool b0)) := Below.setCell (Below.setCell X2 kC _) kD _
      have HX3 : Hid (D < ((y0.setCell ⟨C, 0, none⟩ (.slice a0 n0 d0)).setCell ⟨D, 0, none⟩ (.bool b0)).heap.size) := by show D < _; simpa using HX2.out
      have p0_3 : ((y0.setCell ⟨C, 0, none⟩ (.slice a0 n0 d0)).setCell ⟨D, 0, none⟩ (.bool b0)).cell? ⟨gp, 0, none⟩ = some (.string t0) := cell_far (cell_far p0_2 hgC _) hgD _
      have p1_3 : ((y0.setCell ⟨C, 0, none⟩ (.slice a0 n0 d0)).setCell ⟨D, 0, none⟩ (.bool b0)).cell? ⟨gp, 1, none⟩ = some (.string t1) := cell_far (cell_far p1_2 hgC _) hgD _
      have p2_3 : ((y0.setCell ⟨C, 0, none⟩ (.slice a0 n0 d0)).setCell ⟨D, 0, none⟩ (.bool b0)).cell? ⟨gp, 2, none⟩ = some (.string t2) := cell_far (cell_far p2_2 hgC _) hgD _
      have p3_3 : ((y0.setCell ⟨C, 0, none⟩ (.slice a0 n0 d0)).setCell ⟨D, 0, none⟩ (.bool b0)).cell? ⟨gp, 3, none⟩ = some (.string t3) := cell_far (cell_far p3_2 hgC _) hgD _
      have p4_3 : ((y0.setCell ⟨C, 0, none⟩ (.slice a0 n0 d0)).setCell ⟨D, 0, none⟩ (.bool b0)).cell? ⟨gp, 4, none⟩ = some (.string t4) := cell_far (cell_far p4_2 hgC _) hgD _
      have O0_3 : Hid (ownsR ((y0.setCell ⟨C, 0, none⟩ (.slice a0 n0 d0)).setCell ⟨D, 0, none⟩ (.bool b0)) (D + 1) 3 (.slice a0 n0 d0) L0) := (O0_2.out.setB (by show C < D + 1; omega) _).setB (by show D < D + 1; omega) _
      clear ZD2 ZC2 ZR2 X2 HX2 p0_2 p1_2 p2_2 p3_2 p4_2 O0_2
      refine (CF1.out _).mono ?_
      rintro e y1 ⟨v1, rfl, ho1, hb1⟩
      obtain ⟨a1, n1, d1, rfl⟩ := ho1.slice3
      have p0_4 := cell_up hb1 p0_3
      have p1_4 := cell_up hb1 p1_3
      have p2_4 := cell_up hb1 p2_3
      have p3_4 := cell_up hb1 p3_3
      have p4_4 := cell_up hb1 p4_3
      have ZD4 := ZD3.up hb1
      have ZC4 := ZC3.up hb1
      have ZR4 := ZR3.up hb1
      have X4 : Below w.heap.size w y1 := Below.on X3 hb1
      have O0_4 : Hid (ownsR y1 (D + 1) 3 (.slice a0 n0 d0) L0) := O0_3.out.all hb1
      have HX4 : Hid (D < y1.heap.size) := Nat.lt_of_lt_of_le HX3.out hb1.size
      have O1_4 : Hid (ownsR y1 (D + 1) 3 (.slice a1 n1 d1) L1) := ho1.mono HX3.out
      clear hb1 ho1 ZD3 ZC3 ZR3 X3 HX3 CF1 p0_3 p1_3 p2_3 p3_3 p4_3 O0_3
      have sc := ZC4.c1
      have sd := ZD4.c1
      have fc := ZC4.fr 1
      have fd := ZD4.fr 1
      go_wp2_with fail
      clear sc sd fc fd
      have ZC5 : B5 146 ((y1.setCell ⟨C, 1, none⟩ (.slice a1 n1 d1)).setCell ⟨D, 1, none⟩ (.bool b1)) C (.slice a0 n0 d0) (.slice a1 n1 d1) (.slice none 0 0) (.slice none 0 0) (.slice none 0 0) := (ZC4.s1 _).far hDC _
      have ZD5 : B5 4 ((y1.setCell ⟨C, 1, none⟩ (.slice a1 n1 d1)).setCell ⟨D, 1, none⟩ (.bool b1)) D (.bool b0) (.bool b1) (.bool false) (.bool false) (.bool false) := (ZD4.far hCD _).s1 _
      have ZR5 : B5 146 ((y1.setCell ⟨C, 1, none⟩ (.slice a1 n1 d1)).setCell ⟨D, 1, none⟩ (.bool b1)) R (.slice none 0 0) (.slice none 0 0) (.slice none 0 0) (.slice none 0 0) (.slice none 0 0) := (ZR4.far hRC _).far hRD _
      have X5 : Below w.heap.size w ((y1.setCell ⟨C, 1, none⟩ (.slice a1 n1 d1)).setCell ⟨D, 1, none⟩ (.bool b1)) := Below.setCell (Below.setCell X4 kC _) kD _
      have HX5 : Hid (D < ((y1.setCell ⟨C, 1, none⟩ (.slice a1 n1 d1)).setCell ⟨D, 1, none⟩ (.bool b1)).heap.size) := by show D < _; simpa using HX4.out
      have p0_5 : ((y1.setCell ⟨C, 1, none⟩ (.slice a1 n1 d1)).setCell ⟨D, 1, none⟩ (.bool b1)).cell? ⟨gp, 0, none⟩ = some (.string t0) := cell_far (cell_far p0_4 hgC _) hgD _
      have p1_5 : ((y1.setCell ⟨C, 1, none⟩ (.slice a1 n1 d1)).setCell ⟨D, 1, none⟩ (.bool b1)).cell? ⟨gp, 1, none⟩ = some (.string t1) := cell_far (cell_far p1_4 hgC _) hgD _
      have p2_5 : ((y1.setCell ⟨C, 1, none⟩ (.slice a1 n1 d1)).setCell ⟨D, 1, none⟩ (.bool b1)).cell? ⟨gp, 2, none⟩ = some (.string t2) := cell_far (cell_far p2_4 hgC _) hgD _
      have p3_5 : ((y1.setCell ⟨C, 1, none⟩ (.slice a1 n1 d1)).setCell ⟨D, 1, none⟩ (.bool b1)).cell? ⟨gp, 3, none⟩ = some (.string t3) := cell_far (cell_far p3_4 hgC _) hgD _
      have p4_5 : ((y1.setCell ⟨C, 1, none⟩ (.slice a1 n1 d1)).setCell ⟨D, 1, none⟩ (.bool b1)).cell? ⟨gp, 4, none⟩ = some (.string t4) := cell_far (cell_far p4_4 hgC _) hgD _
      have O0_5 : Hid (ownsR ((y1.setCell ⟨C, 1, none⟩ (.slice a1 n1 d1)).setCell ⟨D, 1, none⟩ (.bool b1)) (D + 1) 3 (.slice a0 n0 d0) L0) := (O0_4.out.setB (by show C < D + 1; omega) _).setB (by show D < D + 1; omega) _
      have O1_5 : Hid (ownsR ((y1.setCell ⟨C, 1, none⟩ (.slice a1 n1 d1)).setCell ⟨D, 1, none⟩ (.bool b1)) (D + 1) 3 (.slice a1 n1 d1) L1) := (O1_4.out.setB (by show C < D + 1; omega) _).setB (by show D < D + 1; omega) _
      clear ZD4 ZC4 ZR4 X4 HX4 p0_4 p1_4 p2_4 p3_4 p4_4 O0_4 O1_4
      refine (CF2.out _).mono ?_
      rintro e y2 ⟨v2, rfl, ho2, hb2⟩
      obtain ⟨a2, n2, d2, rfl⟩ := ho2.slice3
      have p0_6 := cell_up hb2 p0_5
      have p1_6 := cell_up hb2 p1_5
      have p2_6 := cell_up hb2 p2_5
      have p3_6 := cell_up hb2 p3_5
      have p4_6 := cell_up hb2 p4_5
      have ZD6 := ZD5.up hb2
      have ZC6 := ZC5.up hb2
      have ZR6 := ZR5.up hb2
      have X6 : Below w.heap.size w y2 := Below.on X5 hb2
      have O0_6 : Hid (ownsR y2 (D + 1) 3 (.slice a0 n0 d0) L0) := O0_5.out.all hb2
      have O1_6 : Hid (ownsR y2 (D + 1) 3 (.slice a1 n1 d1) L1) := O1_5.out.all hb2
      have HX6 : Hid (D < y2.heap.size) := Nat.lt_of_lt_of_le HX5.out hb2.size
      have O2_6 : Hid (ownsR y2 (D + 1) 3 (.slice a2 n2 d2) L2) := ho2.mono HX5.out
      clear hb2 ho2 ZD5 ZC5 ZR5 X5 HX5 CF2 p0_5 p1_5 p2_5 p3_5 p4_5 O0_5 O1_5
      have sc := ZC6.c2
      have sd := ZD6.c2
      have fc := ZC6.fr 2
      have fd := ZD6.fr 2
      go_wp2_with fail
      clear sc sd fc fd
      have ZC7 : B5 146 ((y2.setCell ⟨C, 2, none⟩ (.slice a2 n2 d2)).setCell ⟨D, 2, none⟩ (.bool b2)) C (.slice a0 n0 d0) (.slice a1 n1 d1) (.slice a2 n2 d2) (.slice none 0 0) (.slice none 0 0) := (ZC6.s2 _).far hDC _
      have ZD7 : B5 4 ((y2.setCell ⟨C, 2, none⟩ (.slice a2 n2 d2)).setCell ⟨D, 2, none⟩ (.bool b2)) D (.bool b0) (.bool b1) (.bool b2) (.bool false) (.bool false) := (ZD6.far hCD _).s2 _
      have ZR7 : B5 146 ((y2.setCell ⟨C, 2, none⟩ (.slice a2 n2 d2)).setCell ⟨D, 2, none⟩ (.bool b2)) R (.slice none 0 0) (.slice none 0 0) (.slice none 0 0) (.slice none 0 0) (.slice none 0 0) := (ZR6.far hRC _).far hRD _
      have X7 : Below w.heap.size w ((y2.setCell ⟨C, 2, none⟩ (.slice a2 n2 d2)).setCell ⟨D, 2, none⟩ (.bool b2)) := Below.setCell (Below.setCell X6 kC _) kD _
      have HX7 : Hid (D < ((y2.setCell ⟨C, 2, none⟩ (.slice a2 n2 d2)).setCell ⟨D, 2, none⟩ (.bool b2)).heap.size) := by show D < _; simpa using HX6.out
      have p0_7 : ((y2.setCell ⟨C, 2, none⟩ (.slice a2 n2 d2)).setCell ⟨D, 2, none⟩ (.bool b2)).cell? ⟨gp, 0, none⟩ = some (.string t0) := cell_far (cell_far p0_6 hgC _) hgD _
      have p1_7 : ((y2.setCell ⟨C, 2, none⟩ (.slice a2 n2 d2)).setCell ⟨D, 2, none⟩ (.bool b2)).cell? ⟨gp, 1, none⟩ = some (.string t1) := cell_far (cell_far p1_6 hgC _) hgD _
      have p2_7 : ((y2.setCell ⟨C, 2, none⟩ (.slice a2 n2 d2)).setCell ⟨D, 2, none⟩ (.bool b2)).cell? ⟨gp, 2, none⟩ = some (.string t2) := cell_far (cell_far p2_6 hgC _) hgD _
      have p3_7 : ((y2.setCell ⟨C, 2, none⟩ (.slice a2 n2 d2)).setCell ⟨D, 2, none⟩ (.bool b2)).cell? ⟨gp, 3, none⟩ = some (.string t3) := cell_far (cell_far p3_6 hgC _) hgD _
      have p4_7 : ((y2.setCell ⟨C, 2, none⟩ (.slice a2 n2 d2)).setCell ⟨D, 2, none⟩ (.bool b2)).cell? ⟨gp, 4, none⟩ = some (.string t4) := cell_far (cell_far p4_6 hgC _) hgD _
      have O0_7 : Hid (ownsR ((y2.setCell ⟨C, 2, none⟩ (.slice a2 n2 d2)).setCell ⟨D, 2, none⟩ (.bool b2)) (D + 1) 3 (.slice a0 n0 d0) L0) := (O0_6.out.setB (by show C < D + 1; omega) _).setB (by show D < D + 1; omega) _
      have O1_7 : Hid (ownsR ((y2.setCell ⟨C, 2, none⟩ (.slice a2 n2 d2)).setCell ⟨D, 2, none⟩ (.bool b2)) (D + 1) 3 (.slice a1 n1 d1) L1) := (O1_6.out.setB (by show C < D + 1; omega) _).setB (by show D < D + 1; omega) _
      have O2_7 : Hid (ownsR ((y2.setCell ⟨C, 2, none⟩ (.slice a2 n2 d2)).setCell ⟨D, 2, none⟩ (.bool b2)) (D + 1) 3 (.slice a2 n2 d2) L2) := (O2_6.out.setB (by show C < D + 1; omega) _).setB (by show D < D + 1; omega) _
      clear ZD6 ZC6 ZR6 X6 HX6 p0_6 p1_6 p2_6 p3_6 p4_6 O0_6 O1_6 O2_6
      refine (CF3.out _).mono ?_
      rintro e y3 ⟨v3, rfl, ho3, hb3⟩
      obtain ⟨a3, n3, d3, rfl⟩ := ho3.slice3
      have p0_8 := cell_up hb3 p0_7
      have p1_8 := cell_up hb3 p1_7
      have p2_8 := cell_up hb3 p2_7
      have p3_8 := cell_up hb3 p3_7
      have p4_8 := cell_up hb3 p4_7
      have ZD8 := ZD7.up hb3
      have ZC8 := ZC7.up hb3
      have ZR8 := ZR7.up hb3
      have X8 : Below w.heap.size w y3 := Below.on X7 hb3
      have O0_8 : Hid (ownsR y3 (D + 1) 3 (.slice a0 n0 d0) L0) := O0_7.out.all hb3
      have O1_8 : Hid (ownsR y3 (D + 1) 3 (.slice a1 n1 d1) L1) := O1_7.out.all hb3
      have O2_8 : Hid (ownsR y3 (D + 1) 3 (.slice a2 n2 d2) L2) := O2_7.out.all hb3
      have HX8 : Hid (D < y3.heap.size) := Nat.lt_of_lt_of_le HX7.out hb3.size
      have O3_8 : Hid (ownsR y3 (D + 1) 3 (.slice a3 n3 d3) L3) := ho3.mono HX7.out
      clear hb3 ho3 ZD7 ZC7 ZR7 X7 HX7 CF3 p0_7 p1_7 p2_7 p3_7 p4_7 O0_7 O1_7 O2_7
      have sc := ZC8.c3
      have sd := ZD8.c3
      have fc := ZC8.fr 3
      have fd := ZD8.fr 3
      go_wp2_with fail
      clear sc sd fc fd
      have ZC9 : B5 146 ((y3.setCell ⟨C, 3, none⟩ (.slice a3 n3 d3)).setCell ⟨D, 3, none⟩ (.bool b3)) C (.slice a0 n0 d0) (.slice a1 n1 d1) (.slice a2 n2 d2) (.slice a3 n3 d3) (.slice none 0 0) := (ZC8.s3 _).far hDC _
      have ZD9 : B5 4 ((y3.setCell ⟨C, 3, none⟩ (.slice a3 n3 d3)).setCell ⟨D, 3, none⟩ (.bool b3)) D (.bool b0) (.bool b1) (.bool b2) (.bool b3) (.bool false) := (ZD8.far hCD _).s3 _
      have ZR9 : B5 146 ((y3.setCell ⟨C, 3, none⟩ (.slice a3 n3 d3)).setCell ⟨D, 3, none⟩ (.bool b3)) R (.slice none 0 0) (.slice none 0 0) (.slice none 0 0) (.slice none 0 0) (.slice none 0 0) := (ZR8.far hRC _).far hRD _
      have X9 : Below w.heap.size w ((y3.setCell ⟨C, 3, none⟩ (.slice a3 n3 d3)).setCell ⟨D, 3, none⟩ (.bool b3)) := Below.setCell (Below.setCell X8 kC _) kD _
      have HX9 : Hid (D < ((y3.setCell ⟨C, 3, none⟩ (.slice a3 n3 d3)).setCell ⟨D, 3, none⟩ (.bool b3)).heap.size) := by show D < _; simpa using HX8.out
      have p0_9 : ((y3.setCell ⟨C, 3, none⟩ (.slice a3 n3 d3)).setCell ⟨D, 3, none⟩ (.bool b3)).cell? ⟨gp, 0, none⟩ = some (.string t0) := cell_far (cell_far p0_8 hgC _) hgD _
      have p1_9 : ((y3.setCell ⟨C, 3, none⟩ (.slice a3 n3 d3)).setCell ⟨D, 3, none⟩ (.bool b3)).cell? ⟨gp, 1, none⟩ = some (.string t1) := cell_far (cell_far p1_8 hgC _) hgD _
      have p2_9 : ((y3.setCell ⟨C, 3, none⟩ (.slice a3 n3 d3)).setCell ⟨D, 3, none⟩ (.bool b3)).cell? ⟨gp, 2, none⟩ = some (.string t2) := cell_far (cell_far p2_8 hgC _) hgD _
      have p3_9 : ((y3.setCell ⟨C, 3, none⟩ (.slice a3 n3 d3)).setCell ⟨D, 3, none⟩ (.bool b3)).cell? ⟨gp, 3, none⟩ = some (.string t3) := cell_far (cell_far p3_8 hgC _) hgD _
      have p4_9 : ((y3.setCell ⟨C, 3, none⟩ (.slice a3 n3 d3)).setCell ⟨D, 3, none⟩ (.bool b3)).cell? ⟨gp, 4, none⟩ = some (.string t4) := cell_far (cell_far p4_8 hgC _) hgD _
      have O0_9 : Hid (ownsR ((y3.setCell ⟨C, 3, none⟩ (.slice a3 n3 d3)).setCell ⟨D, 3, none⟩ (.bool b3)) (D + 1) 3 (.slice a0 n0 d0) L0) := (O0_8.out.setB (by show C < D + 1; omega) _).setB (by show D < D + 1; omega) _
      have O1_9 : Hid (ownsR ((y3.setCell ⟨C, 3, none⟩ (.slice a3 n3 d3)).setCell ⟨D, 3, none⟩ (.bool b3)) (D + 1) 3 (.slice a1 n1 d1) L1) := (O1_8.out.setB (by show C < D + 1; omega) _).setB (by show D < D + 1; omega) _
      have O2_9 : Hid (ownsR ((y3.setCell ⟨C, 3, none⟩ (.slice a3 n3 d3)).setCell ⟨D, 3, none⟩ (.bool b3)) (D + 1) 3 (.slice a2 n2 d2) L2) := (O2_8.out.setB (by show C < D + 1; omega) _).setB (by show D < D + 1; omega) _
      have O3_9 : Hid (ownsR ((y3.setCell ⟨C, 3, none⟩ (.slice a3 n3 d3)).setCell ⟨D, 3, none⟩ (.bool b3)) (D + 1) 3 (.slice a3 n3 d3) L3) := (O3_8.out.setB (by show C < D + 1; omega) _).setB (by show D < D + 1; omega) _
      clear ZD8 ZC8 ZR8 X8 HX8 p0_8 p1_8 p2_8 p3_8 p4_8 O0_8 O1_8 O2_8 O3_8
      refine (CF4.out _).mono ?_
      rintro e y4 ⟨v4, rfl, ho4, hb4⟩
      obtain ⟨a4, n4, d4, rfl⟩ := ho4.slice3
      have p0_10 := cell_up hb4 p0_9
      have p1_10 := cell_up hb4 p1_9
      have p2_10 := cell_up hb4 p2_9
      have p3_10 := cell_up hb4 p3_9
      have p4_10 := cell_up hb4 p4_9
      have ZD10 := ZD9.up hb4
      have ZC10 := ZC9.up hb4
      have ZR10 := ZR9.up hb4
      have X10 : Below w.heap.size w y4 := Below.on X9 hb4
      have O0_10 : Hid (ownsR y4 (D + 1) 3 (.slice a0 n0 d0) L0) := O0_9.out.all hb4
      have O1_10 : Hid (ownsR y4 (D + 1) 3 (.slice a1 n1 d1) L1) := O1_9.out.all hb4
      have O2_10 : Hid (ownsR y4 (D + 1) 3 (.slice a2 n2 d2) L2) := O2_9.out.all hb4
      have O3_10 : Hid (ownsR y4 (D + 1) 3 (.slice a3 n3 d3) L3) := O3_9.out.all hb4
      have HX10 : Hid (D < y4.heap.size) := Nat.lt_of_lt_of_le HX9.out hb4.size
      have O4_10 : Hid (ownsR y4 (D + 1) 3 (.slice a4 n4 d4) L4) := ho4.mono HX9.out
      clear hb4 ho4 ZD9 ZC9 ZR9 X9 HX9 CF4 p0_9 p1_9 p2_9 p3_9 p4_9 O0_9 O1_9 O2_9 O3_9
      have sc := ZC10.c4
      have sd := ZD10.c4
      have fc := ZC10.fr 4
      have fd := ZD10.fr 4
      go_wp2
      clear sc sd fc fd
      have ZC11 : B5 146 ((y4.setCell ⟨C, 4, none⟩ (.slice a4 n4 d4)).setCell ⟨D, 4, none⟩ (.bool b4)) C (.slice a0 n0 d0) (.slice a1 n1 d1) (.slice a2 n2 d2) (.slice a3 n3 d3) (.slice a4 n4 d4) := (ZC10.s4 _).far hDC _
      have ZD11 : B5 4 ((y4.setCell ⟨C, 4, none⟩ (.slice a4 n4 d4)).setCell ⟨D, 4, none⟩ (.bool b4)) D (.bool b0) (.bool b1) (.bool b2) (.bool b3) (.bool b4) := (ZD10.far hCD _).s4 _
      have ZR11 : B5 146 ((y4.setCell ⟨C, 4, none⟩ (.slice a4 n4 d4)).setCell ⟨D, 4, none⟩ (.bool b4)) R (.slice none 0 0) (.slice none 0 0) (.slice none 0 0) (.slice none 0 0) (.slice none 0 0) := (ZR10.far hRC _).far hRD _
      have X11 : Below w.heap.size w ((y4.setCell ⟨C, 4, none⟩ (.slice a4 n4 d4)).setCell ⟨D, 4, none⟩ (.bool b4)) := Below.setCell (Below.setCell X10 kC _) kD _
      have HX11 : Hid (D < ((y4.setCell ⟨C, 4, none⟩ (.slice a4 n4 d4)).setCell ⟨D, 4, none⟩ (.bool b4)).heap.size) := by show D < _; simpa using HX10.out
      have p0_11 : ((y4.setCell ⟨C, 4, none⟩ (.slice a4 n4 d4)).setCell ⟨D, 4, none⟩ (.bool b4)).cell? ⟨gp, 0, none⟩ = some (.string t0) := cell_far (cell_far p0_10 hgC _) hgD _
      have p1_11 : ((y4.setCell ⟨C, 4, none⟩ (.slice a4 n4 d4)).setCell ⟨D, 4, none⟩ (.bool b4)).cell? ⟨gp, 1, none⟩ = some (.string t1) := cell_far (cell_far p1_10 hgC _) hgD _
      have p2_11 : ((y4.setCell ⟨C, 4, none⟩ (.slice a4 n4 d4)).setCell ⟨D, 4, none⟩ (.bool b4)).cell? ⟨gp, 2, none⟩ = some (.string t2) := cell_far (cell_far p2_10 hgC _) hgD _
      have p3_11 : ((y4.setCell ⟨C, 4, none⟩ (.slice a4 n4 d4)).setCell ⟨D, 4, none⟩ (.bool b4)).cell? ⟨gp, 3, none⟩ = some (.string t3) := cell_far (cell_far p3_10 hgC _) hgD _
      have p4_11 : ((y4.setCell ⟨C, 4, none⟩ (.slice a4 n4 d4)).setCell ⟨D, 4, none⟩ (.bool b4)).cell? ⟨gp, 4, none⟩ = some (.string t4) := cell_far (cell_far p4_10 hgC _) hgD _
      have O0_11 : Hid (ownsR ((y4.setCell ⟨C, 4, none⟩ (.slice a4 n4 d4)).setCell ⟨D, 4, none⟩ (.bool b4)) (D + 1) 3 (.slice a0 n0 d0) L0) := (O0_10.out.setB (by show C < D + 1; omega) _).setB (by show D < D + 1; omega) _
      have O1_11 : Hid (ownsR ((y4.setCell ⟨C, 4, none⟩ (.slice a4 n4 d4)).setCell ⟨D, 4, none⟩ (.bool b4)) (D + 1) 3 (.slice a1 n1 d1) L1) := (O1_10.out.setB (by show C < D + 1; omega) _).setB (by show D < D + 1; omega) _
      have O2_11 : Hid (ownsR ((y4.setCell ⟨C, 4, none⟩ (.slice a4 n4 d4)).setCell ⟨D, 4, none⟩ (.bool b4)) (D + 1) 3 (.slice a2 n2 d2) L2) := (O2_10.out.setB (by show C < D + 1; omega) _).setB (by show D < D + 1; omega) _
      have O3_11 : Hid (ownsR ((y4.setCell ⟨C, 4, none⟩ (.slice a4 n4 d4)).setCell ⟨D, 4, none⟩ (.bool b4)) (D + 1) 3 (.slice a3 n3 d3) L3) := (O3_10.out.setB (by show C < D + 1; omega) _).setB (by show D < D + 1; omega) _
      have O4_11 : Hid (ownsR ((y4.setCell ⟨C, 4, none⟩ (.slice a4 n4 d4)).setCell ⟨D, 4, none⟩ (.bool b4)) (D + 1) 3 (.slice a4 n4 d4) L4) := (O4_10.out.setB (by show C < D + 1; omega) _).setB (by show D < D + 1; omega) _
      clear ZD10 ZC10 ZR10 X10 HX10 p0_10 p1_10 p2_10 p3_10 p4_10 O0_10 O1_10 O2_10 O3_10 O4_10
      generalize ((y4.setCell ⟨C, 4, none⟩ (.slice a4 n4 d4)).setCell ⟨D, 4, none⟩ (.bool b4)) = Y at *
      clear p0_11 p1_11 p2_11 p3_11 p4_11 HX11
      have HA : Hid (pcO s = if [b0, b1, b2, b3, b4].all id then some [L0, L1, L2, L3, L4] else none) := by
        show _ = _
        rw [HE.out]
        simp [pcT, HB0.out, HB1.out, HB2.out, HB3.out, HB4.out, HL0.out, HL1.out, HL2.out, HL3.out, HL4.out]
      have HD : Hid (∀ j y, [b0, b1, b2, b3, b4][j]? = some y → Y.cell? ⟨D, j, none⟩ = some (.bool y)) := fun j y h => by
        match j, h with
        | 0, h => cases h; exact ZD11.c0
        | 1, h => cases h; exact ZD11.c1
        | 2, h => cases h; exact ZD11.c2
        | 3, h => cases h; exact ZD11.c3
        | 4, h => cases h; exact ZD11.c4
      obtain ⟨bl, hbl, hlen⟩ : ∃ q : List Bool, q = [b0, b1, b2, b3, b4] ∧ q.length = 5 := ⟨_, rfl, rfl⟩
      rw [← hbl] at HA HD
      have HZR : Hid (B5 146 Y R (.slice none 0 0) (.slice none 0 0) (.slice none 0 0) (.slice none 0 0) (.slice none 0 0)) := ZR11
      have HZC : Hid (B5 146 Y C (.slice a0 n0 d0) (.slice a1 n1 d1) (.slice a2 n2 d2) (.slice a3 n3 d3) (.slice a4 n4 d4)) := ZC11
      have HX : Hid (Below w.heap.size w Y) := X11
      have HLR : Hid (w.heap.size ≤ R ∧ R < D + 1 ∧ w.heap.size ≤ D + 1) := ⟨lwR, lRD, lwD⟩
      clear HRw ZD11 ZC11 ZR11 X11 HE hbl HB0 HB1 HB2 HB3 HB4 HL0 HL1 HL2 HL3 HL4 hCD hDC hRC hRD hgC hgD kC kD lCD lRD lwR lwD hs hi0 hz0 hz1 hz2
      go_loopw [8] (fun i wr => ∃ k : Nat, k ≤ 5 ∧ i = .int .i64 k ∧ wr = Y ∧ Hid (∀ j, j < k → bl[j]? = some true)) (fun i _ => (5 - intOf i).toNat)
      case atStart => exact ⟨0, Nat.zero_le _, rfl, rfl, fun j hj => absurd hj (Nat.not_lt_zero _)⟩
      case round =>
        obtain ⟨k, hk, rfl, rfl, HK⟩ := hrel
        by_cases hlt : k < 5
        · obtain ⟨y, HYY⟩ : ∃ y, Hid (bl[k]? = some y) := ⟨_, List.getElem?_eq_getElem (by rw [hlen]; exact hlt)⟩
          have qd := HD.out k y HYY.out
          cases y with
          | false =>
            have HN : Hid (pcO s = none) := by
              show _ = _
              rw [HA.out, if_neg]
              intro h
              have := List.all_eq_true.1 h _ (List.mem_of_getElem? HYY.out)
              cases this
            have r0 := HZR.out.c0
            have r1 := HZR.out.c1
            have r2 := HZR.out.c2
            have r3 := HZR.out.c3
            have r4 := HZR.out.c4
            have rf := HZR.out.fr
            go_wp2
            refine bodyPost_ret (ret_c2 rfl rfl rfl (HZR.out.set (.slice none 0 0) (.slice none 0 0) (.slice none 0 0) (.slice none 0 0) (.slice none 0 0))) rfl ?_
            exact pc_no HN.out (below_set5 HX.out HLR.out.1 _ _ _ _ _)
          | true =>
            go_wp2
            go_roundw
            case rel => exact ⟨k + 1, by omega, by go_num, by first | rfl | trivial, fun j hj => (Nat.lt_succ_iff_lt_or_eq.1 hj).elim (HK.out j) (fun e => by rw [e]; exact HYY.out)⟩
            case measure => simp [intOf]; omega
        · have hk5 : k = 5 := by omega
          subst hk5
          have HY : Hid (pcO s = some [L0, L1, L2, L3, L4]) := by
            show _ = _
            rw [HA.out, if_pos]
            rw [List.all_eq_true]
            intro x hx
            obtain ⟨j, hj, rfl⟩ := List.mem_iff_getElem.1 hx
            have := HK.out j (by omega)
            rw [List.getElem?_eq_getElem hj] at this
            exact Option.some.inj this
          have r0 := HZR.out.c0
          have r1 := HZR.out.c1
          have r2 := HZR.out.c2
          have r3 := HZR.out.c3
          have r4 := HZR.out.c4
          have rf := HZR.out.fr
          have e0 := HZC.out.c0
          have e1 := HZC.out.c1
          have e2 := HZC.out.c2
          have e3 := HZC.out.c3
          have e4 := HZC.out.c4
          go_wp2
          refine bodyPost_ret (ret_c2 rfl rfl rfl (HZR.out.set (.slice a0 n0 d0) (.slice a1 n1 d1) (.slice a2 n2 d2) (.slice a3 n3 d3) (.slice a4 n4 d4))) rfl ?_
          refine ⟨_, _, _, _, _, by rw [HY.out]; rfl, ?_, ?_, ?_, ?_, ?_, below_set5 HX.out HLR.out.1 _ _ _ _ _⟩
          · rw [HY.out]; exact (ownsR_set5 O0_11.out HLR.out.2.1 _ _ _ _ _).mono HLR.out.2.2
          · rw [HY.out]; exact (ownsR_set5 O1_11.out HLR.out.2.1 _ _ _ _ _).mono HLR.out.2.2
          · rw [HY.out]; exact (ownsR_set5 O2_11.out HLR.out.2.1 _ _ _ _ _).mono HLR.out.2.2
          · rw [HY.out]; exact (ownsR_set5 O3_11.out HLR.out.2.1 _ _ _ _ _).mono HLR.out.2.2
          · rw [HY.out]; exact (ownsR_set5 O4_11.out HLR.out.2.1 _ _ _ _ _).mono HLR.out.2.2
    · have HN : Hid (pcO s = none) := by show _ = _; unfold pcO; rw [hok, pcT_len h5]; rfl
      clear HOP hok
      generalize (texts (partsR s).1).length = n at h5
      have h5' : ¬ ((n : Int) = 5) := by omega
      go_wp2
      refine bodyPost_ret (ret_c2 rfl rfl rfl (HZR.out.set (.slice none 0 0) (.slice none 0 0) (.slice none 0 0) (.slice none 0 0) (.slice none 0 0))) rfl ?_
      exact pc_no HN.out (below_set5 B1 (Nat.le_refl _) _ _ _ _ _)
end Go.Proofs.Ytehkebdncfljmaa

namespace Go.Proofs.Ytehkebdncfljmaa
open Go Go.RowKit

def cronB (a b c d e : List Int) : Bool := listB 0 59 a && (listB 0 23 b && (listB 1 31 c && (listB 1 12 d && listB 0 6 e)))
set_option maxRecDepth 10000 in
set_option maxHeartbeats 2000000 in
theorem cronOk_any (va vb vc vd ve : Value) (a b c d e : List Int) (w : World) (h1 : Reads w va a) (h2 : Reads w vb b) (h3 : Reads w vc c) (h4 : Reads w vd d) (h5 : Reads w ve e)
    (n1 : a.length ≤ 1048577) (n2 : b.length ≤ 1048577) (n3 : c.length ≤ 1048577) (n4 : d.length ≤ 1048577) (n5 : e.length ≤ 1048577) :
    Calls Try.prog 107 #[.agg #[va, vb, vc, vd, ve]] w fun x w' => x = .returned (.bool (cronB a b c d e)) ∧ Below w.heap.size w w' := by
  obtain ⟨ao, ac, rfl, _⟩ := id h1
  obtain ⟨bo, bc, rfl, _⟩ := id h2
  obtain ⟨co, cc, rfl, _⟩ := id h3
  obtain ⟨d0, dc, rfl, _⟩ := id h4
  obtain ⟨eo, ec, rfl, _⟩ := id h5
  have H1 : Hid (∀ w', Below w.heap.size w w' → Calls Try.prog 112 #[.slice ao a.length ac, .int .i64 0, .int .i64 59] w' fun x w'' => x = .returned (.bool (listB 0 59 a)) ∧ Below w'.heap.size w' w'') := fun w' hb => l10List_any 0 59 (h1.below hb) n1
  have H2 : Hid (∀ w', Below w.heap.size w w' → Calls Try.prog 112 #[.slice bo b.length bc, .int .i64 0, .int .i64 23] w' fun x w'' => x = .returned (.bool (listB 0 23 b)) ∧ Below w'.heap.size w' w'') := fun w' hb => l10List_any 0 23 (h2.below hb) n2
  have H3 : Hid (∀ w', Below w.heap.size w w' → Calls Try.prog 112 #[.slice co c.length cc, .int .i64 1, .int .i64 31] w' fun x w'' => x = .returned (.bool (listB 1 31 c)) ∧ Below w'.heap.size w' w'') := fun w' hb => l10List_any 1 31 (h3.below hb) n3
  have H4 : Hid (∀ w', Below w.heap.size w w' → Calls Try.prog 112 #[.slice d0 d.length dc, .int .i64 1, .int .i64 12] w' fun x w'' => x = .returned (.bool (listB 1 12 d)) ∧ Below w'.heap.size w' w'') := fun w' hb => l10List_any 1 12 (h4.below hb) n4
  have H5 : Hid (∀ w', Below w.heap.size w w' → Calls Try.prog 112 #[.slice eo e.length ec, .int .i64 0, .int .i64 6] w' fun x w'' => x = .returned (.bool (listB 0 6 e)) ∧ Below w'.heap.size w' w'') := fun w' hb => l10List_any 0 6 (h5.below hb) n5
  unfold cronB
  clear h1 h2 h3 h4 h5
  generalize listB 0 59 a = q1 at *
  generalize listB 0 23 b = q2 at *
  generalize listB 1 31 c = q3 at *
  generalize listB 1 12 d = q4 at *
  generalize listB 0 6 e = q5 at *
  go_enter Try.func107, Try.ntmps107
  go_wp2_with fail
  refine (H1.out _ (ba (Below.refl _ _) _)).mono ?_
  rintro x w1 ⟨rfl, hb1⟩
  have B1 := below_new hb1
  have c11 : w1.cell? ⟨w.heap.size, 1, none⟩ = some (.slice bo b.length bc) := (hb1.cell (by simp)).trans (by simp [go_sem])
  have c21 : w1.cell? ⟨w.heap.size, 2, none⟩ = some (.slice co c.length cc) := (hb1.cell (by simp)).trans (by simp [go_sem])
  have c31 : w1.cell? ⟨w.heap.size, 3, none⟩ = some (.slice d0 d.length dc) := (hb1.cell (by simp)).trans (by simp [go_sem])
  have c41 : w1.cell? ⟨w.heap.size, 4, none⟩ = some (.slice eo e.length ec) := (hb1.cell (by simp)).trans (by simp [go_sem])
  clear hb1
  cases q1 with
  | false =>
    go_wp2
    go_ret
    exact ⟨by simp, B1⟩
  | true =>
    go_wp2_with fail
    refine (H2.out _ B1).mono ?_
    rintro x w2 ⟨rfl, hb2⟩
    have B2 := Below.on B1 hb2
    have c22 := cell_up hb2 c21
    have c32 := cell_up hb2 c31
    have c42 := cell_up hb2 c41
    clear hb2 c11 c21 c31 c41
    cases q2 with
    | false =>
      go_wp2
      go_ret
      exact ⟨by simp, B2⟩
    | true =>
      go_wp2_with fail
      refine (H3.out _ B2).mono ?_
      rintro x w3 ⟨rfl, hb3⟩
      have B3 := Below.on B2 hb3
      have c33 := cell_up hb3 c32
      have c43 := cell_up hb3 c42
      clear hb3 c22 c32 c42
      cases q3 with
      | false =>
        go_wp2
        go_ret
        exact ⟨by simp, B3⟩
      | true =>
        go_wp2_with fail
        refine (H4.out _ B3).mono ?_
        rintro x w4 ⟨rfl, hb4⟩
        have B4 := Below.on B3 hb4
        have c44 := cell_up hb4 c43
        clear hb4 c33 c43
        cases q4 with
        | false =>
          go_wp2
          go_ret
          exact ⟨by simp, B4⟩
        | true =>
          go_wp2_with fail
          refine (H5.out _ B4).mono ?_
          rintro x w5 ⟨rfl, hb5⟩
          have B5 := Below.on B4 hb5
          clear hb5 c44
          go_wp2
          go_ret
          exact ⟨by simp, B5⟩
end Go.Proofs.Ytehkebdncfljmaa

namespace Go.Proofs.Ytehkebdncfljmaa
open Go Go.RowKit

/-- The first k numbers, with a comma between. -/
def showP (l : List Int) : Nat → ByteArray
  | 0 => ByteArray.empty
  | k + 1 => (if k = 0 then showP l k else showP l k ++ ⟨#[44]⟩) ++ bstr (decI ((l[k]?).getD 0).toNat)
def showS (l : List Int) (n : Int) : ByteArray := if (l.length : Int) = n then ⟨#[42]⟩ else showP l l.length
theorem decI_two {n : Nat} (h : n < 100) : (decI n).length ≤ 2 := by
  by_cases h1 : n < 10
  · rw [decI_one h1]; simp
  · rw [decI_more h1, decI_one (by omega)]; simp
theorem showP_size {l : List Int} (h : ∀ x ∈ l, 0 ≤ x ∧ x < 100) : ∀ k, k ≤ l.length → (showP l k).size ≤ 3 * k
  | 0, _ => by simp [showP]
  | k + 1, hk => by
    have ih := showP_size h k (by omega)
    have hm : l[k] ∈ l := List.getElem_mem _
    have hx := h _ hm
    have h2 : (decI ((l[k]?).getD 0).toNat).length ≤ 2 := by
      rw [List.getElem?_eq_getElem (by omega)]
      exact decI_two (by simp; omega)
    unfold showP
    rw [ByteArray.size_append, bstr_size']
    split
    · omega
    · rw [ByteArray.size_append]
      have : (ByteArray.mk #[44]).size = 1 := rfl
      omega

set_option maxHeartbeats 1000000 in
theorem l10Show_try (ao : Option Addr) (n c : Nat) (l : List Int) (z : Int) (w : World) (hr : Reads w (.slice ao n c) l) (hn : l.length ≤ 1000) (hx : ∀ x ∈ l, 0 ≤ x ∧ x < 100) :
    Calls Try.prog 108 #[.slice ao n c, .int .i64 z] w fun e w' => e = .returned (.string (showS l z)) ∧ Below w.heap.size w w' := by
  have HR : Hid (Reads w (.slice ao n c) l) := hr
  have HN : Hid (n = l.length) := hr.len
  have hn1 : n ≤ 1000 := by rw [hr.len]; exact hn
  have HB : Hid (∀ x ∈ l, 0 ≤ x ∧ x < 100) := hx
  clear hr hx hn
  by_cases hz : (n : Int) = z
  · have HF : Hid (showS l z = ⟨#[42]⟩) := by show _ = _; unfold showS; rw [← HN.out, if_pos hz]
    go_enter Try.func108, Try.ntmps108
    go_wp2
    go_ret
    exact ⟨by rw [HF.out]; rfl, Below.refl _ _⟩
  · have HF : Hid (showS l z = showP l n) := by show _ = _; unfold showS; rw [← HN.out, if_neg hz]
    go_enter Try.func108, Try.ntmps108
    go_wp2
    rw [beq_eq_false_iff_ne.2 hz]
    go_loopw [5, 6] (fun t i wr => ∃ (k : Nat) (y : ByteArray), k ≤ n ∧ i = .int .i64 k ∧ t = .string y ∧ Hid (showP l k = y) ∧ y.size ≤ 3 * k ∧ Below w.heap.size w wr) (fun _ i _ => n - (intOf i).toNat)
    case atStart => exact ⟨0, ⟨#[]⟩, Nat.zero_le _, rfl, rfl, rfl, Nat.zero_le _, Below.refl _ _⟩
    case round =>
      obtain ⟨k, y, hk, rfl, rfl, HY, hy3, hbel⟩ := hrel
      by_cases hlt : k < n
      · obtain ⟨x, hx⟩ : ∃ x, l[k]? = some x := ⟨_, List.getElem?_eq_getElem (by rw [← HN.out]; exact hlt)⟩
        have hb2 := HB.out x (List.mem_of_getElem? hx)
        have HS : Hid (showP l (k + 1) = (if k = 0 then y else y ++ ⟨#[44]⟩) ++ bstr (decI x.toNat)) := by
          show _ = _
          rw [showP, hx, HY.out]; rfl
        have h2 : (bstr (decI x.toNat)).size ≤ 2 := by rw [bstr_size']; exact decI_two (by omega)
        obtain ⟨u, hu⟩ : ∃ u, bstr (decI x.toNat) = u := ⟨_, rfl⟩
        have CD : Hid (∀ W, Calls Try.prog 82 #[.int .i64 x] W fun e w' => e = .returned (.string u) ∧ Below W.heap.size W w') := fun W => by rw [← hu]; exact specDecimal_any x W hb2.1 (by omega)
        rw [hu] at HS h2
        obtain ⟨b, o, rfl, hb, c0⟩ := int_at (HR.out.below hbel) hx
        clear hx hu
        by_cases hk0 : k = 0
        · have HS2 : Hid (showP l (k + 1) = y ++ u) := by show _ = _; have := HS.out; rwa [if_pos hk0] at this
          have hk1 : ¬ (0 : Int) < (k : Int) := by omega
          clear hk0
          go_wp2_with (go_at_call 82; refine (CD.out _).mono ?_; rintro e w1 ⟨rfl, hb1⟩)
          go_roundw
          case rel => exact ⟨k + 1, y ++ u, by omega, by go_num, rfl, HS2, by rw [ByteArray.size_append]; omega, Below.on hbel hb1⟩
          case measure => simp [intOf]; omega
        · have HS2 : Hid (showP l (k + 1) = y ++ ⟨#[44]⟩ ++ u) := by show _ = _; have := HS.out; rwa [if_neg hk0] at this
          have hs1 : (y ++ (⟨#[44]⟩ : ByteArray)).size ≤ 3 * k + 1 := by
            rw [ByteArray.size_append]
            have : (ByteArray.mk #[44]).size = 1 := rfl
            omega
          have hk1 : (0 : Int) < (k : Int) := by omega
          go_wp2_with (go_at_call 82; refine (CD.out _).mono ?_; rintro e w1 ⟨rfl, hb1⟩)
          go_roundw
          case rel => exact ⟨k + 1, y ++ ⟨#[44]⟩ ++ u, by omega, by go_num, rfl, HS2, by rw [ByteArray.size_append]; omega, Below.on hbel hb1⟩
          case measure => simp [intOf]; omega
      · have hkn : k = n := by omega
        subst hkn
        go_wp2
        go_ret
        exact ⟨by rw [HF.out, HY.out]; rfl, hbel⟩
theorem l10Show_any {w : World} {v : Value} {l : List Int} (z : Int) (hr : Reads w v l) (hn : l.length ≤ 1000) (hx : ∀ x ∈ l, 0 ≤ x ∧ x < 100) :
    Calls Try.prog 108 #[v, .int .i64 z] w fun e w' => e = .returned (.string (showS l z)) ∧ Below w.heap.size w w' := by
  obtain ⟨ao, c, rfl, _⟩ := id hr
  exact l10Show_try ao _ c l z w hr hn hx
end Go.Proofs.Ytehkebdncfljmaa

namespace Go.Proofs.Ytehkebdncfljmaa
open Go Go.RowKit

theorem rise_bd {lo hi : Int} : ∀ (l : List Int) (p : Option Int) (q : Int), (∀ y, p = some y → q ≤ y + 1) → (p = none → q ≤ lo) → lo ≤ q → q ≤ hi + 1 → riseB lo hi p l = true → (∀ x ∈ l, lo ≤ x ∧ x ≤ hi) ∧ (l.length : Int) ≤ hi + 1 - q
  | [], _, q, _, _, _, h4, _ => ⟨fun x hx => by (cases hx), by simp; omega⟩
  | x :: r, p, q, h1, h2, h3, h4, h => by
    unfold riseB at h
    simp only [Bool.and_eq_true, decide_eq_true_eq] at h
    obtain ⟨⟨⟨ha, hb⟩, hc⟩, hd⟩ := h
    have hq : q ≤ x := by
      cases p with
      | none => have := h2 rfl; omega
      | some y => have := h1 y rfl; simp at hc; omega
    have ih := rise_bd r (some x) (x + 1) (fun y hy => by cases hy; omega) (fun hn => by cases hn) (by omega) (by omega) hd
    refine ⟨fun y hy => ?_, ?_⟩
    · rcases List.mem_cons.1 hy with rfl | hy
      · exact ⟨ha, hb⟩
      · exact ih.1 y hy
    · have := ih.2
      simp only [List.length_cons]
      omega
theorem listB_bd {lo hi : Int} {l : List Int} (h0 : 0 ≤ lo) (hh : lo ≤ hi) (h9 : hi ≤ 59) (h : listB lo hi l = true) : (∀ x ∈ l, 0 ≤ x ∧ x < 100) ∧ l.length ≤ 60 := by
  unfold listB at h
  rw [Bool.and_eq_true] at h
  have := rise_bd l none lo (fun y hy => by cases hy) (fun _ => Int.le_refl _) (Int.le_refl _) (by omega) h.2
  exact ⟨fun x hx => by have := this.1 x hx; omega, by have := this.2; omega⟩
theorem showS_size {l : List Int} (z : Int) (h : (∀ x ∈ l, 0 ≤ x ∧ x < 100) ∧ l.length ≤ 60) : (showS l z).size ≤ 180 := by
  unfold showS
  split
  · decide
  · have := showP_size h.1 l.length (Nat.le_refl _)
    omega
/-- A rule in words. -/
def cronS (a b c d e : List Int) : ByteArray := showS a 60 ++ ⟨#[32]⟩ ++ showS b 24 ++ ⟨#[32]⟩ ++ showS c 31 ++ ⟨#[32]⟩ ++ showS d 12 ++ ⟨#[32]⟩ ++ showS e 7
def cronX (a b c d e : List Int) : ByteArray := if cronB a b c d e then cronS a b c d e else ⟨#[]⟩

set_option maxRecDepth 10000 in
set_option maxHeartbeats 2000000 in
theorem cronText_any (va vb vc vd ve : Value) (a b c d e : List Int) (w : World) (h1 : Reads w va a) (h2 : Reads w vb b) (h3 : Reads w vc c) (h4 : Reads w vd d) (h5 : Reads w ve e)
    (n1 : a.length ≤ 1048577) (n2 : b.length ≤ 1048577) (n3 : c.length ≤ 1048577) (n4 : d.length ≤ 1048577) (n5 : e.length ≤ 1048577) :
    Calls Try.prog 98 #[.agg #[va, vb, vc, vd, ve]] w fun x w' => x = .returned (.tuple #[.string (cronX a b c d e), .bool (cronB a b c d e)]) ∧ Below w.heap.size w w' := by
  obtain ⟨ao, ac, rfl, _⟩ := id h1
  obtain ⟨bo, bc, rfl, _⟩ := id h2
  obtain ⟨co, cc, rfl, _⟩ := id h3
  obtain ⟨d0, dc, rfl, _⟩ := id h4
  obtain ⟨eo, ec, rfl, _⟩ := id h5
  have HC : Hid (∀ W, Below w.heap.size w W → Calls Try.prog 107 #[.agg #[.slice ao a.length ac, .slice bo b.length bc, .slice co c.length cc, .slice d0 d.length dc, .slice eo e.length ec]] W fun x w' => x = .returned (.bool (cronB a b c d e)) ∧ Below W.heap.size W w') := fun W hb => cronOk_any _ _ _ _ _ a b c d e W (h1.below hb) (h2.below hb) (h3.below hb) (h4.below hb) (h5.below hb) n1 n2 n3 n4 n5
  cases hq : cronB a b c d e with
  | false =>
    have HX : Hid (cronX a b c d e = ⟨#[]⟩) := by show _ = _; unfold cronX; rw [hq]; rfl
    rw [hq] at HC
    rw [HX.out]
    clear h1 h2 h3 h4 h5 hq
    generalize a.length = la at *
    generalize b.length = lb at *
    generalize c.length = lc at *
    generalize d.length = ld at *
    generalize e.length = le at *
    go_enter Try.func98, Try.ntmps98
    go_wp2_with (go_at_call 107; refine (HC.out _ (ba (Below.refl _ _) _)).mono ?_; rintro x w1 ⟨rfl, hb1⟩)
    go_ret2
    exact ⟨rfl, below_new hb1⟩
  | true =>
    have HX : Hid (cronX a b c d e = cronS a b c d e) := by show _ = _; unfold cronX; rw [hq]; rfl
    rw [hq] at HC
    rw [HX.out]
    unfold cronB at hq
    simp only [Bool.and_eq_true] at hq
    obtain ⟨q0, q1, q2, q3, q4⟩ := hq
    have k0 := listB_bd (by decide) (by decide) (by decide) q0
    have y0 := showS_size 60 k0
    have C0 : Hid (∀ W, Below w.heap.size w W → Calls Try.prog 108 #[.slice ao a.length ac, .int .i64 60] W fun x w' => x = .returned (.string (showS a 60)) ∧ Below W.heap.size W w') := fun W hb => l10Show_any 60 (h1.below hb) (by omega) k0.1
    have k1 := listB_bd (by decide) (by decide) (by decide) q1
    have y1 := showS_size 24 k1
    have C1 : Hid (∀ W, Below w.heap.size w W → Calls Try.prog 108 #[.slice bo b.length bc, .int .i64 24] W fun x w' => x = .returned (.string (showS b 24)) ∧ Below W.heap.size W w') := fun W hb => l10Show_any 24 (h2.below hb) (by omega) k1.1
    have k2 := listB_bd (by decide) (by decide) (by decide) q2
    have y2 := showS_size 31 k2
    have C2 : Hid (∀ W, Below w.heap.size w W → Calls Try.prog 108 #[.slice co c.length cc, .int .i64 31] W fun x w' => x = .returned (.string (showS c 31)) ∧ Below W.heap.size W w') := fun W hb => l10Show_any 31 (h3.below hb) (by omega) k2.1
    have k3 := listB_bd (by decide) (by decide) (by decide) q3
    have y3 := showS_size 12 k3
    have C3 : Hid (∀ W, Below w.heap.size w W → Calls Try.prog 108 #[.slice d0 d.length dc, .int .i64 12] W fun x w' => x = .returned (.string (showS d 12)) ∧ Below W.heap.size W w') := fun W hb => l10Show_any 12 (h4.below hb) (by omega) k3.1
    have k4 := listB_bd (by decide) (by decide) (by decide) q4
    have y4 := showS_size 7 k4
    have C4 : Hid (∀ W, Below w.heap.size w W → Calls Try.prog 108 #[.slice eo e.length ec, .int .i64 7] W fun x w' => x = .returned (.string (showS e 7)) ∧ Below W.heap.size W w') := fun W hb => l10Show_any 7 (h5.below hb) (by omega) k4.1
    unfold cronS
    clear h1 h2 h3 h4 h5 HX q0 q1 q2 q3 q4 k0 k1 k2 k3 k4
    generalize showS a 60 = s0 at *
    generalize showS b 24 = s1 at *
    generalize showS c 31 = s2 at *
    generalize showS d 12 = s3 at *
    generalize showS e 7 = s4 at *
    generalize a.length = la at *
    generalize b.length = lb at *
    generalize c.length = lc at *
    generalize d.length = ld at *
    generalize e.length = le at *
    go_enter Try.func98, Try.ntmps98
    go_wp2_with fail
    refine (HC.out _ (ba (Below.refl _ _) _)).mono ?_
    rintro x w1 ⟨rfl, hb1⟩
    have Z1 : B5 146 w1 w.heap.size (.slice ao la ac) (.slice bo lb bc) (.slice co lc cc) (.slice d0 ld dc) (.slice eo le ec) := (B5.new 146 w _ _ _ _ _).up hb1
    have B1 : Below w.heap.size w w1 := below_new hb1
    have K0 := Wd.cell Z1.c0
    have K1 := Wd.cell Z1.c1
    have K2 := Wd.cell Z1.c2
    have K3 := Wd.cell Z1.c3
    have K4 := Wd.cell Z1.c4
    clear hb1 Z1 HC
    have one : (ByteArray.mk #[32]).size = 1 := rfl
    have z1 : (s0 ++ ⟨#[32]⟩).size = s0.size + 1 := by rw [ByteArray.size_append, one]
    have v1 : (s0 ++ ⟨#[32]⟩ ++ s1).size = s0.size+s1.size + 1 := by rw [ByteArray.size_append, z1]; omega
    have z2 : (s0 ++ ⟨#[32]⟩ ++ s1 ++ ⟨#[32]⟩).size = s0.size+s1.size + 2 := by rw [ByteArray.size_append, one]; omega
    have v2 : (s0 ++ ⟨#[32]⟩ ++ s1 ++ ⟨#[32]⟩ ++ s2).size = s0.size+s1.size+s2.size + 2 := by rw [ByteArray.size_append, z2]; omega
    have z3 : (s0 ++ ⟨#[32]⟩ ++ s1 ++ ⟨#[32]⟩ ++ s2 ++ ⟨#[32]⟩).size = s0.size+s1.size+s2.size + 3 := by rw [ByteArray.size_append, one]; omega
    have v3 : (s0 ++ ⟨#[32]⟩ ++ s1 ++ ⟨#[32]⟩ ++ s2 ++ ⟨#[32]⟩ ++ s3).size = s0.size+s1.size+s2.size+s3.size + 3 := by rw [ByteArray.size_append, z3]; omega
    have z4 : (s0 ++ ⟨#[32]⟩ ++ s1 ++ ⟨#[32]⟩ ++ s2 ++ ⟨#[32]⟩ ++ s3 ++ ⟨#[32]⟩).size = s0.size+s1.size+s2.size+s3.size + 4 := by rw [ByteArray.size_append, one]; omega
    have v4 : (s0 ++ ⟨#[32]⟩ ++ s1 ++ ⟨#[32]⟩ ++ s2 ++ ⟨#[32]⟩ ++ s3 ++ ⟨#[32]⟩ ++ s4).size = s0.size+s1.size+s2.size+s3.size+s4.size + 4 := by rw [ByteArray.size_append, z4]; omega
    clear one
    go_wp2_with fail
    refine wp_region_wd (by kernel_rfl) (by kernel_rfl) ?_
    repeat (go_big_quiet_step (first | (go_at_call 108; refine calls_wd (v := .string s0) ?_; with_reducible exact C0.out _ (Below.on B1 (Wd.ok _))) | (go_at_call 108; refine calls_wd (v := .string s1) ?_; with_reducible exact C1.out _ (Below.on B1 (Wd.ok _))) | (go_at_call 108; refine calls_wd (v := .string s2) ?_; with_reducible exact C2.out _ (Below.on B1 (Wd.ok _))) | (go_at_call 108; refine calls_wd (v := .string s3) ?_; with_reducible exact C3.out _ (Below.on B1 (Wd.ok _))) | (go_at_call 108; refine calls_wd (v := .string s4) ?_; with_reducible exact C4.out _ (Below.on B1 (Wd.ok _)))))
    refine wpQuiet_nil ?_
    rintro _ ⟨x, rfl⟩
    go_wp2
    go_ret2
    exact ⟨rfl, Below.on B1 x.ok⟩
end Go.Proofs.Ytehkebdncfljmaa
