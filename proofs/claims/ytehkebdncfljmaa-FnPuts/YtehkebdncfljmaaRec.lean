/-
  Rows of records, each of as many cells: what a slice of them reads as; a row that the call owns. Small facts of my own, over any program.
-/
import Derived.WalkKit
import Derived.WalkSpells
namespace Go.Proofs.Ytehkebdncfljmaa
open Go Go.RowKit

/-- A kind of record: how many cells one has, and what they hold. -/
class Rec (α : Type) where
  width : Nat
  cells : α → List Value
  len : ∀ x, (cells x).length = width
  pos : 0 < width

section
variable {α : Type} [Rec α]
open Rec

theorem flat_at : ∀ (l : List α) (i j : Nat), j < width α → (l.flatMap cells)[i * width α + j]? = (l[i]?).bind fun x => (cells x)[j]?
  | [], i, j, h => by simp
  | x :: r, 0, j, h => by
    simp only [List.flatMap_cons, Nat.zero_mul, Nat.zero_add]
    rw [List.getElem?_append_left (by rw [len]; exact h)]
    simp
  | x :: r, i + 1, j, h => by
    simp only [List.flatMap_cons]
    rw [List.getElem?_append_right (by rw [len, Nat.add_mul]; omega), len]
    have : (i + 1) * width α + j - width α = i * width α + j := by rw [Nat.add_mul]; omega
    rw [this, flat_at r i j h]
    simp
theorem flat_length (l : List α) : (l.flatMap cells).length = l.length * width α := by
  induction l with
  | nil => simp
  | cons x r ih => simp [ih, len, Nat.add_mul, Nat.add_comm]

/-- In w slice v reads as the records l. -/
def Reads (w : World) (v : Value) (l : List α) : Prop :=
  ∃ ao cap, v = .slice ao l.length cap ∧ (l ≠ [] → ∃ b o, ao = some ⟨b, o, none⟩ ∧ b < w.heap.size ∧ ∀ i x, l[i]? = some x → ∀ j u, (cells x)[j]? = some u → w.cell? ⟨b, o + i * width α + j, none⟩ = some u)

theorem Reads.below {w w' : World} {v : Value} {l : List α} (h : Reads w v l) (hb : Below w.heap.size w w') : Reads w' v l := by
  obtain ⟨ao, cap, rfl, h⟩ := h
  refine ⟨ao, cap, rfl, fun hne => ?_⟩
  obtain ⟨b, o, rfl, hlt, hc⟩ := h hne
  exact ⟨b, o, rfl, Nat.lt_of_lt_of_le hlt hb.size, fun i x hx j u hu => (hb.cell (p := ⟨b, o + i * width α + j, none⟩) hlt).trans (hc i x hx j u hu)⟩
theorem Reads.drew {w : World} {v : Value} {l : List α} (h : Reads w v l) : Reads w.drew v l := h
theorem Reads.alloc {w : World} {v : Value} {l : List α} (h : Reads w v l) (o : Obj) : Reads (w.alloc o) v l := h.below ((Below.refl _ _).alloc (Nat.le_refl _) _)
theorem reads_none (w : World) (ao : Option Addr) (cap : Nat) : Reads w (.slice ao 0 cap) ([] : List α) := ⟨ao, cap, rfl, fun h => absurd rfl h⟩
/-- The slice's address, where there is one to be read. -/
theorem Reads.at {w : World} {ao : Option Addr} {n cap : Nat} {l : List α} (h : Reads w (.slice ao n cap) l) {k : Nat} {x : α} (hk : l[k]? = some x) :
    ∃ b o, ao = some ⟨b, o, none⟩ ∧ b < w.heap.size ∧ ∀ j u, (cells x)[j]? = some u → w.cell? ⟨b, o + k * width α + j, none⟩ = some u := by
  obtain ⟨ao', cap', e, h⟩ := h
  simp only [Value.slice.injEq] at e
  obtain ⟨rfl, _, rfl⟩ := e
  obtain ⟨b, o, rfl, hlt, hc⟩ := h (by rintro rfl; simp at hk)
  exact ⟨b, o, rfl, hlt, hc k x hk⟩
theorem Reads.len {w : World} {ao : Option Addr} {n cap : Nat} {l : List α} (h : Reads w (.slice ao n cap) l) : n = l.length := by
  obtain ⟨ao', cap', e, h⟩ := h
  simp only [Value.slice.injEq] at e
  exact e.2.1
/-- Of a part of the row: the first so many. -/
theorem Reads.take {w : World} {ao : Option Addr} {n cap : Nat} {l : List α} (h : Reads w (.slice ao n cap) l) (k : Nat) (hk : k ≤ n) (cap' : Nat) : Reads w (.slice ao k cap') (l.take k) := by
  have hn := h.len
  refine ⟨ao, cap', by simp; omega, fun hne => ?_⟩
  obtain ⟨ao', cap', e, h⟩ := h
  simp only [Value.slice.injEq] at e
  obtain ⟨rfl, _, rfl⟩ := e
  obtain ⟨b, o, rfl, hlt, hc⟩ := h (by rintro rfl; simp at hne)
  refine ⟨b, o, rfl, hlt, fun i x hx => hc i x ?_⟩
  rw [List.getElem?_take] at hx
  split at hx
  · exact hx
  · simp at hx

/-- A row of records that the call owns, from block B on. -/
def ownsR (w : World) (B : Nat) (e : TypeId) (v : Value) (l : List α) : Prop := w.ownsRow B e (width α) v l.length (l.flatMap cells)

theorem ownsR.reads {w : World} {B : Nat} {e : TypeId} {v : Value} {l : List α} (h : ownsR w B e v l) : Reads w v l := by
  rcases h.2 with ⟨rfl, hn⟩ | ⟨g, cap, cur, rfl, hb, hg, hc, hrest⟩
  · have : l = [] := List.eq_nil_of_length_eq_zero hn
    subst this
    exact ⟨_, _, rfl, fun h => absurd rfl h⟩
  · refine ⟨_, cap, rfl, fun _ => ⟨g, 0, rfl, (h.lt g rfl).2, fun i x hx j u hu => ?_⟩⟩
    have hj : j < width α := by
      rw [← Rec.len x]
      exact (List.getElem?_eq_some_iff.1 hu).1
    have hi : i < l.length := (List.getElem?_eq_some_iff.1 hx).1
    have hlt : i * width α + j < l.length * width α := by
      have : (i + 1) * width α ≤ l.length * width α := Nat.mul_le_mul_right _ hi
      rw [Nat.add_mul] at this
      omega
    rw [Nat.zero_add, World.ownsRow.cellAt h _ hlt, flat_at l i j hj, hx]
    exact hu

theorem ownsR.alloc {w : World} {B : Nat} {e : TypeId} {v : Value} {l : List α} (h : ownsR w B e v l) (o : Obj) : ownsR (w.alloc o) B e v l := World.ownsRow.alloc h o
theorem ownsR.drew {w : World} {B : Nat} {e : TypeId} {v : Value} {l : List α} (h : ownsR w B e v l) : ownsR w.drew B e v l := World.ownsRow.drew h
theorem ownsR_nil (w : World) (B : Nat) (e : TypeId) : ownsR w B e (.slice none 0 0) ([] : List α) := World.ownsRow_nil w B e _
theorem ownsR.below {w w' : World} {B B' : Nat} {e : TypeId} {v : Value} {l : List α} (h : ownsR w B e v l) (hb : Below B' w w') (hB : ∀ k, v.ownBlock = some k → k < B') : ownsR w' B e v l := by
  refine ⟨h.1, ?_⟩
  rcases h.2 with hn | ⟨g, cap, cur, rfl, hb2, hgg, rest⟩
  · exact .inl hn
  · refine .inr ⟨g, cap, cur, rfl, hb2, ?_, rest⟩
    rw [hb.block g (hB g rfl)]
    exact hgg
theorem ownsR.all {w w' : World} {B : Nat} {e : TypeId} {v : Value} {l : List α} (h : ownsR w B e v l) (hb : Below w.heap.size w w') : ownsR w' B e v l :=
  h.below hb fun k hk => (h.lt k hk).2
theorem ownsR.mono {w : World} {B B' : Nat} {e : TypeId} {v : Value} {l : List α} (h : ownsR w B e v l) (hB : B' ≤ B) : ownsR w B' e v l := by
  refine ⟨h.1, ?_⟩
  rcases h.2 with hn | ⟨g, cap, cur, rfl, hb2, rest⟩
  · exact .inl hn
  · exact .inr ⟨g, cap, cur, rfl, by omega, rest⟩
theorem ownsR.setBelow {w : World} {B : Nat} {e : TypeId} {v : Value} {l : List α} (h : ownsR w B e v l) {a : Addr} (ha : a.block < B) (u : Value) : ownsR (w.setCell a u) B e v l := ownsRow_setCell_below h ha u
theorem ownsR.slice {w : World} {B : Nat} {e : TypeId} {v : Value} {l : List α} (h : ownsR w B e v l) : ∃ ao cap, v = .slice ao l.length cap := by
  rcases h.2 with ⟨rfl, hn⟩ | ⟨g, cap, cur, rfl, _⟩
  · rw [hn]; exact ⟨_, _, rfl⟩
  · exact ⟨_, _, rfl⟩

theorem flat_set {l : List α} {i j : Nat} {x x' : α} {u : Value} (hi : l[i]? = some x) (hj : j < width α) (hc : cells x' = (cells x).set j u) : (l.flatMap cells).set (i * width α + j) u = (l.set i x').flatMap cells := by
  apply List.ext_getElem?
  intro m
  have hpos : 0 < width α := Rec.pos
  have hm : m / width α * width α + m % width α = m := by rw [Nat.mul_comm]; exact Nat.div_add_mod m _
  have h3 : m % width α < width α := Nat.mod_lt _ hpos
  have e := flat_at (l.set i x') (m / width α) (m % width α) h3
  have e0 := flat_at l (m / width α) (m % width α) h3
  rw [hm] at e e0
  have hil : i < l.length := (List.getElem?_eq_some_iff.1 hi).1
  have hlt : i * width α + j < (l.flatMap cells).length := by
    rw [flat_length]
    have : (i + 1) * width α ≤ l.length * width α := Nat.mul_le_mul_right _ hil
    rw [Nat.add_mul] at this
    omega
  rw [e, List.getElem?_set, List.getElem?_set]
  by_cases hq : i = m / width α
  · subst hq
    by_cases hr : j = m % width α
    · subst hr
      rw [if_pos hm, if_pos hlt, if_pos rfl, if_pos hil, Option.bind_some, hc, List.getElem?_set, if_pos rfl, if_pos (by rw [Rec.len]; exact h3)]
    · rw [if_neg (by omega), if_pos rfl, if_pos hil, Option.bind_some, hc, List.getElem?_set, if_neg hr, e0, hi]
      rfl
  · rw [if_neg hq, e0, if_neg]
    intro h
    apply hq
    rw [← h, Nat.mul_comm, Nat.mul_add_div hpos, Nat.div_eq_of_lt hj, Nat.add_zero]

/-- One cell of a record of the row is written. -/
theorem ownsR.put {w : World} {B : Nat} {e : TypeId} {g n cap : Nat} {l : List α} (h : ownsR w B e (.slice (some ⟨g, 0, none⟩) n cap) l) {i j : Nat} {x : α} (x' : α) {u : Value} (hi : l[i]? = some x) (hj : j < width α) (hc : cells x' = (cells x).set j u) :
    ownsR (w.setCell ⟨g, i * width α + j, none⟩ u) B e (.slice (some ⟨g, 0, none⟩) n cap) (l.set i x') := by
  have hn : n = l.length := by
    rcases h.2 with ⟨h', _⟩ | ⟨g', cap', cur, h', _⟩
    · simp at h'
    · simp only [Value.slice.injEq] at h'
      exact h'.2.1
  subst hn
  have := (World.ownsRow.stored h (i * width α + j) u).1
  unfold ownsR
  rw [← flat_set hi hj hc]
  simpa using this
/-- The cells of one record of an owned row, and that they may be written. -/
theorem ownsR.at {w : World} {B : Nat} {e : TypeId} {g n cap : Nat} {l : List α} (h : ownsR w B e (.slice (some ⟨g, 0, none⟩) n cap) l) {i : Nat} {x : α} (hi : l[i]? = some x) :
    g < w.heap.size ∧ B ≤ g ∧ n = l.length ∧ ∀ j, j < width α → w.cell? ⟨g, i * width α + j, none⟩ = (cells x)[j]? ∧ w.frozen? ⟨g, i * width α + j, none⟩ = false := by
  have hn : n = l.length := by
    rcases h.2 with ⟨h', _⟩ | ⟨g', cap', cur, h', _⟩
    · simp at h'
    · simp only [Value.slice.injEq] at h'
      exact h'.2.1
  subst hn
  refine ⟨(h.lt g rfl).2, (h.lt g rfl).1, rfl, fun j hj => ⟨?_, World.ownsRow.frozenAt h _⟩⟩
  have hil : i < l.length := (List.getElem?_eq_some_iff.1 hi).1
  rw [World.ownsRow.cellAt h _ (by
    have : (i + 1) * width α ≤ l.length * width α := Nat.mul_le_mul_right _ hil
    rw [Nat.add_mul] at this
    omega), flat_at l i j hj, hi]
  rfl

/-- One record more behind a row that the call owns. -/
theorem wpList_append_rec {P : Program} (w w0 : World) {ops : Array Oper} {rest : List Oper} {o : Oper} {a : Act} {Q : Exit → Act → World → Prop} (hgd : o.guard = none) (s x : Operand) (t : TypeId)
    (ho : o.op = .call { callee := .builtin .append, args := #[s, x], argTypes := #[t, t] })
    (B : Nat) (e : TypeId) (z : Value) (bytes : Nat) (ht : P.underlying t = some (.slice e)) (hi : (P.info? e).map (fun i => (i.zero, i.size, i.bytes)) = some (some z, width α, bytes)) (hz : z.cells.size = width α)
    (v : Value) (l : List α) (hs : a.eval s = v) (hown : ownsR w B e v l) (hbel : Below B w0 w)
    (b c : Nat) (n : α) (hx : a.eval x = .slice (some ⟨b, 0, none⟩) 1 c) (hc : ∀ j u, (cells n)[j]? = some u → w.cell? ⟨b, j, none⟩ = some u ∧ u.oneCell' = true)
    (hlen : l.length ≤ 1048576) (hby : bytes ≤ 134217000) (hB : B ≤ w.heap.size)
    (h : ∀ v' w', ownsR w' B e v' (l ++ [n]) → Below B w0 w' → w.heap.size ≤ w'.heap.size → wpList P ops Q rest (a.put o.dst v') w') : wpList P ops Q (o :: rest) a w := by
  obtain ⟨i0, hi0, hz0, hz1, hz2⟩ := info_parts hi
  refine wpList_append_own w hgd s x t ho B e i0 z (width α) bytes ht hi0 hz0 hz1 hz2 hz Rec.pos v l.length _ hs hown ⟨b, 0, none⟩ 1 c (cells n) hx (by rw [Rec.len]; simp) ?_ ?_ (by unfold maxLen; omega) ?_ hB ?_
  · intro j u hj
    have := (hc j u hj).1
    by_cases h0 : j = 0
    · subst h0; simpa [Addr.add] using this
    · simpa [Addr.add, h0] using this
  · intro u hu
    obtain ⟨j, hj⟩ := List.getElem?_of_mem hu
    exact (hc j u hj).2
  · have : (l.length + 1) * bytes ≤ 1048577 * 134217000 := Nat.mul_le_mul (by omega) hby
    omega
  · intro v' w' h1 h2 _
    refine h v' w' (by simpa [ownsR, Rec.len] using h1) (hbel.grown h2 hB fun k hk => (hown.lt k hk).1) h2.size

end
end Go.Proofs.Ytehkebdncfljmaa
