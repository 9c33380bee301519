/-
  Rows of texts that a call owns: small facts of my own, over any program.
-/
import Derived.Test.YtehkebdncfljmaaAid
import Derived.WalkSpells
import Derived.Lib.Strings
namespace Go.Proofs.Ytehkebdncfljmaa
open Go Go.RowKit

/-- A row of texts that the call owns, from block B on. -/
def ownsS (w : World) (B : Nat) (e : TypeId) (v : Value) (l : List ByteArray) : Prop := w.ownsRow B e 1 v l.length (l.map Value.string)

theorem ownsS.alloc {w : World} {B : Nat} {e : TypeId} {v : Value} {l : List ByteArray} (h : ownsS w B e v l) (o : Obj) : ownsS (w.alloc o) B e v l := World.ownsRow.alloc h o
theorem ownsS.drew {w : World} {B : Nat} {e : TypeId} {v : Value} {l : List ByteArray} (h : ownsS w B e v l) : ownsS w.drew B e v l := World.ownsRow.drew h
theorem ownsS_made (w : World) (B cap : Nat) (e : TypeId) (cur : Array Value) (hb : B ≤ w.heap.size) (hm : cap ≤ maxLen) (hs : cur.size = cap) :
    ownsS (w.alloc (.cells cur e)) B e (.slice (some ⟨w.heap.size, 0, none⟩) 0 cap) [] :=
  World.ownsRow_made w cur cap hb hm (by omega)
/-- What is owned stays so while nothing that is there is turned. -/
theorem ownsS.below {w w' : World} {B B' : Nat} {e : TypeId} {v : Value} {l : List ByteArray} (h : ownsS w B e v l) (hb : Below B' w w') (hB : ∀ k, v.ownBlock = some k → k < B') : ownsS w' B e v l := by
  refine ⟨h.1, ?_⟩
  rcases h.2 with hn | ⟨g, cap, cur, rfl, hb2, hgg, rest⟩
  · exact .inl hn
  · refine .inr ⟨g, cap, cur, rfl, hb2, ?_, rest⟩
    rw [hb.block g (hB g rfl)]
    exact hgg
theorem ownsS.all {w w' : World} {B : Nat} {e : TypeId} {v : Value} {l : List ByteArray} (h : ownsS w B e v l) (hb : Below w.heap.size w w') : ownsS w' B e v l :=
  h.below hb fun k hk => (h.lt k hk).2
theorem ownsS.mono {w : World} {B B' : Nat} {e : TypeId} {v : Value} {l : List ByteArray} (h : ownsS w B e v l) (hB : B' ≤ B) : ownsS w B' e v l := by
  refine ⟨h.1, ?_⟩
  rcases h.2 with hn | ⟨g, cap, cur, rfl, hb2, rest⟩
  · exact .inl hn
  · exact .inr ⟨g, cap, cur, rfl, by omega, rest⟩

/-- One text more behind a row of texts that the call owns. -/
theorem wpList_append_text {P : Program} (w w0 : World) {ops : Array Oper} {rest : List Oper} {o : Oper} {a : Act} {Q : Exit → Act → World → Prop} (hgd : o.guard = none) (s x : Operand) (t : TypeId)
    (ho : o.op = .call { callee := .builtin .append, args := #[s, x], argTypes := #[t, t] })
    (B : Nat) (e : TypeId) (ht : P.underlying t = some (.slice e)) (hi : (P.info? e).map (fun i => (i.zero, i.size, i.bytes)) = some (some (.string ByteArray.empty), 1, 16))
    (v : Value) (l : List ByteArray) (hs : a.eval s = v) (hown : ownsS w B e v l) (hbel : Below B w0 w)
    (ad : Addr) (c : Nat) (n : ByteArray) (hx : a.eval x = .slice (some ad) 1 c) (hc : w.cell? ad = some (.string n))
    (hlen : l.length < 8796093022207) (hB : B ≤ w.heap.size)
    (h : ∀ v' w', ownsS w' B e v' (l ++ [n]) → Below B w0 w' → wpList P ops Q rest (a.put o.dst v') w') : wpList P ops Q (o :: rest) a w := by
  obtain ⟨i0, hi0, hz0, hz1, hz2⟩ := info_parts hi
  refine wpList_append_own w hgd s x t ho B e i0 (.string ByteArray.empty) 1 16 ht hi0 hz0 hz1 hz2 rfl (by decide) v l.length _ hs hown ad 1 c [.string n] hx rfl ?_ ?_ (by unfold maxLen; omega) (by omega) hB ?_
  · intro j u hj
    match j, hj with
    | 0, hj => simp at hj; subst hj; simpa [Addr.add] using hc
  · intro u hu; simp at hu; subst hu; rfl
  · intro v' w' h1 h2 _
    refine h v' w' (by simpa [ownsS] using h1) (hbel.grown h2 hB fun k hk => (hown.lt k hk).1)

/-- Of a row that is not empty: where it lies, and what its cells hold. -/
theorem ownsS_form {w : World} {B : Nat} {e : TypeId} {v : Value} {l : List ByteArray} (h : ownsS w B e v l) (hne : l ≠ []) :
    ∃ g cap, v = .slice (some ⟨g, 0, none⟩) l.length cap ∧ B ≤ g ∧ g < w.heap.size ∧ l.length ≤ cap ∧ (∀ j (hj : j < l.length), w.cell? ⟨g, j, none⟩ = some (.string l[j])) ∧ ∀ j, w.frozen? ⟨g, j, none⟩ = false := by
  rcases h.2 with ⟨_, hn⟩ | ⟨g, cap, cur, rfl, hb, hg, hc, _⟩
  · exact absurd (List.eq_nil_of_length_eq_zero hn) hne
  · refine ⟨g, cap, rfl, hb, (h.lt g rfl).2, hc, fun j hj => ?_, fun j => World.ownsRow.frozenAt h j⟩
    rw [World.ownsRow.cellAt h j (by omega)]
    simp [hj]
theorem ownsS_empty {w : World} {B : Nat} {e : TypeId} {v : Value} (h : ownsS w B e v []) : ∃ ao cap, v = .slice ao 0 cap := by
  rcases h.2 with ⟨h, _⟩ | ⟨g, cap, cur, rfl, _⟩
  · exact ⟨none, 0, h⟩
  · exact ⟨_, _, rfl⟩
/-- A text stored into the row. -/
theorem ownsS_stored {w : World} {B : Nat} {e : TypeId} {g cap : Nat} {l : List ByteArray} (h : ownsS w B e (.slice (some ⟨g, 0, none⟩) l.length cap) l) (j : Nat) (t : ByteArray) :
    ownsS (w.setCell ⟨g, j, none⟩ (.string t)) B e (.slice (some ⟨g, 0, none⟩) l.length cap) (l.set j t) := by
  have := (World.ownsRow.stored h j (.string t)).1
  unfold ownsS
  simpa [List.map_set] using this

theorem ownsS_cell {w : World} {B : Nat} {e : TypeId} {g n cap : Nat} {l : List ByteArray} (h : ownsS w B e (.slice (some ⟨g, 0, none⟩) n cap) l) {k : Nat} (hk : k < n) :
    ∃ t, l[k]? = some t ∧ w.cell? ⟨g, k, none⟩ = some (.string t) ∧ w.frozen? ⟨g, k, none⟩ = false ∧ g < w.heap.size ∧ n = l.length := by
  have hn : n = l.length := by
    rcases h.2 with ⟨h', _⟩ | ⟨g', cap', cur, h', _⟩
    · simp at h'
    · simp only [Value.slice.injEq] at h'
      exact h'.2.1
  subst hn
  have hc := World.ownsRow.cellAt h k (by omega)
  refine ⟨l[k], List.getElem?_eq_getElem hk, ?_, World.ownsRow.frozenAt h k, (h.lt g rfl).2, rfl⟩
  rw [hc]
  simp [hk]
theorem ownsS_store {w : World} {B : Nat} {e : TypeId} {g n cap : Nat} {l : List ByteArray} (h : ownsS w B e (.slice (some ⟨g, 0, none⟩) n cap) l) (j : Nat) (t : ByteArray) :
    ownsS (w.setCell ⟨g, j, none⟩ (.string t)) B e (.slice (some ⟨g, 0, none⟩) n cap) (l.set j t) := by
  have hn : n = l.length := by
    rcases h.2 with ⟨h', _⟩ | ⟨g', cap', cur, h', _⟩
    · simp at h'
    · simp only [Value.slice.injEq] at h'
      exact h'.2.1
  subst hn
  exact ownsS_stored h j t
theorem set_same {l : List ByteArray} {k : Nat} {t : ByteArray} (h : l[k]? = some t) : l.set k t = l := by
  apply List.ext_getElem?
  intro j
  rw [List.getElem?_set]
  by_cases e : k = j
  · subst e
    rw [if_pos rfl, h]
    have : k < l.length := (List.getElem?_eq_some_iff.1 h).1
    simp [this]
  · rw [if_neg e]

end Go.Proofs.Ytehkebdncfljmaa
