/-
  Rows of records that hold rows themselves: what they read as, and such a row on the way. Over any program.
-/
import Derived.Test.YtkfhmeiiicidaaaGn
namespace Go.Proofs.Ytkfhmeiiicidaaa
open Go Go.RowKit
set_option linter.unusedVariables false

/-- A row of records, each of which reads as a plain one. -/
def DRow {κ τ : Type} [Rec κ] (One : World → κ → τ → Prop) (w : World) (v : Value) (l : List τ) : Prop :=
  ∃ ks : List κ, Reads w v ks ∧ ks.length = l.length ∧ ∀ (i : Nat) (t : τ), l[i]? = some t → ∃ k : κ, ks[i]? = some k ∧ One w k t
section
variable {κ τ : Type} [Rec κ] {One : World → κ → τ → Prop} {w w' : World} {v : Value} {l : List τ}
theorem DRow.below (hO : ∀ (w w' : World) (k : κ) (t : τ), One w k t → Below w.heap.size w w' → One w' k t) (h : DRow One w v l) (hb : Below w.heap.size w w') : DRow One w' v l := by
  obtain ⟨ks, h1, h2, h3⟩ := h
  refine ⟨ks, h1.below hb, h2, fun i t ht => ?_⟩
  obtain ⟨k, hk, ho⟩ := h3 i t ht
  exact ⟨k, hk, hO _ _ _ _ ho hb⟩
theorem DRow.imp {Two : World → κ → τ → Prop} (hO : ∀ (k : κ) (t : τ), One w k t → Two w k t) (h : DRow One w v l) : DRow Two w v l := by
  obtain ⟨ks, h1, h2, h3⟩ := h
  refine ⟨ks, h1, h2, fun i t ht => ?_⟩
  obtain ⟨k, hk, ho⟩ := h3 i t ht
  exact ⟨k, hk, hO _ _ ho⟩
theorem DRow.slice (h : DRow One w v l) : ∃ ao cap, v = .slice ao l.length cap := by
  obtain ⟨ks, h1, h2, _⟩ := h
  obtain ⟨ao, cap, rfl, _⟩ := id h1
  exact ⟨ao, cap, by rw [h2]⟩
theorem DRow.len {ao : Option Addr} {n cap : Nat} (h : DRow One w (.slice ao n cap) l) : l.length = n := by
  obtain ⟨ao', cap', e⟩ := h.slice
  injection e with _ e2 _
  exact e2.symm
theorem DRow.at {ao : Option Addr} {n cap : Nat} (h : DRow One w (.slice ao n cap) l) {k : Nat} {t : τ} (ht : l[k]? = some t) :
    ∃ (x : κ) (b o : Nat), ao = some ⟨b, o, none⟩ ∧ b < w.heap.size ∧ (∀ j u, (Rec.cells x)[j]? = some u → w.cell? ⟨b, o + k * Rec.width κ + j, none⟩ = some u) ∧ One w x t := by
  obtain ⟨ks, h1, h2, h3⟩ := h
  obtain ⟨x, hx, ho⟩ := h3 k t ht
  obtain ⟨b, o, rfl, hlt, hc⟩ := h1.at hx
  exact ⟨x, b, o, rfl, hlt, hc, ho⟩
theorem drow_none (w : World) (ao : Option Addr) (cap : Nat) : DRow One w (.slice ao 0 cap) ([] : List τ) := ⟨[], reads_none w ao cap, rfl, fun i t h => by simp at h⟩
end

/-- What a record's own rows are, from a block on. -/
structure Keeps {κ τ : Type} (OneB : Nat → World → κ → τ → Prop) : Prop where
  up : ∀ (C : Nat) (w w' : World) (k : κ) (t : τ), OneB C w k t → Below w.heap.size w w' → OneB C w' k t
  hi : ∀ (C : Nat) (w w' : World) (k : κ) (t : τ), OneB C w k t → w.heap.size ≤ w'.heap.size → (∀ j, C ≤ j → w'.heap[j]? = w.heap[j]?) → OneB C w' k t
  mono : ∀ (C C' : Nat) (w : World) (k : κ) (t : τ), OneB C w k t → C' ≤ C → OneB C' w k t
/-- Such a row, from a block on. -/
def DRowB {κ τ : Type} [Rec κ] (OneB : Nat → World → κ → τ → Prop) (B : Nat) (w : World) (v : Value) (l : List τ) : Prop :=
  (∀ b o n c, v = .slice (some ⟨b, o, none⟩) n c → B ≤ b) ∧ DRow (OneB B) w v l
section
variable {κ τ : Type} [Rec κ] {OneB : Nat → World → κ → τ → Prop} {B : Nat} {w w' : World} {v : Value} {l : List τ}
theorem reads_hi {α : Type} [Rec α] {r : List α} (hr : Reads w v r) (hs : w.heap.size ≤ w'.heap.size) (hW : ∀ k, B ≤ k → w'.heap[k]? = w.heap[k]?) (hb : ∀ b o n c, v = .slice (some ⟨b, o, none⟩) n c → B ≤ b) : Reads w' v r := by
  obtain ⟨ao, c, rfl, hr⟩ := hr
  refine ⟨ao, c, rfl, fun hne => ?_⟩
  obtain ⟨b, o, rfl, hlt, hc⟩ := hr hne
  have hbg := hb b o _ _ rfl
  refine ⟨b, o, rfl, by omega, fun i x hx j u hu => ?_⟩
  rw [← hc i x hx j u hu]
  exact World.cell?_of_block (a := ⟨b, _, none⟩) (hW b hbg)
theorem DRowB.up (hK : Keeps OneB) (h : DRowB OneB B w v l) (hb : Below w.heap.size w w') : DRowB OneB B w' v l := ⟨h.1, h.2.below (fun _ _ _ _ => hK.up B _ _ _ _) hb⟩
theorem DRowB.hi (hK : Keeps OneB) (h : DRowB OneB B w v l) (hs : w.heap.size ≤ w'.heap.size) (hW : ∀ k, B ≤ k → w'.heap[k]? = w.heap[k]?) : DRowB OneB B w' v l := by
  obtain ⟨h0, ks, h1, h2, h3⟩ := h
  refine ⟨h0, ks, reads_hi h1 hs hW h0, h2, fun i t ht => ?_⟩
  obtain ⟨k, hk, ho⟩ := h3 i t ht
  exact ⟨k, hk, hK.hi _ _ _ _ _ ho hs hW⟩
theorem DRowB.setLow (hK : Keeps OneB) (h : DRowB OneB B w v l) {a : Addr} (ha : a.block < B) (u : Value) : DRowB OneB B (w.setCell a u) v l :=
  h.hi hK (by simp) fun k hk => heap_setCell_other w a k u (fun e => by omega)
theorem DRowB.mono {B' : Nat} (hK : Keeps OneB) (h : DRowB OneB B w v l) (hB : B' ≤ B) : DRowB OneB B' w v l :=
  ⟨fun b o n c e => Nat.le_trans hB (h.1 b o n c e), h.2.imp fun _ _ ho => hK.mono _ _ _ _ _ ho hB⟩
end
/-- A row on the way: the first k are made, the others are none yet. -/
structure OnWay {κ τ : Type} [Rec κ] [Inhabited κ] (OneB : Nat → World → κ → τ → Prop) (e : TypeId) (w : World) (B n : Nat) (l : List τ) (k : Nat) (ks : List κ) (W : World) : Prop where
  own : ownsR W B e (.slice (some ⟨B, 0, none⟩) n n) ks
  len : ks.length = n
  bel : Below B w W
  done : ∀ (i : Nat) (t : τ), i < k → l[i]? = some t → ∃ x, ks[i]? = some x ∧ OneB (B + 1) W x t
  rest : ∀ i, k ≤ i → i < n → ks[i]? = some default
  low : w.heap.size = B
section
variable {κ τ : Type} [Rec κ] [Inhabited κ] {OneB : Nat → World → κ → τ → Prop} {e : TypeId} {w : World} {B n : Nat} {l : List τ} {k : Nat} {ks : List κ} {W W' : World}
theorem OnWay.up (hK : Keeps OneB) (h : OnWay OneB e w B n l k ks W) (hb : Below W.heap.size W W') : OnWay OneB e w B n l k ks W' := by
  refine ⟨h.own.all hb, h.len, h.bel.trans (hb.mono (by rw [← h.low]; exact h.bel.size)), fun i t hi ht => ?_, h.rest, h.low⟩
  obtain ⟨x, hx, ho⟩ := h.done i t hi ht
  exact ⟨x, hx, hK.up _ _ _ _ _ ho hb⟩
theorem OnWay.put (hK : Keeps OneB) (h : OnWay OneB e w B n l k ks W) (hk : k < n) {t : τ} (ht : l[k]? = some t) (f : κ) (hf : OneB (B + 1) W f t) (ho : ownsR W' B e (.slice (some ⟨B, 0, none⟩) n n) (ks.set k f)) (hs : W.heap.size ≤ W'.heap.size) (hW : ∀ j, j ≠ B → W'.heap[j]? = W.heap[j]?) (hbel : Below B w W') :
    OnWay OneB e w B n l (k + 1) (ks.set k f) W' := by
  have hl : k < ks.length := by rw [h.len]; exact hk
  refine ⟨ho, by rw [List.length_set]; exact h.len, hbel, fun i u hi hu => ?_, fun i hi hin => ?_, h.low⟩
  · by_cases e : i = k
    · subst e
      rw [ht] at hu
      cases hu
      exact ⟨f, List.getElem?_set_self hl, hK.hi _ _ _ _ _ hf hs fun j hj => hW j (by omega)⟩
    · obtain ⟨x, hx, ho⟩ := h.done i u (by omega) hu
      exact ⟨x, by rw [List.getElem?_set_ne (fun e' => e e'.symm)]; exact hx, hK.hi _ _ _ _ _ ho hs fun j hj => hW j (by omega)⟩
  · rw [List.getElem?_set_ne (by omega)]
    exact h.rest i (by omega) hin
theorem OnWay.all (hK : Keeps OneB) (h : OnWay OneB e w B n l n ks W) (hn : l.length = n) : DRowB OneB B W (.slice (some ⟨B, 0, none⟩) n n) l := by
  refine ⟨fun b o n c e => by injection e with e1 _ _; injection e1 with e1; injection e1 with e1 _ _; omega, ks, h.own.reads, by rw [h.len, hn], fun i t ht => ?_⟩
  obtain ⟨x, hx, ho⟩ := h.done i t (by rw [← hn]; exact (List.getElem?_eq_some_iff.1 ht).1) ht
  exact ⟨x, hx, hK.mono _ _ _ _ _ ho (Nat.le_succ _)⟩
theorem OnWay.start (hown : ownsR W w.heap.size e (.slice (some ⟨w.heap.size, 0, none⟩) n n) (List.replicate n (default : κ))) (hbel : Below w.heap.size w W) : OnWay OneB e w w.heap.size n l 0 (List.replicate n default) W :=
  ⟨hown, List.length_replicate .., hbel, fun i t hi => by omega, fun i _ hi => by rw [List.getElem?_replicate, if_pos hi], rfl⟩
end
end Go.Proofs.Ytkfhmeiiicidaaa
