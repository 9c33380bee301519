/-
  Names that are sorted by the library are just what the specification's inserting makes: plain facts. A heap of at most four places, plain: what is put into it and taken out of it. The order of a right plan's tasks, as the program makes it by a heap, is the specification's: plain facts. The places that a task is after, those behind it, and how high a plan is: plain facts.
-/
import Derived.Test.YtjmclcjhimcehaaGreatDoorG16
import Derived.Test.YtjmclcjhimcehaaGreatDoorG17
import Derived.Test.YtjmclcjhimcehaaGreatDoorNl
import Derived.Test.YtjmclcjhimcehaaGreatDoorG18
namespace Go.Proofs.YtjmclcjhimcehaaGreatDoor
open Go Go.RowKit

def ltB (a b : ByteArray) : Prop := a.data.toList < b.data.toList
theorem ltB_iff {a b : ByteArray} : lessB a b = true ↔ ltB a b := by
  unfold lessB ltB
  rw [bytesLess_eq, ByteArray.toList_eq, ByteArray.toList_eq, decide_eq_true_eq]
theorem ltB_irr (a : ByteArray) : ¬ ltB a a := Std.lt_irrefl
theorem ltB_trans {a b c : ByteArray} (h1 : ltB a b) (h2 : ltB b c) : ltB a c := Std.lt_trans h1 h2
theorem ltB_tri (a b : ByteArray) : ltB a b ∨ a = b ∨ ltB b a := by
  rcases Std.lt_trichotomy a.data.toList b.data.toList with h | h | h
  · exact .inl h
  · exact .inr (.inl (by apply ByteArray.ext; exact Array.toList_inj.1 h))
  · exact .inr (.inr h)
theorem more_iff {a b : ByteArray} : moreB a b = true ↔ ltB b a := by
  have h : moreB a b = !leB a b := rfl
  rw [h, ← less_le]
  exact ltB_iff
/-- Names that ascend. -/
def AscP (l : List ByteArray) : Prop := l.Pairwise ltB
theorem ascB_from : ∀ (l : List ByteArray) (p : ByteArray), ascB p l = true ↔ (∀ s ∈ l, nameB s = true) ∧ AscP (p :: l)
  | [], p => by simp [ascB, AscP]
  | s :: r, p => by
    unfold ascB
    rw [Bool.and_eq_true, Bool.and_eq_true, ← less_le, ascB_from r s, ltB_iff]
    constructor
    · rintro ⟨⟨h1, h2⟩, h3, h4⟩
      refine ⟨fun x hx => ?_, ?_⟩
      · rcases List.mem_cons.1 hx with rfl | hx
        · exact h1
        · exact h3 x hx
      · unfold AscP at h4 ⊢
        rw [List.pairwise_cons] at h4 ⊢
        refine ⟨fun x hx => ?_, List.pairwise_cons.2 h4⟩
        rcases List.mem_cons.1 hx with rfl | hx
        · exact h2
        · exact ltB_trans h2 (h4.1 x hx)
    · rintro ⟨h1, h2⟩
      unfold AscP at h2 ⊢
      rw [List.pairwise_cons] at h2
      exact ⟨⟨h1 s (List.mem_cons_self ..), h2.1 s (List.mem_cons_self ..)⟩, fun x hx => h1 x (List.mem_cons_of_mem _ hx), h2.2⟩
theorem name_gt {s : ByteArray} (h : nameB s = true) : ltB ⟨#[]⟩ s := by
  have h0 : 0 < s.size := by
    unfold nameB at h
    rw [Bool.and_eq_true] at h
    exact (of_decide_eq_true h.1).1
  rw [← ltB_iff, less_le, leB_none h0]
  rfl
theorem ascB_iff {l : List ByteArray} : ascB ⟨#[]⟩ l = true ↔ (∀ s ∈ l, nameB s = true) ∧ AscP l := by
  rw [ascB_from]
  unfold AscP
  rw [List.pairwise_cons]
  exact ⟨fun h => ⟨h.1, h.2.2⟩, fun h => ⟨h.1, fun x hx => name_gt (h.1 x hx), h.2⟩⟩
theorem AscP.nodup {l : List ByteArray} (h : AscP l) : l.Nodup := List.Pairwise.imp (fun {a b} h e => by subst e; exact ltB_irr a h) h
theorem insN_perm {l : List ByteArray} {s : ByteArray} (h : s ∉ l) : (insN l s).Perm (s :: l) := by
  have e : l.filter (fun x => moreB x s) = l.filter fun x => !lessB x s := by
    apply List.filter_congr
    intro x hx
    have hne : x ≠ s := fun e => h (e ▸ hx)
    rw [Bool.eq_iff_iff, more_iff, Bool.not_eq_true', ← Bool.not_eq_true, ltB_iff]
    constructor
    · intro h1 h2; exact ltB_irr _ (ltB_trans h1 h2)
    · intro h1
      rcases ltB_tri x s with h2 | h2 | h2
      · exact absurd h2 h1
      · exact absurd h2 hne
      · exact h2
  unfold insN
  rw [e, List.append_assoc]
  have h1 := List.filter_append_perm (fun x => lessB x s) l
  exact (List.perm_middle (a := s) (l₁ := l.filter fun x => lessB x s) (l₂ := l.filter fun x => !lessB x s)).trans (h1.cons s)
theorem insN_asc {l : List ByteArray} {s : ByteArray} (h : AscP l) : AscP (insN l s) := by
  unfold insN AscP
  rw [List.append_assoc, List.pairwise_append]
  refine ⟨h.sublist List.filter_sublist, ?_, ?_⟩
  · rw [List.singleton_append, List.pairwise_cons]
    exact ⟨fun x hx => more_iff.1 (List.mem_filter.1 hx).2, h.sublist List.filter_sublist⟩
  · intro a ha b hb
    have ha' := ltB_iff.1 (List.mem_filter.1 ha).2
    rw [List.singleton_append, List.mem_cons] at hb
    rcases hb with rfl | hb
    · exact ha'
    · exact ltB_trans ha' (more_iff.1 (List.mem_filter.1 hb).2)
theorem names_some : ∀ (p l nl : List ByteArray), (∀ s ∈ l, nameB s = true) → AscP l → namesGo p l = some nl → (∀ s ∈ nl, nameB s = true) ∧ AscP nl ∧ nl.Perm (p ++ l)
  | [], l, nl, h1, h2, h => by
    simp only [namesGo, Option.some.injEq] at h
    subst h
    exact ⟨h1, h2, List.Perm.refl _⟩
  | s :: r, l, nl, h1, h2, h => by
    unfold namesGo at h
    split at h
    · rename_i hc
      rw [Bool.and_eq_true, List.all_eq_true] at hc
      have hs : s ∉ l := fun hm => by have := hc.2 s hm; simp at this
      have hp := insN_perm hs
      obtain ⟨g1, g2, g3⟩ := names_some r (insN l s) nl (fun x hx => by
        rcases List.mem_cons.1 (hp.mem_iff.1 hx) with rfl | hx
        · exact hc.1
        · exact h1 x hx) (insN_asc h2) h
      exact ⟨g1, g2, g3.trans ((hp.append_left r).trans List.perm_middle)⟩
    · cases h
theorem names_none : ∀ (p l : List ByteArray), namesGo p l = none → ¬ ((∀ s ∈ p, nameB s = true) ∧ (p ++ l).Nodup)
  | [], l, h => by simp [namesGo] at h
  | s :: r, l, h => by
    rintro ⟨h1, h2⟩
    unfold namesGo at h
    rw [List.cons_append, List.nodup_cons] at h2
    have hs : s ∉ l := fun hm => h2.1 (List.mem_append_right _ hm)
    rw [if_pos] at h
    · refine names_none r (insN l s) h ⟨fun x hx => h1 x (List.mem_cons_of_mem _ hx), ?_⟩
      have hp : (r ++ insN l s).Perm (s :: (r ++ l)) := ((insN_perm hs).append_left r).trans List.perm_middle
      rw [hp.nodup_iff, List.nodup_cons]
      exact h2
    · rw [Bool.and_eq_true, List.all_eq_true]
      refine ⟨h1 s (List.mem_cons_self ..), fun x hx => ?_⟩
      have : x ≠ s := fun e => hs (e ▸ hx)
      simp [this]
/-- Sorted. -/
def sortL (L : List (List UInt8)) : List (List UInt8) := L.mergeSort fun x y => decide (x ≤ y)
def sortB (L : List ByteArray) : List ByteArray := (sortL (L.map (·.data.toList))).map fun b => ⟨b.toArray⟩
theorem map_back (L : List ByteArray) : (L.map (·.data.toList)).map (fun b : List UInt8 => (⟨b.toArray⟩ : ByteArray)) = L := by
  rw [List.map_map]
  have : (fun b : List UInt8 => (⟨b.toArray⟩ : ByteArray)) ∘ (fun x : ByteArray => x.data.toList) = id := by funext x; simp
  rw [this, List.map_id]
theorem sortB_perm (L : List ByteArray) : (sortB L).Perm L := by
  have h := (List.mergeSort_perm (L.map (·.data.toList)) fun x y => decide (x ≤ y)).map fun b : List UInt8 => (⟨b.toArray⟩ : ByteArray)
  rw [map_back] at h
  exact h
theorem sortL_le (L : List (List UInt8)) : (sortL L).Pairwise (· ≤ ·) := by
  have h := List.pairwise_mergeSort (le := fun x y : List UInt8 => decide (x ≤ y)) (fun a b c h1 h2 => decide_eq_true (Std.le_trans (of_decide_eq_true h1) (of_decide_eq_true h2))) (fun a b => by
    rw [Bool.or_eq_true, decide_eq_true_eq, decide_eq_true_eq]
    exact List.le_total a b) L
  exact h.imp fun h => of_decide_eq_true h
theorem sortB_le (L : List ByteArray) : (sortB L).Pairwise fun a b => a.data.toList ≤ b.data.toList := by
  unfold sortB
  rw [List.pairwise_map]
  exact (sortL_le _).imp fun {a b} h => by simpa using h
theorem asc_sort {S nl : List ByteArray} (h : AscP nl) (hp : nl.Perm S) : sortB S = nl := by
  refine List.Perm.eq_of_pairwise (le := fun a b : ByteArray => a.data.toList ≤ b.data.toList) (fun a b _ _ h1 h2 => ?_) (sortB_le S) (h.imp fun {a b} h => Std.le_of_lt h) ((sortB_perm S).trans hp.symm)
  apply ByteArray.ext
  exact Array.toList_inj.1 (List.le_antisymm h1 h2)
/-- What the specification makes of names is what sorting makes. -/
theorem names_sort (s : ByteArray) : namesO s = if ascB ⟨#[]⟩ (sortB (splitB s 44)) = true then some (sortB (splitB s 44)) else none := by
  unfold namesO
  cases h : namesGo (splitB s 44) [] with
  | some nl =>
    obtain ⟨h1, h2, h3⟩ := names_some _ [] nl (fun _ h => nomatch h) List.Pairwise.nil h
    rw [List.append_nil] at h3
    rw [asc_sort h2 h3, if_pos (ascB_iff.2 ⟨h1, h2⟩)]
  | none =>
    rw [if_neg]
    intro ha
    obtain ⟨h1, h2⟩ := ascB_iff.1 ha
    refine names_none _ [] h ⟨fun x hx => h1 x ((sortB_perm _).mem_iff.2 hx), ?_⟩
    rw [List.append_nil]
    exact (sortB_perm _).nodup_iff.1 h2.nodup
end Go.Proofs.YtjmclcjhimcehaaGreatDoor

namespace Go.Proofs.YtjmclcjhimcehaaGreatDoor
open Go Go.RowKit

def swapL (l : List Int) (i j : Nat) : List Int := (l.set i (l.getD j 0)).set j (l.getD i 0)
theorem swapL_len (l : List Int) (i j : Nat) : (swapL l i j).length = l.length := by simp [swapL]
/-- What goes up from a place. -/
def upF : Nat → List Int → Nat → List Int
  | 0, l, _ => l
  | f + 1, l, j => if (j - 1) / 2 = j ∨ ¬ l.getD j 0 < l.getD ((j - 1) / 2) 0 then l else upF f (swapL l ((j - 1) / 2) j) ((j - 1) / 2)
/-- The lesser of the two below a place. -/
def lesL (l : List Int) (i n : Nat) : Nat := if 2 * i + 2 < n ∧ l.getD (2 * i + 2) 0 < l.getD (2 * i + 1) 0 then 2 * i + 2 else 2 * i + 1
/-- What goes down from a place. -/
def downF : Nat → List Int → Nat → Nat → List Int
  | 0, l, _, _ => l
  | f + 1, l, i, n => if n ≤ 2 * i + 1 then l else if l.getD (lesL l i n) 0 < l.getD i 0 then downF f (swapL l i (lesL l i n)) (lesL l i n) n else l
def pushL (l : List Int) (x : Int) : List Int := upF 4 (l ++ [x]) l.length
def popL (l : List Int) : List Int := downF 3 (swapL l 0 (l.length - 1)) 0 (l.length - 1)
def minL (l : List Int) : Int := (popL l).getD (l.length - 1) 0
def restL (l : List Int) : List Int := (popL l).take (l.length - 1)
theorem upF_len : ∀ (f : Nat) (l : List Int) (j : Nat), (upF f l j).length = l.length
  | 0, _, _ => rfl
  | f + 1, l, j => by
    unfold upF
    split
    · rfl
    · rw [upF_len f, swapL_len]
theorem downF_len : ∀ (f : Nat) (l : List Int) (i n : Nat), (downF f l i n).length = l.length
  | 0, _, _, _ => rfl
  | f + 1, l, i, n => by
    unfold downF
    split
    · rfl
    · split
      · rw [downF_len f, swapL_len]
      · rfl
theorem pushL_len (l : List Int) (x : Int) : (pushL l x).length = l.length + 1 := by unfold pushL; rw [upF_len]; simp
theorem popL_len (l : List Int) : (popL l).length = l.length := by unfold popL; rw [downF_len, swapL_len]
theorem popL_parts {l : List Int} (h : l ≠ []) : popL l = restL l ++ [minL l] := by
  have h0 : 0 < l.length := List.length_pos_iff.2 h
  have hl := popL_len l
  have hk : l.length - 1 < (popL l).length := by omega
  unfold restL minL
  rw [List.getD_eq_getElem?_getD, List.getElem?_eq_getElem hk, Option.getD_some, ← List.take_succ_eq_append_getElem hk]
  rw [List.take_of_length_le (by omega)]
/-- A heap of places: at most four, none twice, none less than the one above it. -/
def memI (l : List Int) (x : Int) : Bool := l.any fun y => decide (y = x)
def onceI : List Int → Bool
  | [] => true
  | x :: r => !memI r x && onceI r
def heapB (l : List Int) : Bool := onceI l && (List.range l.length).all fun i => decide (l.getD ((i - 1) / 2) 0 ≤ l.getD i 0)
def four : List Int := [0, 1, 2, 3]
def allK : Nat → List (List Int)
  | 0 => [[]]
  | k + 1 => (allK k).flatMap fun l => four.map fun x => x :: l
theorem four_mem {x : Int} (h0 : 0 ≤ x) (h1 : x ≤ 3) : x ∈ four := by
  have : x = 0 ∨ x = 1 ∨ x = 2 ∨ x = 3 := by omega
  rcases this with rfl | rfl | rfl | rfl <;> simp [four]
theorem allK_mem : ∀ (l : List Int), (∀ x ∈ l, 0 ≤ x ∧ x ≤ 3) → l ∈ allK l.length
  | [], _ => by simp [allK]
  | x :: r, h => by
    have ih := allK_mem r fun y hy => h y (List.mem_cons_of_mem _ hy)
    obtain ⟨h0, h1⟩ := h x (List.mem_cons_self ..)
    show x :: r ∈ (allK r.length).flatMap _
    rw [List.mem_flatMap]
    exact ⟨r, ih, List.mem_map.2 ⟨x, four_mem h0 h1, rfl⟩⟩
def pushOk (l : List Int) : Bool := !heapB l || four.all fun x => memI l x || (heapB (pushL l x) && (four.all fun y => memI (pushL l x) y == (decide (x = y) || memI l y)) && (pushL l x).all fun y => decide (0 ≤ y ∧ y ≤ 3))
def popOk (l : List Int) : Bool := !heapB l || (heapB (restL l) && memI l (minL l) && (l.all fun y => decide (minL l ≤ y)) && (four.all fun y => memI (restL l) y == (memI l y && !decide (minL l = y))) && (restL l).all fun y => decide (0 ≤ y ∧ y ≤ 3))
theorem push_all : ((List.range 4).all fun k => (allK k).all pushOk) = true := by decide +kernel
theorem pop_all : ((List.range 4).all fun k => (allK (k + 1)).all popOk) = true := by decide +kernel
theorem memI_iff {l : List Int} {x : Int} : memI l x = true ↔ x ∈ l := by
  unfold memI
  rw [List.any_eq_true]
  constructor
  · rintro ⟨y, hy, e⟩
    rw [← of_decide_eq_true e]
    exact hy
  · intro h
    exact ⟨x, h, decide_eq_true rfl⟩
/-- A heap of places. -/
structure HpL (l : List Int) : Prop where
  heap : heapB l = true
  small : ∀ x ∈ l, 0 ≤ x ∧ x ≤ 3
theorem HpL.none : HpL [] := ⟨rfl, fun _ h => nomatch h⟩
theorem HpL.push {l : List Int} (h : HpL l) (hl : l.length ≤ 3) {x : Int} (h0 : 0 ≤ x) (h1 : x ≤ 3) (hx : x ∉ l) : HpL (pushL l x) ∧ ∀ y, y ∈ pushL l x ↔ x = y ∨ y ∈ l := by
  have ha := List.all_eq_true.1 (List.all_eq_true.1 push_all l.length (List.mem_range.2 (by omega))) l (allK_mem l h.small)
  unfold pushOk at ha
  rw [h.heap, Bool.not_true, Bool.false_or, List.all_eq_true] at ha
  have hb := ha x (four_mem h0 h1)
  have hm : memI l x = false := by
    cases hq : memI l x
    · rfl
    · exact absurd (memI_iff.1 hq) hx
  rw [hm, Bool.false_or, Bool.and_eq_true, Bool.and_eq_true, List.all_eq_true, List.all_eq_true] at hb
  obtain ⟨⟨g1, g2⟩, g3⟩ := hb
  have g3' : ∀ y ∈ pushL l x, 0 ≤ y ∧ y ≤ 3 := fun y hy => of_decide_eq_true (g3 y hy)
  refine ⟨⟨g1, g3'⟩, fun y => ?_⟩
  constructor
  · intro hy
    obtain ⟨y0, y1⟩ := g3' y hy
    have := g2 y (four_mem y0 y1)
    rw [memI_iff.2 hy] at this
    have h5 : (decide (x = y) || memI l y) = true := by simpa using this
    rw [Bool.or_eq_true] at h5
    rcases h5 with h5 | h5
    · exact .inl (of_decide_eq_true h5)
    · exact .inr (memI_iff.1 h5)
  · intro hy
    have hyy : 0 ≤ y ∧ y ≤ 3 := by
      rcases hy with rfl | hy
      · exact ⟨h0, h1⟩
      · exact h.small y hy
    have := g2 y (four_mem hyy.1 hyy.2)
    have h5 : (decide (x = y) || memI l y) = true := by
      rw [Bool.or_eq_true]
      rcases hy with rfl | hy
      · exact .inl (decide_eq_true rfl)
      · exact .inr (memI_iff.2 hy)
    rw [h5] at this
    exact memI_iff.1 (by simpa using this)
theorem HpL.pop {l : List Int} (h : HpL l) (hl : l.length ≤ 4) (hne : l ≠ []) : HpL (restL l) ∧ minL l ∈ l ∧ (∀ y ∈ l, minL l ≤ y) ∧ ∀ y, y ∈ restL l ↔ y ∈ l ∧ minL l ≠ y := by
  have h0 : 0 < l.length := List.length_pos_iff.2 hne
  have ha := List.all_eq_true.1 (List.all_eq_true.1 pop_all (l.length - 1) (List.mem_range.2 (by omega))) l (by
    have := allK_mem l h.small
    rwa [show l.length - 1 + 1 = l.length by omega])
  unfold popOk at ha
  rw [h.heap, Bool.not_true, Bool.false_or, Bool.and_eq_true, Bool.and_eq_true, Bool.and_eq_true, Bool.and_eq_true, List.all_eq_true, List.all_eq_true, List.all_eq_true] at ha
  obtain ⟨⟨⟨⟨g1, g2⟩, g3⟩, g4⟩, g5⟩ := ha
  have g5' : ∀ y ∈ restL l, 0 ≤ y ∧ y ≤ 3 := fun y hy => of_decide_eq_true (g5 y hy)
  refine ⟨⟨g1, g5'⟩, memI_iff.1 g2, fun y hy => of_decide_eq_true (g3 y hy), fun y => ?_⟩
  constructor
  · intro hy
    obtain ⟨y0, y1⟩ := g5' y hy
    have := g4 y (four_mem y0 y1)
    rw [memI_iff.2 hy] at this
    have h6 : (memI l y && !decide (minL l = y)) = true := by simpa using this
    rw [Bool.and_eq_true, Bool.not_eq_true'] at h6
    exact ⟨memI_iff.1 h6.1, of_decide_eq_false h6.2⟩
  · rintro ⟨hy, hn⟩
    obtain ⟨y0, y1⟩ := h.small y hy
    have := g4 y (four_mem y0 y1)
    rw [memI_iff.2 hy, decide_eq_false hn] at this
    exact memI_iff.1 (by simpa using this)
end Go.Proofs.YtjmclcjhimcehaaGreatDoor

namespace Go.Proofs.YtjmclcjhimcehaaGreatDoor
open Go Go.RowKit
set_option linter.unusedVariables false

/-- The tasks of a right plan. -/
structure Rg4 (ts : List Ta) : Prop where
  own : Own ts
  lies : ∀ t ∈ ts, ∀ s ∈ t.after, 0 ≤ atN ts s
  once : ∀ t ∈ ts, t.after.Nodup
  self : ∀ t ∈ ts, t.name ∉ t.after
  few : ts.length ≤ 4
  pos : 1 ≤ ts.length
  full : (orderL ts).length = ts.length
theorem afterB_self {ts : List Ta} {nm : ByteArray} : ∀ (l : List ByteArray) (p : Option ByteArray), afterB ts nm p l = true → nm ∉ l
  | [], _, _ => fun h => nomatch h
  | s :: r, p, h => by
    unfold afterB at h
    rw [Bool.and_eq_true, Bool.and_eq_true, Bool.and_eq_true, Bool.not_eq_true'] at h
    intro hm
    rcases List.mem_cons.1 hm with e | hm
    · exact of_decide_eq_false h.1.2.1 e.symm
    · exact afterB_self r _ h.2 hm
theorem rg_of {d : Dg} (h : dagB d = true) : Rg4 d.tasks := by
  unfold dagB at h
  simp only [Bool.and_eq_true, decide_eq_true_eq] at h
  obtain ⟨_, _, _, _, _, ⟨h1, h2⟩, h3, h4⟩ := h
  have key : ∀ (i : Nat) (t : Ta), d.tasks[i]? = some t → nameB t.name = true ∧ atN d.tasks t.name = (i : Int) ∧ afterB d.tasks t.name none t.after = true := by
    intro i t ht
    have := (tasksB_iff d.tasks 0 rfl).1 h3 i t (Nat.zero_le _) ht
    unfold taskB at this
    simp only [Bool.and_eq_true, decide_eq_true_eq] at this
    exact ⟨this.1, this.2.1, this.2.2.2.2⟩
  have hat : ∀ t ∈ d.tasks, ∀ s ∈ t.after, 0 ≤ atN d.tasks s := fun t ht s hs => by
    obtain ⟨i, hi, rfl⟩ := List.getElem_of_mem ht
    exact after_mem (key i _ (List.getElem?_eq_getElem hi)).2.2 hs
  refine ⟨fun i t ht => (key i t ht).2.1, hat, fun t ht => ?_, fun t ht => ?_, by omega, by omega, h4⟩
  · obtain ⟨i, hi, rfl⟩ := List.getElem_of_mem ht
    have hk := (key i _ (List.getElem?_eq_getElem hi)).2.2
    refine (ascB_iff.1 (after_asc0 hk fun s hs => ?_)).2.nodup
    obtain ⟨j, u, hj, e, _⟩ := at_find (hat _ ht s hs)
    rw [← e]
    exact (key j u hj).1
  · obtain ⟨i, hi, rfl⟩ := List.getElem_of_mem ht
    exact afterB_self _ _ (key i _ (List.getElem?_eq_getElem hi)).2.2
/-- A name stands at a place just when it is the place's. -/
theorem at_name {ts : List Ta} (ho : Own ts) {m : Nat} {u : Ta} (hu : ts[m]? = some u) {s : ByteArray} (hs : 0 ≤ atN ts s) : atN ts s = (m : Int) ↔ s = u.name := by
  constructor
  · intro h
    obtain ⟨j, t, hj, e, ha⟩ := at_find hs
    rw [ha] at h
    have : j = m := by omega
    subst this
    rw [hu] at hj
    cases hj
    exact e.symm
  · rintro rfl
    exact ho m u hu
/-- How many names have not come. -/
def cntA (ts : List Ta) (out : List Int) (l : List ByteArray) : Nat := (l.filter fun s => !decide (atN ts s ∈ out)).length
theorem cnt_free {ts : List Ta} {out : List Int} {l : List ByteArray} : cntA ts out l = 0 ↔ freeB ts out l = true := by
  unfold cntA freeB
  rw [List.length_eq_zero_iff, List.filter_eq_nil_iff, List.all_eq_true]
  constructor
  · intro h s hs
    have := h s hs
    simpa using this
  · intro h s hs
    have := h s hs
    simpa using this
theorem cnt_none (ts : List Ta) (l : List ByteArray) : cntA ts [] l = l.length := by
  unfold cntA
  rw [List.filter_eq_self.2 (fun s _ => by simp)]
theorem cnt_not {ts : List Ta} {out : List Int} {m : Int} {l : List ByteArray} (h : ∀ s ∈ l, atN ts s ≠ m) : cntA ts (out ++ [m]) l = cntA ts out l := by
  unfold cntA
  congr 1
  apply List.filter_congr
  intro s hs
  have := h s hs
  simp [this]
theorem cnt_one {ts : List Ta} {out : List Int} {m : Int} {u : ByteArray} (hm : atN ts u = m) (hout : m ∉ out) : ∀ (l : List ByteArray), l.Nodup → u ∈ l → (∀ s ∈ l, atN ts s = m → s = u) → cntA ts out l = cntA ts (out ++ [m]) l + 1
  | x :: r, hn, hu, hne => by
    rw [List.nodup_cons] at hn
    by_cases hx : x = u
    · subst hx
      have h1 : cntA ts (out ++ [m]) r = cntA ts out r := cnt_not fun s hs e => hn.1 ((hne s (List.mem_cons_of_mem _ hs) e) ▸ hs)
      unfold cntA at h1 ⊢
      rw [List.filter_cons, List.filter_cons]
      simp only [hm, hout, List.mem_append, List.mem_singleton, or_true, decide_true, decide_false, Bool.not_true, Bool.not_false, if_true, Bool.false_eq_true, if_false, List.length_cons]
      rw [← h1]
      congr 2
      apply List.filter_congr
      intro s _
      simp
    · have hr : u ∈ r := by
        rcases List.mem_cons.1 hu with e | h
        · exact absurd e.symm hx
        · exact h
      have ih := cnt_one hm hout r hn.2 hr fun s hs => hne s (List.mem_cons_of_mem _ hs)
      have hxm : atN ts x ≠ m := fun e => hx (hne x (List.mem_cons_self ..) e)
      unfold cntA at ih ⊢
      rw [List.filter_cons, List.filter_cons]
      by_cases hq : atN ts x ∈ out
      · have h1 : atN ts x ∈ out ++ [m] := List.mem_append_left _ hq
        simp only [hq, h1, decide_true, Bool.not_true, Bool.false_eq_true, if_false]
        exact ih
      · have h1 : ¬ atN ts x ∈ out ++ [m] := fun h => by
          rcases List.mem_append.1 h with h | h
          · exact hq h
          · exact hxm (List.mem_singleton.1 h)
        simp only [hq, h1, decide_false, Bool.not_false, if_true, List.length_cons]
        omega
/-- A place whose task may come. -/
def freeI (ts : List Ta) (out : List Int) (i : Nat) : Prop := ∃ t, ts[i]? = some t ∧ freeB ts out t.after = true
theorem freeI.lt {ts : List Ta} {out : List Int} {i : Nat} (h : freeI ts out i) : i < ts.length := by
  obtain ⟨t, ht, _⟩ := h
  exact (List.getElem?_eq_some_iff.1 ht).1
theorem free_none {ts : List Ta} {i : Nat} {t : Ta} (h : ts[i]? = some t) : freeI ts [] i ↔ t.after.length = 0 := by
  constructor
  · rintro ⟨u, hu, hf⟩
    rw [h] at hu
    cases hu
    have := cnt_free.2 hf
    rwa [cnt_none] at this
  · intro hl
    exact ⟨t, h, cnt_free.1 (by rw [cnt_none]; exact hl)⟩
theorem once_nodup : ∀ {l : List Int}, onceI l = true → l.Nodup
  | [], _ => List.nodup_nil
  | x :: r, h => by
    unfold onceI at h
    rw [Bool.and_eq_true, Bool.not_eq_true'] at h
    rw [List.nodup_cons]
    exact ⟨fun hm => (by rw [memI_iff.2 hm] at h; cases h.1), once_nodup h.2⟩
theorem HpL.nodup {l : List Int} (h : HpL l) : l.Nodup := by
  have := h.heap
  unfold heapB at this
  rw [Bool.and_eq_true] at this
  exact once_nodup this.1
theorem HpL.len {l : List Int} (h : HpL l) : l.length ≤ 4 := nodup_sub_len h.nodup fun x hx => four_mem (h.small x hx).1 (h.small x hx).2
theorem HpL.less {l : List Int} (h : HpL l) {x : Int} (h0 : 0 ≤ x) (h1 : x ≤ 3) (hx : x ∉ l) : l.length ≤ 3 := by
  have := nodup_sub_len (L := x :: l) (M := four) (List.nodup_cons.2 ⟨hx, h.nodup⟩) fun y hy => by
    rcases List.mem_cons.1 hy with rfl | hy
    · exact four_mem h0 h1
    · exact four_mem (h.small y hy).1 (h.small y hy).2
  simp [four] at this
  omega
/-- What the program holds while it gathers who waits for none. -/
structure In0 (ts : List Ta) (k : Nat) (F La : List Int) : Prop where
  heap : HpL F
  mem : ∀ y, y ∈ F ↔ ∃ i : Nat, y = (i : Int) ∧ i < k ∧ freeI ts [] i
  len : La.length = 4
  lac : ∀ (i : Nat) (t : Ta), i < k → ts[i]? = some t → La[i]? = some ((cntA ts [] t.after : Nat) : Int)
/-- What the program holds while tasks come. -/
structure InO (ts : List Ta) (out out' : List Int) (k : Nat) (F La : List Int) : Prop where
  heap : HpL F
  mem : ∀ y, y ∈ F ↔ ∃ i : Nat, y = (i : Int) ∧ (i : Int) ∉ out' ∧ freeI ts (if i < k then out' else out) i
  len : La.length = 4
  lac : ∀ (i : Nat) (t : Ta), ts[i]? = some t → La[i]? = some ((cntA ts (if i < k then out' else out) t.after : Nat) : Int)
theorem In0.start (ts : List Ta) : In0 ts 0 [] [0, 0, 0, 0] := ⟨HpL.none, fun y => ⟨fun h => (nomatch h), fun ⟨i, _, h, _⟩ => by omega⟩, rfl, fun i t h _ => by omega⟩
theorem In0.fresh {ts : List Ta} {k : Nat} {F La : List Int} (h : In0 ts k F La) : ((k : Nat) : Int) ∉ F := fun hm => by
  obtain ⟨i, e, hi, _⟩ := (h.mem _).1 hm
  omega
theorem set_get {La : List Int} {k i : Nat} {c : Int} (hk : k < La.length) : (La.set k c)[i]? = if i = k then some c else La[i]? := by
  rw [List.getElem?_set]
  by_cases e : i = k
  · subst e
    rw [if_pos rfl, if_pos rfl, if_pos hk]
  · rw [if_neg (fun h => e h.symm), if_neg e]
theorem In0.more {ts : List Ta} {k : Nat} {F La : List Int} {t : Ta} (h : In0 ts k F La) (hk : k < 4) (ht : ts[k]? = some t) (hl : t.after.length ≠ 0) : In0 ts (k + 1) F (La.set k (t.after.length : Int)) := by
  refine ⟨h.heap, fun y => ?_, by rw [List.length_set]; exact h.len, fun i u hi hu => ?_⟩
  · rw [h.mem]
    constructor
    · rintro ⟨i, e, hi, hf⟩
      exact ⟨i, e, by omega, hf⟩
    · rintro ⟨i, e, hi, hf⟩
      refine ⟨i, e, ?_, hf⟩
      by_cases hik : i = k
      · subst hik
        exact absurd ((free_none ht).1 hf) hl
      · omega
  · rw [set_get (by rw [h.len]; exact hk)]
    by_cases hik : i = k
    · subst hik
      rw [ht] at hu
      cases hu
      rw [if_pos rfl, cnt_none]
    · rw [if_neg hik]
      exact h.lac i u (by omega) hu
theorem In0.free0 {ts : List Ta} {k : Nat} {F La : List Int} {t : Ta} (h : In0 ts k F La) (hk : k < 4) (ht : ts[k]? = some t) (hl : t.after.length = 0) : In0 ts (k + 1) (pushL F k) (La.set k (t.after.length : Int)) := by
  have hp := h.heap.push (h.heap.less (x := (k : Int)) (by omega) (by omega) h.fresh) (x := (k : Int)) (by omega) (by omega) h.fresh
  refine ⟨hp.1, fun y => ?_, by rw [List.length_set]; exact h.len, fun i u hi hu => ?_⟩
  · rw [hp.2, h.mem]
    constructor
    · rintro (e | ⟨i, e, hi, hf⟩)
      · exact ⟨k, e.symm, by omega, (free_none ht).2 hl⟩
      · exact ⟨i, e, by omega, hf⟩
    · rintro ⟨i, e, hi, hf⟩
      by_cases hik : i = k
      · subst hik
        exact .inl e.symm
      · exact .inr ⟨i, e, by omega, hf⟩
  · rw [set_get (by rw [h.len]; exact hk)]
    by_cases hik : i = k
    · subst hik
      rw [ht] at hu
      cases hu
      rw [if_pos rfl, cnt_none]
    · rw [if_neg hik]
      exact h.lac i u (by omega) hu
theorem In0.go {ts : List Ta} {k : Nat} {F La : List Int} (h : In0 ts k F La) (hk : ts.length ≤ k) : InO ts [] [] 0 F La := by
  refine ⟨h.heap, fun y => ?_, h.len, fun i t ht => ?_⟩
  · rw [h.mem]
    constructor
    · rintro ⟨i, e, hi, hf⟩
      exact ⟨i, e, (fun h => nomatch h), by rw [if_neg (by omega)]; exact hf⟩
    · rintro ⟨i, e, _, hf⟩
      rw [if_neg (by omega)] at hf
      exact ⟨i, e, by have := hf.lt; omega, hf⟩
  · rw [if_neg (by omega)]
    exact h.lac i t (by have := (List.getElem?_eq_some_iff.1 ht).1; omega) ht
theorem scan_first {ts : List Ta} {out : List Int} {m : Nat} {u : Ta} (hu : ts[m]? = some u) (hm : (m : Int) ∉ out) (hf : freeB ts out u.after = true) (hl : ∀ (j : Nat) (t : Ta), j < m → ts[j]? = some t → (j : Int) ∈ out ∨ freeB ts out t.after = false) : ∀ (d i : Nat), i + d = m → ordScan ts out i (ts.drop i) = out ++ [(m : Int)]
  | 0, i, e => by
    have e : i = m := by omega
    subst e
    rw [ordScan_at hu, if_neg hm, if_pos hf]
  | d + 1, i, e => by
    have hml := (List.getElem?_eq_some_iff.1 hu).1
    obtain ⟨t, ht⟩ : ∃ t, ts[i]? = some t := ⟨_, List.getElem?_eq_getElem (by omega)⟩
    have ih := scan_first hu hm hf hl d (i + 1) (by omega)
    rw [ordScan_at ht]
    rcases hl i t (by omega) ht with h | h
    · rw [if_pos h]; exact ih
    · by_cases h2 : (i : Int) ∈ out
      · rw [if_pos h2]; exact ih
      · rw [if_neg h2, h]; exact ih
/-- What is taken out of the heap is the next one. -/
theorem InO.pop {ts : List Ta} {out F La : List Int} (h : InO ts out out 0 F La) (hne : F ≠ []) :
    ∃ (m : Nat) (u : Ta), minL F = (m : Int) ∧ ts[m]? = some u ∧ (m : Int) ∉ out ∧ ordScan ts out 0 ts = out ++ [(m : Int)] ∧ InO ts out (out ++ [(m : Int)]) 0 (restL F) La := by
  obtain ⟨p1, p2, p3, p4⟩ := h.heap.pop h.heap.len hne
  obtain ⟨m, em, hm, hf⟩ := (h.mem _).1 p2
  rw [if_neg (by omega)] at hf
  obtain ⟨u, hu, hf⟩ := hf
  refine ⟨m, u, em, hu, hm, ?_, ⟨p1, fun y => ?_, h.len, fun i t ht => ?_⟩⟩
  · have := scan_first hu hm hf (fun j t hj ht => ?_) m 0 (by omega)
    · rwa [List.drop_zero] at this
    · by_cases hq : (j : Int) ∈ out
      · exact .inl hq
      · right
        cases hb : freeB ts out t.after with
        | false => rfl
        | true =>
          have := p3 (j : Int) ((h.mem _).2 ⟨j, rfl, hq, by rw [if_neg (by omega)]; exact ⟨t, ht, hb⟩⟩)
          omega
  · rw [p4, h.mem, em]
    constructor
    · rintro ⟨⟨i, e, hi, hf⟩, hn⟩
      refine ⟨i, e, fun hc => ?_, ?_⟩
      · rcases List.mem_append.1 hc with hc | hc
        · exact hi hc
        · exact hn (by rw [e]; exact (List.mem_singleton.1 hc).symm)
      · rw [if_neg (by omega)] at hf ⊢
        exact hf
    · rintro ⟨i, e, hi, hf⟩
      rw [if_neg (by omega)] at hf
      refine ⟨⟨i, e, fun hc => hi (List.mem_append_left _ hc), by rw [if_neg (by omega)]; exact hf⟩, fun hn => hi ?_⟩
      rw [← e, ← hn]
      exact List.mem_append_right _ (List.mem_singleton.2 rfl)
  · rw [if_neg (by omega)]
    have := h.lac i t ht
    rwa [if_neg (by omega)] at this
/-- A task that does not wait for the one that came. -/
theorem InO.pass {ts : List Ta} {out F La : List Int} {m k : Nat} {u t : Ta} (hr : Rg4 ts) (h : InO ts out (out ++ [(m : Int)]) k F La) (hu : ts[m]? = some u) (ht : ts[k]? = some t) (hq : memB t.after u.name = false) : InO ts out (out ++ [(m : Int)]) (k + 1) F La := by
  have hnot : ∀ s ∈ t.after, atN ts s ≠ (m : Int) := fun s hs e => by
    have := (at_name hr.own hu (hr.lies t (List.mem_of_getElem? ht) s hs)).1 e
    subst this
    rw [memB_iff.2 hs] at hq
    cases hq
  have hc : cntA ts (out ++ [(m : Int)]) t.after = cntA ts out t.after := cnt_not hnot
  refine ⟨h.heap, fun y => ?_, h.len, fun i v hv => ?_⟩
  · rw [h.mem]
    constructor
    · rintro ⟨i, e, hi, hf⟩
      refine ⟨i, e, hi, ?_⟩
      by_cases hik : i = k
      · subst hik
        rw [if_neg (by omega)] at hf
        rw [if_pos (by omega)]
        obtain ⟨v, hv, hf⟩ := hf
        rw [ht] at hv
        cases hv
        exact ⟨_, ht, cnt_free.1 (by rw [hc]; exact cnt_free.2 hf)⟩
      · by_cases hlt : i < k
        · rw [if_pos hlt] at hf; rw [if_pos (by omega)]; exact hf
        · rw [if_neg hlt] at hf; rw [if_neg (by omega)]; exact hf
    · rintro ⟨i, e, hi, hf⟩
      refine ⟨i, e, hi, ?_⟩
      by_cases hik : i = k
      · subst hik
        rw [if_pos (by omega)] at hf
        rw [if_neg (by omega)]
        obtain ⟨v, hv, hf⟩ := hf
        rw [ht] at hv
        cases hv
        exact ⟨_, ht, cnt_free.1 (by rw [← hc]; exact cnt_free.2 hf)⟩
      · by_cases hlt : i < k
        · rw [if_pos hlt]; rw [if_pos (by omega)] at hf; exact hf
        · rw [if_neg hlt]; rw [if_neg (by omega)] at hf; exact hf
  · have h1 := h.lac i v hv
    rw [h1]
    by_cases hik : i = k
    · subst hik
      rw [ht] at hv
      cases hv
      rw [if_neg (by omega), if_pos (by omega), hc]
    · by_cases hlt : i < k
      · rw [if_pos hlt, if_pos (by omega)]
      · rw [if_neg hlt, if_neg (by omega)]
/-- A task that waits for the one that came: one less lacks. -/
theorem InO.one {ts : List Ta} {out F La : List Int} {m k : Nat} {u t : Ta} (hr : Rg4 ts) (hol : Ol ts out) (hm : (m : Int) ∉ out) (h : InO ts out (out ++ [(m : Int)]) k F La) (hu : ts[m]? = some u) (ht : ts[k]? = some t) (hq : memB t.after u.name = true) :
    La[k]? = some (((cntA ts (out ++ [(m : Int)]) t.after : Nat) : Int) + 1) ∧ ((k : Nat) : Int) ∉ F ∧
      (cntA ts (out ++ [(m : Int)]) t.after ≠ 0 → InO ts out (out ++ [(m : Int)]) (k + 1) F (La.set k ((cntA ts (out ++ [(m : Int)]) t.after : Nat) : Int))) ∧
      (cntA ts (out ++ [(m : Int)]) t.after = 0 → InO ts out (out ++ [(m : Int)]) (k + 1) (pushL F k) (La.set k ((cntA ts (out ++ [(m : Int)]) t.after : Nat) : Int))) := by
  have htm : t ∈ ts := List.mem_of_getElem? ht
  have hua : u.name ∈ t.after := memB_iff.1 hq
  have hc : cntA ts out t.after = cntA ts (out ++ [(m : Int)]) t.after + 1 := cnt_one (hr.own m u hu) hm t.after (hr.once t htm) hua fun s hs e => (at_name hr.own hu (hr.lies t htm s hs)).1 e
  have hkl : k < 4 := by have := (List.getElem?_eq_some_iff.1 ht).1; have := hr.few; omega
  have hkm : k ≠ m := fun e => by
    subst e
    have h3 : t = u := by rw [ht] at hu; exact Option.some.inj hu
    rw [h3] at hua htm
    exact hr.self u htm hua
  have hkF : ((k : Nat) : Int) ∉ F := fun hf => by
    obtain ⟨i, e, _, hi⟩ := (h.mem _).1 hf
    have e2 : i = k := by omega
    subst e2
    rw [if_neg (by omega)] at hi
    obtain ⟨v, hv, hi⟩ := hi
    rw [ht] at hv
    cases hv
    have := cnt_free.2 hi
    omega
  have hlac : ∀ (i : Nat) (v : Ta), ts[i]? = some v → (La.set k ((cntA ts (out ++ [(m : Int)]) t.after : Nat) : Int))[i]? = some ((cntA ts (if i < k + 1 then out ++ [(m : Int)] else out) v.after : Nat) : Int) := fun i v hv => by
    rw [set_get (by rw [h.len]; exact hkl)]
    by_cases hik : i = k
    · subst hik
      rw [ht] at hv
      cases hv
      rw [if_pos rfl, if_pos (by omega)]
    · rw [if_neg hik, h.lac i v hv]
      by_cases hlt : i < k
      · rw [if_pos hlt, if_pos (by omega)]
      · rw [if_neg hlt, if_neg (by omega)]
  refine ⟨?_, hkF, fun hc0 => ?_, fun hc0 => ?_⟩
  · rw [h.lac k t ht, if_neg (by omega), hc]
    rfl
  · refine ⟨h.heap, fun y => ?_, by rw [List.length_set]; exact h.len, hlac⟩
    rw [h.mem]
    constructor
    · rintro ⟨i, e, hi, hf⟩
      refine ⟨i, e, hi, ?_⟩
      by_cases hik : i = k
      · subst hik
        exact absurd ((h.mem y).2 ⟨i, e, hi, hf⟩) (by rw [e]; exact hkF)
      · by_cases hlt : i < k
        · rw [if_pos hlt] at hf; rw [if_pos (by omega)]; exact hf
        · rw [if_neg hlt] at hf; rw [if_neg (by omega)]; exact hf
    · rintro ⟨i, e, hi, hf⟩
      refine ⟨i, e, hi, ?_⟩
      by_cases hik : i = k
      · subst hik
        rw [if_pos (by omega)] at hf
        obtain ⟨v, hv, hf⟩ := hf
        rw [ht] at hv
        cases hv
        exact absurd (cnt_free.2 hf) hc0
      · by_cases hlt : i < k
        · rw [if_pos hlt]; rw [if_pos (by omega)] at hf; exact hf
        · rw [if_neg hlt]; rw [if_neg (by omega)] at hf; exact hf
  · have hp := h.heap.push (h.heap.less (x := (k : Int)) (by omega) (by omega) hkF) (x := (k : Int)) (by omega) (by omega) hkF
    have hko : ((k : Nat) : Int) ∉ out := fun hko => by
      obtain ⟨A, B', hAB⟩ := List.append_of_mem ((hol.mem hr.own ht).2 hko)
      obtain ⟨t', ht', e', ha'⟩ := hol.row.2 A t.name B' hAB
      obtain ⟨i', hi', rfl⟩ := List.getElem_of_mem ht'
      have hik := hr.own.inj (List.getElem?_eq_getElem hi') ht e'
      subst hik
      have h3 : ts[i'] = t := by rw [List.getElem?_eq_getElem hi'] at ht; exact Option.some.inj ht
      rw [h3] at ha'
      have h1 := ha' _ hua
      have h2 : u.name ∈ out.map (nmOf ts) := by rw [hAB]; exact List.mem_append_left _ h1
      exact hm ((hol.mem hr.own hu).1 h2)
    refine ⟨hp.1, fun y => ?_, by rw [List.length_set]; exact h.len, hlac⟩
    rw [hp.2, h.mem]
    constructor
    · rintro (e | ⟨i, e, hi, hf⟩)
      · refine ⟨k, e.symm, fun hc2 => ?_, by rw [if_pos (by omega)]; exact ⟨t, ht, cnt_free.1 hc0⟩⟩
        rcases List.mem_append.1 hc2 with hc2 | hc2
        · exact hko hc2
        · exact hkm (by have := List.mem_singleton.1 hc2; omega)
      · refine ⟨i, e, hi, ?_⟩
        by_cases hik : i = k
        · subst hik
          exact absurd ((h.mem y).2 ⟨i, e, hi, hf⟩) (by rw [e]; exact hkF)
        · by_cases hlt : i < k
          · rw [if_pos hlt] at hf; rw [if_pos (by omega)]; exact hf
          · rw [if_neg hlt] at hf; rw [if_neg (by omega)]; exact hf
    · rintro ⟨i, e, hi, hf⟩
      by_cases hik : i = k
      · subst hik
        exact .inl e.symm
      · refine .inr ⟨i, e, hi, ?_⟩
        by_cases hlt : i < k
        · rw [if_pos hlt]; rw [if_pos (by omega)] at hf; exact hf
        · rw [if_neg hlt]; rw [if_neg (by omega)] at hf; exact hf
theorem InO.fin {ts : List Ta} {out out' F La : List Int} {k : Nat} (h : InO ts out out' k F La) (hk : ts.length ≤ k) : InO ts out' out' 0 F La := by
  refine ⟨h.heap, fun y => ?_, h.len, fun i t ht => ?_⟩
  · rw [h.mem]
    constructor
    · rintro ⟨i, e, hi, hf⟩
      have := hf.lt
      rw [if_pos (by omega)] at hf
      exact ⟨i, e, hi, by rw [if_neg (by omega)]; exact hf⟩
    · rintro ⟨i, e, hi, hf⟩
      have := hf.lt
      rw [if_neg (by omega)] at hf
      exact ⟨i, e, hi, by rw [if_pos (by omega)]; exact hf⟩
  · have := h.lac i t ht
    have hi := (List.getElem?_eq_some_iff.1 ht).1
    rw [if_pos (by omega)] at this
    rw [if_neg (by omega)]
    exact this
theorem InO.noneF {ts : List Ta} {out La : List Int} (h : InO ts out out 0 [] La) : ordScan ts out 0 ts = out := by
  rcases scan_or (out := out) ts 0 rfl with ⟨h1, _⟩ | ⟨j, t, hj, hn, hf, _⟩
  · exact h1
  · exact absurd ((h.mem (j : Int)).2 ⟨j, rfl, hn, by rw [if_neg (by omega)]; exact ⟨t, hj, hf⟩⟩) (fun h => nomatch h)
theorem order_len {ts : List Ta} (hr : Rg4 ts) (j : Nat) (hj : j ≤ ts.length) : (ordL ts j).length = j := by
  have hol := ordL_ol hr.own hr.lies ts.length
  exact ordL_more hr.own hr.lies hol.row (by rw [List.length_map]; exact hr.full) j hj
/-- None is free any more: all have come. -/
theorem InO.all {ts : List Ta} {La : List Int} {j : Nat} (hr : Rg4 ts) (hj : j ≤ ts.length) (h : InO ts (ordL ts j) (ordL ts j) 0 [] La) : ordL ts j = orderL ts := by
  by_cases hlt : j < ts.length
  · exfalso
    have h1 := order_len hr (j + 1) (by omega)
    have h2 := order_len hr j hj
    rw [ordL, h.noneF, h2] at h1
    omega
  · rw [show j = ts.length by omega]
    rfl
theorem order_next {ts : List Ta} (hr : Rg4 ts) {j m : Nat} (hj : j ≤ ts.length) {u : Ta} (hu : ts[m]? = some u) (hm : (m : Int) ∉ ordL ts j) : j < ts.length := by
  refine Nat.lt_of_le_of_ne hj fun e => hm ?_
  have hol := ordL_ol hr.own hr.lies j
  have hl := order_len hr j hj
  exact (hol.mem hr.own hu).1 (nodup_full hol.row.1 hol.row.names (by rw [List.length_map, List.length_map, hl]; omega) u.name (List.mem_map.2 ⟨u, List.mem_of_getElem? hu, rfl⟩))
end Go.Proofs.YtjmclcjhimcehaaGreatDoor

namespace Go.Proofs.YtjmclcjhimcehaaGreatDoor
open Go Go.RowKit
set_option linter.unusedVariables false

/-- Ascending places with a mark. -/
def ascL (n : Nat) (p : Nat → Bool) : List Int := ((List.range n).filter p).map fun k : Nat => (k : Int)
theorem ascL_mem {n : Nat} {p : Nat → Bool} {x : Int} : x ∈ ascL n p ↔ ∃ k : Nat, k < n ∧ p k = true ∧ x = (k : Int) := by
  unfold ascL
  rw [List.mem_map]
  constructor
  · rintro ⟨k, hk, rfl⟩
    rw [List.mem_filter, List.mem_range] at hk
    exact ⟨k, hk.1, hk.2, rfl⟩
  · rintro ⟨k, h1, h2, rfl⟩
    exact ⟨k, List.mem_filter.2 ⟨List.mem_range.2 h1, h2⟩, rfl⟩
theorem range_asc (n : Nat) : (List.range n).Pairwise (· < ·) := List.pairwise_lt_range
theorem ascL_asc (n : Nat) (p : Nat → Bool) : (ascL n p).Pairwise (· < ·) := by
  unfold ascL
  rw [List.pairwise_map]
  exact ((range_asc n).sublist List.filter_sublist).imp fun {a b} h => by omega
theorem ascL_len (n : Nat) (p : Nat → Bool) : (ascL n p).length ≤ n := by
  unfold ascL
  rw [List.length_map]
  have := List.length_filter_le p (List.range n)
  rw [List.length_range] at this
  exact this
theorem ascL_succ (n : Nat) (p : Nat → Bool) : ascL (n + 1) p = if p n = true then ascL n p ++ [(n : Int)] else ascL n p := by
  unfold ascL
  rw [List.range_succ, List.filter_append, List.map_append]
  by_cases h : p n = true
  · rw [if_pos h]; simp [h]
  · rw [if_neg h]; simp [h]
/-- Two rows that ascend and hold the same are the same. -/
theorem asc_ext : ∀ {a b : List Int}, a.Pairwise (· < ·) → b.Pairwise (· < ·) → (∀ x, x ∈ a ↔ x ∈ b) → a = b
  | [], [], _, _, _ => rfl
  | [], y :: b, _, _, h => absurd ((h y).2 (List.mem_cons_self ..)) (fun h => nomatch h)
  | x :: a, [], _, _, h => absurd ((h x).1 (List.mem_cons_self ..)) (fun h => nomatch h)
  | x :: a, y :: b, ha, hb, h => by
    rw [List.pairwise_cons] at ha hb
    have e : x = y := by
      rcases List.mem_cons.1 ((h x).1 (List.mem_cons_self ..)) with e | hx
      · exact e
      · rcases List.mem_cons.1 ((h y).2 (List.mem_cons_self ..)) with e | hy
        · exact e.symm
        · have h1 := hb.1 x hx
          have h2 := ha.1 y hy
          omega
    subst e
    congr 1
    refine asc_ext ha.2 hb.2 fun z => ⟨fun hz => ?_, fun hz => ?_⟩
    · rcases List.mem_cons.1 ((h z).1 (List.mem_cons_of_mem _ hz)) with e | hz2
      · subst e; have := ha.1 z hz; omega
      · exact hz2
    · rcases List.mem_cons.1 ((h z).2 (List.mem_cons_of_mem _ hz)) with e | hz2
      · subst e; have := hb.1 z hz; omega
      · exact hz2
/-- What is sorted and holds none twice ascends. -/
theorem le_asc : ∀ {a : List Int}, a.Pairwise (· ≤ ·) → a.Nodup → a.Pairwise (· < ·)
  | [], _, _ => List.Pairwise.nil
  | x :: a, h, hn => by
    rw [List.pairwise_cons] at h ⊢
    rw [List.nodup_cons] at hn
    refine ⟨fun y hy => ?_, le_asc h.2 hn.2⟩
    have := h.1 y hy
    have : x ≠ y := fun e => hn.1 (e ▸ hy)
    omega
/-- The places that names stand at, ascending. -/
def upsC (ts : List Ta) (l : List ByteArray) : List Int := ascL ts.length fun k => memB l (nmOf ts (k : Int))
theorem upsC_mem {ts : List Ta} (ho : Own ts) {l : List ByteArray} (hl : ∀ s ∈ l, 0 ≤ atN ts s) {x : Int} : x ∈ upsC ts l ↔ ∃ s ∈ l, atN ts s = x := by
  unfold upsC
  rw [ascL_mem]
  constructor
  · rintro ⟨k, hk, hm, rfl⟩
    have hu := List.getElem?_eq_getElem hk
    have hm := memB_iff.1 hm
    refine ⟨_, hm, ?_⟩
    rw [nm_at hu]
    exact ho k _ hu
  · rintro ⟨s, hs, rfl⟩
    obtain ⟨j, t, hj, e, ha⟩ := at_find (hl s hs)
    refine ⟨j, (List.getElem?_eq_some_iff.1 hj).1, memB_iff.2 ?_, ha⟩
    rw [nm_at hj, e]
    exact hs
theorem at_nodup {ts : List Ta} : ∀ (l : List ByteArray), l.Nodup → (∀ s ∈ l, 0 ≤ atN ts s) → (l.map (atN ts)).Nodup
  | [], _, _ => List.nodup_nil
  | s :: r, hn, hl => by
    rw [List.nodup_cons] at hn
    rw [List.map_cons, List.nodup_cons]
    refine ⟨fun hm => ?_, at_nodup r hn.2 fun x hx => hl x (List.mem_cons_of_mem _ hx)⟩
    obtain ⟨x, hx, e⟩ := List.mem_map.1 hm
    obtain ⟨j, t, hj, e1, ha⟩ := at_find (hl s (List.mem_cons_self ..))
    obtain ⟨j', t', hj', e1', ha'⟩ := at_find (hl x (List.mem_cons_of_mem _ hx))
    have : j = j' := by omega
    subst this
    rw [hj] at hj'
    cases hj'
    exact hn.1 (by rw [← e1, e1']; exact hx)
/-- Sorted numbers. -/
def sortI (l : List Int) : List Int := l.mergeSort fun x y => decide (x ≤ y)
theorem sortI_perm (l : List Int) : (sortI l).Perm l := List.mergeSort_perm _ _
theorem sortI_le (l : List Int) : (sortI l).Pairwise (· ≤ ·) := by
  have h := List.pairwise_mergeSort (le := fun x y : Int => decide (x ≤ y)) (fun a b c h1 h2 => decide_eq_true (Int.le_trans (of_decide_eq_true h1) (of_decide_eq_true h2))) (fun a b => by
    rw [Bool.or_eq_true, decide_eq_true_eq, decide_eq_true_eq]
    omega) l
  exact h.imp fun h => of_decide_eq_true h
theorem sortI_asc {l a : List Int} (hn : l.Nodup) (ha : a.Pairwise (· < ·)) (hm : ∀ x, x ∈ a ↔ x ∈ l) : sortI l = a :=
  asc_ext (le_asc (sortI_le l) ((sortI_perm l).nodup_iff.2 hn)) ha fun x => by rw [(sortI_perm l).mem_iff, hm]
/-- What the program makes of a task's names. -/
theorem ups_sort {ts : List Ta} (hr : Rg4 ts) {t : Ta} (ht : t ∈ ts) : sortI (t.after.map (atN ts)) = upsC ts t.after := by
  refine sortI_asc (at_nodup _ (hr.once t ht) (hr.lies t ht)) (ascL_asc _ _) fun x => ?_
  rw [show x ∈ upsC ts t.after ↔ _ from upsC_mem hr.own (hr.lies t ht), List.mem_map]
/-- What the specification makes of a task's names. -/
def upK (nm : ByteArray) (k : Nat) (l : List ByteArray) : List Int := (l.filter fun s => decide (s = nm)).map fun _ => (k : Int)
def upsG (l : List ByteArray) : Nat → List Ta → List Int
  | _, [] => []
  | k, t :: r => upK t.name k l ++ upsG l (k + 1) r
def upsS (ts : List Ta) (l : List ByteArray) : List Int := upsG l 0 ts
theorem upsG_at {l : List ByteArray} {ts : List Ta} {k : Nat} {t : Ta} (h : ts[k]? = some t) : upsG l k (ts.drop k) = upK t.name k l ++ upsG l (k + 1) (ts.drop (k + 1)) := by
  obtain ⟨hk, rfl⟩ := List.getElem?_eq_some_iff.1 h
  rw [List.drop_eq_getElem_cons hk]
  rfl
theorem upsG_end {l : List ByteArray} {ts : List Ta} {k : Nat} (h : k = ts.length) : upsG l k (ts.drop k) = [] := by
  subst h
  rw [List.drop_length]
  rfl
theorem upK_at {nm : ByteArray} {k : Nat} {l : List ByteArray} {j : Nat} {s : ByteArray} (h : l[j]? = some s) : upK nm k (l.drop j) = if s = nm then (k : Int) :: upK nm k (l.drop (j + 1)) else upK nm k (l.drop (j + 1)) := by
  obtain ⟨hj, rfl⟩ := List.getElem?_eq_some_iff.1 h
  rw [List.drop_eq_getElem_cons hj]
  unfold upK
  rw [List.filter_cons]
  by_cases e : l[j] = nm
  · rw [if_pos e, if_pos (decide_eq_true e)]; rfl
  · rw [if_neg e, if_neg (by simpa using e)]
theorem upK_end {nm : ByteArray} {k : Nat} {l : List ByteArray} {j : Nat} (h : j = l.length) : upK nm k (l.drop j) = [] := by
  subst h
  rw [List.drop_length]
  rfl
theorem upK_one {nm : ByteArray} {k : Nat} : ∀ {l : List ByteArray}, l.Nodup → upK nm k l = if memB l nm = true then [(k : Int)] else []
  | [], _ => rfl
  | s :: r, hn => by
    rw [List.nodup_cons] at hn
    have ih := upK_one (nm := nm) (k := k) hn.2
    unfold upK at ih ⊢
    rw [List.filter_cons]
    by_cases e : s = nm
    · subst e
      have hm : memB r s = false := memB_no hn.1
      rw [hm] at ih
      rw [if_pos (by simp), List.map_cons, ih, if_pos (memB_iff.2 (List.mem_cons_self ..))]
      rfl
    · rw [if_neg (by simpa using e), ih]
      have : memB (s :: r) nm = memB r nm := by
        unfold memB
        rw [List.any_cons, decide_eq_false (fun h => e h.symm), Bool.false_or]
      rw [this]
theorem upsG_asc {l : List ByteArray} (hn : l.Nodup) {ts : List Ta} : ∀ (r : List Ta) (k : Nat), ts.drop k = r → k ≤ ts.length → ascL k (fun j => memB l (nmOf ts (j : Int))) ++ upsG l k r = upsC ts l
  | [], k, h, hk => by
    have h2 := congrArg List.length h
    rw [List.length_drop] at h2
    have : k = ts.length := by simp at h2; omega
    subst this
    unfold upsG upsC
    rw [List.append_nil]
  | t :: r, k, h, hk => by
    have hi : ts[k]? = some t := by
      have := congrArg (fun l => l[0]?) h
      simpa [List.getElem?_drop] using this
    have hr : ts.drop (k + 1) = r := by
      have := congrArg List.tail h
      simpa using this
    have ih := upsG_asc hn r (k + 1) hr (List.getElem?_eq_some_iff.1 hi).1
    rw [ascL_succ] at ih
    unfold upsG
    rw [← ih, upK_one hn, nm_at hi, ← List.append_assoc]
    congr 1
    by_cases hm : memB l t.name = true
    · rw [if_pos hm, if_pos hm]
    · rw [if_neg hm, if_neg hm, List.append_nil]
theorem ups_spec {ts : List Ta} (hr : Rg4 ts) {t : Ta} (ht : t ∈ ts) : upsS ts t.after = upsC ts t.after := by
  have h := upsG_asc (hr.once t ht) ts 0 rfl (Nat.zero_le _)
  have e : ascL 0 (fun j => memB t.after (nmOf ts (j : Int))) = [] := rfl
  rw [e, List.nil_append] at h
  exact h
/-- The names that the task at a place is after. -/
def afOf (ts : List Ta) (i : Int) : List ByteArray := (ts[i.toNat]?.map fun t => t.after).getD []
theorem af_at {ts : List Ta} {i : Nat} {t : Ta} (h : ts[i]? = some t) : afOf ts (i : Int) = t.after := by
  unfold afOf
  rw [Int.toNat_natCast, h]
  rfl
/-- The places that the task at a place is after. -/
def upsA (ts : List Ta) (i : Int) : List Int := upsC ts (afOf ts i)
/-- One more that is behind. -/
def leadB (i : Int) (D : List Int) (u : Int) : Bool := decide (u = i) || memI D u
def dnS (ts : List Ta) (i : Int) (D : List Int) (a : Int) : List Int := if (upsA ts a).any (leadB i D) = true then D ++ [a] else D
def dnL (ts : List Ta) (i : Int) (O : List Int) : List Int := O.foldl (dnS ts i) []
/-- The places behind a place, ascending. -/
def downC (ts : List Ta) (i : Int) : List Int := ascL ts.length fun k => memI (dnL ts i (orderL ts)) (k : Int)
theorem dn_sub (ts : List Ta) (i : Int) : ∀ (O D : List Int), (D ++ O).Nodup → (O.foldl (dnS ts i) D).Nodup ∧ ∀ x ∈ O.foldl (dnS ts i) D, x ∈ D ++ O
  | [], D, h => by rw [List.append_nil] at h ⊢; exact ⟨h, fun x hx => hx⟩
  | a :: O, D, h => by
    rw [List.foldl_cons]
    by_cases hq : (upsA ts a).any (leadB i D) = true
    · have e : dnS ts i D a = D ++ [a] := by unfold dnS; rw [if_pos hq]
      rw [e]
      have ih := dn_sub ts i O (D ++ [a]) (by rw [List.append_assoc]; exact h)
      rw [List.append_assoc] at ih
      exact ih
    · have e : dnS ts i D a = D := by unfold dnS; rw [if_neg hq]
      rw [e]
      have ih := dn_sub ts i O D (h.sublist ((List.Sublist.refl D).append (List.sublist_cons_self a O)))
      exact ⟨ih.1, fun x hx => by
        have := ih.2 x hx
        rw [List.mem_append] at this ⊢
        exact this.imp id (List.mem_cons_of_mem _)⟩
theorem order_ol {ts : List Ta} (hr : Rg4 ts) : Ol ts (orderL ts) := ordL_ol hr.own hr.lies ts.length
/-- What the program tells of those behind a place. -/
theorem down_sort {ts : List Ta} (hr : Rg4 ts) (i : Int) : sortI (dnL ts i (orderL ts)) = downC ts i := by
  have hd := dn_sub ts i (orderL ts) [] (order_ol hr).nd
  refine sortI_asc hd.1 (ascL_asc _ _) fun x => ?_
  unfold downC
  rw [ascL_mem]
  constructor
  · rintro ⟨k, _, hm, rfl⟩
    exact memI_iff.1 hm
  · intro hx
    obtain ⟨j, t, rfl, hj⟩ := (order_ol hr).pl x (hd.2 x hx)
    exact ⟨j, (List.getElem?_eq_some_iff.1 hj).1, memI_iff.2 hx, rfl⟩
/-- Nothing is behind what is no place. -/
theorem dn_none {ts : List Ta} {i : Int} (h : i < 0 ∨ (ts.length : Int) ≤ i) : ∀ (O : List Int), O.foldl (dnS ts i) [] = []
  | [] => rfl
  | a :: O => by
    rw [List.foldl_cons]
    have e : dnS ts i [] a = [] := by
      unfold dnS
      rw [if_neg]
      rw [Bool.not_eq_true, List.any_eq_false]
      intro u hu
      obtain ⟨k, hk, _, rfl⟩ := ascL_mem.1 hu
      unfold leadB memI
      rw [decide_eq_false (by intro e; rcases h with h | h <;> omega)]
      simp
    rw [e]
    exact dn_none h O
theorem down_none {ts : List Ta} {i : Int} (h : i < 0 ∨ (ts.length : Int) ≤ i) : downC ts i = [] := by
  unfold downC dnL
  rw [dn_none h]
  unfold ascL
  rw [List.filter_eq_nil_iff.2 (fun k _ => by simp [memI])]
  rfl
/-- How high a place is. -/
def hiS (ts : List Ta) (H : List Int) (a : Int) : Int := (upsA ts a).foldl (fun m u => max m (H.getD u.toNat 0)) 0 + 1
def htS (ts : List Ta) (H : List Int) (a : Int) : List Int := H.set a.toNat (hiS ts H a)
def htL (ts : List Ta) (O : List Int) : List Int × Int := O.foldl (fun (p : List Int × Int) a => (htS ts p.1 a, max p.2 (hiS ts p.1 a))) ([0, 0, 0, 0], 0)
end Go.Proofs.YtjmclcjhimcehaaGreatDoor
