/-
  Rising lists, what is put into them and taken out of them; disks and acts on them: the plain side, no Go in sight.
-/
import Derived.Test.YtekflgecfcjjiaaFa
import Derived.Sort.KeysCollected
import Derived.Sort.Walk0
namespace Go.Proofs.Ytekflgecfcjjiaa
open Go Go.RowKit Go.Sort

section
variable {α : Type} (key : α → List UInt8)
/-- The keys rise. -/
def Asc (l : List α) : Prop := l.Pairwise fun x y => key x < key y
/-- x in its place. -/
def putK (l : List α) (x : α) : List α := l.filter (fun y => decide (key y < key x)) ++ x :: l.filter (fun y => decide (key x < key y))
/-- All but those of a key. -/
def delK (l : List α) (s : List UInt8) : List α := l.filter fun y => decide (key y ≠ s)
variable {key}

theorem lt_three (a b : List UInt8) : a < b ∨ a = b ∨ b < a := by
  rcases Decidable.em (a < b) with h | h
  · exact .inl h
  · rcases Decidable.em (b < a) with k | k
    · exact .inr (.inr k)
    · exact .inr (.inl (List.le_antisymm (List.not_lt.1 k) (List.not_lt.1 h)))
theorem lt_ne {a b : List UInt8} (h : a < b) : a ≠ b := fun e => by subst e; exact List.lt_irrefl _ h
theorem lt_not {a b : List UInt8} (h : a < b) : ¬ b < a := fun k => List.lt_irrefl _ (List.lt_trans h k)

theorem asc_put {l : List α} (h : Asc key l) (x : α) : Asc key (putK key l x) := by
  unfold Asc putK at *
  rw [List.pairwise_append, List.pairwise_cons]
  refine ⟨h.filter _, ⟨fun y hy => by simpa using (List.mem_filter.1 hy).2, h.filter _⟩, fun y hy z hz => ?_⟩
  have h1 : key y < key x := by simpa using (List.mem_filter.1 hy).2
  rcases List.mem_cons.1 hz with rfl | hz
  · exact h1
  · exact List.lt_trans h1 (by simpa using (List.mem_filter.1 hz).2)
theorem asc_del {l : List α} (h : Asc key l) (s : List UInt8) : Asc key (delK key l s) := h.filter _
theorem mem_put {l : List α} {x y : α} : y ∈ putK key l x ↔ y = x ∨ (y ∈ l ∧ key y ≠ key x) := by
  unfold putK
  simp only [List.mem_append, List.mem_cons, List.mem_filter, decide_eq_true_eq]
  constructor
  · rintro (⟨h1, h2⟩ | rfl | ⟨h1, h2⟩)
    · exact .inr ⟨h1, lt_ne h2⟩
    · exact .inl rfl
    · exact .inr ⟨h1, (lt_ne h2).symm⟩
  · rintro (rfl | ⟨h1, h2⟩)
    · exact .inr (.inl rfl)
    · rcases lt_three (key y) (key x) with h | h | h
      · exact .inl ⟨h1, h⟩
      · exact absurd h h2
      · exact .inr (.inr ⟨h1, h⟩)
theorem mem_del {l : List α} {s : List UInt8} {y : α} : y ∈ delK key l s ↔ y ∈ l ∧ key y ≠ s := by simp [delK]

theorem asc_inj {l : List α} (h : Asc key l) {x y : α} (hx : x ∈ l) (hy : y ∈ l) (e : key x = key y) : x = y := by
  unfold Asc at h
  induction l with
  | nil => simp at hx
  | cons z r ih =>
    obtain ⟨h1, h2⟩ := List.pairwise_cons.1 h
    rcases List.mem_cons.1 hx with hx1 | hx1
    · rcases List.mem_cons.1 hy with hy1 | hy1
      · rw [hx1, hy1]
      · exact absurd e (hx1 ▸ lt_ne (h1 y hy1))
    · rcases List.mem_cons.1 hy with hy1 | hy1
      · exact absurd e (hy1 ▸ (lt_ne (h1 x hx1)).symm)
      · exact ih h2 hx1 hy1

theorem filter_none {l : List α} {p : α → Bool} (h : ∀ y ∈ l, p y = false) : l.filter p = [] := by
  rw [List.filter_eq_nil_iff]
  intro y hy
  simp [h y hy]
theorem filter_all {l : List α} {p : α → Bool} (h : ∀ y ∈ l, p y = true) : l.filter p = l := List.filter_eq_self.2 h

theorem length_put {l : List α} (h : Asc key l) (x : α) : (putK key l x).length = if l.any (fun y => key y == key x) then l.length else l.length + 1 := by
  unfold Asc putK at *
  induction l with
  | nil => simp
  | cons z r ih =>
    obtain ⟨h1, h2⟩ := List.pairwise_cons.1 h
    have ih := ih h2
    rcases lt_three (key z) (key x) with hz | hz | hz
    · have e1 : decide (key z < key x) = true := decide_eq_true hz
      have e2 : decide (key x < key z) = false := decide_eq_false (lt_not hz)
      have e3 : (key z == key x) = false := by simpa using lt_ne hz
      simp only [List.filter_cons, e1, e2, if_true, List.any_cons, e3, Bool.false_or, List.cons_append, List.length_cons]
      simp only [Bool.false_eq_true, if_false]
      rw [ih]
      split <;> rfl
    · have e1 : r.filter (fun y => decide (key y < key x)) = [] := filter_none fun y hy => decide_eq_false (lt_not (hz ▸ h1 y hy))
      have e2 : r.filter (fun y => decide (key x < key y)) = r := filter_all fun y hy => decide_eq_true (hz ▸ h1 y hy)
      have e3 : (key z == key x) = true := by simpa using hz
      have e4 : decide (key z < key x) = false := decide_eq_false (by rw [hz]; exact List.lt_irrefl _)
      have e5 : decide (key x < key z) = false := decide_eq_false (by rw [hz]; exact List.lt_irrefl _)
      simp [e1, e2, e3, e4, e5]
    · have e1 : r.filter (fun y => decide (key y < key x)) = [] := filter_none fun y hy => decide_eq_false (lt_not (List.lt_trans hz (h1 y hy)))
      have e2 : r.filter (fun y => decide (key x < key y)) = r := filter_all fun y hy => decide_eq_true (List.lt_trans hz (h1 y hy))
      have e3 : (key z == key x) = false := by simpa using (lt_ne hz).symm
      have e4 : decide (key z < key x) = false := decide_eq_false (lt_not hz)
      have e5 : decide (key x < key z) = true := decide_eq_true hz
      have e6 : r.any (fun y => key y == key x) = false := by
        rw [List.any_eq_false]
        intro y hy
        simpa using (lt_ne (List.lt_trans hz (h1 y hy))).symm
      simp [e1, e2, e3, e4, e5, e6]
theorem length_del {l : List α} (h : Asc key l) (s : List UInt8) : (delK key l s).length + (if l.any (fun y => key y == s) then 1 else 0) = l.length := by
  unfold Asc delK at *
  induction l with
  | nil => simp
  | cons z r ih =>
    obtain ⟨h1, h2⟩ := List.pairwise_cons.1 h
    have ih := ih h2
    by_cases hz : key z = s
    · have e1 : r.filter (fun y => decide (key y ≠ s)) = r := filter_all fun y hy => decide_eq_true fun e => lt_ne (h1 y hy) (hz.trans e.symm)
      have e2 : decide (key z ≠ s) = false := decide_eq_false (by simpa using hz)
      have e3 : (key z == s) = true := by simpa using hz
      simp only [List.filter_cons, e2, List.any_cons, e3, Bool.true_or, if_true, List.length_cons]
      simp only [Bool.false_eq_true, if_false]
      rw [e1]
    · have e2 : decide (key z ≠ s) = true := decide_eq_true hz
      have e3 : (key z == s) = false := by simpa using hz
      simp only [List.filter_cons, e2, if_true, List.any_cons, e3, Bool.false_or, List.length_cons]
      omega
theorem any_put {l : List α} {x : α} {s : List UInt8} : (putK key l x).any (fun y => key y == s) = (key x == s || l.any (fun y => key y == s)) := by
  rw [Bool.eq_iff_iff]
  simp only [List.any_eq_true, beq_iff_eq, Bool.or_eq_true, mem_put]
  constructor
  · rintro ⟨y, rfl | ⟨h1, h2⟩, rfl⟩
    · exact .inl rfl
    · exact .inr ⟨y, h1, rfl⟩
  · rintro (rfl | ⟨y, h1, rfl⟩)
    · exact ⟨x, .inl rfl, rfl⟩
    · by_cases h : key y = key x
      · exact ⟨x, .inl rfl, h.symm⟩
      · exact ⟨y, .inr ⟨h1, h⟩, rfl⟩
theorem any_del {l : List α} {s t : List UInt8} : (delK key l s).any (fun y => key y == t) = (decide (t ≠ s) && l.any (fun y => key y == t)) := by
  rw [Bool.eq_iff_iff]
  simp only [List.any_eq_true, beq_iff_eq, Bool.and_eq_true, decide_eq_true_eq, mem_del]
  constructor
  · rintro ⟨y, ⟨h1, h2⟩, rfl⟩
    exact ⟨h2, y, h1, rfl⟩
  · rintro ⟨h, y, h1, rfl⟩
    exact ⟨y, ⟨h1, h⟩, rfl⟩
theorem map_put {β : Type} {key' : β → List UInt8} (g : α → β) (hg : ∀ y, key' (g y) = key y) (l : List α) (x : α) : (putK key l x).map g = putK key' (l.map g) (g x) := by
  unfold putK
  rw [List.map_append, List.map_cons, List.filter_map, List.filter_map]
  simp only [Function.comp_def, hg]
theorem map_del {β : Type} {key' : β → List UInt8} (g : α → β) (hg : ∀ y, key' (g y) = key y) (l : List α) (s : List UInt8) : (delK key l s).map g = delK key' (l.map g) s := by
  unfold delK
  rw [List.filter_map]
  simp only [Function.comp_def, hg]
end

/-- A file's key: its name's bytes. -/
def Fl.key (f : Fl) : List UInt8 := f.name.data.toList
theorem ltB_eq (a b : ByteArray) : ltB a b = decide (a.data.toList < b.data.toList) := by
  unfold ltB
  rw [bytesLess_eq, Lib.toList_data, Lib.toList_data]
abbrev putL := putK Fl.key
abbrev delL := delK Fl.key

theorem asc_of_next {l : List Fl} (h : ∀ (i : Nat) (p f : Fl), l[i]? = some p → l[i + 1]? = some f → p.key < f.key) : Asc Fl.key l := by
  unfold Asc
  rw [List.pairwise_iff_getElem]
  have main : ∀ (d i : Nat) (p f : Fl), l[i]? = some p → l[i + d + 1]? = some f → p.key < f.key := by
    intro d
    induction d with
    | zero => intro i p f h1 h2; exact h i p f h1 h2
    | succ d ih =>
      intro i p f h1 h2
      have hlt : i + d + 1 < l.length := by
        have := (List.getElem?_eq_some_iff.1 h2).1
        omega
      exact List.lt_trans (ih i p _ h1 (List.getElem?_eq_getElem hlt)) (h (i + d + 1) _ f (List.getElem?_eq_getElem hlt) (by rw [← h2]; congr 1))
  intro i j hi hj hij
  obtain ⟨d, rfl⟩ : ∃ d, j = i + d + 1 := ⟨j - i - 1, by omega⟩
  exact main d i _ _ (List.getElem?_eq_getElem hi) (List.getElem?_eq_getElem hj)

theorem diskR_iff {l : List Fl} : diskR l = true ↔ l.length ≤ 30 ∧ (∀ f ∈ l, f.right = true) ∧ Asc Fl.key l := by
  constructor
  · intro h
    have hr := diskR_right h
    unfold diskR at h
    rw [Bool.and_eq_true, List.all_eq_true] at h
    refine ⟨by simpa using h.1, fun f hf => ?_, asc_of_next fun i p f hp hf => ?_⟩
    · obtain ⟨i, hi⟩ := List.getElem?_of_mem hf
      exact hr i f hi
    · have := h.2 (i + 1) (List.mem_range.2 (List.getElem?_eq_some_iff.1 hf).1)
      rw [okAt_next hf hp, Bool.and_eq_true, ltB_eq, decide_eq_true_eq] at this
      exact this.2
  · rintro ⟨h1, h2, h3⟩
    refine diskR_true h1 fun i hi => ?_
    obtain ⟨f, hf⟩ : ∃ f, l[i]? = some f := ⟨_, List.getElem?_eq_getElem hi⟩
    cases i with
    | zero => rw [okAt_first hf]; exact h2 f (List.mem_of_getElem? hf)
    | succ j =>
      obtain ⟨p, hp⟩ : ∃ p, l[j]? = some p := ⟨_, List.getElem?_eq_getElem (by omega)⟩
      rw [okAt_next hf hp, h2 f (List.mem_of_getElem? hf), Bool.true_and, ltB_eq, decide_eq_true_eq]
      unfold Asc at h3
      rw [List.pairwise_iff_getElem] at h3
      have e1 := (List.getElem?_eq_some_iff.1 hf)
      have e2 := (List.getElem?_eq_some_iff.1 hp)
      have := h3 j (j + 1) e2.1 e1.1 (by omega)
      rw [e1.2, e2.2] at this
      exact this

theorem diskR_put {l : List Fl} (h : diskR l = true) (f : Fl) : diskR (putL l f) = (f.right && decide ((putL l f).length ≤ 30)) := by
  obtain ⟨_, h2, h3⟩ := diskR_iff.1 h
  rw [Bool.eq_iff_iff, diskR_iff, Bool.and_eq_true, decide_eq_true_eq]
  constructor
  · rintro ⟨a, b, _⟩
    exact ⟨b f (mem_put.2 (.inl rfl)), a⟩
  · rintro ⟨a, b⟩
    refine ⟨b, fun g hg => ?_, asc_put h3 f⟩
    rcases mem_put.1 hg with rfl | ⟨hg, _⟩
    · exact a
    · exact h2 g hg
theorem diskR_del {l : List Fl} (h : diskR l = true) (s : List UInt8) : diskR (delL l s) = true := by
  obtain ⟨h1, h2, h3⟩ := diskR_iff.1 h
  refine diskR_iff.2 ⟨Nat.le_trans (List.length_filter_le _ _) h1, fun g hg => h2 g (mem_del.1 hg).1, asc_del h3 s⟩

theorem toList_eq_iff (a b : ByteArray) : (a.toList == b.toList) = true ↔ a = b := by
  rw [beq_iff_eq, Lib.toList_data, Lib.toList_data]
  constructor
  · intro h; exact ByteArray.ext (Array.toList_inj.1 h)
  · intro h; rw [h]
theorem findF_some {l : List Fl} {s : ByteArray} {f : Fl} (h : findF l s = some f) : f ∈ l ∧ f.name = s := by
  unfold findF at h
  have h1 := List.find?_some h
  exact ⟨List.mem_of_find?_eq_some h, (toList_eq_iff _ _).1 h1⟩
theorem findF_no {l : List Fl} {s : ByteArray} (h : findF l s = none) : l.any (fun y => y.key == s.data.toList) = false := by
  unfold findF at h
  rw [List.find?_eq_none] at h
  rw [List.any_eq_false]
  intro f hf
  have := h f hf
  rw [toList_eq_iff] at this
  intro e
  apply this
  rw [beq_iff_eq] at e
  exact ByteArray.ext (Array.toList_inj.1 e)
theorem any_of_mem {l : List Fl} {f : Fl} (h : f ∈ l) : l.any (fun y => y.key == f.key) = true := by
  rw [List.any_eq_true]
  exact ⟨f, h, by simp⟩

/-- An act as a plain record. -/
structure Ac where
  kind : Int
  name : ByteArray
  text : ByteArray
  to : ByteArray
instance : Inhabited Ac := ⟨⟨0, ByteArray.empty, ByteArray.empty, ByteArray.empty⟩⟩

/-- What an act makes of the files, ahead of the last look. -/
def actOut (l : List Fl) (a : Ac) : Option (List Fl) :=
  if a.kind = 1 then
    let f := (findF l a.name).getD ⟨a.name, ByteArray.empty, 0⟩
    some (putL l ⟨f.name, f.text ++ a.text, f.kept⟩)
  else match findF l a.name with
    | none => none
    | some f =>
      if a.kind = 2 then some (putL l ⟨f.name, f.text, (f.text.size : Int)⟩)
      else if a.kind = 3 then
        if f.kept < (f.text.size : Int) ∨ a.to = a.name ∨ nameR a.to = false then none else some (putL (delL l a.name.data.toList) ⟨a.to, f.text, f.kept⟩)
      else if a.kind = 4 then some (delL l a.name.data.toList) else none
/-- An act done. -/
def actL (l : List Fl) (a : Ac) : Option (List Fl) :=
  if diskR l = false ∨ nameR a.name = false ∨ (a.kind ≠ 3 ∧ a.to ≠ ByteArray.empty) ∨ (a.kind ≠ 1 ∧ a.text ≠ ByteArray.empty) then none
  else (actOut l a).bind fun o => if diskR o = true then some o else none

theorem actL_diskR {l o : List Fl} {a : Ac} (h : actL l a = some o) : diskR o = true := by
  unfold actL at h
  split at h
  · cases h
  · obtain ⟨o', _, h2⟩ := Option.bind_eq_some_iff.1 h
    split at h2
    · rename_i hd; cases h2; exact hd
    · cases h2
end Go.Proofs.Ytekflgecfcjjiaa
