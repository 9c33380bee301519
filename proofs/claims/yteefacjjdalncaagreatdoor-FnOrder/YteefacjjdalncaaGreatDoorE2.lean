/-
  A line of a task, as the specification takes it into a plan: the walk. A line of a plan's head, as the specification takes it: the walk. Plans whose tasks can be put in order are right: plain facts. More of what inputs are drawn with: once in n times, one of a list, a long text. One of a row of texts, as the specification draws it: the walk. The built-in copy over rows of records, each of as many cells, as a law of the walk. Over any program. The built-in append of a row of records behind another one, as a run. Over any program. What lies there while a plan is drawn: its block, the names, the tasks that it has, the task that is being made. A record put behind a row that was cut at its front: append(l[1:], x). Over any program. A line of a task that is right, as the specification takes it into a plan: the walk. The line of a plan's rule of five fields, as the specification takes it: the walk. Helpers of the drawn laws: what is too long; a drawn text; lists of texts held against one another: the walks.
-/
import Derived.Test.YteefacjjdalncaaGreatDoorA20
import Derived.Test.YteefacjjdalncaaGreatDoorRp
import Derived.Test.YteefacjjdalncaaGreatDoorA4
import Derived.Test.YteefacjjdalncaaGreatDoorA8
import Derived.Test.YteefacjjdalncaaGreatDoorA18
import Derived.Test.YteefacjjdalncaaGreatDoorGn
import Derived.Laws.CopyRow
import Derived.Test.YteefacjjdalncaaGreatDoorA10
import Derived.Test.YteefacjjdalncaaGreatDoorA17
import Derived.ArgAppend
import Derived.Laws.IdiomCopy
import Derived.Deep.Upon
import Derived.Test.YteefacjjdalncaaGreatDoorTak
import Derived.Test.YteefacjjdalncaaGreatDoorA1
import Derived.Deep.QuietTactic
import Derived.BigQuiet
namespace Go.Proofs.YteefacjjdalncaaGreatDoor
open Go Go.RowKit

theorem task_list : (⟨#[116, 97, 115, 107]⟩ : ByteArray).toList = [116, 97, 115, 107] := (ByteArray.toList_eq _).trans rfl
theorem free_list : (⟨#[102, 114, 101, 101]⟩ : ByteArray).toList = [102, 114, 101, 101] := (ByteArray.toList_eq _).trans rfl
theorem past_list : (⟨#[112, 97, 115, 116]⟩ : ByteArray).toList = [112, 97, 115, 116] := (ByteArray.toList_eq _).trans rfl
theorem wpTakes_cons {P : Program} {ops : Array Oper} {C : World → Prop} {K : Act → Prop} {k : Nat} {ts : List Nat} {a : Act} {o : Oper} (ho : ops[k]? = some o) (hn : ∀ x, o.op = .nilCheck x → ∃ p, a.eval x = .pointer (some p)) (h : wpQuiet P ops C (wpTakes P ops C K ts) [o] a) : wpTakes P ops C K (k :: ts) a := by
  refine ⟨fun o' ho' => ?_, ?_⟩
  · rw [ho] at ho'
    cases ho'
    exact hn
  · unfold qOp
    simp only [ho]
    exact h
/-- A plan's block. -/
def D6 (w : World) (g : Nat) (nm cr : ByteArray) (fr up : Int) (cu : Bool) (tv : Value) : Prop := w.heap[g]? = some (.cells #[.string nm, .string cr, .int .i64 fr, .int .i64 up, .bool cu, tv] 26)
section
variable {w : World} {g : Nat} {nm cr : ByteArray} {fr up : Int} {cu : Bool} {tv : Value}
theorem D6.lt (h : D6 w g nm cr fr up cu tv) : g < w.heap.size := (Array.getElem?_eq_some_iff.1 h).1
theorem D6.c5 (h : D6 w g nm cr fr up cu tv) : w.cell? ⟨g, 5, none⟩ = some tv := by simp [World.cell?, show w.heap[g]? = _ from h]
theorem D6.fz (h : D6 w g nm cr fr up cu tv) (k : Nat) : w.frozen? ⟨g, k, none⟩ = false := by simp [World.frozen?, show w.heap[g]? = _ from h]
theorem D6.s5 (h : D6 w g nm cr fr up cu tv) (u : Value) : D6 (w.setCell ⟨g, 5, none⟩ u) g nm cr fr up cu u := by simp [D6, World.setCell, Array.getElem?_modify, show w.heap[g]? = _ from h]
theorem D6.on {w' : World} {B : Nat} (h : D6 w g nm cr fr up cu tv) (hb : Below B w w') (hg : g < B) : D6 w' g nm cr fr up cu tv := (hb.block _ hg).trans h
end
/-- What a line of a task is. -/
def lineT (ts : List Ta) (p0 p1 p2 p3 p4 : ByteArray) : Bool := decide (p0 = ⟨#[116, 97, 115, 107]⟩) && (!decide (ts.length = 4) && ((decide (p4 = ⟨#[102, 114, 101, 101]⟩) || decide (p4 = ⟨#[112, 97, 115, 116]⟩)) && (nameB p1 && (decide (atN ts p1 < 0) && (!decide (poolN p2 = 0) && ((rd p3).2 && decide ((rd p3).1 ≤ 3)))))))

end Go.Proofs.YteefacjjdalncaaGreatDoor

namespace Go.Proofs.YteefacjjdalncaaGreatDoor
open Go Go.RowKit

section
variable {w : World} {g : Nat} {nm cr : ByteArray} {fr up : Int} {cu : Bool} {tv : Value}
theorem D6.c0 (h : D6 w g nm cr fr up cu tv) : w.cell? ⟨g, 0, none⟩ = some (.string nm) := by simp [World.cell?, show w.heap[g]? = _ from h]
theorem D6.c1 (h : D6 w g nm cr fr up cu tv) : w.cell? ⟨g, 1, none⟩ = some (.string cr) := by simp [World.cell?, show w.heap[g]? = _ from h]
theorem D6.c2 (h : D6 w g nm cr fr up cu tv) : w.cell? ⟨g, 2, none⟩ = some (.int .i64 fr) := by simp [World.cell?, show w.heap[g]? = _ from h]
theorem D6.c3 (h : D6 w g nm cr fr up cu tv) : w.cell? ⟨g, 3, none⟩ = some (.int .i64 up) := by simp [World.cell?, show w.heap[g]? = _ from h]
theorem D6.c4 (h : D6 w g nm cr fr up cu tv) : w.cell? ⟨g, 4, none⟩ = some (.bool cu) := by simp [World.cell?, show w.heap[g]? = _ from h]
theorem D6.s0 (h : D6 w g nm cr fr up cu tv) (u : ByteArray) : D6 (w.setCell ⟨g, 0, none⟩ (.string u)) g u cr fr up cu tv := by simp [D6, World.setCell, Array.getElem?_modify, show w.heap[g]? = _ from h]
theorem D6.s1 (h : D6 w g nm cr fr up cu tv) (u : ByteArray) : D6 (w.setCell ⟨g, 1, none⟩ (.string u)) g nm u fr up cu tv := by simp [D6, World.setCell, Array.getElem?_modify, show w.heap[g]? = _ from h]
theorem D6.s2 (h : D6 w g nm cr fr up cu tv) (u : Int) : D6 (w.setCell ⟨g, 2, none⟩ (.int .i64 u)) g nm cr u up cu tv := by simp [D6, World.setCell, Array.getElem?_modify, show w.heap[g]? = _ from h]
theorem D6.s3 (h : D6 w g nm cr fr up cu tv) (u : Int) : D6 (w.setCell ⟨g, 3, none⟩ (.int .i64 u)) g nm cr fr u cu tv := by simp [D6, World.setCell, Array.getElem?_modify, show w.heap[g]? = _ from h]
theorem D6.s4 (h : D6 w g nm cr fr up cu tv) (u : Bool) : D6 (w.setCell ⟨g, 4, none⟩ (.bool u)) g nm cr fr up u tv := by simp [D6, World.setCell, Array.getElem?_modify, show w.heap[g]? = _ from h]
end
theorem save_set {w w' : World} {g : Nat} (h : Below w.heap.size w w') (k : Nat) (u : Value) : Save g w (w'.setCell ⟨g, k, none⟩ u) := Save.setCell (p := ⟨g, k, none⟩) (Save.of_below h) rfl _

theorem dag_list : (⟨#[100, 97, 103]⟩ : ByteArray).toList = [100, 97, 103] := (ByteArray.toList_eq _).trans rfl
theorem cron_list : (⟨#[99, 114, 111, 110]⟩ : ByteArray).toList = [99, 114, 111, 110] := (ByteArray.toList_eq _).trans rfl
theorem from_list : (⟨#[102, 114, 111, 109]⟩ : ByteArray).toList = [102, 114, 111, 109] := (ByteArray.toList_eq _).trans rfl
theorem to_list : (⟨#[116, 111]⟩ : ByteArray).toList = [116, 111] := (ByteArray.toList_eq _).trans rfl
theorem catchup_list : (⟨#[99, 97, 116, 99, 104, 117, 112]⟩ : ByteArray).toList = [99, 97, 116, 99, 104, 117, 112] := (ByteArray.toList_eq _).trans rfl
theorem latest_list : (⟨#[108, 97, 116, 101, 115, 116]⟩ : ByteArray).toList = [108, 97, 116, 101, 115, 116] := (ByteArray.toList_eq _).trans rfl
end Go.Proofs.YteefacjjdalncaaGreatDoor

namespace Go.Proofs.YteefacjjdalncaaGreatDoor
open Go Go.RowKit
set_option linter.unusedVariables false

theorem atG_ex {s : ByteArray} : ∀ (l : List Ta) (k : Nat), 0 ≤ atG s k l → ∃ j t, l[j]? = some t ∧ t.name = s ∧ atG s k l = ((k + j : Nat) : Int)
  | [], k, h => by simp [atG] at h
  | t :: r, k, h => by
    unfold atG at h ⊢
    split at h
    · rename_i e
      rw [if_pos e]
      exact ⟨0, t, rfl, e, rfl⟩
    · rename_i e
      rw [if_neg e]
      obtain ⟨j, u, h1, h2, h3⟩ := atG_ex r (k + 1) h
      exact ⟨j + 1, u, by rw [List.getElem?_cons_succ]; exact h1, h2, by rw [h3]; omega⟩
theorem atG_is {s : ByteArray} : ∀ (l : List Ta) (k i : Nat) (t : Ta), l[i]? = some t → t.name = s → (∀ j u, j < i → l[j]? = some u → u.name ≠ s) → atG s k l = ((k + i : Nat) : Int)
  | [], k, i, t, h, _, _ => by simp at h
  | u :: r, k, i, t, h, hn, hf => by
    unfold atG
    match i, h, hf with
    | 0, h, _ =>
      simp only [List.getElem?_cons_zero, Option.some.injEq] at h
      subst h
      rw [if_pos hn]; rfl
    | i + 1, h, hf =>
      rw [List.getElem?_cons_succ] at h
      rw [if_neg (hf 0 u (by omega) rfl), atG_is r (k + 1) i t h hn fun j v hj hv => hf (j + 1) v (by omega) (by rw [List.getElem?_cons_succ]; exact hv)]
      congr 1
      omega
/-- Tasks that can be put in order. -/
structure GoodT (ts : List Ta) (rank : Nat → Nat) : Prop where
  apart : ∀ (i j : Nat) (t u : Ta), ts[i]? = some t → ts[j]? = some u → t.name = u.name → i = j
  name : ∀ t ∈ ts, nameB t.name = true
  pool : ∀ t ∈ ts, poolN t.pool ≠ 0
  ret : ∀ t ∈ ts, 0 ≤ t.ret ∧ t.ret ≤ 3
  up : ∀ t ∈ ts, t.after.Pairwise (fun a b => lessB a b = true)
  aft : ∀ (i : Nat) (t : Ta), ts[i]? = some t → ∀ s ∈ t.after, ∃ (j : Nat) (u : Ta), ts[j]? = some u ∧ u.name = s ∧ rank j < rank i
theorem GoodT.at {ts : List Ta} {rank : Nat → Nat} (h : GoodT ts rank) {i : Nat} {t : Ta} (hi : ts[i]? = some t) : atN ts t.name = (i : Int) := by
  have := atG_is ts 0 i t hi rfl fun j u hj hu e => by
    have := h.apart j i u t hu hi e
    omega
  simpa [atN] using this
theorem afterB_up {ts : List Ta} {nm : ByteArray} : ∀ (l : List ByteArray) (p : Option ByteArray), l.Pairwise (fun a b => lessB a b = true) → (∀ x, p = some x → ∀ s ∈ l, lessB x s = true) → (∀ s ∈ l, 0 ≤ atN ts s ∧ s ≠ nm) → afterB ts nm p l = true
  | [], p, _, _, _ => rfl
  | s :: r, p, hp, hx, ha => by
    have h1 := ha s (List.mem_cons_self ..)
    have hc := List.pairwise_cons.1 hp
    have ih := afterB_up (ts := ts) (nm := nm) r (some s) hc.2 (fun x e t ht => by cases e; exact hc.1 t ht) (fun t ht => ha t (List.mem_cons_of_mem _ ht))
    have hpa : (p.all fun x => lessB x s) = true := by
      cases p with
      | none => rfl
      | some x => exact hx x rfl s (List.mem_cons_self ..)
    unfold afterB
    rw [ih, hpa, decide_eq_true h1.1, decide_eq_false h1.2]
    rfl
theorem GoodT.task {ts : List Ta} {rank : Nat → Nat} (h : GoodT ts rank) {i : Nat} {t : Ta} (hi : ts[i]? = some t) : taskB ts i t = true := by
  have hm := List.mem_of_getElem? hi
  rw [task_5 (h.name t hm) (h.at hi) (h.pool t hm) (h.ret t hm)]
  refine afterB_up t.after none (h.up t hm) (fun x e => by cases e) fun s hs => ?_
  obtain ⟨j, u, hj, hu, hr⟩ := h.aft i t hi s hs
  subst hu
  refine ⟨by rw [h.at hj]; omega, fun e => ?_⟩
  have := h.apart j i u t hj hi e
  subst this
  omega
theorem GoodT.tasks {ts : List Ta} {rank : Nat → Nat} (h : GoodT ts rank) : tasksB ts 0 ts = true := by
  have : ∀ n i, i + n = ts.length → tasksB ts i (ts.drop i) = true := by
    intro n
    induction n with
    | zero => intro i hi; exact tasksB_end (by omega)
    | succ n ih =>
      intro i hi
      obtain ⟨t, ht⟩ : ∃ t, ts[i]? = some t := ⟨_, List.getElem?_eq_getElem (by omega)⟩
      rw [tasksB_at ht, h.task ht, ih (i + 1) (by omega)]
      rfl
  have := this ts.length 0 (by omega)
  rwa [List.drop_zero] at this
/-- A list with fewer places than there are lacks one. -/
theorem lacks : ∀ (n : Nat) (out : List Int), (∀ i, i < n → ((i : Nat) : Int) ∈ out) → n ≤ out.length
  | 0, _, _ => Nat.zero_le _
  | n + 1, out, h => by
    have hm := h n (by omega)
    have := lacks n (out.erase (n : Int)) fun i hi => (List.mem_erase_of_ne (by omega)).2 (h i (by omega))
    rw [List.length_erase_of_mem hm] at this
    have := List.length_pos_of_mem hm
    omega
theorem ordScan_found {ts : List Ta} {out : List Int} : ∀ (r : List Ta) (i : Nat), (∃ j t, r[j]? = some t ∧ ¬ ((i + j : Nat) : Int) ∈ out ∧ freeB ts out t.after = true) → ∃ q, ordScan ts out i r = out ++ [q]
  | [], i, ⟨j, t, h, _⟩ => by simp at h
  | t :: r, i, ⟨j, u, hj, hn, hf⟩ => by
    unfold ordScan
    by_cases hi : (i : Int) ∈ out
    · rw [if_pos hi]
      match j, hj, hn with
      | 0, _, hn => exact absurd hi hn
      | j + 1, hj, hn =>
        rw [List.getElem?_cons_succ] at hj
        exact ordScan_found r (i + 1) ⟨j, u, hj, by rwa [show i + 1 + j = i + (j + 1) by omega], hf⟩
    · rw [if_neg hi]
      by_cases hb : freeB ts out t.after = true
      · rw [if_pos hb]; exact ⟨_, rfl⟩
      · rw [if_neg hb]
        match j, hj, hn with
        | 0, hj, _ =>
          simp only [List.getElem?_cons_zero, Option.some.injEq] at hj
          subst hj
          exact absurd hf hb
        | j + 1, hj, hn =>
          rw [List.getElem?_cons_succ] at hj
          exact ordScan_found r (i + 1) ⟨j, u, hj, by rwa [show i + 1 + j = i + (j + 1) by omega], hf⟩
theorem GoodT.free {ts : List Ta} {rank : Nat → Nat} (h : GoodT ts rank) {out : List Int} : ∀ (n i : Nat) (t : Ta), rank i ≤ n → ts[i]? = some t → ¬ ((i : Nat) : Int) ∈ out → ∃ j u, ts[j]? = some u ∧ ¬ ((j : Nat) : Int) ∈ out ∧ freeB ts out u.after = true
  | n, i, t, hr, hi, hn => by
    by_cases hf : freeB ts out t.after = true
    · exact ⟨i, t, hi, hn, hf⟩
    · unfold freeB at hf
      rw [List.all_eq_true] at hf
      simp only [decide_eq_true_eq, Classical.not_forall] at hf
      obtain ⟨s, hs, ho⟩ := hf
      obtain ⟨j, u, hj, hu, hrj⟩ := h.aft i t hi s hs
      subst hu
      rw [h.at hj] at ho
      match n with
      | 0 => omega
      | n + 1 => exact h.free n j u (by omega) hj ho
theorem GoodT.order {ts : List Ta} {rank : Nat → Nat} (h : GoodT ts rank) : (orderL ts).length = ts.length := by
  have : ∀ k, k ≤ ts.length → (ordL ts k).length = k := by
    intro k
    induction k with
    | zero => intro _; rfl
    | succ k ih =>
      intro hk
      have hl := ih (by omega)
      obtain ⟨i, hi, hni⟩ : ∃ i, i < ts.length ∧ ¬ ((i : Nat) : Int) ∈ ordL ts k := by
        apply Classical.byContradiction
        intro hc
        have := lacks ts.length (ordL ts k) fun i hi => Classical.byContradiction fun hn => hc ⟨i, hi, hn⟩
        omega
      obtain ⟨t, ht⟩ : ∃ t, ts[i]? = some t := ⟨_, List.getElem?_eq_getElem hi⟩
      obtain ⟨j, u, hj, hnj, hf⟩ := h.free (rank i) i t (Nat.le_refl _) ht hni
      obtain ⟨q, hq⟩ := ordScan_found (ts := ts) (out := ordL ts k) ts 0 ⟨j, u, hj, by rwa [Nat.zero_add], hf⟩
      show (ordScan ts (ordL ts k) 0 ts).length = k + 1
      rw [hq, List.length_append, hl]
      rfl
  exact this ts.length (Nat.le_refl _)
/-- The four names. -/
def nm4 : Nat → ByteArray
  | 0 => ⟨#[97]⟩
  | 1 => ⟨#[98]⟩
  | 2 => ⟨#[99]⟩
  | _ => ⟨#[100]⟩
theorem nm4_inj {i j : Nat} (hi : i < 4) (hj : j < 4) (h : nm4 i = nm4 j) : i = j := by
  have key : ∀ i : Fin 4, ∀ j : Fin 4, nm4 i.val = nm4 j.val → i = j := by decide
  have := key ⟨i, hi⟩ ⟨j, hj⟩ h
  exact congrArg Fin.val this
theorem nm4_less {i j : Nat} (hj : j < 4) (h : i < j) : lessB (nm4 i) (nm4 j) = true := by
  have key : ∀ i : Fin 4, ∀ j : Fin 4, i < j → lessB (nm4 i.val) (nm4 j.val) = true := by decide +kernel
  exact key ⟨i, by omega⟩ ⟨j, hj⟩ h
theorem nm4_name (i : Nat) : nameB (nm4 i) = true := by
  match i with
  | 0 => decide
  | 1 => decide
  | 2 => decide
  | i + 3 => show nameB ⟨#[100]⟩ = true; decide
theorem nm4_size (i : Nat) : (nm4 i).size ≤ 8 := by
  match i with
  | 0 => decide
  | 1 => decide
  | 2 => decide
  | i + 3 => show ByteArray.size ⟨#[100]⟩ ≤ 8; decide
/-- Names that a drawn task is after: some of the first p ones, of tasks ahead. -/
structure AlO (tn i p : Nat) (al : List ByteArray) : Prop where
  len : al.length ≤ p
  up : al.Pairwise (fun a b => lessB a b = true)
  mem : ∀ s ∈ al, ∃ q, q < p ∧ q < 4 ∧ s = nm4 q ∧ ∃ j, j < i ∧ q = (j + tn) % 4
theorem AlO.start (tn i : Nat) : AlO tn i 0 [] := ⟨Nat.le_refl _, List.Pairwise.nil, fun s hs => by cases hs⟩
theorem AlO.skip {tn i p : Nat} {al : List ByteArray} (h : AlO tn i p al) : AlO tn i (p + 1) al := ⟨by have := h.len; omega, h.up, fun s hs => by
  obtain ⟨q, h1, h2, h3, h4⟩ := h.mem s hs
  exact ⟨q, by omega, h2, h3, h4⟩⟩
theorem AlO.next {tn i p : Nat} {al : List ByteArray} (h : AlO tn i p al) (hp : p < 4) {j : Nat} (hj : j < i) (hpj : p = (j + tn) % 4) : AlO tn i (p + 1) (al ++ [nm4 p]) := by
  refine ⟨by have := h.len; simp; omega, List.pairwise_append.2 ⟨h.up, List.pairwise_singleton _ _, fun a ha b hb => ?_⟩, fun s hs => ?_⟩
  · rw [List.mem_singleton] at hb
    subst hb
    obtain ⟨q, h1, h2, h3, h4⟩ := h.mem a ha
    rw [h3]
    exact nm4_less hp h1
  · rcases List.mem_append.1 hs with hs | hs
    · obtain ⟨q, h1, h2, h3, h4⟩ := h.mem s hs
      exact ⟨q, by omega, h2, h3, h4⟩
    · rw [List.mem_singleton] at hs
      exact ⟨p, by omega, hp, hs, j, hj, hpj⟩
/-- Tasks that are drawn. -/
structure DrT (tn : Nat) (ts : List Ta) : Prop where
  few : ts.length ≤ 4
  name : ∀ (i : Nat) (t : Ta), ts[i]? = some t → t.name = nm4 ((i + tn) % 4)
  pool : ∀ t ∈ ts, poolN t.pool ≠ 0 ∧ t.pool.size ≤ 8
  ret : ∀ t ∈ ts, 0 ≤ t.ret ∧ t.ret ≤ 2
  aft : ∀ (i : Nat) (t : Ta), ts[i]? = some t → AlO tn i 4 t.after
theorem DrT.start (tn : Nat) : DrT tn [] := ⟨by decide, fun i t h => by simp at h, fun t h => (by cases h), fun t h => (by cases h), fun i t h => by simp at h⟩
theorem DrT.next {tn : Nat} {ts : List Ta} (h : DrT tn ts) (hf : ts.length < 4) {t : Ta} (hn : t.name = nm4 ((ts.length + tn) % 4)) (hp : poolN t.pool ≠ 0 ∧ t.pool.size ≤ 8) (hr : 0 ≤ t.ret ∧ t.ret ≤ 2) (ha : AlO tn ts.length 4 t.after) : DrT tn (ts ++ [t]) := by
  have hat : ∀ (i : Nat) (u : Ta), (ts ++ [t])[i]? = some u → (i < ts.length ∧ ts[i]? = some u) ∨ (i = ts.length ∧ u = t) := by
    intro i u hu
    by_cases hi : i < ts.length
    · rw [List.getElem?_append_left hi] at hu
      exact .inl ⟨hi, hu⟩
    · have := (List.getElem?_eq_some_iff.1 hu).1
      simp at this
      have hi2 : i = ts.length := by omega
      subst hi2
      simp only [List.getElem?_concat_length, Option.some.injEq] at hu
      exact .inr ⟨rfl, hu.symm⟩
  have hmem : ∀ u ∈ ts ++ [t], u ∈ ts ∨ u = t := fun u hu => by
    rcases List.mem_append.1 hu with hu | hu
    · exact .inl hu
    · exact .inr (List.mem_singleton.1 hu)
  refine ⟨by simp; omega, fun i u hu => ?_, fun u hu => ?_, fun u hu => ?_, fun i u hu => ?_⟩
  · rcases hat i u hu with ⟨_, h1⟩ | ⟨rfl, rfl⟩
    · exact h.name i u h1
    · exact hn
  · rcases hmem u hu with h1 | rfl
    · exact h.pool u h1
    · exact hp
  · rcases hmem u hu with h1 | rfl
    · exact h.ret u h1
    · exact hr
  · rcases hat i u hu with ⟨_, h1⟩ | ⟨rfl, rfl⟩
    · exact h.aft i u h1
    · exact ha
theorem DrT.good {tn : Nat} {ts : List Ta} (h : DrT tn ts) : GoodT ts id := by
  have hf := h.few
  refine ⟨fun i j t u hi hj he => ?_, fun t ht => ?_, fun t ht => (h.pool t ht).1, fun t ht => by have := h.ret t ht; omega, fun t ht => ?_, fun i t hi s hs => ?_⟩
  · have h1 := (List.getElem?_eq_some_iff.1 hi).1
    have h2 := (List.getElem?_eq_some_iff.1 hj).1
    rw [h.name i t hi, h.name j u hj] at he
    have := nm4_inj (Nat.mod_lt _ (by decide)) (Nat.mod_lt _ (by decide)) he
    omega
  · obtain ⟨i, hi⟩ := List.getElem?_of_mem ht
    rw [h.name i t hi]
    exact nm4_name _
  · obtain ⟨i, hi⟩ := List.getElem?_of_mem ht
    exact (h.aft i t hi).up
  · obtain ⟨q, h1, h2, h3, j, hj, hq⟩ := (h.aft i t hi).mem s hs
    have hil := (List.getElem?_eq_some_iff.1 hi).1
    obtain ⟨u, hu⟩ : ∃ u, ts[j]? = some u := ⟨_, List.getElem?_eq_getElem (by omega)⟩
    exact ⟨j, u, hu, by rw [h.name j u hu, h3, hq], hj⟩
/-- Turned round, too. -/
theorem DrT.turn {tn : Nat} {t0 : Ta} {l : List Ta} (h : DrT tn (t0 :: l)) : GoodT (l ++ [t0]) (fun i => if i = l.length then 0 else i + 1) := by
  have hg := h.good
  have hat : ∀ (i : Nat) (u : Ta), (l ++ [t0])[i]? = some u → (i < l.length ∧ (t0 :: l)[i + 1]? = some u) ∨ (i = l.length ∧ u = t0) := by
    intro i u hu
    by_cases hi : i < l.length
    · rw [List.getElem?_append_left hi] at hu
      exact .inl ⟨hi, by rw [List.getElem?_cons_succ]; exact hu⟩
    · have := (List.getElem?_eq_some_iff.1 hu).1
      simp at this
      have hi2 : i = l.length := by omega
      subst hi2
      simp only [List.getElem?_concat_length, Option.some.injEq] at hu
      exact .inr ⟨rfl, hu.symm⟩
  have hmem : ∀ u ∈ l ++ [t0], u ∈ t0 :: l := fun u hu => by
    rcases List.mem_append.1 hu with hu | hu
    · exact List.mem_cons_of_mem _ hu
    · rw [List.mem_singleton.1 hu]; exact List.mem_cons_self ..
  refine ⟨fun i j t u hi hj he => ?_, fun t ht => hg.name t (hmem t ht), fun t ht => hg.pool t (hmem t ht), fun t ht => hg.ret t (hmem t ht), fun t ht => hg.up t (hmem t ht), fun i t hi s hs => ?_⟩
  · rcases hat i t hi with ⟨h1, h2⟩ | ⟨h1, h2⟩
    · rcases hat j u hj with ⟨h3, h4⟩ | ⟨h3, h4⟩
      · have := hg.apart _ _ _ _ h2 h4 he; omega
      · subst h4; have := hg.apart (i + 1) 0 t u h2 rfl he; omega
    · rcases hat j u hj with ⟨h3, h4⟩ | ⟨h3, h4⟩
      · subst h2; have := hg.apart 0 (j + 1) t u rfl h4 he; omega
      · omega
  · rcases hat i t hi with ⟨h1, h2⟩ | ⟨h1, h2⟩
    · obtain ⟨j, u, hj, hu, hr⟩ := hg.aft (i + 1) t h2 s hs
      have hr' : j < i + 1 := hr
      match j, hj, hr' with
      | 0, hj, _ =>
        simp only [List.getElem?_cons_zero, Option.some.injEq] at hj
        refine ⟨l.length, t0, by simp, by rw [← hu, hj], ?_⟩
        rw [if_pos rfl, if_neg (by omega)]
        omega
      | j + 1, hj, hr' =>
        rw [List.getElem?_cons_succ] at hj
        have hjl := (List.getElem?_eq_some_iff.1 hj).1
        refine ⟨j, u, by rw [List.getElem?_append_left hjl]; exact hj, hu, ?_⟩
        rw [if_neg (by omega), if_neg (by omega)]
        omega
    · subst h2
      obtain ⟨j, u, hj, hu, hr⟩ := hg.aft 0 t rfl s hs
      exact absurd hr (by show ¬ j < 0; omega)
end Go.Proofs.YteefacjjdalncaaGreatDoor

namespace Go.Proofs.YteefacjjdalncaaGreatDoor
open Go.RowKit

set_option maxHeartbeats 400000 in
theorem once_any (g : Nat) (n : Int) (w : World) (hd : Drw w g) (h0 : 0 < n) (h1 : n ≤ 9223372036854775807) :
    Calls Tryz.prog 116 #[.pointer (some ⟨g, 0, none⟩), .int .i64 n] w fun e w' => ∃ b : Bool, e = .returned (.bool b) ∧ Drw w' g ∧ Save g w w' := by
  go_enter Tryz.func116, Tryz.ntmps116
  go_wp2_with (go_at_call 87; refine (below_any g n _ hd h0 h1).mono ?_; rintro e w1 ⟨x, rfl, hx0, hx1, hd1, hs1⟩)
  go_ret
  exact ⟨_, rfl, hd1, hs1⟩

/-- One of a row of integers. -/
def IntsAt (w : World) (g r n : Nat) : Prop := r ≠ g ∧ ∀ j, j < n → ∃ z : Int, -9223372036854775808 ≤ z ∧ z ≤ 9223372036854775807 ∧ w.cell? ⟨r, j, none⟩ = some (.int .i64 z)
theorem ownsB.slice {w : World} {B : Nat} {e : TypeId} {r n cap : Nat} {l : List Int} (h : ownsB w B e (.slice (some ⟨r, 0, none⟩) n cap) l) : n = l.length := by
  obtain ⟨_, h2⟩ := h
  rcases h2 with ⟨h, _⟩ | ⟨r', cap', cur, hv, _⟩
  · simp at h
  · simp only [Value.slice.injEq] at hv
    exact hv.2.1
end Go.Proofs.YteefacjjdalncaaGreatDoor

namespace Go.Proofs.YteefacjjdalncaaGreatDoor
open Go Go.RowKit

/-- A row of texts that lies apart from the cursor. -/
def TextsAt (w : World) (g r : Nat) (l : List ByteArray) : Prop := r ≠ g ∧ ∀ j (h : j < l.length), w.cell? ⟨r, j, none⟩ = some (.string l[j])
set_option maxHeartbeats 400000 in
theorem pick_any (g r n cap : Nat) (l : List ByteArray) (w : World) (hd : Drw w g) (h0 : 0 < n) (h1 : n ≤ 1000000) (hl : l.length = n) (hr : TextsAt w g r l) :
    Calls Tryz.prog 70 #[.pointer (some ⟨g, 0, none⟩), .slice (some ⟨r, 0, none⟩) n cap] w fun e w' => ∃ x ∈ l, e = .returned (.string x) ∧ Drw w' g ∧ Save g w w' := by
  go_enter Tryz.func70, Tryz.ntmps70
  go_wp2_with (go_at_call 87; refine (below_any g n _ hd (by omega) (by omega)).mono ?_; rintro e w1 ⟨x, rfl, hx0, hx1, hd1, hs1⟩; obtain ⟨k, rfl⟩ := Int.eq_ofNat_of_zero_le hx0; have hkl : k < l.length := (by omega); have hz2 : w1.cell? ⟨r, k, none⟩ = some (.string l[k]) := hs1.cell hr.1 (hr.2 k hkl))
  go_ret
  exact ⟨l[k], List.getElem_mem hkl, rfl, hd1, hs1⟩
/-- One of a row just written out. -/
theorem pickText_from (g : Nat) (l : List ByteArray) (w0 w : World) (hd : Drw w g) (hs : Save g w0 w) (h0 : 0 < l.length) (h1 : l.length ≤ 1000000) (cs : Array Value) (hcs : cs = (l.map Value.string).toArray) (n : Nat) (hn : n = l.length) :
    Calls Tryz.prog 70 #[.pointer (some ⟨g, 0, none⟩), .slice (some ⟨w.heap.size, 0, none⟩) n n] (w.alloc (.cells cs 9)) fun e w' => ∃ x ∈ l, e = .returned (.string x) ∧ Drw w' g ∧ Save g w0 w' := by
  have hg := hd.lt
  subst hn hcs
  refine (pick_any g w.heap.size l.length l.length l _ (hd.keep ((Below.refl _ _).alloc (by omega) _)) h0 h1 rfl ⟨by omega, fun j hj => by simp [hj]⟩).mono fun _ _ ⟨x, h1, h2, h3, h4⟩ => ⟨x, h1, h2, h3, (hs.alloc _).trans h4⟩
end Go.Proofs.YteefacjjdalncaaGreatDoor

namespace Go.Proofs.YteefacjjdalncaaGreatDoor
open Go Go.RowKit
section
variable {α : Type} [Rec α]
open Rec

theorem flat_cell {l : List α} {j : Nat} {v : Value} (h : (l.flatMap cells)[j]? = some v) : ∃ x, l[j / width α]? = some x ∧ (cells x)[j % width α]? = some v := by
  have hpos : 0 < width α := Rec.pos
  have e := flat_at l (j / width α) (j % width α) (Nat.mod_lt _ hpos)
  rw [Nat.mul_comm, Nat.div_add_mod] at e
  rw [e] at h
  cases hx : l[j / width α]? with
  | none => rw [hx] at h; simp at h
  | some x => rw [hx] at h; exact ⟨x, rfl, h⟩

theorem run_copy_rec {P : Program} (w : World) (dT sT ty elem : TypeId) (g cap B : Nat) (a : Option Addr) (n sCap : Nat) (l zs : List α)
    (hu : P.underlying dT = some (.slice elem)) (hs : (P.info? elem).map (·.size) = some (width α))
    (ho : ownsR w B elem (.slice (some ⟨g, 0, none⟩) n cap) zs) (hr : Reads w (.slice a n sCap) l) (h1 : ∀ x ∈ l, ∀ v ∈ cells x, v.oneCell' = true) :
    ∃ w', (Builtin.copy_ #[dT, sT] ty #[.slice (some ⟨g, 0, none⟩) n cap, .slice a n sCap]).run P w = .ok (goInt n) w' ∧ ownsR w' B elem (.slice (some ⟨g, 0, none⟩) n cap) l ∧ w.grownBy w' (some g) := by
  have hn := hr.len
  have hzn := ho.reads.len
  cases hq : P.info? elem with
  | none => simp [hq] at hs
  | some i =>
  have hi : i.size = width α := by simpa [hq] using hs
  by_cases h0 : n = 0
  · subst h0
    have hl0 : l = [] := List.eq_nil_of_length_eq_zero hn.symm
    have hz0 : zs = [] := List.eq_nil_of_length_eq_zero hzn.symm
    subst hl0 hz0
    have hl : ∀ (x : Addr), (loadCells x 0).run P w = .ok #[] w := fun x => by simpa using run_loadCells_list (P := P) w x [] (by simp)
    refine ⟨w, ?_, ho, grown_refl _ _⟩
    cases a <;> simp [Builtin.copy_, run_underlying hu, Builtin.lenOf, Builtin.firstCells, sizeOf, typeInfo, hq, storeCells, hl]
  · obtain ⟨ao, cap', e, hc⟩ := hr
    simp only [Value.slice.injEq] at e
    obtain ⟨rfl, _, rfl⟩ := e
    obtain ⟨b, o, rfl, hlt, hcell⟩ := hc (by rintro rfl; simp at hn; omega)
    have hlen : (l.flatMap cells).length = n * width α := by rw [flat_length, ← hn]
    have hl : (loadCells ⟨b, o, none⟩ (n * width α)).run P w = .ok (l.flatMap cells).toArray w := by
      rw [← hlen]
      refine run_loadCells_list (P := P) w ⟨b, o, none⟩ _ fun j v hv => ?_
      obtain ⟨x, hx, hv⟩ := flat_cell hv
      have := hcell _ x hx _ v hv
      have hadd : (⟨b, o, none⟩ : Addr).add j = ⟨b, o + j, none⟩ := by unfold Addr.add; split <;> simp_all
      rw [hadd]
      rw [Nat.add_assoc, Nat.mul_comm, Nat.div_add_mod] at this
      exact this
    rcases ho.2 with ⟨hv, _⟩ | ⟨g', cap2, cur, hv, hBg, hg, hcap, hmax, hsz, htake⟩
    · simp at hv
    · simp only [Value.slice.injEq, Option.some.injEq, Addr.mk.injEq, and_true] at hv
      obtain ⟨rfl, _, rfl⟩ := hv
      have hfit : (l.flatMap cells).length ≤ cur.size := by rw [hlen, hsz]; exact Nat.mul_le_mul_right _ (by omega)
      have hst := run_storeCells_at P g 0 elem (l.flatMap cells) 0 cur w hg (by simpa using hfit) (fun v hv => by
        obtain ⟨x, hx, hv⟩ := List.mem_flatMap.1 hv
        exact h1 x hx v hv)
      simp only [Nat.zero_add, List.take_zero, List.nil_append] at hst
      refine ⟨w.setRow g (l.flatMap cells ++ cur.toList.drop (l.flatMap cells).length).toArray, ?_, ?_, ?_⟩
      · simp [Builtin.copy_, run_underlying hu, Builtin.lenOf, Builtin.firstCells, sizeOf, typeInfo, hq, hi, hl, hst]
      · refine ⟨by rw [flat_length], .inr ⟨g, cap, _, by rw [← hn], hBg, setRow_heap w g cur _ elem _ hg, by omega, hmax, ?_, ?_⟩⟩
        · simp only [List.size_toArray, List.length_append, List.length_drop, Array.length_toList]
          omega
        · rw [← hn, ← hlen]; simp
      · exact ⟨rfl, rfl, rfl, by simp [World.setRow], fun k _ hk => setRow_other w g k _ (fun e => hk (by rw [e]))⟩

/-- copy(out, list) where out is a row of the call's own, as long as list. -/
theorem wpList_copy_rec {P : Program} {w : World} {ops : Array Oper} {rest : List Oper} {o : Oper} {a : Act} {Q : Exit → Act → World → Prop} (hgd : o.guard = none) (d s : Operand) (dT sT : TypeId)
    (ho : o.op = .call { callee := .builtin .copy, args := #[d, s], argTypes := #[dT, sT] }) (elem : TypeId) (hu : P.underlying dT = some (.slice elem)) (hsz : (P.info? elem).map (·.size) = some (width α))
    (g n cap B : Nat) (sp : Option Addr) (sCap : Nat) (hd : a.eval d = .slice (some ⟨g, 0, none⟩) n cap) (hs : a.eval s = .slice sp n sCap) (l zs : List α)
    (hown : ownsR w B elem (.slice (some ⟨g, 0, none⟩) n cap) zs) (hr : Reads w (.slice sp n sCap) l) (h1 : ∀ x ∈ l, ∀ v ∈ cells x, v.oneCell' = true)
    (h : ∀ w', ownsR w' B elem (.slice (some ⟨g, 0, none⟩) n cap) l → w.grownBy w' (some g) → wpList P ops Q rest (a.put o.dst (goInt n)) w') :
    wpList P ops Q (o :: rest) a w := by
  refine wpList_plain hgd fun K hK => ?_
  obtain ⟨w', hrun, ho', hg'⟩ := run_copy_rec (P := P) w dT sT o.type elem g cap B sp n sCap l zs hu hsz hown hr h1
  unfold Oper.wp
  simp [execOp, ho, resolve, invoke, builtin, hd, hs, hrun, Result.andThen]
  exact hK _ _ (h w' ho' hg')
end
end Go.Proofs.YteefacjjdalncaaGreatDoor

namespace Go.Proofs.YteefacjjdalncaaGreatDoor
open Go Go.RowKit
section
variable {α : Type} [Rec α]
open Rec
/-- A row without anything that was just made. -/
theorem ownsR_made0 (w : World) (B : Nat) (e : TypeId) (hB : B ≤ w.heap.size) : ownsR (w.alloc (.cells #[] e)) B e (.slice (some ⟨w.heap.size, 0, none⟩) 0 0) ([] : List α) :=
  World.ownsRow_made w #[] 0 hB (Nat.zero_le _) (by simp)
theorem run_append_recs {P : Program} (w : World) (B : Nat) (t ty e : TypeId) (z : Value) (bytes : Nat) (ht : P.underlying t = some (.slice e)) (hi : (P.info? e).map (fun i => (i.zero, i.size, i.bytes)) = some (some z, width α, bytes)) (hz : z.cells.size = width α)
    (v v2 : Value) (l1 l2 : List α) (hown : ownsR w B e v l1) (hr : Reads w v2 l2) (h1 : ∀ x ∈ l2, ∀ u ∈ cells x, u.oneCell' = true) (hlen : l1.length + l2.length ≤ 1048577) (hby : bytes ≤ 134217000) (hB : B ≤ w.heap.size) :
    ∃ v' w', (Builtin.append_ #[t, t] ty #[v, v2]).run P w = .ok v' w' ∧ ownsR w' B e v' (l1 ++ l2) ∧ w.grownBy w' v.ownBlock := by
  obtain ⟨i0, hi0, hz0, hz1, hz2⟩ := info_parts hi
  have hbytes : (l1.length + l2.length) * bytes ≤ 140737488355328 := by
    have : (l1.length + l2.length) * bytes ≤ 1048577 * 134217000 := Nat.mul_le_mul hlen hby
    omega
  have h63 : l1.length + l2.length ≤ maxLen := by unfold maxLen; omega
  have hone : ∀ u ∈ l2.flatMap cells, u.oneCell' = true := fun u hu => by
    obtain ⟨x, hx, hu⟩ := List.mem_flatMap.1 hu
    exact h1 x hx u hu
  obtain ⟨ao, cap, rfl, hc⟩ := hr
  cases ao with
  | none =>
    have h0 : l2 = [] := by
      cases l2 with
      | nil => rfl
      | cons x r => obtain ⟨b, o, e, _⟩ := hc (by simp); cases e
    subst h0
    refine ⟨v, w, ?_, by simpa using hown, grown_refl _ _⟩
    rcases hown.2 with ⟨rfl, h0⟩ | ⟨g, cap, cur, rfl, _, _, hnc, _⟩
    · simp [Builtin.append_, run_underlying ht, sizeOf, typeInfo, hi0, Builtin.lenOf, Builtin.firstCells]
    · simp [Builtin.append_, run_underlying ht, sizeOf, typeInfo, hi0, Builtin.lenOf, Builtin.firstCells, hnc, storeCells]
  | some a =>
    obtain ⟨v', w', hrun, ho, hg, _⟩ := run_append_own (P := P) (w := w) B t ty e i0 z (width α) bytes ht hi0 hz0 hz1 hz2 hz Rec.pos v l1.length _ hown a l2.length cap (l2.flatMap cells) (flat_length l2) (fun j u hj => by
      obtain ⟨x, hx, hu⟩ := flat_cell hj
      obtain ⟨b, o, e, _, hcell⟩ := hc (by rintro rfl; simp at hx)
      cases e
      have := hcell _ x hx _ u hu
      have hadd : (⟨b, o, none⟩ : Addr).add j = ⟨b, o + j, none⟩ := by unfold Addr.add; split <;> simp_all
      rw [hadd]
      rw [Nat.add_assoc, Nat.mul_comm, Nat.div_add_mod] at this
      exact this) hone h63 hbytes hB
    exact ⟨v', w', hrun, by simpa [ownsR, List.flatMap_append] using ho, hg⟩
/-- append(s, x...) where s is a row of the call's own. -/
theorem wpList_append_recs {P : Program} {w : World} {ops : Array Oper} {rest : List Oper} {o : Oper} {a : Act} {Q : Exit → Act → World → Prop} (hgd : o.guard = none) (s x : Operand) (t : TypeId)
    (ho : o.op = .call { callee := .builtin .append, args := #[s, x], argTypes := #[t, t] }) (B : Nat) (e : TypeId) (z : Value) (bytes : Nat) (ht : P.underlying t = some (.slice e)) (hi : (P.info? e).map (fun i => (i.zero, i.size, i.bytes)) = some (some z, width α, bytes)) (hz : z.cells.size = width α)
    (v v2 : Value) (l1 l2 : List α) (hs : a.eval s = v) (hx : a.eval x = v2) (hown : ownsR w B e v l1) (hr : Reads w v2 l2) (h1 : ∀ x ∈ l2, ∀ u ∈ cells x, u.oneCell' = true) (hlen : l1.length + l2.length ≤ 1048577) (hby : bytes ≤ 134217000) (hB : B ≤ w.heap.size)
    (h : ∀ v' w', ownsR w' B e v' (l1 ++ l2) → w.grownBy w' v.ownBlock → wpList P ops Q rest (a.put o.dst v') w') : wpList P ops Q (o :: rest) a w := by
  refine wpList_plain hgd fun K hK => ?_
  obtain ⟨v', w', hrun, ho', hg'⟩ := run_append_recs (P := P) w B t o.type e z bytes ht hi hz v v2 l1 l2 hown hr h1 hlen hby hB
  unfold Oper.wp
  simp [execOp, ho, resolve, invoke, builtin, hs, hx, hrun, Result.andThen]
  exact hK _ _ (h v' w' ho' hg')
/-- The same as one step of a region that draws its order. -/
theorem step_append_recs {P : Program} {ops : Array Oper} {o : Oper} {a : Act} {w : World} {K : Act → World → Prop} {Q : Exit → Act → World → Prop} {E : Prop} (hgd : o.guard = none) (s x : Operand) (t : TypeId)
    (ho : o.op = .call { callee := .builtin .append, args := #[s, x], argTypes := #[t, t] }) (B : Nat) (e : TypeId) (z : Value) (bytes : Nat) (ht : P.underlying t = some (.slice e)) (hi : (P.info? e).map (fun i => (i.zero, i.size, i.bytes)) = some (some z, width α, bytes)) (hz : z.cells.size = width α)
    (v v2 : Value) (l1 l2 : List α) (hs : a.eval s = v) (hx : a.eval x = v2) (hown : ownsR w B e v l1) (hr : Reads w v2 l2) (h1 : ∀ x ∈ l2, ∀ u ∈ cells x, u.oneCell' = true) (hlen : l1.length + l2.length ≤ 1048577) (hby : bytes ≤ 134217000) (hB : B ≤ w.heap.size)
    (h : ∀ v' w', ownsR w' B e v' (l1 ++ l2) → w.grownBy w' v.ownBlock → K (a.put o.dst v') w') :
    if Region.wanted o (yielded ops a.tmps) = true then Oper.wp P o a w K Q else E := by
  have hw : Region.wanted o (yielded ops a.tmps) = true := by simp [Region.wanted, hgd]
  rw [if_pos hw]
  obtain ⟨v', w', hrun, ho', hg'⟩ := run_append_recs (P := P) w B t o.type e z bytes ht hi hz v v2 l1 l2 hown hr h1 hlen hby hB
  unfold Oper.wp
  simp [execOp, ho, resolve, invoke, builtin, hs, hx, hrun, Result.andThen]
  exact h v' w' ho' hg'
end
end Go.Proofs.YteefacjjdalncaaGreatDoor

namespace Go.Proofs.YteefacjjdalncaaGreatDoor
open Go Go.RowKit
set_option linter.unusedVariables false

/-- A block of cells of a type. -/
def TyB (W : World) (b : Nat) (t : TypeId) : Prop := ∃ c, W.heap[b]? = some (.cells c t)
theorem TyB.ne {W : World} {b c : Nat} {t e : TypeId} (h : TyB W b t) (k : TyB W c e) (hne : t ≠ e) : b ≠ c := by
  rintro rfl
  obtain ⟨x, hx⟩ := h
  obtain ⟨y, hy⟩ := k
  rw [hx] at hy
  simp only [Option.some.injEq, Obj.cells.injEq] at hy
  exact hne hy.2.1
section
variable {α : Type} [Rec α]
theorem ownsR.ty {W : World} {B : Nat} {e : TypeId} {v : Value} {l : List α} (h : ownsR W B e v l) {r : Nat} (hr : v.ownBlock = some r) : TyB W r e := by
  rcases h.2 with ⟨rfl, _⟩ | ⟨g, cap, cur, rfl, _, hg, _⟩
  · cases hr
  · have e1 : g = r := by simpa [Value.ownBlock] using hr
    subst e1
    exact ⟨_, hg⟩
theorem ownsR.same' {W W' : World} {B e : Nat} {v : Value} {l : List α} (h : ownsR W B e v l) (hs : ∀ r, v.ownBlock = some r → W'.heap[r]? = W.heap[r]?) : ownsR W' B e v l := by
  refine ⟨h.1, ?_⟩
  rcases h.2 with h0 | ⟨g, cap, cur, rfl, hb, hg, hr⟩
  · exact .inl h0
  · exact .inr ⟨g, cap, cur, rfl, hb, (hs g rfl).trans hg, hr⟩
theorem ownsR.save {g : Nat} {W W' : World} {B : Nat} {e : TypeId} {v : Value} {l : List α} (h : ownsR W B e v l) (hs : Save g W W') (hB : g < B) : ownsR W' B e v l :=
  h.same' fun r hr => hs.block r (h.lt r hr).2 (by have := (h.lt r hr).1; omega)
theorem ownsR.apartTy {W : World} {B : Nat} {e t : TypeId} {v : Value} {l : List α} {b : Nat} (h : ownsR W B e v l) (ht : TyB W b t) (hne : t ≠ e) : some b ≠ v.ownBlock := fun hk => (ht.ne (h.ty hk.symm) hne) rfl
end
/-- A drawn task as it lies there, and plain. -/
structure AfT (W : World) (B : Nat) (k : Tk) (t : Ta) : Prop where
  name : k.name = t.name
  pool : k.pool = t.pool
  ret : k.ret = t.ret
  past : k.past = t.past
  after : ownsR W B 9 k.after t.after
structure AfL (W : World) (B : Nat) (ks : List Tk) (ts : List Ta) : Prop where
  len : ks.length = ts.length
  each : ∀ (i : Nat) (k : Tk) (t : Ta), ks[i]? = some k → ts[i]? = some t → AfT W B k t
theorem AfL.of {W : World} {B : Nat} {ks : List Tk} {ts : List Ta} (h : AfL W B ks ts) {k : Tk} (hk : k ∈ ks) : ∃ al : List ByteArray, ownsR W B 9 k.after al := by
  obtain ⟨i, hi⟩ := List.getElem?_of_mem hk
  have hl := (List.getElem?_eq_some_iff.1 hi).1
  obtain ⟨t, ht⟩ : ∃ t, ts[i]? = some t := ⟨_, List.getElem?_eq_getElem (by rw [← h.len]; exact hl)⟩
  exact ⟨_, (h.each i k t hi ht).after⟩
theorem AfL.same {W W' : World} {B : Nat} {ks : List Tk} {ts : List Ta} (h : AfL W B ks ts) (hs : ∀ k ∈ ks, ∀ (al : List ByteArray), ownsR W B 9 k.after al → ∀ r, k.after.ownBlock = some r → W'.heap[r]? = W.heap[r]?) : AfL W' B ks ts :=
  ⟨h.len, fun i k t hk ht => by
    have a := h.each i k t hk ht
    exact ⟨a.name, a.pool, a.ret, a.past, a.after.same' (hs k (List.mem_of_getElem? hk) _ a.after)⟩⟩
theorem AfL.nil (W : World) (B : Nat) : AfL W B [] [] := ⟨rfl, fun i k t h => by simp at h⟩
theorem AfL.snoc {W : World} {B : Nat} {ks : List Tk} {ts : List Ta} (h : AfL W B ks ts) {k : Tk} {t : Ta} (a : AfT W B k t) : AfL W B (ks ++ [k]) (ts ++ [t]) := by
  refine ⟨by simp [h.len], fun i k' t' hk ht => ?_⟩
  by_cases hi : i < ks.length
  · rw [List.getElem?_append_left hi] at hk
    rw [List.getElem?_append_left (by rw [← h.len]; exact hi)] at ht
    exact h.each i k' t' hk ht
  · have := (List.getElem?_eq_some_iff.1 hk).1
    simp at this
    have hi2 : i = ks.length := by omega
    subst hi2
    simp only [List.getElem?_concat_length, Option.some.injEq] at hk
    rw [h.len] at ht
    simp only [List.getElem?_concat_length, Option.some.injEq] at ht
    subst hk ht
    exact a
/-- The four names, as they lie there. -/
def Nm4 (W : World) (b : Nat) : Prop := W.heap[b]? = some (.cells #[.string ⟨#[97]⟩, .string ⟨#[98]⟩, .string ⟨#[99]⟩, .string ⟨#[100]⟩] 9)
structure DgS (g D Nn : Nat) (w0 : World) (nm cr : ByteArray) (fr up : Int) (cu : Bool) (tv : Value) (ks : List Tk) (ts : List Ta) (W : World) : Prop where
  drw : Drw W g
  sv : Save g w0 W
  gl : g < w0.heap.size
  dl : w0.heap.size < D
  nl : w0.heap.size ≤ Nn
  res : D6 W w0.heap.size ⟨#[]⟩ ⟨#[]⟩ 0 0 false (.slice none 0 0)
  d : D6 W D nm cr fr up cu tv
  n : Nm4 W Nn
  own : ownsR W w0.heap.size 45 tv ks
  aft : AfL W w0.heap.size ks ts
section
variable {g D Nn : Nat} {w0 W W' : World} {nm cr : ByteArray} {fr up : Int} {cu : Bool} {tv : Value} {ks : List Tk} {ts : List Ta}
theorem DgS.dlt (h : DgS g D Nn w0 nm cr fr up cu tv ks ts W) : D < W.heap.size := h.d.lt
theorem DgS.nlt (h : DgS g D Nn w0 nm cr fr up cu tv ks ts W) : Nn < W.heap.size := (Array.getElem?_eq_some_iff.1 h.n).1
theorem DgS.tyD (h : DgS g D Nn w0 nm cr fr up cu tv ks ts W) : TyB W D 26 := ⟨_, h.d⟩
theorem DgS.tyR (h : DgS g D Nn w0 nm cr fr up cu tv ks ts W) : TyB W w0.heap.size 26 := ⟨_, h.res⟩
theorem DgS.tyN (h : DgS g D Nn w0 nm cr fr up cu tv ks ts W) : TyB W Nn 9 := ⟨_, h.n⟩
theorem Drw.ty {W : World} {g : Nat} (h : Drw W g) : TyB W g 103 := by
  obtain ⟨v, n, i, x, h1, h2, h3, h4, h5, h6, h7⟩ := h
  exact ⟨_, h6⟩
theorem DgS.save (h : DgS g D Nn w0 nm cr fr up cu tv ks ts W) (hs : Save g W W') (hd : Drw W' g) : DgS g D Nn w0 nm cr fr up cu tv ks ts W' :=
  ⟨hd, h.sv.trans hs, h.gl, h.dl, h.nl, (hs.block _ h.res.lt (by have := h.gl; omega)).trans h.res, (hs.block _ h.d.lt (by have := h.gl; have := h.dl; omega)).trans h.d, (hs.block _ h.nlt (by have := h.gl; have := h.nl; omega)).trans h.n, h.own.save hs h.gl,
    h.aft.same fun k hk al h1 r hr => hs.block r (h1.lt r hr).2 (by have := (h1.lt r hr).1; have := h.gl; omega)⟩
theorem DgS.drew (h : DgS g D Nn w0 nm cr fr up cu tv ks ts W) : DgS g D Nn w0 nm cr fr up cu tv ks ts W.drew := h.save (Save.refl _ _).drew (h.drw.keep ((Below.refl _ _).drew))
theorem DgS.drewN (h : DgS g D Nn w0 nm cr fr up cu tv ks ts W) (n : Nat) : DgS g D Nn w0 nm cr fr up cu tv ks ts (W.drewN n) := h.save ((Save.refl _ _).drewN n) (h.drw.keep (bdrewN (Below.refl _ _) n))
theorem DgS.alloc (h : DgS g D Nn w0 nm cr fr up cu tv ks ts W) (o : Obj) : DgS g D Nn w0 nm cr fr up cu tv ks ts (W.alloc o) := h.save ((Save.refl _ _).alloc o) (h.drw.keep ((Below.refl _ _).alloc (by have := h.drw.lt; omega) o))
theorem DgS.len (h : DgS g D Nn w0 nm cr fr up cu tv ks ts W) : ∃ a c, tv = .slice a ks.length c := h.own.slice
/-- The tasks read as plain ones. -/
theorem tasks_of {W : World} {B : Nat} {tv : Value} {ks : List Tk} {ts : List Ta} (hr : Reads W tv ks) (ha : AfL W B ks ts) : Tasks W tv ts :=
  ⟨ks, hr, ha.len, fun i t ht => by
    have hl := (List.getElem?_eq_some_iff.1 ht).1
    obtain ⟨k, hk⟩ : ∃ k, ks[i]? = some k := ⟨_, List.getElem?_eq_getElem (by rw [ha.len]; exact hl)⟩
    have a := ha.each i k t hk ht
    exact ⟨k, hk, a.name, a.pool, a.ret, a.past, a.after.reads⟩⟩
theorem DgS.tasks (h : DgS g D Nn w0 nm cr fr up cu tv ks ts W) : Tasks W tv ts := tasks_of h.own.reads h.aft
theorem DgS.up3 (h : DgS g D Nn w0 nm cr fr up cu tv ks ts W) (u : Int) : DgS g D Nn w0 nm cr fr u cu tv ks ts (W.setCell ⟨D, 3, none⟩ (.int .i64 u)) := by
  have hb : ∀ k, k ≠ D → (W.setCell ⟨D, 3, none⟩ (.int .i64 u)).heap[k]? = W.heap[k]? := fun k hk => heap_setCell_other W ⟨D, 3, none⟩ k _ hk
  have hg := h.gl
  have hd := h.dl
  have bg : Below (g + 1) W (W.setCell ⟨D, 3, none⟩ (.int .i64 u)) := Below.setCell (Below.refl _ _) (by show g + 1 ≤ D; omega) _
  have bw : Below w0.heap.size W (W.setCell ⟨D, 3, none⟩ (.int .i64 u)) := Below.setCell (Below.refl _ _) (by show w0.heap.size ≤ D; omega) _
  refine ⟨h.drw.keep bg, h.sv.below_on bw (Nat.le_refl _), h.gl, h.dl, h.nl, (hb _ (by omega)).trans h.res, h.d.s3 u, (hb _ (h.tyN.ne h.tyD (by decide))).trans h.n, h.own.same' fun r hr => hb r ((h.own.ty hr).ne h.tyD (by decide)), h.aft.same fun k hk al h1 r hr => hb r ((h1.ty hr).ne h.tyD (by decide))⟩
end
/-- A task is being made beside it. -/
structure DgI (g D Nn : Nat) (w0 : World) (nm cr : ByteArray) (fr up : Int) (cu : Bool) (tv : Value) (ks : List Tk) (ts : List Ta) (X : Nat) (xn xp : ByteArray) (xr : Int) (xq : Bool) (av : Value) (al : List ByteArray) (W : World) : Prop where
  o : DgS g D Nn w0 nm cr fr up cu tv ks ts W
  xl : w0.heap.size ≤ X
  x : B5 45 W X (.string xn) (.string xp) (.int .i64 xr) (.bool xq) av
  xt : some X ≠ tv.ownBlock
  lt : ∀ k ∈ ks, ∀ r, k.after.ownBlock = some r → r < X
  nlt : Nn < X
  dlt : D < X
  row : ownsR W X 9 av al
section
variable {g D Nn : Nat} {w0 W W' : World} {nm cr : ByteArray} {fr up : Int} {cu : Bool} {tv : Value} {ks : List Tk} {ts : List Ta} {X : Nat} {xn xp : ByteArray} {xr : Int} {xq : Bool} {av : Value} {al : List ByteArray}
theorem DgI.tyX (h : DgI g D Nn w0 nm cr fr up cu tv ks ts X xn xp xr xq av al W) : TyB W X 45 := ⟨_, h.x⟩
theorem DgI.save (h : DgI g D Nn w0 nm cr fr up cu tv ks ts X xn xp xr xq av al W) (hs : Save g W W') (hd : Drw W' g) : DgI g D Nn w0 nm cr fr up cu tv ks ts X xn xp xr xq av al W' :=
  ⟨h.o.save hs hd, h.xl, (hs.block _ h.x.lt (by have := h.o.gl; have := h.xl; omega)).trans h.x, h.xt, h.lt, h.nlt, h.dlt, h.row.save hs (by have := h.o.gl; have := h.xl; omega)⟩
theorem DgI.drew (h : DgI g D Nn w0 nm cr fr up cu tv ks ts X xn xp xr xq av al W) : DgI g D Nn w0 nm cr fr up cu tv ks ts X xn xp xr xq av al W.drew := h.save (Save.refl _ _).drew (h.o.drw.keep ((Below.refl _ _).drew))
theorem DgI.drewN (h : DgI g D Nn w0 nm cr fr up cu tv ks ts X xn xp xr xq av al W) (n : Nat) : DgI g D Nn w0 nm cr fr up cu tv ks ts X xn xp xr xq av al (W.drewN n) := h.save ((Save.refl _ _).drewN n) (h.o.drw.keep (bdrewN (Below.refl _ _) n))
theorem DgI.alloc (h : DgI g D Nn w0 nm cr fr up cu tv ks ts X xn xp xr xq av al W) (o : Obj) : DgI g D Nn w0 nm cr fr up cu tv ks ts X xn xp xr xq av al (W.alloc o) := h.save ((Save.refl _ _).alloc o) (h.o.drw.keep ((Below.refl _ _).alloc (by have := h.o.drw.lt; omega) o))
theorem DgS.begin (h : DgS g D Nn w0 nm cr fr up cu tv ks ts W) (xn xp : ByteArray) (xr : Int) (xq : Bool) : DgI g D Nn w0 nm cr fr up cu tv ks ts W.heap.size xn xp xr xq (.slice none 0 0) [] (W.alloc (.cells #[.string xn, .string xp, .int .i64 xr, .bool xq, .slice none 0 0] 45)) :=
  ⟨h.alloc _, h.sv.size, B5.new _ _ _ _ _ _ _, fun e => by have := (h.own.lt _ e.symm).2; omega, fun k hk r hr => by
    obtain ⟨al, h1⟩ := h.aft.of hk
    exact (h1.lt r hr).2, h.nlt, h.dlt, ownsR_nil _ _ _⟩
/-- The task's fields are laid down. -/
theorem DgI.fill {xn0 xp0 : ByteArray} {xr0 : Int} {xq0 : Bool} (h : DgI g D Nn w0 nm cr fr up cu tv ks ts X xn0 xp0 xr0 xq0 (.slice none 0 0) [] W) (xn xp : ByteArray) (xr : Int) (xq : Bool) : DgI g D Nn w0 nm cr fr up cu tv ks ts X xn xp xr xq (.slice none 0 0) [] (set5 W X (.string xn) (.string xp) (.int .i64 xr) (.bool xq) (.slice none 0 0)) := by
  have hgl := h.o.gl
  have hxl := h.xl
  have hdl := h.o.dl
  have hXs := h.x.lt
  have bX : Below X W (set5 W X (.string xn) (.string xp) (.int .i64 xr) (.bool xq) (.slice none 0 0)) := below_set5 (Below.refl _ _) (Nat.le_refl _) _ _ _ _ _
  have hb : ∀ b, b ≠ X → (set5 W X (.string xn) (.string xp) (.int .i64 xr) (.bool xq) (.slice none 0 0)).heap[b]? = W.heap[b]? := fun b hb => by
    unfold set5
    rw [heap_setCell_other _ ⟨X, 4, none⟩ b _ hb, heap_setCell_other _ ⟨X, 3, none⟩ b _ hb, heap_setCell_other _ ⟨X, 2, none⟩ b _ hb, heap_setCell_other _ ⟨X, 1, none⟩ b _ hb, heap_setCell_other _ ⟨X, 0, none⟩ b _ hb]
  have hT : ∀ r, tv.ownBlock = some r → (set5 W X (.string xn) (.string xp) (.int .i64 xr) (.bool xq) (.slice none 0 0)).heap[r]? = W.heap[r]? := fun r hr' => hb r (fun e => h.xt (by rw [hr']; exact congrArg some e.symm))
  have hd := h.dlt
  have hn := h.nlt
  exact ⟨⟨h.o.drw.keep (bX.mono (by omega)), h.o.sv.below_on (bX.mono hxl) (Nat.le_refl _), hgl, hdl, h.o.nl, (hb _ (by omega)).trans h.o.res, (hb _ (by omega)).trans h.o.d, (hb _ (by omega)).trans h.o.n, h.o.own.same' hT, h.o.aft.same fun k hk al h1 r hr' => hb r (by have := h.lt k hk r hr'; omega)⟩, hxl, h.x.set _ _ _ _ _, h.xt, h.lt, h.nlt, h.dlt, ownsR_nil _ _ _⟩
/-- One name more. -/
theorem DgI.name (h : DgI g D Nn w0 nm cr fr up cu tv ks ts X xn xp xr xq av al W) {v' : Value} {al' : List ByteArray} (hg : W.grownBy W' av.ownBlock) (hr : ownsR W' X 9 v' al') : DgI g D Nn w0 nm cr fr up cu tv ks ts X xn xp xr xq v' al' (W'.setCell ⟨X, 4, none⟩ v') := by
  have hgl := h.o.gl
  have hxl := h.xl
  have hdl := h.o.dl
  have hlo : ∀ b, b < X → some b ≠ av.ownBlock := fun b hb e => by have := (h.row.lt b e.symm).1; omega
  have hXs := h.x.lt
  have hb : ∀ b, b < X → (W'.setCell ⟨X, 4, none⟩ v').heap[b]? = W.heap[b]? := fun b hb => (heap_setCell_other W' ⟨X, 4, none⟩ b _ (by show b ≠ X; omega)).trans (hg.block b (by omega) (hlo b hb))
  have hT : ∀ r, tv.ownBlock = some r → (W'.setCell ⟨X, 4, none⟩ v').heap[r]? = W.heap[r]? := fun r hr' => (heap_setCell_other W' ⟨X, 4, none⟩ r _ (fun e => h.xt (by rw [hr']; exact congrArg some e.symm))).trans (hg.block r (h.o.own.lt r hr').2 (h.row.apartTy (h.o.own.ty hr') (by decide)))
  have hX1 : B5 45 W' X (.string xn) (.string xp) (.int .i64 xr) (.bool xq) av := h.x.grown hg (h.row.apartTy h.tyX (by decide))
  have bX : Below X W (W'.setCell ⟨X, 4, none⟩ v') := ⟨hg.os, hg.tape, hg.output, by have := hg.size; simp; omega, fun k hk => hb k hk⟩
  refine ⟨⟨h.o.drw.keep (bX.mono (by omega)), h.o.sv.below_on (bX.mono hxl) (Nat.le_refl _), hgl, hdl, h.o.nl, (hb _ (by have := h.dlt; omega)).trans h.o.res, (hb _ h.dlt).trans h.o.d, (hb _ h.nlt).trans h.o.n, h.o.own.same' hT, h.o.aft.same fun k hk al h1 r hr' => hb r (h.lt k hk r hr')⟩, hxl, hX1.s4 v', h.xt, h.lt, h.nlt, h.dlt, ?_⟩
  exact hr.same' fun r hr' => heap_setCell_other W' ⟨X, 4, none⟩ r _ ((hr.ty hr').ne ⟨_, hX1⟩ (by decide))
/-- The task is put behind the others. -/
theorem DgI.done (h : DgI g D Nn w0 nm cr fr up cu tv ks ts X xn xp xr xq av al W) {v' : Value} (hg : W.grownBy W' tv.ownBlock) (hr : ownsR W' w0.heap.size 45 v' (ks ++ [⟨xn, xp, xr, xq, av⟩])) :
    DgS g D Nn w0 nm cr fr up cu v' (ks ++ [⟨xn, xp, xr, xq, av⟩]) (ts ++ [⟨xn, xp, xr, xq, al⟩]) (W'.setCell ⟨D, 5, none⟩ v') := by
  have hgl := h.o.gl
  have hdl := h.o.dl
  have hDt : TyB W' D 26 := ⟨_, (hg.block D h.o.dlt (h.o.own.apartTy h.o.tyD (by decide))).trans h.o.d⟩
  have hk : ∀ b t, TyB W b t → t ≠ 45 → W'.heap[b]? = W.heap[b]? := fun b t ht hne => by
    obtain ⟨c, hc⟩ := ht
    exact hg.block b (Array.getElem?_eq_some_iff.1 hc).1 (h.o.own.apartTy ⟨c, hc⟩ hne)
  have hs : ∀ b t, TyB W b t → t ≠ 45 → b ≠ D → (W'.setCell ⟨D, 5, none⟩ v').heap[b]? = W.heap[b]? := fun b t ht hne hbD => (heap_setCell_other W' ⟨D, 5, none⟩ b _ hbD).trans (hk b t ht hne)
  have hB : ∀ j, tv.ownBlock = some j → w0.heap.size ≤ j := fun j hj => (h.o.own.lt j hj).1
  have bw : Below w0.heap.size W (W'.setCell ⟨D, 5, none⟩ v') := ⟨hg.os, hg.tape, hg.output, by have := hg.size; have := h.o.sv.size; simp; omega, fun k hk' => (heap_setCell_other W' ⟨D, 5, none⟩ k _ (by show k ≠ D; omega)).trans (hg.block k (by have := h.o.sv.size; omega) (fun e => by have := hB k e.symm; omega))⟩
  refine ⟨h.o.drw.keep (bw.mono (by omega)), h.o.sv.below_on bw (Nat.le_refl _), hgl, hdl, h.o.nl, (hs _ _ h.o.tyR (by decide) (by omega)).trans h.o.res, ?_, (hs _ _ h.o.tyN (by decide) (h.o.tyN.ne h.o.tyD (by decide))).trans h.o.n, hr.same' fun r hr' => heap_setCell_other W' ⟨D, 5, none⟩ r _ ((hr.ty hr').ne hDt (by decide)), ?_⟩
  · exact D6.s5 (show D6 W' D nm cr fr up cu tv from (hk D _ h.o.tyD (by decide)).trans h.o.d) v'
  · refine (h.o.aft.same fun k hk' al' b1 r hr' => hs r _ (b1.ty hr') (by decide) ((b1.ty hr').ne h.o.tyD (by decide))).snoc ⟨rfl, rfl, rfl, rfl, ?_⟩
    have b1 : ownsR W w0.heap.size 9 av al := h.row.mono h.xl
    exact b1.same' fun r hr' => hs r _ (b1.ty hr') (by decide) ((b1.ty hr').ne h.o.tyD (by decide))
end
end Go.Proofs.YteefacjjdalncaaGreatDoor

namespace Go.Proofs.YteefacjjdalncaaGreatDoor
open Go Go.RowKit
set_option linter.unusedVariables false

theorem size_setCells' (b : Nat) : ∀ (vs : List Value) (o : Nat) (w : World), (w.setCells b o vs).heap.size = w.heap.size
  | [], _, _ => rfl
  | v :: r, o, w => by
    show ((w.setCell ⟨b, o, none⟩ v).setCells b (o + 1) r).heap.size = _
    rw [size_setCells' b r]
    simp
theorem grown_setCells (b : Nat) : ∀ (vs : List Value) (o : Nat) (w : World), w.grownBy (w.setCells b o vs) (some b)
  | [], _, w => grown_refl _ _
  | v :: r, o, w => grown_trans (grown_set w b o v) (grown_setCells b r (o + 1) _)
open Rec in
theorem run_append_cut {α : Type} [Rec α] {P : Program} (w : World) {B : Nat} {e t ty : TypeId} {z : Value} {bytes : Nat} (ht : P.underlying t = some (.slice e)) (hi : (P.info? e).map (fun i => (i.zero, i.size, i.bytes)) = some (some z, width α, bytes)) (hz : z.cells.size = width α)
    {r n cap : Nat} {k0 : α} {l : List α} (hown : ownsR w B e (.slice (some ⟨r, 0, none⟩) (n + 1) cap) (k0 :: l)) (b c : Nat) (x : α) (hc : ∀ j u, (cells x)[j]? = some u → w.cell? ⟨b, j, none⟩ = some u ∧ u.oneCell' = true)
    (hlen : l.length ≤ 1048576) (hby : bytes ≤ 134217000) :
    ∃ v' w', (Builtin.append_ #[t, t] ty #[.slice (some ⟨r, width α, none⟩) n (cap - 1), .slice (some ⟨b, 0, none⟩) 1 c]).run P w = .ok v' w' ∧ Reads w' v' (l ++ [x]) ∧ w.grownBy w' (some r) ∧ (∀ a m d, v' = .slice (some a) m d → a.block = r ∨ w.heap.size ≤ a.block) ∧ (∀ a m d, v' = .slice a m d → m ≤ d) := by
  obtain ⟨i0, hi0, hz0, hz1, hz2⟩ := info_parts hi
  have hnl : n = l.length := by
    have := hown.reads.len
    simpa using this
  have hw0 : 0 < width α := Rec.pos
  have hnews : ∀ j u, (cells x)[j]? = some u → w.cell? ((⟨b, 0, none⟩ : Addr).add j) = some u := fun j u hj => by
    have := (hc j u hj).1
    by_cases h0 : j = 0
    · subst h0; simpa [Addr.add] using this
    · simpa [Addr.add, h0] using this
  have hone : ∀ u ∈ cells x, u.oneCell' = true := fun u hu => by
    obtain ⟨j, hj⟩ := List.getElem?_of_mem hu
    exact (hc j u hj).2
  obtain ⟨hrl, hrB⟩ : r < w.heap.size ∧ B ≤ r := by
    have := hown.at (i := 0) rfl
    exact ⟨this.1, this.2.1⟩
  have hold : ∀ i y, l[i]? = some y → ∀ j u, (cells y)[j]? = some u → w.cell? ⟨r, width α + i * width α + j, none⟩ = some u := fun i y hy j u hu => by
    have h1 := (hown.at (i := i + 1) (by rw [List.getElem?_cons_succ]; exact hy)).2.2.2 j (by rw [← Rec.len y]; exact (List.getElem?_eq_some_iff.1 hu).1)
    rw [show (i + 1) * width α + j = width α + i * width α + j by rw [Nat.add_mul]; omega] at h1
    exact h1.1.trans hu
  obtain ⟨h1, h2⟩ := hown
  rcases h2 with ⟨he, _⟩ | ⟨g, cap', cur, he, hb, hg, hcap, hcm, hcs, htk⟩
  · simp at he
  · simp only [Value.slice.injEq, Option.some.injEq, Addr.mk.injEq] at he
    obtain ⟨⟨rfl, _⟩, hn2, rfl⟩ := he
    have hll : (k0 :: l).length = n + 1 := by simp [hnl]
    rw [hll] at hcap
    have hcell : ∀ o, o < cap * width α → (w.cell? ⟨r, o, none⟩).isSome = true := fun o ho => by
      rw [show w.cell? ⟨r, o, none⟩ = cur[o]? by simp [World.cell?, hg]]
      rw [Array.getElem?_eq_getElem (by omega)]
      rfl
    by_cases hroom : n + 1 + 1 ≤ cap
    · have hsz : n * width α + width α + width α ≤ cap * width α := by
        have := Nat.mul_le_mul_right (width α) hroom
        rw [Nat.add_mul, Nat.add_mul] at this
        omega
      have hr := run_append_room_cells (P := P) w t ty e i0 ht hi0 r (width α) n (cap - 1) ⟨b, 0, none⟩ 1 c (cells x) (by rw [Rec.len, hz1]; simp) hnews hone (by omega)
        (fun j hj => hcell _ (by rw [Rec.len] at hj; rw [hz1]; omega)) (fun j hj => by simp [World.frozen?, hg])
      rw [hz1] at hr
      refine ⟨_, _, hr, ⟨some ⟨r, width α, none⟩, cap - 1, by simp [hnl], fun _ => ⟨r, width α, rfl, ?_, fun i y hy j u hu => ?_⟩⟩, ?_, fun a m d ha => ?_, fun a m d ha => ?_⟩
      · rw [size_setCells']; exact hrl
      · have hjw : j < width α := by rw [← Rec.len y]; exact (List.getElem?_eq_some_iff.1 hu).1
        by_cases hil : i < l.length
        · rw [List.getElem?_append_left hil] at hy
          rw [World.cell?_setCells_out r (cells x) _ w ⟨r, width α + i * width α + j, none⟩ (fun _ _ => .inl ?_)]
          · exact hold i y hy j u hu
          · show width α + i * width α + j < width α + n * width α
            have : (i + 1) * width α ≤ n * width α := Nat.mul_le_mul_right _ (by omega)
            rw [Nat.add_mul] at this
            omega
        · have hil2 : i = l.length := by
            have := (List.getElem?_eq_some_iff.1 hy).1
            simp at this
            omega
          subst hil2
          simp only [List.getElem?_concat_length, Option.some.injEq] at hy
          subst hy
          have hin := World.cell?_setCells_in r (cells x) (width α + n * width α) w (fun q hq => hcell _ (by rw [Rec.len] at hq; omega)) j (by rw [Rec.len]; exact hjw)
          rw [hnl] at hin ⊢
          rw [hin]
          exact (List.getElem?_eq_getElem _).symm.trans hu
      · exact grown_setCells r _ _ w
      · simp only [Value.slice.injEq, Option.some.injEq] at ha
        rw [← ha.1]
        exact .inl rfl
      · simp only [Value.slice.injEq] at ha
        omega
    · have hcapn : cap = n + 1 := by omega
      have hbytes : (n + 1) * bytes ≤ 140737488355328 := by
        have : (n + 1) * bytes ≤ 1048577 * 134217000 := Nat.mul_le_mul (by omega) hby
        omega
      have hol : ∀ j u, (l.flatMap cells)[j]? = some u → w.cell? ((⟨r, width α, none⟩ : Addr).add j) = some u := fun j u hj => by
        have hd := Nat.div_add_mod j (width α)
        have hq : j % width α < width α := Nat.mod_lt _ hw0
        have hf := flat_at l (j / width α) (j % width α) hq
        rw [show j / width α * width α + j % width α = j by rw [Nat.mul_comm]; exact hd, hj] at hf
        cases hy : l[j / width α]? with
        | none => rw [hy] at hf; cases hf
        | some y =>
          rw [hy] at hf
          have hu := hold _ y hy (j % width α) u hf.symm
          rw [show width α + j / width α * width α + j % width α = width α + j by rw [Nat.mul_comm (j / width α)]; omega] at hu
          by_cases h0 : j = 0
          · subst h0; simpa [Addr.add] using hu
          · simpa [Addr.add, h0] using hu
      obtain ⟨v', w', hr, ho, hgw⟩ := run_append_arg_grows (P := P) w t ty e i0 z (width α) bytes ht hi0 hz0 hz1 hz2 hz hw0 ⟨r, width α, none⟩ n (cap - 1) (l.flatMap cells) (by rw [flat_length, hnl]) hol ⟨b, 0, none⟩ 1 c (cells x) (by rw [Rec.len]; simp) hnews (by omega) (by unfold maxLen; omega) hbytes
      have ho2 : ownsR w' w.heap.size e v' (l ++ [x]) := by
        unfold ownsR
        rw [List.flatMap_append, List.length_append, ← hnl]
        simpa using ho
      refine ⟨v', w', hr, ho2.reads, ⟨hgw.os, hgw.tape, hgw.output, hgw.size, fun k hk' _ => hgw.block k hk' (by simp)⟩, fun a m d ha => ?_, fun a m d ha => ?_⟩
      · subst ha
        exact .inr (ho2.lt a.block rfl).1
      · obtain ⟨a', c', e', hle⟩ := ho2.cap
        rw [e'] at ha
        injection ha with _ e1 e2
        omega
/-- A plan that is drawn, ahead of the answer. -/
structure DgE (g D : Nat) (w0 : World) (nm cr : ByteArray) (fr up : Int) (cu : Bool) (tv : Value) (ks : List Tk) (ts : List Ta) (W : World) : Prop where
  drw : Drw W g
  sv : Save g w0 W
  gl : g < w0.heap.size
  dl : w0.heap.size < D
  res : D6 W w0.heap.size ⟨#[]⟩ ⟨#[]⟩ 0 0 false (.slice none 0 0)
  d : D6 W D nm cr fr up cu tv
  rd : Reads W tv ks
  at' : ∀ a m c, tv = .slice (some a) m c → w0.heap.size ≤ a.block ∧ a.block ≠ w0.heap.size
  aft : AfL W w0.heap.size ks ts
  room : ∀ a m c, tv = .slice a m c → m ≤ c
theorem DgS.ends {g D Nn : Nat} {w0 W : World} {nm cr : ByteArray} {fr up : Int} {cu : Bool} {tv : Value} {ks : List Tk} {ts : List Ta} (h : DgS g D Nn w0 nm cr fr up cu tv ks ts W) : DgE g D w0 nm cr fr up cu tv ks ts W :=
  ⟨h.drw, h.sv, h.gl, h.dl, h.res, h.d, h.own.reads, fun a m c e => by
    subst e
    exact ⟨(h.own.lt a.block rfl).1, (h.own.ty (r := a.block) rfl).ne h.tyR (by decide)⟩, h.aft, fun a m c e => by
    obtain ⟨a', c', e', hle⟩ := h.own.cap
    rw [e'] at e
    injection e with _ e1 e2
    omega⟩
abbrev set6g (W : World) (b : Nat) (u0 u1 u2 u3 u4 u5 : Value) : World := (((((W.setCell ⟨b, 0, none⟩ u0).setCell ⟨b, 1, none⟩ u1).setCell ⟨b, 2, none⟩ u2).setCell ⟨b, 3, none⟩ u3).setCell ⟨b, 4, none⟩ u4).setCell ⟨b, 5, none⟩ u5
theorem set6g_other (W : World) (b : Nat) (u0 u1 u2 u3 u4 u5 : Value) {k : Nat} (h : k ≠ b) : (set6g W b u0 u1 u2 u3 u4 u5).heap[k]? = W.heap[k]? := by
  unfold set6g
  rw [heap_setCell_other _ ⟨b, 5, none⟩ k _ h, heap_setCell_other _ ⟨b, 4, none⟩ k _ h, heap_setCell_other _ ⟨b, 3, none⟩ k _ h, heap_setCell_other _ ⟨b, 2, none⟩ k _ h, heap_setCell_other _ ⟨b, 1, none⟩ k _ h, heap_setCell_other _ ⟨b, 0, none⟩ k _ h]
theorem below_set6g {B : Nat} {V W : World} {b : Nat} (h : Below B V W) (hb : B ≤ b) (u0 u1 u2 u3 u4 u5 : Value) : Below B V (set6g W b u0 u1 u2 u3 u4 u5) :=
  Below.setCell (Below.setCell (Below.setCell (Below.setCell (Below.setCell (Below.setCell h hb _) hb _) hb _) hb _) hb _) hb _
theorem D6.setg {W : World} {b : Nat} {nm cr nm' cr' : ByteArray} {fr up fr' up' : Int} {cu cu' : Bool} {tv tv' : Value} (h : D6 W b nm cr fr up cu tv) : D6 (set6g W b (.string nm') (.string cr') (.int .i64 fr') (.int .i64 up') (.bool cu') tv') b nm' cr' fr' up' cu' tv' := (((((h.s0 nm').s1 cr').s2 fr').s3 up').s4 cu').s5 tv'
theorem Reads.same {α : Type} [Rec α] {W W' : World} {v : Value} {l : List α} (h : Reads W v l) (hs : W.heap.size ≤ W'.heap.size) (hb : ∀ a m c, v = .slice (some a) m c → W'.heap[a.block]? = W.heap[a.block]?) : Reads W' v l := by
  obtain ⟨ao, cap, rfl, hr⟩ := h
  refine ⟨ao, cap, rfl, fun hne => ?_⟩
  obtain ⟨b, o, rfl, hlt, hc⟩ := hr hne
  refine ⟨b, o, rfl, Nat.lt_of_lt_of_le hlt hs, fun i x hx j u hu => ?_⟩
  have hbb : W'.heap[b]? = W.heap[b]? := hb ⟨b, o, none⟩ _ _ rfl
  rw [World.cell?_of_block (a := ⟨b, o + i * Rec.width α + j, none⟩) hbb]
  exact hc i x hx j u hu
/-- The answer lies in the result's block. -/
theorem DgE.fin {g D : Nat} {w0 W : World} {nm cr : ByteArray} {fr up : Int} {cu : Bool} {tv : Value} {ks : List Tk} {ts : List Ta} (h : DgE g D w0 nm cr fr up cu tv ks ts W) :
    D6 (set6g W w0.heap.size (.string nm) (.string cr) (.int .i64 fr) (.int .i64 up) (.bool cu) tv) w0.heap.size nm cr fr up cu tv ∧ Reads (set6g W w0.heap.size (.string nm) (.string cr) (.int .i64 fr) (.int .i64 up) (.bool cu) tv) tv ks ∧ AfL (set6g W w0.heap.size (.string nm) (.string cr) (.int .i64 fr) (.int .i64 up) (.bool cu) tv) w0.heap.size ks ts ∧ Drw (set6g W w0.heap.size (.string nm) (.string cr) (.int .i64 fr) (.int .i64 up) (.bool cu) tv) g ∧ Save g w0 (set6g W w0.heap.size (.string nm) (.string cr) (.int .i64 fr) (.int .i64 up) (.bool cu) tv) := by
  have hb := below_set6g (Below.refl w0.heap.size W) (Nat.le_refl _) (.string nm) (.string cr) (.int .i64 fr) (.int .i64 up) (.bool cu) tv
  have hgl := h.gl
  refine ⟨h.res.setg, h.rd.same ?_ fun a m c e => set6g_other _ _ _ _ _ _ _ _ (h.at' a m c e).2, h.aft.same fun k hk al h1 r hr => set6g_other _ _ _ _ _ _ _ _ ((h1.ty hr).ne (t := 9) ⟨_, h.res⟩ (by decide)), h.drw.keep (hb.mono (by omega)), h.sv.below_on hb (Nat.le_refl _)⟩
  simp
open Rec in
/-- At the operation. -/
theorem wpList_append_cut {α : Type} [Rec α] {P : Program} {w : World} {ops : Array Oper} {rest : List Oper} {o : Oper} {a : Act} {Q : Exit → Act → World → Prop} (hgd : o.guard = none) (s x : Operand) (t : TypeId)
    (ho : o.op = .call { callee := .builtin .append, args := #[s, x], argTypes := #[t, t] }) {B : Nat} {e : TypeId} {z : Value} {bytes : Nat} (ht : P.underlying t = some (.slice e)) (hi : (P.info? e).map (fun i => (i.zero, i.size, i.bytes)) = some (some z, width α, bytes)) (hz : z.cells.size = width α)
    {r n cap : Nat} {k0 : α} {l : List α} (hown : ownsR w B e (.slice (some ⟨r, 0, none⟩) (n + 1) cap) (k0 :: l)) (b c : Nat) (y : α) (hs : a.eval s = .slice (some ⟨r, width α, none⟩) n (cap - 1)) (hx : a.eval x = .slice (some ⟨b, 0, none⟩) 1 c) (hc : ∀ j u, (cells y)[j]? = some u → w.cell? ⟨b, j, none⟩ = some u ∧ u.oneCell' = true)
    (hlen : l.length ≤ 1048576) (hby : bytes ≤ 134217000)
    (h : ∀ v' w', Reads w' v' (l ++ [y]) → w.grownBy w' (some r) → (∀ a m d, v' = .slice (some a) m d → a.block = r ∨ w.heap.size ≤ a.block) → (∀ a m d, v' = .slice a m d → m ≤ d) → wpList P ops Q rest (a.put o.dst v') w') : wpList P ops Q (o :: rest) a w := by
  refine wpList_plain hgd fun K hK => ?_
  obtain ⟨v', w', hrun, h1, h2, h3, h4⟩ := run_append_cut (P := P) w (ty := o.type) ht hi hz hown b c y hc hlen hby
  unfold Oper.wp
  simp [execOp, ho, resolve, invoke, builtin, hs, hx, hrun, Result.andThen]
  exact hK _ _ (h v' w' h1 h2 h3 h4)
/-- The tasks are turned round. -/
theorem DgS.turned {g D Nn : Nat} {w0 W W' : World} {nm cr : ByteArray} {fr up : Int} {cu : Bool} {r n cap : Nat} {ks l' : List Tk} {ts ts' : List Ta} {v' : Value} (h : DgS g D Nn w0 nm cr fr up cu (.slice (some ⟨r, 0, none⟩) n cap) ks ts W) (hg : W.grownBy W' (some r)) (hr : Reads W' v' l') (hl : ∀ W B, AfL W B ks ts → AfL W B l' ts')
    (hat : ∀ a m d, v' = .slice (some a) m d → a.block = r ∨ W.heap.size ≤ a.block) (hrm : ∀ a m d, v' = .slice a m d → m ≤ d) : DgE g D w0 nm cr fr up cu v' l' ts' (W'.setCell ⟨D, 5, none⟩ v') := by
  have hgl := h.gl
  have hdl := h.dl
  have hrB : w0.heap.size ≤ r ∧ r < W.heap.size := h.own.lt r rfl
  have hrT : TyB W r 45 := h.own.ty rfl
  have hrD : r ≠ D := hrT.ne h.tyD (by decide)
  have hrR : r ≠ w0.heap.size := hrT.ne h.tyR (by decide)
  have hDs := h.dlt
  have hsv := h.sv.size
  have hb : ∀ b, b < W.heap.size → b ≠ r → b ≠ D → (W'.setCell ⟨D, 5, none⟩ v').heap[b]? = W.heap[b]? := fun b hb h1 h2 => (heap_setCell_other W' ⟨D, 5, none⟩ b _ h2).trans (hg.block b hb (fun e => h1 (Option.some.inj e)))
  have bw : Below w0.heap.size W (W'.setCell ⟨D, 5, none⟩ v') := ⟨hg.os, hg.tape, hg.output, by have := hg.size; simp; omega, fun k hk => hb k (by omega) (by omega) (by omega)⟩
  have hDd : D6 W' D nm cr fr up cu (.slice (some ⟨r, 0, none⟩) n cap) := (hg.block D hDs (fun e => hrD (Option.some.inj e).symm)).trans h.d
  refine ⟨h.drw.keep (bw.mono (by omega)), h.sv.below_on bw (Nat.le_refl _), hgl, hdl, (hb _ (by omega) (fun e => hrR e.symm) (by omega)).trans h.res, hDd.s5 v', hr.same (by simp) fun a m d e => heap_setCell_other W' ⟨D, 5, none⟩ a.block _ ?_, fun a m d e => ?_, hl _ _ (h.aft.same fun k hk al h1 b hb' => hb b (h1.lt b hb').2 ((h1.ty hb').ne hrT (by decide)) ((h1.ty hb').ne h.tyD (by decide))), hrm⟩
  · rcases hat a m d e with h1 | h1
    · rw [h1]; exact hrD
    · show a.block ≠ D; omega
  · rcases hat a m d e with h1 | h1
    · rw [h1]; exact ⟨hrB.1, hrR⟩
    · exact ⟨by omega, by omega⟩
/-- The first one behind the others. -/
theorem AfL.turn {W : World} {B : Nat} {k0 : Tk} {l : List Tk} {t0 : Ta} {m : List Ta} (h : AfL W B (k0 :: l) (t0 :: m)) : AfL W B (l ++ [k0]) (m ++ [t0]) := by
  have hl : AfL W B l m := ⟨by simpa using h.len, fun i k t hk ht => h.each (i + 1) k t (by rw [List.getElem?_cons_succ]; exact hk) (by rw [List.getElem?_cons_succ]; exact ht)⟩
  exact hl.snoc (h.each 0 k0 t0 rfl rfl)
end Go.Proofs.YteefacjjdalncaaGreatDoor

namespace Go.Proofs.YteefacjjdalncaaGreatDoor
open Go Go.RowKit

theorem any_two {P : Program} {l : List Oper} {Q : Exit → Act → World → Prop} {C : World → Prop} {R : Act → World → Prop} {L listed : Array Bool} {fuel i j : Nat} {o p : Oper} {a : Act} {w : World} (hr : Region.ready .any l.toArray listed = [i, j]) (ho : l[i]? = some o) (hp : l[j]? = some p) (hg : o.guard = none) (hgp : p.guard = none)
    (h : ∀ K : Act → World → Prop, Hid (∀ a' w', C w' → wpAnyU P .any l.toArray Q C L R fuel (listed.setIfInBounds i true) a' w' → K a' w') → wpList P l.toArray (Exit.then K Q) [o] a w)
    (h' : ∀ K : Act → World → Prop, Hid (∀ a' w', C w' → wpAnyU P .any l.toArray Q C L R fuel (listed.setIfInBounds j true) a' w' → K a' w') → wpList P l.toArray (Exit.then K Q) [p] a w) : wpAnyU P .any l.toArray Q C L R (fuel + 1) listed a w := wpAnyU_two hr (by simpa using ho) (by simpa using hp) hg hgp h h'
theorem reads_store {w : World} {v : Value} {l : List ByteArray} {a : Addr} {ao : Option Addr} {n c : Nat} (h : Reads w v l) (ha : w.cell? a = some (.slice ao n c)) (u : Value) : Reads (w.setCell a u) v l := by
  obtain ⟨bo, cap, rfl, h⟩ := h
  refine ⟨bo, cap, rfl, fun hne => ?_⟩
  obtain ⟨b, o, rfl, hlt, hc⟩ := h hne
  refine ⟨b, o, rfl, by simpa [World.setCell] using hlt, fun i x hx j z hz => ?_⟩
  have h1 := hc i x hx j z hz
  have hz2 : z = .string x := by
    match j, hz with
    | 0, hz => simpa [Rec.cells] using hz.symm
    | j + 1, hz => simp [Rec.cells] at hz
  rw [World.cell?_setCell_other w a _ u (fun e => by rw [e, h1, hz2] at ha; cases ha)]
  exact h1
theorem tasks_one {w : World} {ks : List Tk} {ts : List Ta} (hl : ks.length = ts.length) (h : ∀ (i : Nat) (t : Ta), ts[i]? = some t → ∃ k : Tk, ks[i]? = some k ∧ OneT w k t) : ∀ x ∈ ks, ∀ u ∈ Rec.cells x, u.oneCell' = true := by
  intro x hx u hu
  obtain ⟨i, hi⟩ := List.getElem?_of_mem hx
  have hit : i < ts.length := by rw [← hl]; exact (List.getElem?_eq_some_iff.1 hi).1
  obtain ⟨k, hk, ho⟩ := h i _ (List.getElem?_eq_getElem hit)
  rw [hi] at hk
  cases hk
  obtain ⟨ao, cap, e, _⟩ := ho.after
  simp only [Rec.cells, List.mem_cons, List.not_mem_nil, or_false] at hu
  rcases hu with rfl | rfl | rfl | rfl | rfl
  · rfl
  · rfl
  · rfl
  · rfl
  · rw [e]; rfl
theorem tk_built (w : World) (k : Tk) : Reads (w.alloc (.cells #[.string k.name, .string k.pool, .int .i64 k.ret, .bool k.past, k.after] 45)) (.slice (some ⟨w.heap.size, 0, none⟩) 1 1) [k] := by
  refine ⟨_, _, rfl, fun _ => ⟨w.heap.size, 0, rfl, by simp, fun i x hx j u hu => ?_⟩⟩
  match i, hx with
  | 0, hx =>
    simp only [List.getElem?_cons_zero, Option.some.injEq] at hx
    subst hx
    match j, hu with
    | 0, hu => cases hu; simp [go_sem]
    | 1, hu => cases hu; simp [go_sem]
    | 2, hu => cases hu; simp [go_sem]
    | 3, hu => cases hu; simp [go_sem]
    | 4, hu => cases hu; simp [go_sem]
    | j + 5, hu => simp [Rec.cells] at hu
  | i + 1, hx => simp at hx
theorem reads_grown {α : Type} [Rec α] {w w' : World} {r : Option Nat} {b o n c : Nat} {l : List α} (h : Reads w (.slice (some ⟨b, o, none⟩) n c) l) (hg : w.grownBy w' r) (hne : some b ≠ r) : Reads w' (.slice (some ⟨b, o, none⟩) n c) l := by
  obtain ⟨ao, cap, e, h⟩ := h
  refine ⟨ao, cap, e, fun hl => ?_⟩
  obtain ⟨b', o', rfl, hlt, hc⟩ := h hl
  simp only [Value.slice.injEq, Option.some.injEq, Addr.mk.injEq, and_true] at e
  obtain ⟨⟨rfl, rfl⟩, _⟩ := e
  exact ⟨b, o, rfl, Nat.lt_of_lt_of_le hlt hg.size, fun i x hx j u hu => (cell_block (hg.block b hlt hne)).trans (hc i x hx j u hu)⟩
theorem tk_made (w : World) (B : Nat) (hB : B ≤ w.heap.size) : ownsR (w.alloc (.cells #[] 45)) B 45 (.slice (some ⟨w.heap.size, 0, none⟩) 0 0) ([] : List Tk) := World.ownsRow_made w #[] 0 hB (by decide) (by simp)
theorem underTk : Tryz.prog.underlying 24 = some (.slice 45) := by kernel_rfl
/-- The plan with one task more. -/
theorem task_more {w w3 w6 : World} {g nt cap : Nat} {ao : Option Addr} {nm cr : ByteArray} {fr up : Int} {cu : Bool} {ts : List Ta} {ks : List Tk} {v6 : Value} {x : Tk} {t : Ta} (hd : D6 w g nm cr fr up cu (.slice ao nt cap)) (hl : ks.length = ts.length) (h : ∀ (i : Nat) (t : Ta), ts[i]? = some t → ∃ k : Tk, ks[i]? = some k ∧ OneT w k t) (hb3 : Below w.heap.size w w3) (hb6 : Below w3.heap.size w3 w6) (ho : ownsR w6 w3.heap.size 45 v6 (ks ++ [x])) (hx : OneT w6 x t) :
    D6 (w6.setCell ⟨g, 5, none⟩ v6) g nm cr fr up cu v6 ∧ Tasks (w6.setCell ⟨g, 5, none⟩ v6) v6 (ts ++ [t]) ∧ Save g w (w6.setCell ⟨g, 5, none⟩ v6) := by
  have hb : Below w.heap.size w w6 := Below.on hb3 hb6
  have hd6 := hd.on hb hd.lt
  have hgl := hd.lt
  have one : ∀ {k : Tk} {t : Ta}, OneT w6 k t → OneT (w6.setCell ⟨g, 5, none⟩ v6) k t := fun ho => ⟨ho.name, ho.pool, ho.ret, ho.past, reads_store ho.after hd6.c5 v6⟩
  refine ⟨hd6.s5 v6, ⟨ks ++ [x], (ho.setBelow (by show g < _; have := hb3.size; omega) _).reads, by simp [hl], fun i t' ht => ?_⟩, Save.setCell (p := ⟨g, 5, none⟩) (Save.of_below hb) rfl _⟩
  by_cases hi : i < ts.length
  · rw [List.getElem?_append_left hi] at ht
    obtain ⟨k, hk, hok⟩ := h i t' ht
    refine ⟨k, by rw [List.getElem?_append_left (by omega)]; exact hk, one ⟨hok.name, hok.pool, hok.ret, hok.past, hok.after.below hb⟩⟩
  · have hi2 : i = ts.length := by
      have := (List.getElem?_eq_some_iff.1 ht).1
      simp at this
      omega
    subst hi2
    simp only [List.getElem?_concat_length, Option.some.injEq] at ht
    subst ht
    refine ⟨x, by rw [← hl]; simp, one hx⟩
theorem infoTk : (Tryz.prog.info? 45).map (fun i => (i.zero, i.size, i.bytes)) = some (some (.agg #[.string ⟨#[]⟩, .string ⟨#[]⟩, .int .i64 0, .bool false, .slice none 0 0]), 5, 72) := by kernel_rfl

end Go.Proofs.YteefacjjdalncaaGreatDoor

namespace Go.Proofs.YteefacjjdalncaaGreatDoor
open Go Go.RowKit

/-- The kernel's look: more operations that only yield are taken. -/
def moreB2 (ops : Array Oper) (L listed : Array Bool) (ts : List Nat) (m : Nat) : Bool :=
  Region.noSelect ops && (Region.ready .any ops L).all (· == m) && waitsAll .any ops m && takesB .any ops ts listed && ts.all (fun k => decide (k < m))
theorem any_takes {P : Program} {l : List Oper} {Q : Exit → Act → World → Prop} {C : World → Prop} {R : Act → World → Prop} {L listed : Array Bool} {a : Act} {w : World} (ts : List Nat) (m fuel : Nat) (hw : C w) (hB : moreB2 l.toArray L listed ts m = true) (hQ : ∀ c a d v w, Q (.panic c) (Act.put a d v) w → Q (.panic c) a w)
    (h : wpTakes P l.toArray C (fun a' => wpAnyU P .any l.toArray Q C L R fuel (takesL ts listed) a' w) ts a) : wpAnyU P .any l.toArray Q C L R (fuel + ts.length) listed a w := by
  simp only [moreB2, Bool.and_eq_true] at hB
  obtain ⟨⟨⟨⟨h1, h2⟩, h3⟩, h4⟩, h6⟩ := hB
  exact wpAnyU_takes (P := P) (Q := Q) (C := C) (md := .any) hw h1 hQ (fun j hj => by
    rw [List.all_eq_true] at h2
    simpa using h2 j hj) h3 fuel ts listed a (fun k hk => by
      rw [List.all_eq_true] at h6
      simpa using h6 k hk) h4 h
/-- Five parts with a space between. -/
def joinC (p1 p2 p3 p4 p5 : ByteArray) : ByteArray := p1 ++ ⟨#[32]⟩ ++ p2 ++ ⟨#[32]⟩ ++ p3 ++ ⟨#[32]⟩ ++ p4 ++ ⟨#[32]⟩ ++ p5

end Go.Proofs.YteefacjjdalncaaGreatDoor

namespace Go.Proofs.YteefacjjdalncaaGreatDoor
open Go.RowKit

set_option maxHeartbeats 400000 in
theorem big_any (a : Option Addr) (n cap : Nat) (w : World) (hn : n ≤ 9223372036854775807) :
    Calls Tryz.prog 11 #[.slice a n cap] w fun e w' => e = .returned (.bool (decide (1048576 < n))) ∧ w' = w := by
  by_cases h : 1048576 < n
  · go_enter Tryz.func11, Tryz.ntmps11
    go_wp2
    go_ret
    exact ⟨by simp [h]; omega, rfl⟩
  · go_enter Tryz.func11, Tryz.ntmps11
    go_wp2
    go_ret
    exact ⟨by simp [h]; omega, rfl⟩
theorem CodeAt.on {w w' : World} {v : Value} {n : Nat} (h : CodeAt w w.heap.size v n) (hb : Below w.heap.size w w') : CodeAt w' w'.heap.size v n := by
  obtain ⟨a, cap, hv, hc⟩ := h.keep (w' := w') hb.block
  refine ⟨a, cap, hv, fun j hj => ?_⟩
  obtain ⟨x, z, ha, hlt, hr⟩ := hc j hj
  exact ⟨x, z, ha, Nat.lt_of_lt_of_le hlt hb.size, hr⟩
theorem ownsS.slice {w : World} {B : Nat} {e : TypeId} {v : Value} {l : List ByteArray} (h : ownsS w B e v l) : ∃ a d, v = .slice a l.length d := by
  by_cases hne : l = []
  · subst hne; obtain ⟨ao, c, rfl⟩ := ownsS_empty h; exact ⟨ao, c, rfl⟩
  · obtain ⟨g, c, rfl, _⟩ := ownsS_form h hne; exact ⟨_, c, rfl⟩

end Go.Proofs.YteefacjjdalncaaGreatDoor
