/-
  What begins, ends or is cleared keeps a run right: plain facts. What FnOrder asks of a right plan's order, plain: what a task is after stands ahead of it, what is behind it stands behind it. A right plan's order is what its runs want: plain facts.
-/
import Derived.Test.YtjmclcjhimcehaaGreatDoorG20
import Derived.Test.YtjmclcjhimcehaaGreatDoorG19
namespace Go.Proofs.YtjmclcjhimcehaaGreatDoor
open Go Go.RowKit
set_option linter.unusedVariables false

/-- What a right plan's order is to its runs. -/
structure Grf (ts : List Ta) : Prop where
  nd : (orderL ts).Nodup
  all : ∀ k : Nat, k < ts.length → (k : Int) ∈ orderL ts
  pl : ∀ x ∈ orderL ts, ∃ k : Nat, k < ts.length ∧ x = (k : Int)
  ahead : ∀ (k j : Nat), (orderL ts)[k]? = some (j : Int) → ∀ u ∈ upsA ts (j : Int), u ∈ (orderL ts).take k
  ups : ∀ (a u : Int), u ∈ upsA ts a → ∃ k : Nat, k < ts.length ∧ u = (k : Int)
  ret : ∀ k : Nat, k < ts.length → 0 ≤ retN ts k ∧ retN ts k ≤ 3
  down : ∀ (k : Nat) (i u : Int), k < ts.length → u ∈ upsA ts (k : Int) → (u = i ∨ u ∈ downC ts i) → (k : Int) ∈ downC ts i
theorem any_congrR {α : Type} {l : List α} {p q : α → Bool} (h : ∀ x ∈ l, p x = q x) : l.any p = l.any q := by
  induction l with
  | nil => rfl
  | cons x r ih => rw [List.any_cons, List.any_cons, h x (List.mem_cons_self ..), ih fun y hy => h y (List.mem_cons_of_mem _ hy)]
theorem stuck_ne {st : List Sa} {i : Nat} {x : Sa} {u : Int} (h : u ≠ (i : Int)) : stuckB (st.set i x) u = stuckB st u := by
  unfold stuckB; rw [isN_set_ne h, isN_set_ne h]
theorem undone_ne {st : List Sa} {i : Nat} {x : Sa} {u : Int} (h : u ≠ (i : Int)) : undoneB (st.set i x) u = undoneB st u := by
  unfold undoneB; rw [isN_set_ne h]
theorem isN_eq {st st' : List Sa} {a : Nat} (h : st'[a]? = st[a]?) (s : Int) : isN st' (a : Int) s = isN st (a : Int) s := by
  cases hq : st[a]? with
  | none =>
    have h1 := List.getElem?_eq_none_iff.1 hq
    rw [hq] at h
    have h2 := List.getElem?_eq_none_iff.1 h
    rw [isN_out (.inr (by omega)), isN_out (.inr (by omega))]
  | some x => rw [isN_in hq, isN_in (h.trans hq)]
/-- What is blocked so far. -/
theorem block_pre {ts : List Ta} (g : Grf ts) {st : List Sa} (hl : st.length = ts.length) : ∀ m, m ≤ (orderL ts).length → ∀ a : Nat, a < ts.length →
    (((orderL ts).take m).foldl (blockS ts) st)[a]? = if (a : Int) ∈ (orderL ts).take m ∧ isN st (a : Int) 0 = true ∧ (upsA ts (a : Int)).any (stuckB (((orderL ts).take m).foldl (blockS ts) st)) = true then some ⟨4, (sAt st a).tries, (sAt st a).tok, 0⟩ else st[a]?
  | 0, _, a, _ => by
    rw [if_neg]
    · rfl
    · rintro ⟨h, _⟩; exact nomatch h
  | m + 1, hm, a, ha => by
    have hml : m < (orderL ts).length := by omega
    obtain ⟨j, hj, ej⟩ := g.pl _ (List.getElem_mem hml)
    have hkm : (orderL ts)[m]? = some (j : Int) := by rw [List.getElem?_eq_getElem hml, ej]
    have hnd := g.nd
    have hjn : (j : Int) ∉ (orderL ts).take m := by
      intro hin
      obtain ⟨q, hq, eq⟩ := List.getElem_of_mem hin
      rw [List.length_take] at hq
      rw [List.getElem_take] at eq
      exact List.pairwise_iff_getElem.1 hnd q m (by omega) hml (by omega) (eq.trans ej.symm)
    have ih := block_pre g hl m (by omega)
    have hlen : (((orderL ts).take m).foldl (blockS ts) st).length = st.length := blockF_len ts _ st
    have hT : (orderL ts).take (m + 1) = (orderL ts).take m ++ [(j : Int)] := by rw [List.take_succ_eq_append_getElem hml, ej]
    rw [hT, List.foldl_append, List.foldl_cons, List.foldl_nil]
    generalize hS : ((orderL ts).take m).foldl (blockS ts) st = S at *
    have hSj : S[j]? = st[j]? := by rw [ih j hj, if_neg fun h => hjn h.1]
    have hupj : ∀ u ∈ upsA ts (j : Int), u ≠ (j : Int) := fun u hu e => hjn (e ▸ g.ahead m j hkm u hu)
    have hN : isN S (j : Int) 0 = isN st (j : Int) 0 := isN_eq hSj 0
    have hA : sAt S j = sAt st j := by unfold sAt; rw [hSj]
    have hset : ∀ (x : Sa) (b : Int), (∀ u ∈ upsA ts b, u ≠ (j : Int)) → (upsA ts b).any (stuckB (S.set j x)) = (upsA ts b).any (stuckB S) := fun x b hb => any_congrR fun u hu => stuck_ne (hb u hu)
    have hnext : ∀ b, (∀ u ∈ upsA ts b, u ≠ (j : Int)) → (upsA ts b).any (stuckB (blockS ts S (j : Int))) = (upsA ts b).any (stuckB S) := fun b hb => by
      unfold blockS
      split
      · rw [Int.toNat_natCast]; exact hset _ b hb
      · rfl
    by_cases haj : a = j
    · subst haj
      rw [hnext _ hupj]
      by_cases hq : isN st (a : Int) 0 = true ∧ (upsA ts (a : Int)).any (stuckB S) = true
      · rw [if_pos ⟨List.mem_append_right _ (List.mem_singleton.2 rfl), hq.1, hq.2⟩]
        unfold blockS
        rw [hN, hq.1, hq.2, if_pos (Bool.and_self true), Int.toNat_natCast, hA]
        exact List.getElem?_set_self (by omega)
      · rw [if_neg fun h => hq h.2, ← hSj]
        unfold blockS
        rw [if_neg]
        rw [hN, Bool.and_eq_true]
        exact hq
    · have hSa : (blockS ts S (j : Int))[a]? = S[a]? := by
        unfold blockS
        split
        · rw [Int.toNat_natCast, List.getElem?_set_ne (fun e => haj e.symm)]
        · rfl
      rw [hSa, ih a ha]
      have hmem : (a : Int) ∈ (orderL ts).take m ++ [(j : Int)] ↔ (a : Int) ∈ (orderL ts).take m := by
        rw [List.mem_append, List.mem_singleton]
        exact ⟨fun h => h.elim id fun e => absurd e (by omega), .inl⟩
      by_cases hin : (a : Int) ∈ (orderL ts).take m
      · have hup : ∀ u ∈ upsA ts (a : Int), u ≠ (j : Int) := fun u hu e => by
          obtain ⟨q, hq, eq⟩ := List.getElem_of_mem hin
          rw [List.length_take] at hq
          rw [List.getElem_take] at eq
          have h1 := g.ahead q a (by rw [List.getElem?_eq_getElem (by omega), eq]) u hu
          rw [e] at h1
          refine hjn ?_
          have : (orderL ts).take q = ((orderL ts).take m).take q := by rw [List.take_take, Nat.min_eq_left (by omega)]
          rw [this] at h1
          exact List.mem_of_mem_take h1
        rw [hnext _ hup]
        by_cases hq : isN st (a : Int) 0 = true ∧ (upsA ts (a : Int)).any (stuckB S) = true
        · rw [if_pos ⟨hin, hq.1, hq.2⟩, if_pos ⟨hmem.2 hin, hq.1, hq.2⟩]
        · rw [if_neg fun h => hq h.2, if_neg fun h => hq h.2]
      · rw [if_neg fun h => hin h.1, if_neg fun h => hin (hmem.1 h.1)]
/-- What is blocked. -/
theorem block_at {ts : List Ta} (g : Grf ts) {st : List Sa} (hl : st.length = ts.length) {a : Nat} (ha : a < ts.length) :
    (blockL ts st)[a]? = if isN st (a : Int) 0 = true ∧ (upsA ts (a : Int)).any (stuckB (blockL ts st)) = true then some ⟨4, (sAt st a).tries, (sAt st a).tok, 0⟩ else st[a]? := by
  have h := block_pre g hl _ (Nat.le_refl _) a ha
  rw [List.take_length] at h
  show (blockL ts st)[a]? = _
  have h2 : (blockL ts st)[a]? = _ := h
  rw [h2]
  by_cases hq : isN st (a : Int) 0 = true ∧ (upsA ts (a : Int)).any (stuckB (blockL ts st)) = true
  · rw [if_pos ⟨g.all a ha, hq.1, hq.2⟩, if_pos hq]
  · rw [if_neg fun h => hq h.2, if_neg hq]
theorem block_keep {ts : List Ta} (g : Grf ts) {st : List Sa} (hl : st.length = ts.length) {a : Nat} (ha : a < ts.length) {x : Sa} (hx : st[a]? = some x) (h0 : x.is ≠ 0) : (blockL ts st)[a]? = some x := by
  rw [block_at g hl ha, if_neg, hx]
  rintro ⟨h, _⟩
  rw [isN_in hx] at h
  exact h0 (of_decide_eq_true h)
theorem stuck_at {st : List Sa} {u : Int} (h : stuckB st u = true) : ∃ (k : Nat) (x : Sa), u = (k : Int) ∧ st[k]? = some x ∧ (x.is = 3 ∨ x.is = 4) := by
  unfold stuckB at h
  rw [Bool.or_eq_true] at h
  rcases h with h | h
  · obtain ⟨k, x, e, hx, hs⟩ := isN_true h; exact ⟨k, x, e, hx, .inl hs⟩
  · obtain ⟨k, x, e, hx, hs⟩ := isN_true h; exact ⟨k, x, e, hx, .inr hs⟩
theorem stuck_of {st : List Sa} {k : Nat} {x : Sa} (hx : st[k]? = some x) (h : x.is = 3 ∨ x.is = 4) : stuckB st (k : Int) = true := by
  unfold stuckB
  rw [isN_in hx, isN_in hx]
  rcases h with h | h
  · rw [decide_eq_true h]; rfl
  · rw [decide_eq_true h]; simp
theorem block_stuck {ts : List Ta} (g : Grf ts) {st : List Sa} (hl : st.length = ts.length) {u : Int} (h : stuckB st u = true) : stuckB (blockL ts st) u = true := by
  obtain ⟨k, x, rfl, hx, hs⟩ := stuck_at h
  have hk := (List.getElem?_eq_some_iff.1 hx).1
  exact stuck_of (block_keep g hl (by omega) hx (by omega)) hs
/-- One state among others, told by parts. -/
structure OkS (ts : List Ta) (st : List Sa) (i : Nat) (x : Sa) : Prop where
  right : saB x (retN ts i) = true
  few : 0 ≤ x.is ∧ x.is ≤ 4
  done : x.is = 1 ∨ x.is = 2 → ∀ u ∈ upsA ts (i : Int), isN st u 2 = true
  stuck : x.is = 4 → ∃ u ∈ upsA ts (i : Int), stuckB st u = true
theorem all_done {st : List Sa} {l : List Int} : l.any (undoneB st) = false ↔ ∀ u ∈ l, isN st u 2 = true := by
  rw [List.any_eq_false]
  constructor
  · intro h u hu; have := h u hu; unfold undoneB at this; simpa using this
  · intro h u hu; unfold undoneB; rw [h u hu]; decide
theorem ok_iff {ts : List Ta} {st : List Sa} {i : Nat} {x : Sa} (hx : st[i]? = some x) : okAt ts st i = true ↔ OkS ts st i x ∧ (x.is = 0 → (upsA ts (i : Int)).any (stuckB st) = false) := by
  unfold okAt
  rw [sAt_at hx, Bool.and_eq_true]
  constructor
  · rintro ⟨h1, h2⟩
    have h3 : 0 ≤ x.is ∧ x.is ≤ 4 := by
      unfold standB at h2
      split at h2
      · omega
      · split at h2
        · omega
        · split at h2
          · omega
          · have := of_decide_eq_true h2; omega
    refine ⟨⟨h1, h3, fun hs => stand_done hs h2, fun hs => ?_⟩, fun hs => ?_⟩
    · unfold standB at h2
      rw [if_neg (by omega), if_pos hs, List.any_eq_true] at h2
      exact h2
    · rw [hs] at h2; exact stand_wait h2
  · rintro ⟨⟨h1, h2, h3, h4⟩, h5⟩
    refine ⟨h1, ?_⟩
    unfold standB
    split
    · rename_i hs
      rw [Bool.not_eq_true', all_done]
      exact h3 hs
    · split
      · rename_i hs
        rw [List.any_eq_true]
        exact h4 hs
      · split
        · rename_i hs; rw [h5 hs]; rfl
        · exact decide_eq_true (by omega)
theorem block_done {ts : List Ta} (g : Grf ts) {st : List Sa} (hl : st.length = ts.length) {u : Int} (h : isN st u 2 = true) : isN (blockL ts st) u 2 = true := by
  obtain ⟨k, x, rfl, hx, hs⟩ := isN_true h
  have hk := (List.getElem?_eq_some_iff.1 hx).1
  rw [isN_in (block_keep g hl (by omega) hx (by omega))]
  exact decide_eq_true hs
/-- What is all right but for blocking is right behind it. -/
theorem block_ok {ts : List Ta} (g : Grf ts) {st : List Sa} (hl : st.length = ts.length) (h : ∀ (i : Nat) (x : Sa), st[i]? = some x → OkS ts st i x) {i : Nat} (hi : i < ts.length) : okAt ts (blockL ts st) i = true := by
  obtain ⟨x, hx⟩ : ∃ x, st[i]? = some x := ⟨_, List.getElem?_eq_getElem (by omega)⟩
  have ok := h i x hx
  have hb := block_at g hl hi
  by_cases hq : isN st (i : Int) 0 = true ∧ (upsA ts (i : Int)).any (stuckB (blockL ts st)) = true
  · rw [if_pos hq, sAt_at hx] at hb
    rw [ok_iff hb]
    have h0 : x.is = 0 := by have := hq.1; rw [isN_in hx] at this; exact of_decide_eq_true this
    have hr := of_decide_eq_true ok.right
    refine ⟨⟨?_, ⟨by show (0 : Int) ≤ 4; decide, by show (4 : Int) ≤ 4; decide⟩, fun hs => ?_, fun _ => List.any_eq_true.1 hq.2⟩, fun hs => ?_⟩
    · refine decide_eq_true ⟨hr.1, hr.2.1, hr.2.2.1, hr.2.2.2.1, ?_, by show (0 : Int) ≤ 0; decide, by show (0 : Int) ≤ 68374179; decide⟩
      show 0 < x.tok ↔ (4 : Int) = 1
      have := hr.2.2.2.2.1
      rw [h0] at this
      constructor
      · intro h; exact absurd (this.1 h) (by decide)
      · intro h; exact absurd h (by decide)
    · exact absurd hs (by show ¬ ((4 : Int) = 1 ∨ (4 : Int) = 2); decide)
    · exact absurd hs (by show ¬ ((4 : Int) = 0); decide)
  · rw [if_neg hq, hx] at hb
    rw [ok_iff hb]
    refine ⟨⟨ok.right, ok.few, fun hs u hu => block_done g hl (ok.done hs u hu), fun hs => ?_⟩, fun hs => ?_⟩
    · obtain ⟨u, hu, hst⟩ := ok.stuck hs
      exact ⟨u, hu, block_stuck g hl hst⟩
    · cases hz : (upsA ts (i : Int)).any (stuckB (blockL ts st))
      · rfl
      · exact absurd ⟨by rw [isN_in hx]; exact decide_eq_true hs, hz⟩ hq
theorem run_mk {d : Dg} {r : Rr} (h1 : dagB d = true) (h2 : headB d r = true) (h3 : ∀ i, i < d.tasks.length → okAt d.tasks r.st i = true) : runB d r = true := by
  unfold runB
  rw [h1, h2, List.all_eq_true.2 fun i hi => h3 i (List.mem_range.1 hi)]
  rfl
theorem head_parts {d : Dg} {r : Rr} (h : headB d r = true) : r.nm = d.name ∧ spanB r.fr r.up = true ∧ 0 ≤ r.ep ∧ r.ep ≤ 1000 ∧ r.st.length = d.tasks.length := of_decide_eq_true h
theorem head_set {d : Dg} {r : Rr} {st : List Sa} {ep : Int} (h : headB d r = true) (hl : st.length = r.st.length) (h0 : 0 ≤ ep) (h1 : ep ≤ 1000) : headB d ⟨r.nm, r.fr, r.up, ep, st⟩ = true := by
  have := head_parts h
  exact decide_eq_true ⟨this.1, this.2.1, h0, h1, hl.trans this.2.2.2.2⟩
theorem run_ok {d : Dg} {r : Rr} (h : runB d r = true) {i : Nat} {x : Sa} (hx : r.st[i]? = some x) : OkS d.tasks r.st i x ∧ (x.is = 0 → (upsA d.tasks (i : Int)).any (stuckB r.st) = false) := by
  have hi := (List.getElem?_eq_some_iff.1 hx).1
  have hl := run_len h
  exact (ok_iff hx).1 ((run_parts h).2.2 i (by omega))
/-- One state of a right run is another, which is neither done nor stuck where it was not done. -/
theorem OkS.other {ts : List Ta} {st : List Sa} {i j : Nat} {x y z : Sa} (h : OkS ts st j y) (hi : st[i]? = some x) (hd : x.is = 2 → z.is = 2) (hs : x.is = 3 ∨ x.is = 4 → z.is = 3 ∨ z.is = 4) : OkS ts (st.set i z) j y := by
  have hil := (List.getElem?_eq_some_iff.1 hi).1
  refine ⟨h.right, h.few, fun hq u hu => ?_, fun hq => ?_⟩
  · have h1 := h.done hq u hu
    by_cases hui : u = (i : Int)
    · subst hui
      rw [isN_in hi] at h1
      rw [isN_set_self hil]
      exact decide_eq_true (hd (of_decide_eq_true h1))
    · rw [isN_set_ne hui]; exact h1
  · obtain ⟨u, hu, h1⟩ := h.stuck hq
    refine ⟨u, hu, ?_⟩
    by_cases hui : u = (i : Int)
    · subst hui
      obtain ⟨k, x', e, hx', h2⟩ := stuck_at h1
      have : i = k := by omega
      subst this
      rw [hi] at hx'
      cases hx'
      exact stuck_of (List.getElem?_set_self hil) (hs h2)
    · rw [stuck_ne hui]; exact h1
theorem set_cases {α : Type} {st : List α} {i j : Nat} {z y : α} (h : (st.set i z)[j]? = some y) : j = i ∧ y = z ∧ i < st.length ∨ j ≠ i ∧ st[j]? = some y := by
  by_cases e : j = i
  · subst e
    have hl := (List.getElem?_eq_some_iff.1 h).1
    rw [List.length_set] at hl
    rw [List.getElem?_set_self hl] at h
    cases h
    exact .inl ⟨rfl, rfl, hl⟩
  · rw [List.getElem?_set_ne (fun h => e h.symm)] at h
    exact .inr ⟨e, h⟩
/-- What begins keeps a run right. -/
theorem begin_run {d : Dg} {r : Rr} {i : Nat} {tok til : Int} (h : runB d r = true) (hw : isN r.st (i : Int) 0 = true) (hu : (upsA d.tasks (i : Int)).any (undoneB r.st) = false) (h1 : 0 < tok) (h2 : tok ≤ 1000000000) (h3 : 0 ≤ til) (h4 : til ≤ 68374179) (hself : (i : Int) ∉ upsA d.tasks (i : Int)) :
    runB d ⟨r.nm, r.fr, r.up, r.ep, beginS r.st (i : Int) tok til⟩ = true := by
  obtain ⟨k, x, e, hx, hx0⟩ := isN_true hw
  have : i = k := by omega
  subst this
  have hil := (List.getElem?_eq_some_iff.1 hx).1
  have hp := run_parts h
  have hl := run_len h
  have hh := head_parts hp.2.1
  have eb : beginS r.st (i : Int) tok til = r.st.set i ⟨1, x.tries, tok, til⟩ := by unfold beginS; rw [Int.toNat_natCast, sAt_at hx]
  rw [eb]
  refine run_mk hp.1 (head_set hp.2.1 (List.length_set ..) hh.2.2.1 hh.2.2.2.1) fun j hj => ?_
  obtain ⟨y, hy⟩ : ∃ y, (r.st.set i ⟨1, x.tries, tok, til⟩)[j]? = some y := ⟨_, List.getElem?_eq_getElem (by rw [List.length_set]; omega)⟩
  show okAt d.tasks (r.st.set i ⟨1, x.tries, tok, til⟩) j = true
  rw [ok_iff hy]
  rcases set_cases hy with ⟨rfl, rfl, _⟩ | ⟨hne, hy'⟩
  · have ok := (run_ok h hx).1
    have hr := of_decide_eq_true ok.right
    refine ⟨⟨decide_eq_true ⟨hr.1, hr.2.1, Int.le_of_lt h1, h2, ⟨fun _ => rfl, fun _ => h1⟩, h3, h4⟩, ⟨by show (0 : Int) ≤ 1; decide, by show (1 : Int) ≤ 4; decide⟩, fun _ u hu' => ?_, fun hs => absurd hs (by show ¬ ((1 : Int) = 4); decide)⟩, fun hs => absurd hs (by show ¬ ((1 : Int) = 0); decide)⟩
    rw [isN_set_ne (fun e => hself (by rw [e] at hu'; exact hu'))]
    exact all_done.1 hu u hu'
  · have ok := run_ok h hy'
    refine ⟨ok.1.other hx (fun e => by omega) (fun e => by omega), fun hs => ?_⟩
    have h5 := ok.2 hs
    rw [List.any_eq_false] at h5 ⊢
    intro u hu'
    by_cases hui : u = (i : Int)
    · subst hui
      unfold stuckB
      rw [isN_set_self hil, isN_set_self hil]
      show ¬ (decide ((1 : Int) = 3) || decide ((1 : Int) = 4)) = true
      decide
    · rw [stuck_ne hui]; exact h5 u hu'
theorem back_bd (n : Int) : 1 ≤ backN n ∧ backN n ≤ 8 := by
  unfold backN
  split
  · omega
  · split
    · omega
    · split <;> omega
theorem fail_is (s : Sa) (ret now : Int) : (failS s ret now).is = 3 ∨ (failS s ret now).is = 0 := by
  unfold failS
  split
  · exact .inl rfl
  · exact .inr rfl
theorem fail_right {s : Sa} {ret now : Int} (h : saB s ret = true) (h0 : 0 ≤ now) (h1 : now ≤ 68374079) (hr : 0 ≤ ret) : saB (failS s ret now) ret = true := by
  have hq := of_decide_eq_true h
  have hb := back_bd (min s.tries ret + 1)
  unfold failS
  split
  · refine decide_eq_true ⟨?_, ?_, by show (0 : Int) ≤ 0; decide, by show (0 : Int) ≤ 1000000000; decide, ⟨fun h => absurd h (by show ¬ ((0 : Int) < 0); decide), fun h => absurd h (by show ¬ ((3 : Int) = 1); decide)⟩, by show (0 : Int) ≤ 0; decide, by show (0 : Int) ≤ 68374179; decide⟩
    · show 0 ≤ min s.tries ret + 1; omega
    · show min s.tries ret + 1 ≤ ret + 1; omega
  · refine decide_eq_true ⟨?_, ?_, by show (0 : Int) ≤ 0; decide, by show (0 : Int) ≤ 1000000000; decide, ⟨fun h => absurd h (by show ¬ ((0 : Int) < 0); decide), fun h => absurd h (by show ¬ ((0 : Int) = 1); decide)⟩, ?_, ?_⟩
    · show 0 ≤ min s.tries ret + 1; omega
    · show min s.tries ret + 1 ≤ ret + 1; omega
    · show 0 ≤ now + backN (min s.tries ret + 1); omega
    · show now + backN (min s.tries ret + 1) ≤ 68374179; omega
/-- What ends keeps a run right. -/
theorem finish_run {d : Dg} {r : Rr} {i : Nat} {good : Bool} {now : Int} (g : Grf d.tasks) (hf : finB d r (i : Int) now = true) (hself : (i : Int) ∉ upsA d.tasks (i : Int)) :
    runB d ⟨r.nm, r.fr, r.up, r.ep, finishS d r (i : Int) good now⟩ = true := by
  unfold finB at hf
  rw [Bool.and_eq_true, Bool.and_eq_true] at hf
  obtain ⟨h, hw, hn⟩ := hf
  have hn := of_decide_eq_true hn
  obtain ⟨k, x, e, hx, hx1⟩ := isN_true hw
  have : i = k := by omega
  subst this
  have hil := (List.getElem?_eq_some_iff.1 hx).1
  have hp := run_parts h
  have hl := run_len h
  have hh := head_parts hp.2.1
  have okx := (run_ok h hx).1
  have hr := of_decide_eq_true okx.right
  unfold finishS
  rw [Int.toNat_natCast, sAt_at hx]
  cases good with
  | true =>
    rw [if_pos rfl]
    refine run_mk hp.1 (head_set hp.2.1 (List.length_set ..) hh.2.2.1 hh.2.2.2.1) fun j hj => ?_
    obtain ⟨y, hy⟩ : ∃ y, (r.st.set i ⟨2, x.tries, 0, 0⟩)[j]? = some y := ⟨_, List.getElem?_eq_getElem (by rw [List.length_set]; omega)⟩
    show okAt d.tasks (r.st.set i ⟨2, x.tries, 0, 0⟩) j = true
    rw [ok_iff hy]
    rcases set_cases hy with ⟨rfl, rfl, _⟩ | ⟨hne, hy'⟩
    · refine ⟨⟨decide_eq_true ⟨hr.1, hr.2.1, by show (0 : Int) ≤ 0; decide, by show (0 : Int) ≤ 1000000000; decide, ⟨fun h => absurd h (by show ¬ ((0 : Int) < 0); decide), fun h => absurd h (by show ¬ ((2 : Int) = 1); decide)⟩, by show (0 : Int) ≤ 0; decide, by show (0 : Int) ≤ 68374179; decide⟩, ⟨by show (0 : Int) ≤ 2; decide, by show (2 : Int) ≤ 4; decide⟩, fun _ u hu' => ?_, fun hs => absurd hs (by show ¬ ((2 : Int) = 4); decide)⟩, fun hs => absurd hs (by show ¬ ((2 : Int) = 0); decide)⟩
      rw [isN_set_ne (fun e => hself (by rw [e] at hu'; exact hu'))]
      exact okx.done (.inl hx1) u hu'
    · have ok := run_ok h hy'
      refine ⟨ok.1.other hx (fun e => by omega) (fun e => by omega), fun hs => ?_⟩
      have h5 := ok.2 hs
      rw [List.any_eq_false] at h5 ⊢
      intro u hu'
      by_cases hui : u = (i : Int)
      · subst hui
        unfold stuckB
        rw [isN_set_self hil, isN_set_self hil]
        show ¬ (decide ((2 : Int) = 3) || decide ((2 : Int) = 4)) = true
        decide
      · rw [stuck_ne hui]; exact h5 u hu'
  | false =>
    rw [if_neg (by decide)]
    have hfl : (r.st.set i (failS x (retN d.tasks i) now)).length = d.tasks.length := by rw [List.length_set]; exact hl
    refine run_mk hp.1 (head_set hp.2.1 (by rw [blockL_len, List.length_set]) hh.2.2.1 hh.2.2.2.1) fun j hj => ?_
    refine block_ok g hfl (fun m y hy => ?_) hj
    have hfi := fail_is x (retN d.tasks i) now
    rcases set_cases hy with ⟨rfl, rfl, _⟩ | ⟨hne, hy'⟩
    · exact ⟨fail_right okx.right hn.1 hn.2 (g.ret m (by omega)).1, by omega, fun hs => by omega, fun hs => by omega⟩
    · exact (run_ok h hy').1.other hx (fun e => by omega) (fun e => by omega)
/-- What is cleared keeps a run right. -/
theorem clear_get {st : List Sa} {l : List Int} {k : Nat} {x : Sa} (hx : st[k]? = some x) (hin : ∃ a ∈ l, a.toNat = k) : (clearL st l)[k]? = some default := by
  rw [clearL_at, if_pos ⟨hin, (List.getElem?_eq_some_iff.1 hx).1⟩]
theorem clear_not {st : List Sa} {l : List Int} {k : Nat} (h : ∀ a ∈ l, a.toNat ≠ k) : (clearL st l)[k]? = st[k]? := by
  rw [clearL_at, if_neg]
  rintro ⟨⟨a, ha, e⟩, _⟩
  exact h a ha e
theorem clear_run {d : Dg} {r : Rr} {i : Nat} (g : Grf d.tasks) (hf : clearB d r (i : Int) = true) (hdn : ∀ a ∈ downC d.tasks (i : Int), 0 ≤ a) :
    runB d ⟨r.nm, r.fr, r.up, r.ep + 1, clearS d r (i : Int)⟩ = true := by
  unfold clearB at hf
  rw [Bool.and_eq_true, Bool.and_eq_true] at hf
  obtain ⟨h, hi, -⟩ := hf
  have hi := of_decide_eq_true hi
  have hp := run_parts h
  have hl := run_len h
  have hh := head_parts hp.2.1
  have hcl : (clearL r.st (downC d.tasks (i : Int) ++ [(i : Int)])).length = d.tasks.length := (clearL_len _ _).trans hl
  refine run_mk hp.1 (head_set hp.2.1 (by unfold clearS; rw [blockL_len, clearL_len]) (by omega) (by omega)) fun j hj => ?_
  refine block_ok g hcl (fun m y hy => ?_) hj
  have hml := (List.getElem?_eq_some_iff.1 hy).1
  obtain ⟨x, hx⟩ : ∃ x, r.st[m]? = some x := ⟨_, List.getElem?_eq_getElem (by omega)⟩
  by_cases hin : ∃ a ∈ downC d.tasks (i : Int) ++ [(i : Int)], a.toNat = m
  · rw [clear_get hx hin] at hy
    cases hy
    have hr := g.ret m (by omega)
    refine ⟨decide_eq_true ⟨by show (0 : Int) ≤ 0; decide, by show (0 : Int) ≤ _; omega, by show (0 : Int) ≤ 0; decide, by show (0 : Int) ≤ 1000000000; decide, ⟨fun h => absurd h (by show ¬ ((0 : Int) < 0); decide), fun h => absurd h (by show ¬ ((0 : Int) = 1); decide)⟩, by show (0 : Int) ≤ 0; decide, by show (0 : Int) ≤ 68374179; decide⟩, ⟨by show (0 : Int) ≤ 0; decide, by show (0 : Int) ≤ 4; decide⟩, fun hs => absurd hs (by show ¬ ((0 : Int) = 1 ∨ (0 : Int) = 2); decide), fun hs => absurd hs (by show ¬ ((0 : Int) = 4); decide)⟩
  · have hno : ∀ a ∈ downC d.tasks (i : Int) ++ [(i : Int)], a.toNat ≠ m := fun a ha e => hin ⟨a, ha, e⟩
    rw [clear_not hno, hx] at hy
    cases hy
    have ok := (run_ok h hx).1
    have hup : ∀ u ∈ upsA d.tasks (m : Int), ∃ k : Nat, u = (k : Int) ∧ (clearL r.st (downC d.tasks (i : Int) ++ [(i : Int)]))[k]? = r.st[k]? := fun u hu => by
      obtain ⟨k, hk, rfl⟩ := g.ups _ u hu
      refine ⟨k, rfl, clear_not fun a ha e => ?_⟩
      have h0 : 0 ≤ a := by
        rcases List.mem_append.1 ha with ha | ha
        · exact hdn a ha
        · rw [List.mem_singleton.1 ha]; omega
      have hak : a = (k : Int) := by omega
      subst hak
      refine hno (m : Int) (List.mem_append_left _ (g.down m (i : Int) (k : Int) (by omega) hu ?_)) (by omega)
      rcases List.mem_append.1 ha with ha | ha
      · exact .inr ha
      · exact .inl (List.mem_singleton.1 ha)
    refine ⟨ok.right, ok.few, fun hs u hu => ?_, fun hs => ?_⟩
    · obtain ⟨k, rfl, e⟩ := hup u hu
      rw [isN_eq e]
      exact ok.done hs _ hu
    · obtain ⟨u, hu, h1⟩ := ok.stuck hs
      obtain ⟨k, rfl, e⟩ := hup u hu
      refine ⟨_, hu, ?_⟩
      unfold stuckB
      rw [isN_eq e, isN_eq e]
      exact h1
/-- A new run is right. -/
theorem new_run {d : Dg} {fr up : Int} (h : dagB d = true) (hs : spanB fr up = true) (g : Grf d.tasks) : runB d ⟨d.name, fr, up, 0, List.replicate d.tasks.length default⟩ = true := by
  refine run_mk h (decide_eq_true ⟨rfl, hs, by show (0 : Int) ≤ 0; decide, by show (0 : Int) ≤ 1000; decide, List.length_replicate⟩) fun i hi => ?_
  have hr := g.ret i hi
  have hx : (List.replicate d.tasks.length (default : Sa))[i]? = some default := by rw [List.getElem?_replicate, if_pos hi]
  show okAt d.tasks (List.replicate d.tasks.length default) i = true
  rw [ok_iff hx]
  refine ⟨⟨decide_eq_true ⟨by show (0 : Int) ≤ 0; decide, by show (0 : Int) ≤ _; omega, by show (0 : Int) ≤ 0; decide, by show (0 : Int) ≤ 1000000000; decide, ⟨fun h => absurd h (by show ¬ ((0 : Int) < 0); decide), fun h => absurd h (by show ¬ ((0 : Int) = 1); decide)⟩, by show (0 : Int) ≤ 0; decide, by show (0 : Int) ≤ 68374179; decide⟩, ⟨by show (0 : Int) ≤ 0; decide, by show (0 : Int) ≤ 4; decide⟩, fun hs => absurd hs (by show ¬ ((0 : Int) = 1 ∨ (0 : Int) = 2); decide), fun hs => absurd hs (by show ¬ ((0 : Int) = 4); decide)⟩, fun _ => ?_⟩
  rw [List.any_eq_false]
  intro u hu
  obtain ⟨k, hk, rfl⟩ := g.ups _ u hu
  have hk2 : (List.replicate d.tasks.length (default : Sa))[k]? = some default := by rw [List.getElem?_replicate, if_pos hk]
  unfold stuckB
  rw [isN_in hk2, isN_in hk2]
  show ¬ (decide ((0 : Int) = 3) || decide ((0 : Int) = 4)) = true
  decide
end Go.Proofs.YtjmclcjhimcehaaGreatDoor

namespace Go.Proofs.YtjmclcjhimcehaaGreatDoor
open Go Go.RowKit
set_option linter.unusedVariables false

theorem take_cons {α : Type} {O : List α} {k : Nat} {a : α} (h : O[k]? = some a) : O = O.take k ++ a :: O.drop (k + 1) := by
  obtain ⟨hk, rfl⟩ := List.getElem?_eq_some_iff.1 h
  rw [← List.drop_eq_getElem_cons hk, List.take_append_drop]
/-- All that a task is after stands ahead of it. -/
theorem ups_ahead {ts : List Ta} (hr : Rg4 ts) {k j : Nat} (hk : (orderL ts)[k]? = some (j : Int)) : ∀ u ∈ upsA ts (j : Int), u ∈ (orderL ts).take k := by
  intro u hu
  have hol := order_ol hr
  obtain ⟨j', t, e, ht⟩ := hol.pl _ (List.mem_of_getElem? hk)
  have : j = j' := by omega
  subst this
  have htm := List.mem_of_getElem? ht
  unfold upsA at hu
  rw [af_at ht] at hu
  obtain ⟨s, hs, rfl⟩ := (upsC_mem hr.own (hr.lies t htm)).1 hu
  have hsplit : (orderL ts).map (nmOf ts) = ((orderL ts).take k).map (nmOf ts) ++ t.name :: ((orderL ts).drop (k + 1)).map (nmOf ts) := by
    have h1 := congrArg (List.map (nmOf ts)) (take_cons hk)
    rw [List.map_append, List.map_cons, nm_at ht] at h1
    exact h1
  obtain ⟨t', ht', e', ha'⟩ := hol.row.2 _ _ _ hsplit
  obtain ⟨i', hi', rfl⟩ := List.getElem_of_mem ht'
  have hij := hr.own.inj (List.getElem?_eq_getElem hi') ht e'
  subst hij
  have h3 : ts[i'] = t := by rw [List.getElem?_eq_getElem hi'] at ht; exact Option.some.inj ht
  rw [h3] at ha'
  obtain ⟨x, hx, ex⟩ := List.mem_map.1 (ha' s hs)
  obtain ⟨p, v, rfl, hp⟩ := hol.pl x (List.mem_of_mem_take hx)
  rw [nm_at hp] at ex
  rw [← ex, hr.own p v hp]
  exact hx
theorem dn_keep {ts : List Ta} {i : Int} : ∀ (O D : List Int) {x : Int}, x ∈ D → x ∈ O.foldl (dnS ts i) D
  | [], _, _, h => h
  | a :: O, D, x, h => by
    rw [List.foldl_cons]
    refine dn_keep O _ ?_
    unfold dnS
    split
    · exact List.mem_append_left _ h
    · exact h
/-- A task is behind what it is after. -/
theorem down_of_up {ts : List Ta} (hr : Rg4 ts) {k j : Nat} (hk : (orderL ts)[k]? = some (j : Int)) {u : Int} (hu : u ∈ upsA ts (j : Int)) : (j : Int) ∈ downC ts u := by
  have hol := order_ol hr
  obtain ⟨j', t, e, ht⟩ := hol.pl _ (List.mem_of_getElem? hk)
  have : j = j' := by omega
  subst this
  unfold downC
  rw [ascL_mem]
  refine ⟨j, (List.getElem?_eq_some_iff.1 ht).1, memI_iff.2 ?_, rfl⟩
  unfold dnL
  rw [take_cons hk, List.foldl_append, List.foldl_cons]
  refine dn_keep _ _ ?_
  generalize ((orderL ts).take k).foldl (dnS ts u) [] = D
  have hq : (upsA ts (j : Int)).any (leadB u D) = true := List.any_eq_true.2 ⟨u, hu, by unfold leadB; rw [decide_eq_true rfl]; rfl⟩
  unfold dnS
  rw [if_pos hq]
  exact List.mem_append_right _ (List.mem_singleton.2 rfl)
/-- Nothing that has come by a place is behind it. -/
theorem dn_yet {ts : List Ta} (hr : Rg4 ts) {k j : Nat} (hk : (orderL ts)[k]? = some (j : Int)) : ∀ m, m ≤ k + 1 → ((orderL ts).take m).foldl (dnS ts (j : Int)) [] = []
  | 0, _ => rfl
  | m + 1, hm => by
    have hkl := (List.getElem?_eq_some_iff.1 hk).1
    have hml : m < (orderL ts).length := by omega
    have hol := order_ol hr
    rw [List.take_succ_eq_append_getElem hml, List.foldl_append, dn_yet hr hk m (by omega), List.foldl_cons, List.foldl_nil]
    unfold dnS
    rw [if_neg]
    rw [Bool.not_eq_true, List.any_eq_false]
    intro u hu hl
    unfold leadB memI at hl
    have hl2 : u = (j : Int) := by simpa using hl
    subst hl2
    obtain ⟨p, v, ep, hp⟩ := hol.pl _ (List.getElem_mem hml)
    have hkm : (orderL ts)[m]? = some (p : Int) := by rw [List.getElem?_eq_getElem hml, ep]
    rw [ep] at hu
    have h1 := ups_ahead hr hkm _ hu
    obtain ⟨q, hq, eq⟩ := List.getElem_of_mem h1
    rw [List.length_take] at hq
    rw [List.getElem_take] at eq
    have hkq : (orderL ts)[k] = (orderL ts)[q]'(by omega) := by
      rw [eq]
      rw [List.getElem?_eq_getElem hkl] at hk
      exact Option.some.inj hk
    exact List.pairwise_iff_getElem.1 hol.nd q k (by omega) hkl (by omega) hkq.symm
theorem down_behind {ts : List Ta} (hr : Rg4 ts) {k j : Nat} (hk : (orderL ts)[k]? = some (j : Int)) : ∀ x ∈ downC ts (j : Int), x ∉ (orderL ts).take (k + 1) := by
  intro x hx ht
  have hol := order_ol hr
  unfold downC at hx
  obtain ⟨q, _, hm, rfl⟩ := ascL_mem.1 hx
  have hm := memI_iff.1 hm
  unfold dnL at hm
  rw [← List.take_append_drop (k + 1) (orderL ts), List.foldl_append, dn_yet hr hk (k + 1) (Nat.le_refl _)] at hm
  have hnd := hol.nd
  rw [← List.take_append_drop (k + 1) (orderL ts), List.nodup_append] at hnd
  have h2 := (dn_sub ts (j : Int) ((orderL ts).drop (k + 1)) [] hnd.2.1).2 _ hm
  exact hnd.2.2 _ ht _ h2 rfl
end Go.Proofs.YtjmclcjhimcehaaGreatDoor

namespace Go.Proofs.YtjmclcjhimcehaaGreatDoor
open Go Go.RowKit
set_option linter.unusedVariables false

/-- Every place stands in the order. -/
theorem order_allR {ts : List Ta} (hr : Rg4 ts) {k : Nat} (hk : k < ts.length) : (k : Int) ∈ orderL ts := by
  have hol := order_ol hr
  by_cases h : (k : Int) ∈ orderL ts
  · exact h
  · have h1 := nodup_sub_len (L := (k : Int) :: orderL ts) (M := (List.range ts.length).map fun j : Nat => (j : Int)) (List.nodup_cons.2 ⟨h, hol.nd⟩) fun x hx => by
      rcases List.mem_cons.1 hx with rfl | hx
      · exact List.mem_map.2 ⟨k, List.mem_range.2 hk, rfl⟩
      · obtain ⟨j, t, rfl, hj⟩ := hol.pl x hx
        exact List.mem_map.2 ⟨j, List.mem_range.2 (List.getElem?_eq_some_iff.1 hj).1, rfl⟩
    rw [List.length_cons, hr.full, List.length_map, List.length_range] at h1
    omega
/-- What is after one behind a place is behind that place. -/
theorem down_trans {ts : List Ta} (hr : Rg4 ts) {k : Nat} {i u : Int} (hk : k < ts.length) (hu : u ∈ upsA ts (k : Int)) (h : u = i ∨ u ∈ downC ts i) : (k : Int) ∈ downC ts i := by
  have hol := order_ol hr
  obtain ⟨p, hp⟩ : ∃ p : Nat, (orderL ts)[p]? = some (k : Int) := List.getElem?_of_mem (order_allR hr hk)
  have hin := ups_ahead hr hp u hu
  have hq : (upsA ts (k : Int)).any (leadB i (((orderL ts).take p).foldl (dnS ts i) [])) = true := by
    refine List.any_eq_true.2 ⟨u, hu, ?_⟩
    unfold leadB
    rcases h with rfl | h
    · rw [decide_eq_true rfl]; rfl
    · have : u ∈ ((orderL ts).take p).foldl (dnS ts i) [] := by
        unfold downC at h
        obtain ⟨q, _, hm, rfl⟩ := ascL_mem.1 h
        have hm := memI_iff.1 hm
        unfold dnL at hm
        rw [← List.take_append_drop p (orderL ts), List.foldl_append] at hm
        have hnd := hol.nd
        rw [← List.take_append_drop p (orderL ts), List.nodup_append] at hnd
        have h1 := dn_sub ts i ((orderL ts).take p) [] (by simpa using hnd.1)
        have h2 := (dn_sub ts i ((orderL ts).drop p) _ (List.nodup_append.2 ⟨h1.1, hnd.2.1, fun a ha b hb => hnd.2.2 a (by simpa using h1.2 a ha) b hb⟩)).2 _ hm
        rcases List.mem_append.1 h2 with h2 | h2
        · exact h2
        · exact absurd rfl (hnd.2.2 _ hin _ h2)
      rw [memI_iff.2 this]; simp
  unfold downC
  rw [ascL_mem]
  refine ⟨k, hk, memI_iff.2 ?_, rfl⟩
  unfold dnL
  rw [take_cons hp, List.foldl_append, List.foldl_cons]
  refine dn_keep _ _ ?_
  generalize ((orderL ts).take p).foldl (dnS ts i) [] = D at hq
  unfold dnS
  rw [if_pos hq]
  exact List.mem_append_right _ (List.mem_singleton.2 rfl)
theorem ups_in {ts : List Ta} {a u : Int} (h : u ∈ upsA ts a) : ∃ k : Nat, k < ts.length ∧ u = (k : Int) := by
  obtain ⟨k, hk, _, rfl⟩ := ascL_mem.1 h
  exact ⟨k, hk, rfl⟩
theorem downs_in {ts : List Ta} {a u : Int} (h : u ∈ downC ts a) : ∃ k : Nat, k < ts.length ∧ u = (k : Int) := by
  obtain ⟨k, hk, _, rfl⟩ := ascL_mem.1 h
  exact ⟨k, hk, rfl⟩
theorem ret_of {d : Dg} (h : dagB d = true) {k : Nat} {t : Ta} (ht : d.tasks[k]? = some t) : 0 ≤ t.ret ∧ t.ret ≤ 3 := by
  unfold dagB at h
  simp only [Bool.and_eq_true, decide_eq_true_eq] at h
  obtain ⟨_, _, _, _, _, _, h3, _⟩ := h
  have := (tasksB_iff d.tasks 0 rfl).1 h3 k t (Nat.zero_le _) ht
  unfold taskB at this
  simp only [Bool.and_eq_true, decide_eq_true_eq] at this
  exact this.2.2.2.1
theorem grf_of {d : Dg} (h : dagB d = true) : Grf d.tasks := by
  have hr := rg_of h
  have hol := order_ol hr
  refine ⟨hol.nd, fun k hk => order_allR hr hk, fun x hx => ?_, fun k j hk => ups_ahead hr hk, fun a u hu => ups_in hu, fun k hk => ?_, fun k i u hk hu h => down_trans hr hk hu h⟩
  · obtain ⟨j, t, rfl, hj⟩ := hol.pl x hx
    exact ⟨j, (List.getElem?_eq_some_iff.1 hj).1, rfl⟩
  · rw [retN_at (List.getElem?_eq_getElem hk)]
    exact ret_of h (List.getElem?_eq_getElem hk)
theorem ups_self {ts : List Ta} (hr : Rg4 ts) {k : Nat} (hk : k < ts.length) : (k : Int) ∉ upsA ts (k : Int) := by
  intro h
  obtain ⟨p, hp⟩ : ∃ p : Nat, (orderL ts)[p]? = some (k : Int) := List.getElem?_of_mem (order_allR hr hk)
  have h1 := ups_ahead hr hp _ h
  obtain ⟨q, hq, eq⟩ := List.getElem_of_mem h1
  rw [List.length_take] at hq
  rw [List.getElem_take] at eq
  have hpl := (List.getElem?_eq_some_iff.1 hp)
  obtain ⟨hpl, ep⟩ := hpl
  exact List.pairwise_iff_getElem.1 (order_ol hr).nd q p (by omega) hpl (by omega) (eq.trans ep.symm)
end Go.Proofs.YtjmclcjhimcehaaGreatDoor
