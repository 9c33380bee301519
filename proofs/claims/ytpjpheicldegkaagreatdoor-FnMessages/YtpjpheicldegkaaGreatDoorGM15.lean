/- Dgp,Pik,Dgs,Blk,Re,Crc,Sum,Seal,Sh,Bwr,Pk,Dgr,Dcf,Dpl,Cms,Lsm -/
import Derived.Test.YtpjpheicldegkaaGreatDoorGM13
import Derived.Test.YtpjpheicldegkaaGreatDoorGM14
import Derived.Test.YtpjpheicldegkaaGreatDoorHd
import Derived.Test.YtpjpheicldegkaaGreatDoorGM11
import Derived.Test.YtpjpheicldegkaaGreatDoorGM6
import Derived.Test.YtpjpheicldegkaaGreatDoorGM12
import Derived.ArgAppend
import Derived.Test.YtpjpheicldegkaaGreatDoorGM5
import Derived.Test.YtpjpheicldegkaaGreatDoorEs
import Derived.Test.YtpjpheicldegkaaGreatDoorRows
import Derived.Test.YtpjpheicldegkaaGreatDoorGM1
import Derived.WalkKit
import Derived.WalkSpells
import Derived.WalkLawsBesides
import Derived.Handy
import Derived.Laws.BitsAllLaws
import Derived.Lib.LaidTab
import Derived.Test.YtpjpheicldegkaaGreatDoorGM2
import Derived.Deep.RegionHeld
import Derived.Test.YtpjpheicldegkaaGreatDoorGM4
import Derived.Laws.IdiomCopy
import Derived.Deep.Upon
namespace Go.Proofs.YtpjpheicldegkaaGreatDoor
open Go Go.RowKit
set_option linter.unusedVariables false

theorem atG_ex {s : ByteArray} : ∀ (l : List Ta) (k : Nat), 0 ≤ atG s k l → ∃ j t, l[j]? = some t ∧ t.name = s ∧ atG s k l = ((k + j : Nat) : Int)
  | [], k, h => by simp [atG] at h
  | t :: r, k, h => by
    unfold atG at h ⊢
    split at h
    · rename_i e
      rw [if_pos e]
      exact ⟨0, t, rfl, e, rfl⟩
    · rename_i e
      rw [if_neg e]
      obtain ⟨j, u, h1, h2, h3⟩ := atG_ex r (k + 1) h
      exact ⟨j + 1, u, by rw [List.getElem?_cons_succ]; exact h1, h2, by rw [h3]; omega⟩
theorem atG_is {s : ByteArray} : ∀ (l : List Ta) (k i : Nat) (t : Ta), l[i]? = some t → t.name = s → (∀ j u, j < i → l[j]? = some u → u.name ≠ s) → atG s k l = ((k + i : Nat) : Int)
  | [], k, i, t, h, _, _ => by simp at h
  | u :: r, k, i, t, h, hn, hf => by
    unfold atG
    match i, h, hf with
    | 0, h, _ =>
      simp only [List.getElem?_cons_zero, Option.some.injEq] at h
      subst h
      rw [if_pos hn]; rfl
    | i + 1, h, hf =>
      rw [List.getElem?_cons_succ] at h
      rw [if_neg (hf 0 u (by omega) rfl), atG_is r (k + 1) i t h hn fun j v hj hv => hf (j + 1) v (by omega) (by rw [List.getElem?_cons_succ]; exact hv)]
      congr 1
      omega
structure GoodT (ts : List Ta) (rank : Nat → Nat) : Prop where
  apart : ∀ (i j : Nat) (t u : Ta), ts[i]? = some t → ts[j]? = some u → t.name = u.name → i = j
  name : ∀ t ∈ ts, nameB t.name = true
  pool : ∀ t ∈ ts, poolN t.pool ≠ 0
  ret : ∀ t ∈ ts, 0 ≤ t.ret ∧ t.ret ≤ 3
  up : ∀ t ∈ ts, t.after.Pairwise (fun a b => lessB a b = true)
  aft : ∀ (i : Nat) (t : Ta), ts[i]? = some t → ∀ s ∈ t.after, ∃ (j : Nat) (u : Ta), ts[j]? = some u ∧ u.name = s ∧ rank j < rank i
theorem GoodT.at {ts : List Ta} {rank : Nat → Nat} (h : GoodT ts rank) {i : Nat} {t : Ta} (hi : ts[i]? = some t) : atN ts t.name = (i : Int) := by
  have := atG_is ts 0 i t hi rfl fun j u hj hu e => by
    have := h.apart j i u t hu hi e
    omega
  simpa [atN] using this
theorem afterB_up {ts : List Ta} {nm : ByteArray} : ∀ (l : List ByteArray) (p : Option ByteArray), l.Pairwise (fun a b => lessB a b = true) → (∀ x, p = some x → ∀ s ∈ l, lessB x s = true) → (∀ s ∈ l, 0 ≤ atN ts s ∧ s ≠ nm) → qvd ts nm p l = true
  | [], p, _, _, _ => rfl
  | s :: r, p, hp, hx, ha => by
    have h1 := ha s (List.mem_cons_self ..)
    have hc := List.pairwise_cons.1 hp
    have ih := afterB_up (ts := ts) (nm := nm) r (some s) hc.2 (fun x e t ht => by cases e; exact hc.1 t ht) (fun t ht => ha t (List.mem_cons_of_mem _ ht))
    have hpa : (p.all fun x => lessB x s) = true := by
      cases p with
      | none => rfl
      | some x => exact hx x rfl s (List.mem_cons_self ..)
    unfold qvd
    rw [ih, hpa, decide_eq_true h1.1, decide_eq_false h1.2]
    rfl
theorem GoodT.task {ts : List Ta} {rank : Nat → Nat} (h : GoodT ts rank) {i : Nat} {t : Ta} (hi : ts[i]? = some t) : taskB ts i t = true := by
  have hm := List.mem_of_getElem? hi
  rw [task_5 (h.name t hm) (h.at hi) (h.pool t hm) (h.ret t hm)]
  refine afterB_up t.after none (h.up t hm) (fun x e => by cases e) fun s hs => ?_
  obtain ⟨j, u, hj, hu, hr⟩ := h.aft i t hi s hs
  subst hu
  refine ⟨by rw [h.at hj]; omega, fun e => ?_⟩
  have := h.apart j i u t hj hi e
  subst this
  omega
theorem GoodT.tasks {ts : List Ta} {rank : Nat → Nat} (h : GoodT ts rank) : qje ts 0 ts = true := by
  have : ∀ n i, i + n = ts.length → qje ts i (ts.drop i) = true := by
    intro n
    induction n with
    | zero => intro i hi; exact tasksB_end (by omega)
    | succ n ih =>
      intro i hi
      obtain ⟨t, ht⟩ : ∃ t, ts[i]? = some t := ⟨_, List.getElem?_eq_getElem (by omega)⟩
      rw [tasksB_at ht, h.task ht, ih (i + 1) (by omega)]
      rfl
  have := this ts.length 0 (by omega)
  rwa [List.drop_zero] at this
theorem lacks : ∀ (n : Nat) (out : List Int), (∀ i, i < n → ((i : Nat) : Int) ∈ out) → n ≤ out.length
  | 0, _, _ => Nat.zero_le _
  | n + 1, out, h => by
    have hm := h n (by omega)
    have := lacks n (out.erase (n : Int)) fun i hi => (List.mem_erase_of_ne (by omega)).2 (h i (by omega))
    rw [List.length_erase_of_mem hm] at this
    have := List.length_pos_of_mem hm
    omega
theorem ordScan_found {ts : List Ta} {out : List Int} : ∀ (r : List Ta) (i : Nat), (∃ j t, r[j]? = some t ∧ ¬ ((i + j : Nat) : Int) ∈ out ∧ freeB ts out t.after = true) → ∃ q, qob ts out i r = out ++ [q]
  | [], i, ⟨j, t, h, _⟩ => by simp at h
  | t :: r, i, ⟨j, u, hj, hn, hf⟩ => by
    unfold qob
    by_cases hi : (i : Int) ∈ out
    · rw [if_pos hi]
      match j, hj, hn with
      | 0, _, hn => exact absurd hi hn
      | j + 1, hj, hn =>
        rw [List.getElem?_cons_succ] at hj
        exact ordScan_found r (i + 1) ⟨j, u, hj, by rwa [show i + 1 + j = i + (j + 1) by omega], hf⟩
    · rw [if_neg hi]
      by_cases hb : freeB ts out t.after = true
      · rw [if_pos hb]; exact ⟨_, rfl⟩
      · rw [if_neg hb]
        match j, hj, hn with
        | 0, hj, _ =>
          simp only [List.getElem?_cons_zero, Option.some.injEq] at hj
          subst hj
          exact absurd hf hb
        | j + 1, hj, hn =>
          rw [List.getElem?_cons_succ] at hj
          exact ordScan_found r (i + 1) ⟨j, u, hj, by rwa [show i + 1 + j = i + (j + 1) by omega], hf⟩
theorem GoodT.free {ts : List Ta} {rank : Nat → Nat} (h : GoodT ts rank) {out : List Int} : ∀ (n i : Nat) (t : Ta), rank i ≤ n → ts[i]? = some t → ¬ ((i : Nat) : Int) ∈ out → ∃ j u, ts[j]? = some u ∧ ¬ ((j : Nat) : Int) ∈ out ∧ freeB ts out u.after = true
  | n, i, t, hr, hi, hn => by
    by_cases hf : freeB ts out t.after = true
    · exact ⟨i, t, hi, hn, hf⟩
    · unfold freeB at hf
      rw [List.all_eq_true] at hf
      simp only [decide_eq_true_eq, Classical.not_forall] at hf
      obtain ⟨s, hs, ho⟩ := hf
      obtain ⟨j, u, hj, hu, hrj⟩ := h.aft i t hi s hs
      subst hu
      rw [h.at hj] at ho
      match n with
      | 0 => omega
      | n + 1 => exact h.free n j u (by omega) hj ho
theorem GoodT.order {ts : List Ta} {rank : Nat → Nat} (h : GoodT ts rank) : (orderL ts).length = ts.length := by
  have : ∀ k, k ≤ ts.length → (ordL ts k).length = k := by
    intro k
    induction k with
    | zero => intro _; rfl
    | succ k ih =>
      intro hk
      have hl := ih (by omega)
      obtain ⟨i, hi, hni⟩ : ∃ i, i < ts.length ∧ ¬ ((i : Nat) : Int) ∈ ordL ts k := by
        apply Classical.byContradiction
        intro hc
        have := lacks ts.length (ordL ts k) fun i hi => Classical.byContradiction fun hn => hc ⟨i, hi, hn⟩
        omega
      obtain ⟨t, ht⟩ : ∃ t, ts[i]? = some t := ⟨_, List.getElem?_eq_getElem hi⟩
      obtain ⟨j, u, hj, hnj, hf⟩ := h.free (rank i) i t (Nat.le_refl _) ht hni
      obtain ⟨q, hq⟩ := ordScan_found (ts := ts) (out := ordL ts k) ts 0 ⟨j, u, hj, by rwa [Nat.zero_add], hf⟩
      show (qob ts (ordL ts k) 0 ts).length = k + 1
      rw [hq, List.length_append, hl]
      rfl
  exact this ts.length (Nat.le_refl _)
def nm4 : Nat → ByteArray
  | 0 => ⟨#[97]⟩
  | 1 => ⟨#[98]⟩
  | 2 => ⟨#[99]⟩
  | _ => ⟨#[100]⟩
theorem nm4_inj {i j : Nat} (hi : i < 4) (hj : j < 4) (h : nm4 i = nm4 j) : i = j := by
  have key : ∀ i : Fin 4, ∀ j : Fin 4, nm4 i.val = nm4 j.val → i = j := by decide
  have := key ⟨i, hi⟩ ⟨j, hj⟩ h
  exact congrArg Fin.val this
theorem nm4_less {i j : Nat} (hj : j < 4) (h : i < j) : lessB (nm4 i) (nm4 j) = true := by
  have key : ∀ i : Fin 4, ∀ j : Fin 4, i < j → lessB (nm4 i.val) (nm4 j.val) = true := by decide +kernel
  exact key ⟨i, by omega⟩ ⟨j, hj⟩ h
theorem nm4_name (i : Nat) : nameB (nm4 i) = true := by
  match i with
  | 0 => decide
  | 1 => decide
  | 2 => decide
  | i + 3 => show nameB ⟨#[100]⟩ = true; decide
theorem nm4_size (i : Nat) : (nm4 i).size ≤ 8 := by
  match i with
  | 0 => decide
  | 1 => decide
  | 2 => decide
  | i + 3 => show ByteArray.size ⟨#[100]⟩ ≤ 8; decide
structure AlO (tn i p : Nat) (al : List ByteArray) : Prop where
  len : al.length ≤ p
  up : al.Pairwise (fun a b => lessB a b = true)
  mem : ∀ s ∈ al, ∃ q, q < p ∧ q < 4 ∧ s = nm4 q ∧ ∃ j, j < i ∧ q = (j + tn) % 4
theorem AlO.start (tn i : Nat) : AlO tn i 0 [] := ⟨Nat.le_refl _, List.Pairwise.nil, fun s hs => by cases hs⟩
theorem AlO.skip {tn i p : Nat} {al : List ByteArray} (h : AlO tn i p al) : AlO tn i (p + 1) al := ⟨by have := h.len; omega, h.up, fun s hs => by
  obtain ⟨q, h1, h2, h3, h4⟩ := h.mem s hs
  exact ⟨q, by omega, h2, h3, h4⟩⟩
theorem AlO.next {tn i p : Nat} {al : List ByteArray} (h : AlO tn i p al) (hp : p < 4) {j : Nat} (hj : j < i) (hpj : p = (j + tn) % 4) : AlO tn i (p + 1) (al ++ [nm4 p]) := by
  refine ⟨by have := h.len; simp; omega, List.pairwise_append.2 ⟨h.up, List.pairwise_singleton _ _, fun a ha b hb => ?_⟩, fun s hs => ?_⟩
  · rw [List.mem_singleton] at hb
    subst hb
    obtain ⟨q, h1, h2, h3, h4⟩ := h.mem a ha
    rw [h3]
    exact nm4_less hp h1
  · rcases List.mem_append.1 hs with hs | hs
    · obtain ⟨q, h1, h2, h3, h4⟩ := h.mem s hs
      exact ⟨q, by omega, h2, h3, h4⟩
    · rw [List.mem_singleton] at hs
      exact ⟨p, by omega, hp, hs, j, hj, hpj⟩
structure DrT (tn : Nat) (ts : List Ta) : Prop where
  few : ts.length ≤ 4
  name : ∀ (i : Nat) (t : Ta), ts[i]? = some t → t.name = nm4 ((i + tn) % 4)
  pool : ∀ t ∈ ts, poolN t.pool ≠ 0 ∧ t.pool.size ≤ 8
  ret : ∀ t ∈ ts, 0 ≤ t.ret ∧ t.ret ≤ 2
  aft : ∀ (i : Nat) (t : Ta), ts[i]? = some t → AlO tn i 4 t.after
theorem DrT.start (tn : Nat) : DrT tn [] := ⟨by decide, fun i t h => by simp at h, fun t h => (by cases h), fun t h => (by cases h), fun i t h => by simp at h⟩
theorem DrT.next {tn : Nat} {ts : List Ta} (h : DrT tn ts) (hf : ts.length < 4) {t : Ta} (hn : t.name = nm4 ((ts.length + tn) % 4)) (hp : poolN t.pool ≠ 0 ∧ t.pool.size ≤ 8) (hr : 0 ≤ t.ret ∧ t.ret ≤ 2) (ha : AlO tn ts.length 4 t.after) : DrT tn (ts ++ [t]) := by
  have hat : ∀ (i : Nat) (u : Ta), (ts ++ [t])[i]? = some u → (i < ts.length ∧ ts[i]? = some u) ∨ (i = ts.length ∧ u = t) := by
    intro i u hu
    by_cases hi : i < ts.length
    · rw [List.getElem?_append_left hi] at hu
      exact .inl ⟨hi, hu⟩
    · have := (List.getElem?_eq_some_iff.1 hu).1
      simp at this
      have hi2 : i = ts.length := by omega
      subst hi2
      simp only [List.getElem?_concat_length, Option.some.injEq] at hu
      exact .inr ⟨rfl, hu.symm⟩
  have hmem : ∀ u ∈ ts ++ [t], u ∈ ts ∨ u = t := fun u hu => by
    rcases List.mem_append.1 hu with hu | hu
    · exact .inl hu
    · exact .inr (List.mem_singleton.1 hu)
  refine ⟨by simp; omega, fun i u hu => ?_, fun u hu => ?_, fun u hu => ?_, fun i u hu => ?_⟩
  · rcases hat i u hu with ⟨_, h1⟩ | ⟨rfl, rfl⟩
    · exact h.name i u h1
    · exact hn
  · rcases hmem u hu with h1 | rfl
    · exact h.pool u h1
    · exact hp
  · rcases hmem u hu with h1 | rfl
    · exact h.ret u h1
    · exact hr
  · rcases hat i u hu with ⟨_, h1⟩ | ⟨rfl, rfl⟩
    · exact h.aft i u h1
    · exact ha
theorem DrT.good {tn : Nat} {ts : List Ta} (h : DrT tn ts) : GoodT ts id := by
  have hf := h.few
  refine ⟨fun i j t u hi hj he => ?_, fun t ht => ?_, fun t ht => (h.pool t ht).1, fun t ht => by have := h.ret t ht; omega, fun t ht => ?_, fun i t hi s hs => ?_⟩
  · have h1 := (List.getElem?_eq_some_iff.1 hi).1
    have h2 := (List.getElem?_eq_some_iff.1 hj).1
    rw [h.name i t hi, h.name j u hj] at he
    have := nm4_inj (Nat.mod_lt _ (by decide)) (Nat.mod_lt _ (by decide)) he
    omega
  · obtain ⟨i, hi⟩ := List.getElem?_of_mem ht
    rw [h.name i t hi]
    exact nm4_name _
  · obtain ⟨i, hi⟩ := List.getElem?_of_mem ht
    exact (h.aft i t hi).up
  · obtain ⟨q, h1, h2, h3, j, hj, hq⟩ := (h.aft i t hi).mem s hs
    have hil := (List.getElem?_eq_some_iff.1 hi).1
    obtain ⟨u, hu⟩ : ∃ u, ts[j]? = some u := ⟨_, List.getElem?_eq_getElem (by omega)⟩
    exact ⟨j, u, hu, by rw [h.name j u hu, h3, hq], hj⟩
theorem DrT.turn {tn : Nat} {t0 : Ta} {l : List Ta} (h : DrT tn (t0 :: l)) : GoodT (l ++ [t0]) (fun i => if i = l.length then 0 else i + 1) := by
  have hg := h.good
  have hat : ∀ (i : Nat) (u : Ta), (l ++ [t0])[i]? = some u → (i < l.length ∧ (t0 :: l)[i + 1]? = some u) ∨ (i = l.length ∧ u = t0) := by
    intro i u hu
    by_cases hi : i < l.length
    · rw [List.getElem?_append_left hi] at hu
      exact .inl ⟨hi, by rw [List.getElem?_cons_succ]; exact hu⟩
    · have := (List.getElem?_eq_some_iff.1 hu).1
      simp at this
      have hi2 : i = l.length := by omega
      subst hi2
      simp only [List.getElem?_concat_length, Option.some.injEq] at hu
      exact .inr ⟨rfl, hu.symm⟩
  have hmem : ∀ u ∈ l ++ [t0], u ∈ t0 :: l := fun u hu => by
    rcases List.mem_append.1 hu with hu | hu
    · exact List.mem_cons_of_mem _ hu
    · rw [List.mem_singleton.1 hu]; exact List.mem_cons_self ..
  refine ⟨fun i j t u hi hj he => ?_, fun t ht => hg.name t (hmem t ht), fun t ht => hg.pool t (hmem t ht), fun t ht => hg.ret t (hmem t ht), fun t ht => hg.up t (hmem t ht), fun i t hi s hs => ?_⟩
  · rcases hat i t hi with ⟨h1, h2⟩ | ⟨h1, h2⟩
    · rcases hat j u hj with ⟨h3, h4⟩ | ⟨h3, h4⟩
      · have := hg.apart _ _ _ _ h2 h4 he; omega
      · subst h4; have := hg.apart (i + 1) 0 t u h2 rfl he; omega
    · rcases hat j u hj with ⟨h3, h4⟩ | ⟨h3, h4⟩
      · subst h2; have := hg.apart 0 (j + 1) t u rfl h4 he; omega
      · omega
  · rcases hat i t hi with ⟨h1, h2⟩ | ⟨h1, h2⟩
    · obtain ⟨j, u, hj, hu, hr⟩ := hg.aft (i + 1) t h2 s hs
      have hr' : j < i + 1 := hr
      match j, hj, hr' with
      | 0, hj, _ =>
        simp only [List.getElem?_cons_zero, Option.some.injEq] at hj
        refine ⟨l.length, t0, by simp, by rw [← hu, hj], ?_⟩
        rw [if_pos rfl, if_neg (by omega)]
        omega
      | j + 1, hj, hr' =>
        rw [List.getElem?_cons_succ] at hj
        have hjl := (List.getElem?_eq_some_iff.1 hj).1
        refine ⟨j, u, by rw [List.getElem?_append_left hjl]; exact hj, hu, ?_⟩
        rw [if_neg (by omega), if_neg (by omega)]
        omega
    · subst h2
      obtain ⟨j, u, hj, hu, hr⟩ := hg.aft 0 t rfl s hs
      exact absurd hr (by show ¬ j < 0; omega)
end Go.Proofs.YtpjpheicldegkaaGreatDoor

namespace Go.Proofs.YtpjpheicldegkaaGreatDoor
open Go Go.RowKit

def TextsAt (w : World) (g r : Nat) (l : List ByteArray) : Prop := r ≠ g ∧ ∀ j (h : j < l.length), w.cell? ⟨r, j, none⟩ = some (.string l[j])
set_option maxHeartbeats 400000 in
theorem pick_any (g r n cap : Nat) (l : List ByteArray) (w : World) (hd : Drw w g) (h0 : 0 < n) (h1 : n ≤ 1000000) (hl : l.length = n) (hr : TextsAt w g r l) :
    Calls Tryz.prog 119 #[.pointer (some ⟨g, 0, none⟩), .slice (some ⟨r, 0, none⟩) n cap] w fun e w' => ∃ x ∈ l, e = .returned (.string x) ∧ Drw w' g ∧ Save g w w' := by
  go_enter Tryz.func119, Tryz.ntmps119
  go_wp2_with (go_at_call 41; refine (qga g n _ hd (by omega) (by omega)).mono ?_; rintro e w1 ⟨x, rfl, hx0, hx1, hd1, hs1⟩; obtain ⟨k, rfl⟩ := Int.eq_ofNat_of_zero_le hx0; have hkl : k < l.length := (by omega); have hz2 : w1.cell? ⟨r, k, none⟩ = some (.string l[k]) := hs1.cell hr.1 (hr.2 k hkl))
  go_ret
  exact ⟨l[k], List.getElem_mem hkl, rfl, hd1, hs1⟩
theorem qlc (g : Nat) (l : List ByteArray) (w0 w : World) (hd : Drw w g) (hs : Save g w0 w) (h0 : 0 < l.length) (h1 : l.length ≤ 1000000) (cs : Array Value) (hcs : cs = (l.map Value.string).toArray) (n : Nat) (hn : n = l.length) :
    Calls Tryz.prog 119 #[.pointer (some ⟨g, 0, none⟩), .slice (some ⟨w.heap.size, 0, none⟩) n n] (w.alloc (.cells cs 9)) fun e w' => ∃ x ∈ l, e = .returned (.string x) ∧ Drw w' g ∧ Save g w0 w' := by
  have hg := hd.lt
  subst hn hcs
  refine (pick_any g w.heap.size l.length l.length l _ (hd.keep ((Below.refl _ _).alloc (by omega) _)) h0 h1 rfl ⟨by omega, fun j hj => by simp [hj]⟩).mono fun _ _ ⟨x, h1, h2, h3, h4⟩ => ⟨x, h1, h2, h3, (hs.alloc _).trans h4⟩
end Go.Proofs.YtpjpheicldegkaaGreatDoor

namespace Go.Proofs.YtpjpheicldegkaaGreatDoor
open Go Go.RowKit
set_option linter.unusedVariables false

def TyB (W : World) (b : Nat) (t : TypeId) : Prop := ∃ c, W.heap[b]? = some (.cells c t)
theorem TyB.ne {W : World} {b c : Nat} {t e : TypeId} (h : TyB W b t) (k : TyB W c e) (hne : t ≠ e) : b ≠ c := by
  rintro rfl
  obtain ⟨x, hx⟩ := h
  obtain ⟨y, hy⟩ := k
  rw [hx] at hy
  simp only [Option.some.injEq, Obj.cells.injEq] at hy
  exact hne hy.2.1
section
variable {α : Type} [Rec α]
theorem ownsR.ty {W : World} {B : Nat} {e : TypeId} {v : Value} {l : List α} (h : ownsR W B e v l) {r : Nat} (hr : v.ownBlock = some r) : TyB W r e := by
  rcases h.2 with ⟨rfl, _⟩ | ⟨g, cap, cur, rfl, _, hg, _⟩
  · cases hr
  · have e1 : g = r := by simpa [Value.ownBlock] using hr
    subst e1
    exact ⟨_, hg⟩
theorem ownsR.same' {W W' : World} {B e : Nat} {v : Value} {l : List α} (h : ownsR W B e v l) (hs : ∀ r, v.ownBlock = some r → W'.heap[r]? = W.heap[r]?) : ownsR W' B e v l := by
  refine ⟨h.1, ?_⟩
  rcases h.2 with h0 | ⟨g, cap, cur, rfl, hb, hg, hr⟩
  · exact .inl h0
  · exact .inr ⟨g, cap, cur, rfl, hb, (hs g rfl).trans hg, hr⟩
theorem ownsR.save {g : Nat} {W W' : World} {B : Nat} {e : TypeId} {v : Value} {l : List α} (h : ownsR W B e v l) (hs : Save g W W') (hB : g < B) : ownsR W' B e v l :=
  h.same' fun r hr => hs.block r (h.lt r hr).2 (by have := (h.lt r hr).1; omega)
theorem ownsR.apartTy {W : World} {B : Nat} {e t : TypeId} {v : Value} {l : List α} {b : Nat} (h : ownsR W B e v l) (ht : TyB W b t) (hne : t ≠ e) : some b ≠ v.ownBlock := fun hk => (ht.ne (h.ty hk.symm) hne) rfl
end
structure AfT (W : World) (B : Nat) (k : Tk) (t : Ta) : Prop where
  name : k.name = t.name
  pool : k.pool = t.pool
  ret : k.ret = t.ret
  past : k.past = t.past
  after : ownsR W B 9 k.after t.after
structure AfL (W : World) (B : Nat) (ks : List Tk) (ts : List Ta) : Prop where
  len : ks.length = ts.length
  each : ∀ (i : Nat) (k : Tk) (t : Ta), ks[i]? = some k → ts[i]? = some t → AfT W B k t
theorem AfL.of {W : World} {B : Nat} {ks : List Tk} {ts : List Ta} (h : AfL W B ks ts) {k : Tk} (hk : k ∈ ks) : ∃ al : List ByteArray, ownsR W B 9 k.after al := by
  obtain ⟨i, hi⟩ := List.getElem?_of_mem hk
  have hl := (List.getElem?_eq_some_iff.1 hi).1
  obtain ⟨t, ht⟩ : ∃ t, ts[i]? = some t := ⟨_, List.getElem?_eq_getElem (by rw [← h.len]; exact hl)⟩
  exact ⟨_, (h.each i k t hi ht).after⟩
theorem AfL.same {W W' : World} {B : Nat} {ks : List Tk} {ts : List Ta} (h : AfL W B ks ts) (hs : ∀ k ∈ ks, ∀ (al : List ByteArray), ownsR W B 9 k.after al → ∀ r, k.after.ownBlock = some r → W'.heap[r]? = W.heap[r]?) : AfL W' B ks ts :=
  ⟨h.len, fun i k t hk ht => by
    have a := h.each i k t hk ht
    exact ⟨a.name, a.pool, a.ret, a.past, a.after.same' (hs k (List.mem_of_getElem? hk) _ a.after)⟩⟩
theorem AfL.nil (W : World) (B : Nat) : AfL W B [] [] := ⟨rfl, fun i k t h => by simp at h⟩
theorem AfL.snoc {W : World} {B : Nat} {ks : List Tk} {ts : List Ta} (h : AfL W B ks ts) {k : Tk} {t : Ta} (a : AfT W B k t) : AfL W B (ks ++ [k]) (ts ++ [t]) := by
  refine ⟨by simp [h.len], fun i k' t' hk ht => ?_⟩
  by_cases hi : i < ks.length
  · rw [List.getElem?_append_left hi] at hk
    rw [List.getElem?_append_left (by rw [← h.len]; exact hi)] at ht
    exact h.each i k' t' hk ht
  · have := (List.getElem?_eq_some_iff.1 hk).1
    simp at this
    have hi2 : i = ks.length := by omega
    subst hi2
    simp only [List.getElem?_concat_length, Option.some.injEq] at hk
    rw [h.len] at ht
    simp only [List.getElem?_concat_length, Option.some.injEq] at ht
    subst hk ht
    exact a
def Nm4 (W : World) (b : Nat) : Prop := W.heap[b]? = some (.cells #[.string ⟨#[97]⟩, .string ⟨#[98]⟩, .string ⟨#[99]⟩, .string ⟨#[100]⟩] 9)
structure DgS (g D Nn : Nat) (w0 : World) (nm cr : ByteArray) (fr up : Int) (cu : Bool) (tv : Value) (ks : List Tk) (ts : List Ta) (W : World) : Prop where
  drw : Drw W g
  sv : Save g w0 W
  gl : g < w0.heap.size
  dl : w0.heap.size < D
  nl : w0.heap.size ≤ Nn
  res : D6 W w0.heap.size ⟨#[]⟩ ⟨#[]⟩ 0 0 false (.slice none 0 0)
  d : D6 W D nm cr fr up cu tv
  n : Nm4 W Nn
  own : ownsR W w0.heap.size 192 tv ks
  aft : AfL W w0.heap.size ks ts
section
variable {g D Nn : Nat} {w0 W W' : World} {nm cr : ByteArray} {fr up : Int} {cu : Bool} {tv : Value} {ks : List Tk} {ts : List Ta}
theorem DgS.dlt (h : DgS g D Nn w0 nm cr fr up cu tv ks ts W) : D < W.heap.size := h.d.lt
theorem DgS.nlt (h : DgS g D Nn w0 nm cr fr up cu tv ks ts W) : Nn < W.heap.size := (Array.getElem?_eq_some_iff.1 h.n).1
theorem DgS.tyD (h : DgS g D Nn w0 nm cr fr up cu tv ks ts W) : TyB W D 163 := ⟨_, h.d⟩
theorem DgS.tyR (h : DgS g D Nn w0 nm cr fr up cu tv ks ts W) : TyB W w0.heap.size 163 := ⟨_, h.res⟩
theorem DgS.tyN (h : DgS g D Nn w0 nm cr fr up cu tv ks ts W) : TyB W Nn 9 := ⟨_, h.n⟩
theorem Drw.ty {W : World} {g : Nat} (h : Drw W g) : TyB W g 94 := by
  obtain ⟨v, n, i, x, h1, h2, h3, h4, h5, h6, h7⟩ := h
  exact ⟨_, h6⟩
theorem DgS.save (h : DgS g D Nn w0 nm cr fr up cu tv ks ts W) (hs : Save g W W') (hd : Drw W' g) : DgS g D Nn w0 nm cr fr up cu tv ks ts W' :=
  ⟨hd, h.sv.trans hs, h.gl, h.dl, h.nl, (hs.block _ h.res.lt (by have := h.gl; omega)).trans h.res, (hs.block _ h.d.lt (by have := h.gl; have := h.dl; omega)).trans h.d, (hs.block _ h.nlt (by have := h.gl; have := h.nl; omega)).trans h.n, h.own.save hs h.gl,
    h.aft.same fun k hk al h1 r hr => hs.block r (h1.lt r hr).2 (by have := (h1.lt r hr).1; have := h.gl; omega)⟩
theorem DgS.drew (h : DgS g D Nn w0 nm cr fr up cu tv ks ts W) : DgS g D Nn w0 nm cr fr up cu tv ks ts W.drew := h.save (Save.refl _ _).drew (h.drw.keep ((Below.refl _ _).drew))
theorem DgS.drewN (h : DgS g D Nn w0 nm cr fr up cu tv ks ts W) (n : Nat) : DgS g D Nn w0 nm cr fr up cu tv ks ts (W.drewN n) := h.save ((Save.refl _ _).drewN n) (h.drw.keep (bdrewN (Below.refl _ _) n))
theorem DgS.alloc (h : DgS g D Nn w0 nm cr fr up cu tv ks ts W) (o : Obj) : DgS g D Nn w0 nm cr fr up cu tv ks ts (W.alloc o) := h.save ((Save.refl _ _).alloc o) (h.drw.keep ((Below.refl _ _).alloc (by have := h.drw.lt; omega) o))
theorem DgS.len (h : DgS g D Nn w0 nm cr fr up cu tv ks ts W) : ∃ a c, tv = .slice a ks.length c := h.own.slice
theorem tasks_of {W : World} {B : Nat} {tv : Value} {ks : List Tk} {ts : List Ta} (hr : Reads W tv ks) (ha : AfL W B ks ts) : Tasks W tv ts :=
  ⟨ks, hr, ha.len, fun i t ht => by
    have hl := (List.getElem?_eq_some_iff.1 ht).1
    obtain ⟨k, hk⟩ : ∃ k, ks[i]? = some k := ⟨_, List.getElem?_eq_getElem (by rw [ha.len]; exact hl)⟩
    have a := ha.each i k t hk ht
    exact ⟨k, hk, a.name, a.pool, a.ret, a.past, a.after.reads⟩⟩
theorem DgS.tasks (h : DgS g D Nn w0 nm cr fr up cu tv ks ts W) : Tasks W tv ts := tasks_of h.own.reads h.aft
end
structure DgI (g D Nn : Nat) (w0 : World) (nm cr : ByteArray) (fr up : Int) (cu : Bool) (tv : Value) (ks : List Tk) (ts : List Ta) (X : Nat) (xn xp : ByteArray) (xr : Int) (xq : Bool) (av : Value) (al : List ByteArray) (W : World) : Prop where
  o : DgS g D Nn w0 nm cr fr up cu tv ks ts W
  xl : w0.heap.size ≤ X
  x : B5 192 W X (.string xn) (.string xp) (.int .i64 xr) (.bool xq) av
  xt : some X ≠ tv.ownBlock
  lt : ∀ k ∈ ks, ∀ r, k.after.ownBlock = some r → r < X
  nlt : Nn < X
  dlt : D < X
  row : ownsR W X 9 av al
section
variable {g D Nn : Nat} {w0 W W' : World} {nm cr : ByteArray} {fr up : Int} {cu : Bool} {tv : Value} {ks : List Tk} {ts : List Ta} {X : Nat} {xn xp : ByteArray} {xr : Int} {xq : Bool} {av : Value} {al : List ByteArray}
theorem DgI.tyX (h : DgI g D Nn w0 nm cr fr up cu tv ks ts X xn xp xr xq av al W) : TyB W X 192 := ⟨_, h.x⟩
theorem DgI.save (h : DgI g D Nn w0 nm cr fr up cu tv ks ts X xn xp xr xq av al W) (hs : Save g W W') (hd : Drw W' g) : DgI g D Nn w0 nm cr fr up cu tv ks ts X xn xp xr xq av al W' :=
  ⟨h.o.save hs hd, h.xl, (hs.block _ h.x.lt (by have := h.o.gl; have := h.xl; omega)).trans h.x, h.xt, h.lt, h.nlt, h.dlt, h.row.save hs (by have := h.o.gl; have := h.xl; omega)⟩
theorem DgI.drew (h : DgI g D Nn w0 nm cr fr up cu tv ks ts X xn xp xr xq av al W) : DgI g D Nn w0 nm cr fr up cu tv ks ts X xn xp xr xq av al W.drew := h.save (Save.refl _ _).drew (h.o.drw.keep ((Below.refl _ _).drew))
theorem DgI.drewN (h : DgI g D Nn w0 nm cr fr up cu tv ks ts X xn xp xr xq av al W) (n : Nat) : DgI g D Nn w0 nm cr fr up cu tv ks ts X xn xp xr xq av al (W.drewN n) := h.save ((Save.refl _ _).drewN n) (h.o.drw.keep (bdrewN (Below.refl _ _) n))
theorem DgI.alloc (h : DgI g D Nn w0 nm cr fr up cu tv ks ts X xn xp xr xq av al W) (o : Obj) : DgI g D Nn w0 nm cr fr up cu tv ks ts X xn xp xr xq av al (W.alloc o) := h.save ((Save.refl _ _).alloc o) (h.o.drw.keep ((Below.refl _ _).alloc (by have := h.o.drw.lt; omega) o))
theorem DgS.begin (h : DgS g D Nn w0 nm cr fr up cu tv ks ts W) (xn xp : ByteArray) (xr : Int) (xq : Bool) : DgI g D Nn w0 nm cr fr up cu tv ks ts W.heap.size xn xp xr xq (.slice none 0 0) [] (W.alloc (.cells #[.string xn, .string xp, .int .i64 xr, .bool xq, .slice none 0 0] 192)) :=
  ⟨h.alloc _, h.sv.size, B5.new _ _ _ _ _ _ _, fun e => by have := (h.own.lt _ e.symm).2; omega, fun k hk r hr => by
    obtain ⟨al, h1⟩ := h.aft.of hk
    exact (h1.lt r hr).2, h.nlt, h.dlt, qmb _ _ _⟩
theorem DgI.fill {xn0 xp0 : ByteArray} {xr0 : Int} {xq0 : Bool} (h : DgI g D Nn w0 nm cr fr up cu tv ks ts X xn0 xp0 xr0 xq0 (.slice none 0 0) [] W) (xn xp : ByteArray) (xr : Int) (xq : Bool) : DgI g D Nn w0 nm cr fr up cu tv ks ts X xn xp xr xq (.slice none 0 0) [] (set5 W X (.string xn) (.string xp) (.int .i64 xr) (.bool xq) (.slice none 0 0)) := by
  have hgl := h.o.gl
  have hxl := h.xl
  have hdl := h.o.dl
  have hXs := h.x.lt
  have bX : Below X W (set5 W X (.string xn) (.string xp) (.int .i64 xr) (.bool xq) (.slice none 0 0)) := qrc (Below.refl _ _) (Nat.le_refl _) _ _ _ _ _
  have hb : ∀ b, b ≠ X → (set5 W X (.string xn) (.string xp) (.int .i64 xr) (.bool xq) (.slice none 0 0)).heap[b]? = W.heap[b]? := fun b hb => by
    unfold set5
    rw [heap_setCell_other _ ⟨X, 4, none⟩ b _ hb, heap_setCell_other _ ⟨X, 3, none⟩ b _ hb, heap_setCell_other _ ⟨X, 2, none⟩ b _ hb, heap_setCell_other _ ⟨X, 1, none⟩ b _ hb, heap_setCell_other _ ⟨X, 0, none⟩ b _ hb]
  have hT : ∀ r, tv.ownBlock = some r → (set5 W X (.string xn) (.string xp) (.int .i64 xr) (.bool xq) (.slice none 0 0)).heap[r]? = W.heap[r]? := fun r hr' => hb r (fun e => h.xt (by rw [hr']; exact congrArg some e.symm))
  have hd := h.dlt
  have hn := h.nlt
  exact ⟨⟨h.o.drw.keep (bX.mono (by omega)), h.o.sv.qua (bX.mono hxl) (Nat.le_refl _), hgl, hdl, h.o.nl, (hb _ (by omega)).trans h.o.res, (hb _ (by omega)).trans h.o.d, (hb _ (by omega)).trans h.o.n, h.o.own.same' hT, h.o.aft.same fun k hk al h1 r hr' => hb r (by have := h.lt k hk r hr'; omega)⟩, hxl, h.x.set _ _ _ _ _, h.xt, h.lt, h.nlt, h.dlt, qmb _ _ _⟩
theorem DgI.name (h : DgI g D Nn w0 nm cr fr up cu tv ks ts X xn xp xr xq av al W) {v' : Value} {al' : List ByteArray} (hg : W.grownBy W' av.ownBlock) (hr : ownsR W' X 9 v' al') : DgI g D Nn w0 nm cr fr up cu tv ks ts X xn xp xr xq v' al' (W'.setCell ⟨X, 4, none⟩ v') := by
  have hgl := h.o.gl
  have hxl := h.xl
  have hdl := h.o.dl
  have hlo : ∀ b, b < X → some b ≠ av.ownBlock := fun b hb e => by have := (h.row.lt b e.symm).1; omega
  have hXs := h.x.lt
  have hb : ∀ b, b < X → (W'.setCell ⟨X, 4, none⟩ v').heap[b]? = W.heap[b]? := fun b hb => (heap_setCell_other W' ⟨X, 4, none⟩ b _ (by show b ≠ X; omega)).trans (hg.block b (by omega) (hlo b hb))
  have hT : ∀ r, tv.ownBlock = some r → (W'.setCell ⟨X, 4, none⟩ v').heap[r]? = W.heap[r]? := fun r hr' => (heap_setCell_other W' ⟨X, 4, none⟩ r _ (fun e => h.xt (by rw [hr']; exact congrArg some e.symm))).trans (hg.block r (h.o.own.lt r hr').2 (h.row.apartTy (h.o.own.ty hr') (by decide)))
  have hX1 : B5 192 W' X (.string xn) (.string xp) (.int .i64 xr) (.bool xq) av := h.x.grown hg (h.row.apartTy h.tyX (by decide))
  have bX : Below X W (W'.setCell ⟨X, 4, none⟩ v') := ⟨hg.os, hg.tape, hg.output, by have := hg.size; simp; omega, fun k hk => hb k hk⟩
  refine ⟨⟨h.o.drw.keep (bX.mono (by omega)), h.o.sv.qua (bX.mono hxl) (Nat.le_refl _), hgl, hdl, h.o.nl, (hb _ (by have := h.dlt; omega)).trans h.o.res, (hb _ h.dlt).trans h.o.d, (hb _ h.nlt).trans h.o.n, h.o.own.same' hT, h.o.aft.same fun k hk al h1 r hr' => hb r (h.lt k hk r hr')⟩, hxl, hX1.s4 v', h.xt, h.lt, h.nlt, h.dlt, ?_⟩
  exact hr.same' fun r hr' => heap_setCell_other W' ⟨X, 4, none⟩ r _ ((hr.ty hr').ne ⟨_, hX1⟩ (by decide))
theorem DgI.done (h : DgI g D Nn w0 nm cr fr up cu tv ks ts X xn xp xr xq av al W) {v' : Value} (hg : W.grownBy W' tv.ownBlock) (hr : ownsR W' w0.heap.size 192 v' (ks ++ [⟨xn, xp, xr, xq, av⟩])) :
    DgS g D Nn w0 nm cr fr up cu v' (ks ++ [⟨xn, xp, xr, xq, av⟩]) (ts ++ [⟨xn, xp, xr, xq, al⟩]) (W'.setCell ⟨D, 5, none⟩ v') := by
  have hgl := h.o.gl
  have hdl := h.o.dl
  have hDt : TyB W' D 163 := ⟨_, (hg.block D h.o.dlt (h.o.own.apartTy h.o.tyD (by decide))).trans h.o.d⟩
  have hk : ∀ b t, TyB W b t → t ≠ 192 → W'.heap[b]? = W.heap[b]? := fun b t ht hne => by
    obtain ⟨c, hc⟩ := ht
    exact hg.block b (Array.getElem?_eq_some_iff.1 hc).1 (h.o.own.apartTy ⟨c, hc⟩ hne)
  have hs : ∀ b t, TyB W b t → t ≠ 192 → b ≠ D → (W'.setCell ⟨D, 5, none⟩ v').heap[b]? = W.heap[b]? := fun b t ht hne hbD => (heap_setCell_other W' ⟨D, 5, none⟩ b _ hbD).trans (hk b t ht hne)
  have hB : ∀ j, tv.ownBlock = some j → w0.heap.size ≤ j := fun j hj => (h.o.own.lt j hj).1
  have bw : Below w0.heap.size W (W'.setCell ⟨D, 5, none⟩ v') := ⟨hg.os, hg.tape, hg.output, by have := hg.size; have := h.o.sv.size; simp; omega, fun k hk' => (heap_setCell_other W' ⟨D, 5, none⟩ k _ (by show k ≠ D; omega)).trans (hg.block k (by have := h.o.sv.size; omega) (fun e => by have := hB k e.symm; omega))⟩
  refine ⟨h.o.drw.keep (bw.mono (by omega)), h.o.sv.qua bw (Nat.le_refl _), hgl, hdl, h.o.nl, (hs _ _ h.o.tyR (by decide) (by omega)).trans h.o.res, ?_, (hs _ _ h.o.tyN (by decide) (h.o.tyN.ne h.o.tyD (by decide))).trans h.o.n, hr.same' fun r hr' => heap_setCell_other W' ⟨D, 5, none⟩ r _ ((hr.ty hr').ne hDt (by decide)), ?_⟩
  · exact D6.s5 (show D6 W' D nm cr fr up cu tv from (hk D _ h.o.tyD (by decide)).trans h.o.d) v'
  · refine (h.o.aft.same fun k hk' al' b1 r hr' => hs r _ (b1.ty hr') (by decide) ((b1.ty hr').ne h.o.tyD (by decide))).snoc ⟨rfl, rfl, rfl, rfl, ?_⟩
    have b1 : ownsR W w0.heap.size 9 av al := h.row.mono h.xl
    exact b1.same' fun r hr' => hs r _ (b1.ty hr') (by decide) ((b1.ty hr').ne h.o.tyD (by decide))
end
end Go.Proofs.YtpjpheicldegkaaGreatDoor

namespace Go.Proofs.YtpjpheicldegkaaGreatDoor
open Go Go.RowKit
set_option linter.unusedVariables false

def K3 (t : TypeId) (W : World) (b : Nat) (x0 x1 x2 : Value) : Prop := W.heap[b]? = some (.cells #[x0, x1, x2] t)
section
variable {t : TypeId} {W W' : World} {b : Nat} {x0 x1 x2 : Value}
theorem K3.lt (h : K3 t W b x0 x1 x2) : b < W.heap.size := (Array.getElem?_eq_some_iff.1 h).1
theorem K3.on {B : Nat} (h : K3 t W b x0 x1 x2) (hb : Below B W W') (hB : b < B) : K3 t W' b x0 x1 x2 := (hb.block _ hB).trans h
theorem K3.up (h : K3 t W b x0 x1 x2) (hb : Below W.heap.size W W') : K3 t W' b x0 x1 x2 := h.on hb h.lt
theorem K3.save {g : Nat} (h : K3 t W b x0 x1 x2) (hs : Save g W W') (hg : b ≠ g) : K3 t W' b x0 x1 x2 := (hs.block b h.lt hg).trans h
theorem K3.grown {r : Option Nat} (h : K3 t W b x0 x1 x2) (hg : W.grownBy W' r) (hr : some b ≠ r) : K3 t W' b x0 x1 x2 := (hg.block b h.lt hr).trans h
theorem K3.alloc (h : K3 t W b x0 x1 x2) (o : Obj) : K3 t (W.alloc o) b x0 x1 x2 := h.up (ba (Below.refl _ _) _)
theorem K3.fz (h : K3 t W b x0 x1 x2) (k : Nat) : W.frozen? ⟨b, k, none⟩ = false := by simp [World.frozen?, show W.heap[b]? = _ from h]
theorem K3.ty (h : K3 t W b x0 x1 x2) : TyB W b t := ⟨_, h⟩
theorem K3.new (t : TypeId) (W : World) (x0 x1 x2 : Value) : K3 t (W.alloc (.cells #[x0, x1, x2] t)) W.heap.size x0 x1 x2 := by
  show (W.heap.push _)[W.heap.size]? = _
  rw [Array.getElem?_push, if_pos rfl]
theorem K3.far {p : Addr} (h : K3 t W b x0 x1 x2) (hp : p.block ≠ b) (u : Value) : K3 t (W.setCell p u) b x0 x1 x2 := by
  have := h
  unfold K3 at this ⊢
  rw [← this]
  exact heap_setCell_other W p b u (Ne.symm hp)
theorem K3.c0 (h : K3 t W b x0 x1 x2) : W.cell? ⟨b, 0, none⟩ = some x0 := by simp [World.cell?, show W.heap[b]? = _ from h]
theorem K3.s0 (h : K3 t W b x0 x1 x2) (u : Value) : K3 t (W.setCell ⟨b, 0, none⟩ u) b u x1 x2 := by simp [K3, World.setCell, Array.getElem?_modify, show W.heap[b]? = _ from h]
theorem K3.c1 (h : K3 t W b x0 x1 x2) : W.cell? ⟨b, 1, none⟩ = some x1 := by simp [World.cell?, show W.heap[b]? = _ from h]
theorem K3.s1 (h : K3 t W b x0 x1 x2) (u : Value) : K3 t (W.setCell ⟨b, 1, none⟩ u) b x0 u x2 := by simp [K3, World.setCell, Array.getElem?_modify, show W.heap[b]? = _ from h]
theorem K3.c2 (h : K3 t W b x0 x1 x2) : W.cell? ⟨b, 2, none⟩ = some x2 := by simp [World.cell?, show W.heap[b]? = _ from h]
theorem K3.s2 (h : K3 t W b x0 x1 x2) (u : Value) : K3 t (W.setCell ⟨b, 2, none⟩ u) b x0 x1 u := by simp [K3, World.setCell, Array.getElem?_modify, show W.heap[b]? = _ from h]
end

def K8 (t : TypeId) (W : World) (b : Nat) (x0 x1 x2 x3 x4 x5 x6 x7 : Value) : Prop := W.heap[b]? = some (.cells #[x0, x1, x2, x3, x4, x5, x6, x7] t)
section
variable {t : TypeId} {W W' : World} {b : Nat} {x0 x1 x2 x3 x4 x5 x6 x7 : Value}
theorem K8.lt (h : K8 t W b x0 x1 x2 x3 x4 x5 x6 x7) : b < W.heap.size := (Array.getElem?_eq_some_iff.1 h).1
theorem K8.on {B : Nat} (h : K8 t W b x0 x1 x2 x3 x4 x5 x6 x7) (hb : Below B W W') (hB : b < B) : K8 t W' b x0 x1 x2 x3 x4 x5 x6 x7 := (hb.block _ hB).trans h
theorem K8.up (h : K8 t W b x0 x1 x2 x3 x4 x5 x6 x7) (hb : Below W.heap.size W W') : K8 t W' b x0 x1 x2 x3 x4 x5 x6 x7 := h.on hb h.lt
theorem K8.save {g : Nat} (h : K8 t W b x0 x1 x2 x3 x4 x5 x6 x7) (hs : Save g W W') (hg : b ≠ g) : K8 t W' b x0 x1 x2 x3 x4 x5 x6 x7 := (hs.block b h.lt hg).trans h
theorem K8.grown {r : Option Nat} (h : K8 t W b x0 x1 x2 x3 x4 x5 x6 x7) (hg : W.grownBy W' r) (hr : some b ≠ r) : K8 t W' b x0 x1 x2 x3 x4 x5 x6 x7 := (hg.block b h.lt hr).trans h
theorem K8.alloc (h : K8 t W b x0 x1 x2 x3 x4 x5 x6 x7) (o : Obj) : K8 t (W.alloc o) b x0 x1 x2 x3 x4 x5 x6 x7 := h.up (ba (Below.refl _ _) _)
theorem K8.fz (h : K8 t W b x0 x1 x2 x3 x4 x5 x6 x7) (k : Nat) : W.frozen? ⟨b, k, none⟩ = false := by simp [World.frozen?, show W.heap[b]? = _ from h]
theorem K8.ty (h : K8 t W b x0 x1 x2 x3 x4 x5 x6 x7) : TyB W b t := ⟨_, h⟩
theorem K8.new (t : TypeId) (W : World) (x0 x1 x2 x3 x4 x5 x6 x7 : Value) : K8 t (W.alloc (.cells #[x0, x1, x2, x3, x4, x5, x6, x7] t)) W.heap.size x0 x1 x2 x3 x4 x5 x6 x7 := by
  show (W.heap.push _)[W.heap.size]? = _
  rw [Array.getElem?_push, if_pos rfl]
theorem K8.far {p : Addr} (h : K8 t W b x0 x1 x2 x3 x4 x5 x6 x7) (hp : p.block ≠ b) (u : Value) : K8 t (W.setCell p u) b x0 x1 x2 x3 x4 x5 x6 x7 := by
  have := h
  unfold K8 at this ⊢
  rw [← this]
  exact heap_setCell_other W p b u (Ne.symm hp)
theorem K8.c0 (h : K8 t W b x0 x1 x2 x3 x4 x5 x6 x7) : W.cell? ⟨b, 0, none⟩ = some x0 := by simp [World.cell?, show W.heap[b]? = _ from h]
theorem K8.s0 (h : K8 t W b x0 x1 x2 x3 x4 x5 x6 x7) (u : Value) : K8 t (W.setCell ⟨b, 0, none⟩ u) b u x1 x2 x3 x4 x5 x6 x7 := by simp [K8, World.setCell, Array.getElem?_modify, show W.heap[b]? = _ from h]
theorem K8.c1 (h : K8 t W b x0 x1 x2 x3 x4 x5 x6 x7) : W.cell? ⟨b, 1, none⟩ = some x1 := by simp [World.cell?, show W.heap[b]? = _ from h]
theorem K8.s1 (h : K8 t W b x0 x1 x2 x3 x4 x5 x6 x7) (u : Value) : K8 t (W.setCell ⟨b, 1, none⟩ u) b x0 u x2 x3 x4 x5 x6 x7 := by simp [K8, World.setCell, Array.getElem?_modify, show W.heap[b]? = _ from h]
theorem K8.c2 (h : K8 t W b x0 x1 x2 x3 x4 x5 x6 x7) : W.cell? ⟨b, 2, none⟩ = some x2 := by simp [World.cell?, show W.heap[b]? = _ from h]
theorem K8.s2 (h : K8 t W b x0 x1 x2 x3 x4 x5 x6 x7) (u : Value) : K8 t (W.setCell ⟨b, 2, none⟩ u) b x0 x1 u x3 x4 x5 x6 x7 := by simp [K8, World.setCell, Array.getElem?_modify, show W.heap[b]? = _ from h]
theorem K8.c3 (h : K8 t W b x0 x1 x2 x3 x4 x5 x6 x7) : W.cell? ⟨b, 3, none⟩ = some x3 := by simp [World.cell?, show W.heap[b]? = _ from h]
theorem K8.s3 (h : K8 t W b x0 x1 x2 x3 x4 x5 x6 x7) (u : Value) : K8 t (W.setCell ⟨b, 3, none⟩ u) b x0 x1 x2 u x4 x5 x6 x7 := by simp [K8, World.setCell, Array.getElem?_modify, show W.heap[b]? = _ from h]
theorem K8.c4 (h : K8 t W b x0 x1 x2 x3 x4 x5 x6 x7) : W.cell? ⟨b, 4, none⟩ = some x4 := by simp [World.cell?, show W.heap[b]? = _ from h]
theorem K8.s4 (h : K8 t W b x0 x1 x2 x3 x4 x5 x6 x7) (u : Value) : K8 t (W.setCell ⟨b, 4, none⟩ u) b x0 x1 x2 x3 u x5 x6 x7 := by simp [K8, World.setCell, Array.getElem?_modify, show W.heap[b]? = _ from h]
theorem K8.c5 (h : K8 t W b x0 x1 x2 x3 x4 x5 x6 x7) : W.cell? ⟨b, 5, none⟩ = some x5 := by simp [World.cell?, show W.heap[b]? = _ from h]
theorem K8.s5 (h : K8 t W b x0 x1 x2 x3 x4 x5 x6 x7) (u : Value) : K8 t (W.setCell ⟨b, 5, none⟩ u) b x0 x1 x2 x3 x4 u x6 x7 := by simp [K8, World.setCell, Array.getElem?_modify, show W.heap[b]? = _ from h]
theorem K8.c6 (h : K8 t W b x0 x1 x2 x3 x4 x5 x6 x7) : W.cell? ⟨b, 6, none⟩ = some x6 := by simp [World.cell?, show W.heap[b]? = _ from h]
theorem K8.s6 (h : K8 t W b x0 x1 x2 x3 x4 x5 x6 x7) (u : Value) : K8 t (W.setCell ⟨b, 6, none⟩ u) b x0 x1 x2 x3 x4 x5 u x7 := by simp [K8, World.setCell, Array.getElem?_modify, show W.heap[b]? = _ from h]
theorem K8.c7 (h : K8 t W b x0 x1 x2 x3 x4 x5 x6 x7) : W.cell? ⟨b, 7, none⟩ = some x7 := by simp [World.cell?, show W.heap[b]? = _ from h]
theorem K8.s7 (h : K8 t W b x0 x1 x2 x3 x4 x5 x6 x7) (u : Value) : K8 t (W.setCell ⟨b, 7, none⟩ u) b x0 x1 x2 x3 x4 x5 x6 u := by simp [K8, World.setCell, Array.getElem?_modify, show W.heap[b]? = _ from h]
end
end Go.Proofs.YtpjpheicldegkaaGreatDoor

namespace Go.Proofs.YtpjpheicldegkaaGreatDoor
open Go Go.RowKit

def zeroV : Value := .tuple #[.int .i64 0, .agg #[.int .i64 0, .int .i64 0, .string ByteArray.empty], .bool false]
def dAt (s : ByteArray) (a : Nat) : ByteArray := s.extract (a + 1) s.size
theorem dAt_size (s : ByteArray) (a : Nat) : (dAt s a).size ≤ s.size := by
  unfold dAt
  rw [ByteArray.size_extract]
  omega
def okF (s : ByteArray) (i t a : Nat) : Bool := okX i t (kAt s a) (dAt s a) && ((textX i t (kAt s a) (dAt s a)).toList == s.toList)
def finV (s : ByteArray) (i t a : Nat) : Value := if okF s i t a then .tuple #[.int .i64 i, .agg #[.int .i64 t, .int .i64 (kAt s a), .string (dAt s a)], .bool true] else zeroV
def rdV (s : ByteArray) : Value :=
  if (rv s 1).2.2 = true ∧ (rv s (rv s 1).2.1).2.2 = true ∧ (rv s (rv s 1).2.1).2.1 < s.size then finV s (rv s 1).1.toNat (rv s (rv s 1).2.1).1.toNat (rv s (rv s 1).2.1).2.1.toNat else zeroV

theorem rd_good {s t1 t4 : ByteArray} {a1 a2 a3 a4 x2 x3 : Nat} {b1 b2 b3 : Bool} (h1 : takeS s 0 false 1 = (t1, a1, b1)) (h2 : varS s a1 b1 = (x2, a2, b2)) (h3 : varS s a2 b2 = (x3, a3, b3)) (h4 : takeS s a3 b3 1 = (t4, a4, false)) :
    rdV s = finV s x2 x3 a3 ∧ a3 < s.size ∧ t4 = s.extract a3 (a3 + 1) ∧ a4 = a3 + 1 := by
  obtain ⟨rfl, h5, h6, h7⟩ := takeS_ok h4
  obtain ⟨rfl, h8⟩ := varS_ok h3
  obtain ⟨rfl, h9⟩ := varS_ok h2
  obtain ⟨-, h10, -, h11⟩ := takeS_ok h1
  have e1 : a1 = 1 := by omega
  subst e1
  have h9' : rv s 1 = ((x2 : Int), (a2 : Int), true) := h9
  refine ⟨?_, by omega, h6, h7⟩
  unfold rdV
  rw [h9']
  dsimp only
  rw [h8]
  dsimp only
  rw [if_pos ⟨rfl, rfl, by omega⟩]
  simp
theorem rd_bad {s t1 t4 : ByteArray} {a1 a2 a3 a4 x2 x3 : Nat} {b1 b2 b3 : Bool} (h1 : takeS s 0 false 1 = (t1, a1, b1)) (h2 : varS s a1 b1 = (x2, a2, b2)) (h3 : varS s a2 b2 = (x3, a3, b3)) (h4 : takeS s a3 b3 1 = (t4, a4, true)) :
    rdV s = zeroV := by
  unfold rdV
  rw [if_neg]
  rintro ⟨k1, k2, k3⟩
  rcases hr1 : rv s 1 with ⟨X, Y, z⟩
  rw [hr1] at k1 k2 k3
  dsimp only at k1 k2 k3
  subst k1
  obtain ⟨X, Y, rfl, rfl, -, hy, hY⟩ := rv_in hr1
  rcases hr2 : rv s (Y : Int) with ⟨U, V, z⟩
  rw [hr2] at k2 k3
  dsimp only at k2 k3
  subst k2
  obtain ⟨U, V, rfl, rfl, -, hv, hV⟩ := rv_in hr2
  rw [takeS_yes (show 0 + 1 ≤ s.size by omega)] at h1
  simp only [Prod.mk.injEq] at h1
  obtain ⟨-, rfl, rfl⟩ := h1
  rw [varS_yes (show rv s ((0 + 1 : Nat) : Int) = ((X : Int), (Y : Int), true) from hr1)] at h2
  simp only [Prod.mk.injEq] at h2
  obtain ⟨rfl, rfl, rfl⟩ := h2
  rw [varS_yes hr2] at h3
  simp only [Prod.mk.injEq] at h3
  obtain ⟨rfl, rfl, rfl⟩ := h3
  rw [takeS_yes (by omega)] at h4
  simp at h4

theorem take1_any (g : Nat) (s : ByteArray) (a : Nat) (b : Bool) (w : World) (hc : Cur w g s a b) (hs : s.size ≤ 1048576) (ha : a ≤ s.size) :
    Calls Tryz.prog 35 #[.pointer (some ⟨g, 0, none⟩), .int .i64 1] w fun e w' => ∃ (t : ByteArray) (a' : Nat) (b' : Bool), e = .returned (.string t) ∧ takeS s a b 1 = (t, a', b') ∧ a' ≤ s.size ∧ Cur w' g s a' b' ∧ Save g w w' := take_any g s a 1 b w hc hs ha
theorem qvc {fn : Func} {p u v : Tmp} {w : World} {g : Nat} {a b c x y : Value} {tmps : Array Value} (h : fn.results = #[.tmp u, .cell p 59, .tmp v]) (hp : tmps.getD p undef = .pointer (some ⟨g, 0, none⟩)) (hu : tmps.getD u undef = x) (hv : tmps.getD v undef = y) (hb : w.heap[g]? = some (.cells #[a, b, c] 59)) :
    (results fn tmps).run Tryz.prog w = .ok (.tuple #[x, .agg #[a, b, c], y]) w := by
  have hp' : tmps[p]?.getD undef = .pointer (some ⟨g, 0, none⟩) := by simpa using hp
  have hu' : tmps[u]?.getD undef = x := by simpa using hu
  have hv' : tmps[v]?.getD undef = y := by simpa using hv
  obtain ⟨h0, h1, h2, _⟩ := qpa hb
  simp [results, h, hp', hu', hv', h0, h1, h2, asAddr, go_sem]

set_option maxRecDepth 10000 in
set_option maxHeartbeats 4000000 in
theorem specReadEntry_any (s : ByteArray) (w : World) (hs : s.size ≤ 1048576) :
    Calls Tryz.prog 37 #[.string s] w fun e w' => e = .returned (rdV s) ∧ Below w.heap.size w w' := by
  go_enter Tryz.func37, Tryz.ntmps37
  go_wp2_with fail
  refine (take1_any (w.heap.size + 1) s 0 false _ (heap_next _ _ _) hs (Nat.zero_le _)).mono ?_
  rintro e w1 ⟨t1, a1, b1, rfl, ht1, ha1, C1, S1⟩
  have R1 := S1.heap (k := w.heap.size) (by omega) (qvb (qkd _ _) _)
  have B1 := Save.under (B := w.heap.size) (ba (ba (Below.refl _ w) _) _) S1 (by omega) (by simp; omega)
  have HT1 : Hid (takeS s 0 false 1 = (t1, a1, b1)) := ht1
  have C1 : Hid (Cur w1 (w.heap.size + 1) s a1 b1) := C1
  have R1 : Hid (w1.heap[w.heap.size]? = some (.cells #[.int .i64 0, .int .i64 0, .string ByteArray.empty] 59)) := R1
  clear S1 ht1
  go_wp2_with fail
  refine (var_any (w.heap.size + 1) s a1 b1 _ C1.out hs ha1).mono ?_
  rintro e w2 ⟨x2, a2, b2, rfl, ht2, ha2, hx2, C2, S2⟩
  have B2 := Save.under (B := w.heap.size) B1 S2 (by omega) B1.size
  have R2 : Hid (w2.heap[w.heap.size]? = some (.cells #[.int .i64 0, .int .i64 0, .string ByteArray.empty] 59)) := S2.heap (by omega) R1.out
  have HT2 : Hid (varS s a1 b1 = (x2, a2, b2)) := ht2
  have C2 : Hid (Cur w2 (w.heap.size + 1) s a2 b2) := C2
  clear S2 ht2 B1 R1 C1
  have hE := C2.out.lt
  obtain ⟨E, hEq⟩ : ∃ E, w2.heap.size = E := ⟨_, rfl⟩
  rw [hEq] at hE
  go_wp2_with fail
  refine (var_any (w.heap.size + 1) s a2 b2 _ (qvb C2.out _) hs ha2).mono ?_
  rintro e w3 ⟨x3, a3, b3, rfl, ht3, ha3, hx3, C3, S3⟩
  have B3 := Save.under (B := w.heap.size) (ba B2 _) S3 (by omega) (Nat.le_trans B2.size (by simp))
  have R3 : Hid (w3.heap[w.heap.size]? = some (.cells #[.int .i64 0, .int .i64 0, .string ByteArray.empty] 59)) := S3.heap (by omega) (qvb R2.out _)
  have E3 : Hid (w3.heap[E]? = some (.cells #[.int .i64 0, .int .i64 0, .string ByteArray.empty] 59)) := S3.heap (by omega) (by rw [← hEq]; exact qkd _ _)
  have HT3 : Hid (varS s a2 b2 = (x3, a3, b3)) := ht3
  have C3 : Hid (Cur w3 (w.heap.size + 1) s a3 b3) := C3
  clear S3 ht3 B2 R2 C2 hEq
  obtain ⟨e0, e1, e2, ef⟩ := qpa E3.out
  go_wp2_with fail
  refine (take1_any (w.heap.size + 1) s a3 b3 _ (qlb C3.out (p := ⟨E, 0, none⟩) (by show E ≠ w.heap.size + 1; omega) _) hs ha3).mono ?_
  rintro e w4 ⟨t4, a4, b4, rfl, ht4, ha4, C4, S4⟩
  have B4 := Save.under (B := w.heap.size) (B3.setCell (p := ⟨E, 0, none⟩) (by show w.heap.size ≤ E; omega) _) S4 (by omega) (Nat.le_trans B3.size (by simp))
  have R4 : Hid (w4.heap[w.heap.size]? = some (.cells #[.int .i64 0, .int .i64 0, .string ByteArray.empty] 59)) := S4.heap (by omega) (qlb R3.out (p := ⟨E, 0, none⟩) (by show E ≠ w.heap.size; omega) _)
  have E4 : Hid (w4.heap[E]? = some (.cells #[.int .i64 (x3 : Int), .int .i64 0, .string ByteArray.empty] 59)) := S4.heap (by omega) (cur_set0 E3.out _)
  have HT4 : Hid (takeS s a3 b3 1 = (t4, a4, b4)) := ht4
  have C4 : Hid (Cur w4 (w.heap.size + 1) s a4 b4) := C4
  clear S4 ht4 B3 R3 C3 E3 e0 e1 e2 ef
  obtain ⟨e0, e1, e2, ef⟩ := qpa E4.out
  obtain ⟨c0, c1, c2, cf⟩ := qpa C4.out
  obtain ⟨r0, r1, r2, rf⟩ := qpa R4.out
  cases b4 with
  | true =>
    have HZ : Hid (rdV s = zeroV) := rd_bad HT1.out HT2.out HT3.out HT4.out
    go_wp2
    refine bodyPost_ret (qvc (g := w.heap.size) rfl rfl rfl rfl (qmc (qid (cur_set0 R4.out _) _) _)) rfl ⟨by rw [HZ.out]; rfl, ?_⟩
    exact ((B4.setCell (p := ⟨w.heap.size, 0, none⟩) (Nat.le_refl _) _).setCell (p := ⟨w.heap.size, 1, none⟩) (Nat.le_refl _) _).setCell (p := ⟨w.heap.size, 2, none⟩) (Nat.le_refl _) _
  | false =>
    obtain ⟨g1, g2, g3, g4⟩ := rd_good HT1.out HT2.out HT3.out HT4.out
    have G1 : Hid (rdV s = finV s x2 x3 a3) := g1
    have hk0 : 0 < t4.size := by rw [g3, ByteArray.size_extract]; omega
    obtain ⟨k, hk⟩ : ∃ k : Nat, t4[0].toNat = k := ⟨_, rfl⟩
    have hk8 : k < 256 := by rw [← hk]; exact UInt8.toNat_lt _
    obtain ⟨d, hd⟩ : ∃ d, s.extract a4 s.size = d := ⟨_, rfl⟩
    have GK : Hid (kAt s a3 = k) := by
      show kAt s a3 = k
      rw [kAt_in g2, ← hk]
      simp [g3, ByteArray.getElem_extract]
    have GD : Hid (dAt s a3 = d) := by show dAt s a3 = d; rw [← hd, g4]; rfl
    clear g1 g2 g3 g4
    have HM : Hid (d.size ≤ maxLen) := by
      have := dAt_size s a3
      rw [GD.out] at this
      show d.size ≤ maxLen
      unfold maxLen
      omega
    obtain ⟨q, HQ⟩ : ∃ q, Hid (okX x2 x3 k d = q) := ⟨_, rfl⟩
    obtain ⟨u, HU⟩ : ∃ u, Hid (textX x2 x3 k d = u) := ⟨_, rfl⟩
    have HV : Hid (valX x2 x3 k d = .tuple #[.string u, .bool q]) := by show valX _ _ _ d = _; rw [valX, HQ.out, HU.out]
    have HF : Hid (okF s x2 x3 a3 = (q && (u.toList == s.toList))) := by show okF s x2 x3 a3 = _; rw [okF, GK.out, GD.out, HQ.out, HU.out]
    go_wp2_with fail
    have E5 := qmc (qid E4.out (.int .i64 (k : Int))) (.string d)
    have R5 := qlb (qlb R4.out (p := ⟨E, 1, none⟩) (by show E ≠ w.heap.size; omega) (.int .i64 (k : Int))) (p := ⟨E, 2, none⟩) (by show E ≠ w.heap.size; omega) (.string d)
    have B5 := (B4.setCell (p := ⟨E, 1, none⟩) (by show w.heap.size ≤ E; omega) (.int .i64 (k : Int))).setCell (p := ⟨E, 2, none⟩) (by show w.heap.size ≤ E; omega) (.string d)
    obtain ⟨W5, hW5⟩ : ∃ W5, (w4.setCell ⟨E, 1, none⟩ (.int .i64 (k : Int))).setCell ⟨E, 2, none⟩ (.string d) = W5 := ⟨_, rfl⟩
    rw [hW5] at E5 R5 B5 ⊢
    clear hW5 e0 e1 e2 ef c0 c1 c2 cf r0 r1 r2 rf R4 E4 B4 C4 HT1 HT2 HT3 HT4
    refine (specEntryText_any x2 x3 k d W5 HM.out).mono ?_
    rintro e w6 ⟨rfl, hb6⟩
    have B6 := Below.trans B5 (hb6.mono B5.size)
    have E6 : Hid (w6.heap[E]? = some (.cells #[.int .i64 (x3 : Int), .int .i64 (k : Int), .string d] 59)) := heap_on hb6 E5
    have R6 : Hid (w6.heap[w.heap.size]? = some (.cells #[.int .i64 0, .int .i64 0, .string ByteArray.empty] 59)) := heap_on hb6 R5
    clear hb6 E5 R5 B5
    obtain ⟨e0, e1, e2, ef⟩ := qpa E6.out
    obtain ⟨r0, r1, r2, rf⟩ := qpa R6.out
    rw [HV.out]
    cases q with
    | false =>
      have HZ : Hid (rdV s = zeroV) := by show rdV s = zeroV; rw [G1.out, finV, HF.out]; rfl
      go_wp2
      refine bodyPost_ret (qvc (g := w.heap.size) rfl rfl rfl rfl (qmc (qid (cur_set0 R6.out _) _) _)) rfl ⟨by rw [HZ.out]; rfl, ?_⟩
      exact ((B6.setCell (p := ⟨w.heap.size, 0, none⟩) (Nat.le_refl _) _).setCell (p := ⟨w.heap.size, 1, none⟩) (Nat.le_refl _) _).setCell (p := ⟨w.heap.size, 2, none⟩) (Nat.le_refl _) _
    | true =>
      cases hu : (u.toList == s.toList) with
      | false =>
        have HZ : Hid (rdV s = zeroV) := by show rdV s = zeroV; rw [G1.out, finV, HF.out, hu]; rfl
        go_wp2
        refine bodyPost_ret (qvc (g := w.heap.size) rfl rfl rfl rfl (qmc (qid (cur_set0 R6.out _) _) _)) rfl ⟨by rw [HZ.out]; rfl, ?_⟩
        exact ((B6.setCell (p := ⟨w.heap.size, 0, none⟩) (Nat.le_refl _) _).setCell (p := ⟨w.heap.size, 1, none⟩) (Nat.le_refl _) _).setCell (p := ⟨w.heap.size, 2, none⟩) (Nat.le_refl _) _
      | true =>
        have HZ : Hid (rdV s = .tuple #[.int .i64 x2, .agg #[.int .i64 x3, .int .i64 k, .string d], .bool true]) := by
          show rdV s = _
          rw [G1.out, finV, HF.out, hu, GK.out, GD.out]
          rfl
        go_wp2
        go_region
        go_wp2
        have RF := qmc (qid (cur_set0 R6.out (.int .i64 (x3 : Int))) (.int .i64 (k : Int))) (.string d)
        have BF := (((B6.setCell (p := ⟨w.heap.size, 0, none⟩) (Nat.le_refl _) (.int .i64 (x3 : Int))).setCell (p := ⟨w.heap.size, 1, none⟩) (Nat.le_refl _) (.int .i64 (k : Int))).setCell (p := ⟨w.heap.size, 2, none⟩) (Nat.le_refl _) (.string d)).drew
        exact bodyPost_ret (qvc (g := w.heap.size) rfl rfl rfl rfl RF) rfl ⟨by rw [HZ.out]; rfl, BF⟩
end Go.Proofs.YtpjpheicldegkaaGreatDoor

namespace Go.Proofs.YtpjpheicldegkaaGreatDoor
def msk (r : Nat) : Nat := if r % 2 = 1 then 3558460437 else 0
def half (s : Nat) : Nat := s / 2 ^^^ msk s
def half4 (s : Nat) : Nat := half (half (half (half s)))
def half8 (s : Nat) : Nat := half4 (half4 s)
def tab : List Nat := [0x00000000, 0x4589ac8d, 0x8b13591a, 0xce9af597,
  0xbe152a1f, 0xfb9c8692, 0x35067305, 0x708fdf88,
  0xd419cc15, 0x91906098, 0x5f0a950f, 0x1a833982,
  0x6a0ce60a, 0x2f854a87, 0xe11fbf10, 0xa496139d]
def more (s b : Nat) : Nat := half8 (s ^^^ b)
def sumL (s : Nat) (l : List Nat) : Nat := l.foldl more s
end Go.Proofs.YtpjpheicldegkaaGreatDoor

namespace Go.Proofs.YtpjpheicldegkaaGreatDoor
open Go.RowKit

def tabI : List Int := [0, 1166650509, 2333301018, 3466261911, 3189058079, 4221339282, 889615109, 1888477064, 3558460437, 2442158232, 1594529039, 444807554, 1779230218, 797264519, 3776954128, 2761298845]
def TableIs (w : World) : Prop := Lib.TabIs Tryz.prog w "loop.example/g00188/impl.sumTable" .u32 tabI
def tabAt (r : Nat) : Nat := tab.getD r 0
def bl (t : ByteArray) : List Nat := t.data.toList.map UInt8.toNat
def sumTo (s : Nat) (t : ByteArray) (k : Nat) : Nat := sumL s ((bl t).take k)
def sumT (s : Nat) (t : ByteArray) : Nat := sumL s (bl t)
def halfN : Nat → Nat → Nat
  | 0, s => s
  | k + 1, s => half (halfN k s)
end Go.Proofs.YtpjpheicldegkaaGreatDoor

namespace Go.Proofs.YtpjpheicldegkaaGreatDoor
open Go.RowKit

def four (x : Nat) : List Int := [(x : Int) / 16777216, (x : Int) / 65536 % 256, (x : Int) / 256 % 256, (x : Int) % 256]
theorem bstr_size (l : List Int) : (bstr l).size = l.length := by simp [bstr, ByteArray.size]

def tail4 (t : ByteArray) : ByteArray := bstr (four (sumT 4294967295 t))
def sealT (t : ByteArray) : ByteArray := t ++ tail4 t
end Go.Proofs.YtpjpheicldegkaaGreatDoor

namespace Go.Proofs.YtpjpheicldegkaaGreatDoor
open Go.RowKit

theorem varI_length : ∀ (f n : Nat), n ≤ f → (varI n).length ≤ n + 1
  | 0, n, h => by rw [qcb (by omega)]; simp
  | f + 1, n, h => by
    by_cases hn : 127 < n
    · rw [qsb hn]
      have := varI_length f (n / 128) (by omega)
      simp; omega
    · rw [qcb hn]; simp

set_option maxHeartbeats 400000 in
theorem short_ok (s : ByteArray) (w : World) (hs : s.size ≤ 20000) :
    Calls Tryz.prog 51 #[.string s] w fun e w' => e = .returned (.tuple #[.string (bstr (varI s.size) ++ s), .bool true]) ∧ Below w.heap.size w w' := by
  have hadd : ∀ wx, (Op.stringOp .add (bstr (varI s.size)) s).run Tryz.prog wx = .ok (.string (bstr (varI s.size) ++ s)) wx := fun wx => run_string_add_sum wx _ s (by
    have hl := varI_length _ _ (Nat.le_refl s.size)
    have hb := bstr_size (varI s.size)
    omega)
  go_enter Tryz.func51, Tryz.ntmps51
  go_wp2_with (go_at_call 47; refine (qdd _ _ (by omega)).mono ?_; rintro e w1 ⟨rfl, hb1⟩)
  go_ret2
  exact ⟨rfl, hb1⟩

end Go.Proofs.YtpjpheicldegkaaGreatDoor

namespace Go.Proofs.YtpjpheicldegkaaGreatDoor
open Go Go.RowKit
set_option linter.unusedVariables false

def Wb (b : Nat) (s : ByteArray) (w : World) : Prop := LibA.IsBuffer 44 (fun _ => none) 5 b b 0 (Lib.byteCells s.data.toList) w
theorem Wb.lt {b : Nat} {s : ByteArray} {w : World} (h : Wb b s w) : b < w.heap.size := LibA.IsBuffer.lt h
theorem Wb.up {b : Nat} {s : ByteArray} {w w' : World} (h : Wb b s w) (hb : Below w.heap.size w w') : Wb b s w' := LibA.IsBuffer.old h hb
theorem Wb.new (w : World) : Wb w.heap.size ByteArray.empty (w.alloc (.cells #[.slice none 0 0, .int .i64 0, .int .i8 0] 44)) :=
  LibA.zero_isBuffer (lr := 0) (Nat.le_refl _) (LibA.three_whole (by show (w.heap.push _)[w.heap.size]? = _; rw [Array.getElem?_push, if_pos rfl]))
structure Wk (b : Nat) (w w' : World) : Prop where
  below : Below b w w'
  kept : Lib.OthersKept 5 (some b) w w'
theorem Wk.refl (b : Nat) (w : World) : Wk b w w := ⟨Below.refl _ _, Lib.OthersKept.refl _ _ _⟩
theorem Wk.trans {b : Nat} {a c d : World} (h : Wk b a c) (k : Wk b c d) : Wk b a d := ⟨⟨k.below.os.trans h.below.os, k.below.tape.trans h.below.tape, k.below.output.trans h.below.output, Nat.le_trans h.below.size k.below.size, fun q hq => (k.below.block q hq).trans (h.below.block q hq)⟩, h.kept.trans k.kept⟩
theorem Wk.of_below {b : Nat} {w w' : World} (hb : Below w.heap.size w w') (hl : b ≤ w.heap.size) : Wk b w w' :=
  ⟨⟨hb.os, hb.tape, hb.output, hb.size, fun q hq => hb.block q (by omega)⟩, fun k o h _ _ => (hb.block k (Array.getElem?_eq_some_iff.1 h).1).trans h⟩
theorem Wk.row {b g : Nat} {w w' : World} {cs : Array Value} {e : TypeId} {fz : Nat × Nat} (h : Wk b w w') (hg : w.heap[g]? = some (.cells cs e fz)) (hgb : g ≠ b) (he : e ≠ 5) : w'.heap[g]? = some (.cells cs e fz) :=
  h.kept g _ hg (by simpa using hgb) fun c fz' q => by injection q with _ q2; exact he q2
theorem bytes_snoc (s t : ByteArray) : Lib.byteCells s.data.toList ++ Lib.byteCells t.data.toList = Lib.byteCells (s ++ t).data.toList := by
  rw [← Lib.byteCells_append]
  congr 1
theorem bytes_len (s : ByteArray) : (Lib.byteCells s.data.toList).length = s.size := by
  rw [Lib.byteCells_length]
  rfl
theorem writeText_any (b : Nat) (s t : ByteArray) (w : World) (h : Wb b s w) (hl : s.size + t.size ≤ 140737488355328) :
    Calls Tryz.prog 48 #[.pointer (some ⟨b, 0, none⟩), .string t] w fun e w' => e = .returned (.tuple #[.int .i64 t.size, .nilIface]) ∧ Wb b (s ++ t) w' ∧ Wk b w w' := by
  refine (Tryz.Buffer_WriteString_at 44 (fun _ => none) b b 0 _ t w h (Nat.le_of_lt h.lt) (Lib.byteCells_one _) (by rw [bytes_len]; exact hl)).mono ?_
  rintro e w' ⟨rfl, h1, h2, h3⟩
  refine ⟨rfl, ?_, h2, h3⟩
  rw [bytes_snoc] at h1
  exact h1
theorem bstr_one (c : Int) (h0 : 0 ≤ c) (h1 : c ≤ 255) : (bstr [c]).data.toList = [c.toNat.toUInt8] := by
  unfold bstr
  simp
theorem writeByte_any (b : Nat) (s : ByteArray) (c : Int) (w : World) (h : Wb b s w) (h0 : 0 ≤ c) (h1 : c ≤ 255) (hl : s.size + 1 ≤ 140737488355328) :
    Calls Tryz.prog 46 #[.pointer (some ⟨b, 0, none⟩), .int .u8 c] w fun e w' => e = .returned .nilIface ∧ Wb b (s ++ bstr [c]) w' ∧ Wk b w w' := by
  refine (Tryz.Buffer_WriteByte_at 44 (fun _ => none) b b 0 _ c w h (Nat.le_of_lt h.lt) (Lib.byteCells_one _) (by rw [bytes_len]; exact hl)).mono ?_
  rintro e w' ⟨rfl, h1', h2, h3⟩
  refine ⟨rfl, ?_, h2, h3⟩
  have e2 : Lib.byteCells (bstr [c]).data.toList = [.int .u8 c] := by
    rw [bstr_one c h0 h1]
    simp only [Lib.byteCells, List.map_cons, List.map_nil]
    congr 2
    have : c.toNat < 256 := by omega
    simp [Nat.toUInt8]
    omega
  rw [← e2, bytes_snoc] at h1'
  exact h1'
def numS : List Int → ByteArray
  | [] => ByteArray.empty
  | n :: l => bstr (varI n.toNat) ++ numS l
theorem numS_snoc : ∀ (l : List Int) (n : Int), numS (l ++ [n]) = numS l ++ bstr (varI n.toNat)
  | [], n => by simp [numS]
  | m :: l, n => by simp [numS, numS_snoc l n, ByteArray.append_assoc]
theorem numS_take {l : List Int} {k : Nat} {n : Int} (h : l[k]? = some n) : numS (l.take (k + 1)) = numS (l.take k) ++ bstr (varI n.toNat) := by
  rw [List.take_add_one, h]
  exact numS_snoc _ _
theorem numS_size : ∀ (l : List Int), (∀ n ∈ l, n ≤ 1000000000) → (numS l).size ≤ l.length * 1000000001
  | [], _ => Nat.zero_le _
  | n :: l, h => by
    have h1 := numS_size l fun m hm => h m (List.mem_cons_of_mem _ hm)
    have h2 := qxb n.toNat
    have h3 := h n List.mem_cons_self
    simp only [numS, ByteArray.size_append, List.length_cons]
    omega
set_option maxRecDepth 10000 in
set_option maxHeartbeats 2000000 in
theorem numbers_any (b g m : Nat) (ns : List Int) (fz : Nat × Nat) (s : ByteArray) (w : World) (h : Wb b s w) (hg : w.heap[g]? = some (.cells (ns.map fun n => Value.int .i64 n).toArray 3 fz)) (hgb : g ≠ b) (hn : ∀ n ∈ ns, 0 ≤ n ∧ n ≤ 1000000000) (hm : ns.length = m) (hm8 : m ≤ 8) (hs : s.size ≤ 100000000000000) :
    Calls Tryz.prog 16 #[.pointer (some ⟨b, 0, none⟩), .slice (some ⟨g, 0, none⟩) m m] w fun e w' => e = .returned (.tuple #[]) ∧ Wb b (s ++ numS ns) w' ∧ Wk b w w' := by
  have HN : Hid (∀ n ∈ ns, 0 ≤ n ∧ n ≤ 1000000000) := hn
  have HM : Hid (ns.length = m) := hm
  have HG : Hid (w.heap[g]? = some (.cells (ns.map fun n => Value.int .i64 n).toArray 3 fz)) := hg
  have HB : Hid (Wb b s w) := h
  have hbl := h.lt
  clear h hn hm hg
  go_enter Tryz.func16, Tryz.ntmps16
  go_wp2
  go_loopw [10] (fun i wr => ∃ k : Nat, k ≤ m ∧ i = .int .i64 k ∧ Hid (Wb b (s ++ numS (ns.take k)) wr) ∧ Hid (Wk b w wr)) (fun i _ => m - (intOf i).toNat)
  case atStart => exact ⟨0, Nat.zero_le _, rfl, (by show Wb _ _ _; simpa [numS] using HB.out), Wk.refl _ _⟩
  case round =>
    obtain ⟨k, hk, rfl, HW, HK⟩ := hrel
    by_cases hlt : k < m
    · obtain ⟨n, hn⟩ : ∃ n, ns[k]? = some n := ⟨_, List.getElem?_eq_getElem (by rw [HM.out]; exact hlt)⟩
      have hn2 := HN.out n (List.mem_of_getElem? hn)
      have hgr := HK.out.row HG.out hgb (by decide)
      have c0 : wr.cell? ⟨g, k, none⟩ = some (.int .i64 n) := by simp [World.cell?, hgr, hn]
      have hglt : g < wr.heap.size := (Array.getElem?_eq_some_iff.1 hgr).1
      have HT : Hid (numS (ns.take (k + 1)) = numS (ns.take k) ++ bstr (varI n.toNat)) := numS_take hn
      have HZ : Hid ((s ++ numS (ns.take k)).size + (bstr (varI n.toNat)).size ≤ 140737488355328) := by
        have h1 := numS_size (ns.take k) fun x hx => (HN.out x (List.mem_of_mem_take hx)).2
        have h2 := qxb n.toNat
        have h3 : (ns.take k).length ≤ 8 := by simp; omega
        show _ ≤ _
        rw [ByteArray.size_append]
        omega
      obtain ⟨T, HTT⟩ : ∃ T : ByteArray, Hid (bstr (varI n.toNat) = T) := ⟨_, rfl⟩
      have HV : Hid (∀ W, Calls Tryz.prog 47 #[.int .i64 n] W fun e w' => e = .returned (.tuple #[.string T, .bool true]) ∧ Below W.heap.size W w') := fun W => by
        have := qdd n.toNat W (by omega)
        rw [HTT.out, show ((n.toNat : Nat) : Int) = n by omega] at this
        exact this
      clear hn hgr
      go_wp2_with fail
      refine (HV.out _).mono ?_
      rintro e w1 ⟨rfl, hb1⟩
      have HW1 : Hid (Wb b (s ++ numS (ns.take k)) w1) := HW.out.up hb1
      have HK1 : Hid (Wk b w w1) := HK.out.trans (Wk.of_below hb1 (Nat.le_of_lt HW.out.lt))
      clear c0 hb1
      go_wp2_with fail
      refine (writeText_any b _ T _ HW1.out (by rw [← HTT.out]; exact HZ.out)).mono ?_
      rintro e w2 ⟨rfl, h2, k2⟩
      have HW2 : Hid (Wb b (s ++ numS (ns.take (k + 1))) w2) := by
        show Wb _ _ _
        rw [HT.out, HTT.out, ← ByteArray.append_assoc]
        exact h2
      have HK2 : Hid (Wk b w w2) := HK1.out.trans k2
      clear h2 k2
      go_wp2
      go_roundw
      case rel => exact ⟨k + 1, by omega, by go_num, HW2, HK2⟩
      case measure => simp [intOf]; omega
    · have he : ns.take k = ns := List.take_of_length_le (by rw [HM.out]; omega)
      go_wp2
      refine bodyPost_end (results_none rfl _ _ _) rfl ?_
      refine ⟨rfl, ?_, HK.out⟩
      have := HW.out
      rw [he] at this
      exact this
def shoS : List ByteArray → ByteArray
  | [] => ByteArray.empty
  | n :: l => qsa n ++ shoS l
theorem shoS_snoc : ∀ (l : List ByteArray) (n : ByteArray), shoS (l ++ [n]) = shoS l ++ qsa n
  | [], n => by simp [shoS]
  | m :: l, n => by simp [shoS, shoS_snoc l n, ByteArray.append_assoc]
theorem shoS_take {l : List ByteArray} {k : Nat} {n : ByteArray} (h : l[k]? = some n) : shoS (l.take (k + 1)) = shoS (l.take k) ++ qsa n := by
  rw [List.take_add_one, h]
  exact shoS_snoc _ _
theorem qwb (s : ByteArray) : (qsa s).size ≤ 2 * s.size + 1 := by
  unfold qsa
  rw [ByteArray.size_append]
  have := qxb s.size
  omega
theorem shoS_size : ∀ (l : List ByteArray), (∀ n ∈ l, n.size ≤ 20000) → (shoS l).size ≤ l.length * 40001
  | [], _ => Nat.zero_le _
  | n :: l, h => by
    have h1 := shoS_size l fun m hm => h m (List.mem_cons_of_mem _ hm)
    have h2 := qwb n
    have h3 := h n List.mem_cons_self
    simp only [shoS, ByteArray.size_append, List.length_cons]
    omega
set_option maxRecDepth 10000 in
set_option maxHeartbeats 2000000 in
theorem shorts_any (b g m : Nat) (ns : List ByteArray) (fz : Nat × Nat) (s : ByteArray) (w : World) (h : Wb b s w) (hg : w.heap[g]? = some (.cells (ns.map fun n => Value.string n).toArray 9 fz)) (hgb : g ≠ b) (hn : ∀ n ∈ ns, n.size ≤ 20000) (hm : ns.length = m) (hm8 : m ≤ 8) (hs : s.size ≤ 100000000000000) :
    Calls Tryz.prog 20 #[.pointer (some ⟨b, 0, none⟩), .slice (some ⟨g, 0, none⟩) m m] w fun e w' => e = .returned (.tuple #[]) ∧ Wb b (s ++ shoS ns) w' ∧ Wk b w w' := by
  have HN : Hid (∀ n ∈ ns, n.size ≤ 20000) := hn
  have HM : Hid (ns.length = m) := hm
  have HG : Hid (w.heap[g]? = some (.cells (ns.map fun n => Value.string n).toArray 9 fz)) := hg
  have HB : Hid (Wb b s w) := h
  have hbl := h.lt
  clear h hn hm hg
  go_enter Tryz.func20, Tryz.ntmps20
  go_wp2
  go_loopw [10] (fun i wr => ∃ k : Nat, k ≤ m ∧ i = .int .i64 k ∧ Hid (Wb b (s ++ shoS (ns.take k)) wr) ∧ Hid (Wk b w wr)) (fun i _ => m - (intOf i).toNat)
  case atStart => exact ⟨0, Nat.zero_le _, rfl, (by show Wb _ _ _; simpa [shoS] using HB.out), Wk.refl _ _⟩
  case round =>
    obtain ⟨k, hk, rfl, HW, HK⟩ := hrel
    by_cases hlt : k < m
    · obtain ⟨n, hn⟩ : ∃ n, ns[k]? = some n := ⟨_, List.getElem?_eq_getElem (by rw [HM.out]; exact hlt)⟩
      have hn2 := HN.out n (List.mem_of_getElem? hn)
      have hgr := HK.out.row HG.out hgb (by decide)
      have c0 : wr.cell? ⟨g, k, none⟩ = some (.string n) := by simp [World.cell?, hgr, hn]
      have hglt : g < wr.heap.size := (Array.getElem?_eq_some_iff.1 hgr).1
      have HT : Hid (shoS (ns.take (k + 1)) = shoS (ns.take k) ++ qsa n) := shoS_take hn
      have HZ : Hid ((s ++ shoS (ns.take k)).size + (qsa n).size ≤ 140737488355328) := by
        have h1 := shoS_size (ns.take k) fun x hx => HN.out x (List.mem_of_mem_take hx)
        have h2 := qwb n
        have h3 : (ns.take k).length ≤ 8 := by simp; omega
        show _ ≤ _
        rw [ByteArray.size_append]
        omega
      obtain ⟨T, HTT⟩ : ∃ T : ByteArray, Hid (qsa n = T) := ⟨_, rfl⟩
      have HV : Hid (∀ W, Calls Tryz.prog 51 #[.string n] W fun e w' => e = .returned (.tuple #[.string T, .bool true]) ∧ Below W.heap.size W w') := fun W => by
        have := short_ok n W hn2
        rw [show bstr (varI n.size) ++ n = T from HTT.out] at this
        exact this
      clear hn hgr
      go_wp2_with fail
      refine (HV.out _).mono ?_
      rintro e w1 ⟨rfl, hb1⟩
      have HW1 : Hid (Wb b (s ++ shoS (ns.take k)) w1) := HW.out.up hb1
      have HK1 : Hid (Wk b w w1) := HK.out.trans (Wk.of_below hb1 (Nat.le_of_lt HW.out.lt))
      clear c0 hb1
      go_wp2_with fail
      refine (writeText_any b _ T _ HW1.out (by rw [← HTT.out]; exact HZ.out)).mono ?_
      rintro e w2 ⟨rfl, h2, k2⟩
      have HW2 : Hid (Wb b (s ++ shoS (ns.take (k + 1))) w2) := by
        show Wb _ _ _
        rw [HT.out, HTT.out, ← ByteArray.append_assoc]
        exact h2
      have HK2 : Hid (Wk b w w2) := HK1.out.trans k2
      clear h2 k2
      go_wp2
      go_roundw
      case rel => exact ⟨k + 1, by omega, by go_num, HW2, HK2⟩
      case measure => simp [intOf]; omega
    · have he : ns.take k = ns := List.take_of_length_le (by rw [HM.out]; omega)
      go_wp2
      refine bodyPost_end (results_none rfl _ _ _) rfl ?_
      refine ⟨rfl, ?_, HK.out⟩
      have := HW.out
      rw [he] at this
      exact this
set_option maxHeartbeats 1000000 in
theorem qpe (b : Nat) (s : ByteArray) (n : Int) (w : World) (h : Wb b s w) (h0 : 0 ≤ n) (h1 : n ≤ 255) (hs : s.size ≤ 100000000000000) :
    Calls Tryz.prog 15 #[.pointer (some ⟨b, 0, none⟩), .int .i64 n] w fun e w' => e = .returned (.tuple #[]) ∧ Wb b (s ++ bstr [n]) w' ∧ Wk b w w' := by
  have HB : Hid (Wb b s w) := h
  have hbl := h.lt
  have hw : IntKind.u8.wrap n = n := by simp [IntKind.wrap, IntKind.bits, IntKind.signed]; omega
  clear h
  go_enter Tryz.func15, Tryz.ntmps15
  go_wp2_with fail
  refine (writeByte_any b s n w HB.out h0 h1 (by omega)).mono ?_
  rintro e w1 ⟨rfl, h2, k2⟩
  go_wp2
  refine bodyPost_end (results_none rfl _ _ _) rfl ?_
  exact ⟨rfl, h2, k2⟩
set_option maxHeartbeats 1000000 in
theorem flagW_any (b : Nat) (s : ByteArray) (f : Bool) (w : World) (h : Wb b s w) (hs : s.size ≤ 100000000000000) :
    Calls Tryz.prog 17 #[.pointer (some ⟨b, 0, none⟩), .bool f] w fun e w' => e = .returned (.tuple #[]) ∧ Wb b (s ++ flagS f) w' ∧ Wk b w w' := by
  have HB : Hid (Wb b s w) := h
  clear h
  cases f with
  | false =>
    go_enter Tryz.func17, Tryz.ntmps17
    go_wp2_with fail
    refine (qpe b s 0 w HB.out (by decide) (by decide) hs).mono ?_
    rintro e w1 ⟨rfl, h2, k2⟩
    go_wp2
    refine bodyPost_end (results_none rfl _ _ _) rfl ?_
    exact ⟨rfl, h2, k2⟩
  | true =>
    go_enter Tryz.func17, Tryz.ntmps17
    go_wp2_with fail
    refine (qpe b s 1 w HB.out (by decide) (by decide) hs).mono ?_
    rintro e w1 ⟨rfl, h2, k2⟩
    go_wp2
    refine bodyPost_end (results_none rfl _ _ _) rfl ?_
    exact ⟨rfl, h2, k2⟩
end Go.Proofs.YtpjpheicldegkaaGreatDoor

namespace Go.Proofs.YtpjpheicldegkaaGreatDoor
open Go Go.RowKit

theorem pk_two {P : Program} {l : List Oper} {Q : Exit → Act → World → Prop} {C : World → Prop} {R : Act → World → Prop} {L listed : Array Bool} {fuel i j : Nat} {o p : Oper} {a : Act} {w : World} (hr : Region.ready .any l.toArray listed = [i, j]) (ho : l[i]? = some o) (hp : l[j]? = some p) (hg : o.guard = none) (hgp : p.guard = none)
    (h : ∀ K : Act → World → Prop, Hid (∀ a' w', C w' → qhb P .any l.toArray Q C L R fuel (listed.setIfInBounds i true) a' w' → K a' w') → wpList P l.toArray (Exit.then K Q) [o] a w)
    (h' : ∀ K : Act → World → Prop, Hid (∀ a' w', C w' → qhb P .any l.toArray Q C L R fuel (listed.setIfInBounds j true) a' w' → K a' w') → wpList P l.toArray (Exit.then K Q) [p] a w) : qhb P .any l.toArray Q C L R (fuel + 1) listed a w := wpAnyU_two hr (by simpa using ho) (by simpa using hp) hg hgp h h'
def moreB9 (ops : Array Oper) (L listed : Array Bool) (ts : List Nat) (m : Nat) : Bool :=
  Region.noSelect ops && (Region.ready .any ops L).all (· == m) && qfe .any ops m && takesB .any ops ts listed && ts.all (fun k => decide (k < m))
theorem qqa {P : Program} {l : List Oper} {Q : Exit → Act → World → Prop} {C : World → Prop} {R : Act → World → Prop} {L listed : Array Bool} {a : Act} {w : World} (ts : List Nat) (m fuel : Nat) (hw : C w) (hB : moreB9 l.toArray L listed ts m = true) (hQ : ∀ c a d v w, Q (.panic c) (Act.put a d v) w → Q (.panic c) a w)
    (h : wpTakes P l.toArray C (fun a' => qhb P .any l.toArray Q C L R fuel (takesL ts listed) a' w) ts a) : qhb P .any l.toArray Q C L R (fuel + ts.length) listed a w := by
  simp only [moreB9, Bool.and_eq_true] at hB
  obtain ⟨⟨⟨⟨h1, h2⟩, h3⟩, h4⟩, h6⟩ := hB
  exact wpAnyU_takes (P := P) (Q := Q) (C := C) (md := .any) hw h1 hQ (fun j hj => by
    rw [List.all_eq_true] at h2
    simpa using h2 j hj) h3 fuel ts listed a (fun k hk => by
      rw [List.all_eq_true] at h6
      simpa using h6 k hk) h4 h
end Go.Proofs.YtpjpheicldegkaaGreatDoor

namespace Go.Proofs.YtpjpheicldegkaaGreatDoor
open Go Go.RowKit
set_option linter.unusedVariables false

theorem size_setCells' (b : Nat) : ∀ (vs : List Value) (o : Nat) (w : World), (w.setCells b o vs).heap.size = w.heap.size
  | [], _, _ => rfl
  | v :: r, o, w => by
    show ((w.setCell ⟨b, o, none⟩ v).setCells b (o + 1) r).heap.size = _
    rw [size_setCells' b r]
    simp
theorem grown_setCells (b : Nat) : ∀ (vs : List Value) (o : Nat) (w : World), w.grownBy (w.setCells b o vs) (some b)
  | [], _, w => grown_refl _ _
  | v :: r, o, w => grown_trans (grown_set w b o v) (grown_setCells b r (o + 1) _)
open Rec in
theorem run_append_cut {α : Type} [Rec α] {P : Program} (w : World) {B : Nat} {e t ty : TypeId} {z : Value} {bytes : Nat} (ht : P.underlying t = some (.slice e)) (hi : (P.info? e).map (fun i => (i.zero, i.size, i.bytes)) = some (some z, width α, bytes)) (hz : z.cells.size = width α)
    {r n cap : Nat} {k0 : α} {l : List α} (hown : ownsR w B e (.slice (some ⟨r, 0, none⟩) (n + 1) cap) (k0 :: l)) (b c : Nat) (x : α) (hc : ∀ j u, (cells x)[j]? = some u → w.cell? ⟨b, j, none⟩ = some u ∧ u.oneCell' = true)
    (hlen : l.length ≤ 1048576) (hby : bytes ≤ 134217000) :
    ∃ v' w', (Builtin.append_ #[t, t] ty #[.slice (some ⟨r, width α, none⟩) n (cap - 1), .slice (some ⟨b, 0, none⟩) 1 c]).run P w = .ok v' w' ∧ Reads w' v' (l ++ [x]) ∧ w.grownBy w' (some r) ∧ (∀ a m d, v' = .slice (some a) m d → a.block = r ∨ w.heap.size ≤ a.block) := by
  obtain ⟨i0, hi0, hz0, hz1, hz2⟩ := info_parts hi
  have hnl : n = l.length := by
    have := hown.reads.len
    simpa using this
  have hw0 : 0 < width α := Rec.pos
  have hnews : ∀ j u, (cells x)[j]? = some u → w.cell? ((⟨b, 0, none⟩ : Addr).add j) = some u := fun j u hj => by
    have := (hc j u hj).1
    by_cases h0 : j = 0
    · subst h0; simpa [Addr.add] using this
    · simpa [Addr.add, h0] using this
  have hone : ∀ u ∈ cells x, u.oneCell' = true := fun u hu => by
    obtain ⟨j, hj⟩ := List.getElem?_of_mem hu
    exact (hc j u hj).2
  obtain ⟨hrl, hrB⟩ : r < w.heap.size ∧ B ≤ r := by
    have := hown.at (i := 0) rfl
    exact ⟨this.1, this.2.1⟩
  have hold : ∀ i y, l[i]? = some y → ∀ j u, (cells y)[j]? = some u → w.cell? ⟨r, width α + i * width α + j, none⟩ = some u := fun i y hy j u hu => by
    have h1 := (hown.at (i := i + 1) (by rw [List.getElem?_cons_succ]; exact hy)).2.2.2 j (by rw [← Rec.len y]; exact (List.getElem?_eq_some_iff.1 hu).1)
    rw [show (i + 1) * width α + j = width α + i * width α + j by rw [Nat.add_mul]; omega] at h1
    exact h1.1.trans hu
  obtain ⟨h1, h2⟩ := hown
  rcases h2 with ⟨he, _⟩ | ⟨g, cap', cur, he, hb, hg, hcap, hcm, hcs, htk⟩
  · simp at he
  · simp only [Value.slice.injEq, Option.some.injEq, Addr.mk.injEq] at he
    obtain ⟨⟨rfl, _⟩, hn2, rfl⟩ := he
    have hll : (k0 :: l).length = n + 1 := by simp [hnl]
    rw [hll] at hcap
    have hcell : ∀ o, o < cap * width α → (w.cell? ⟨r, o, none⟩).isSome = true := fun o ho => by
      rw [show w.cell? ⟨r, o, none⟩ = cur[o]? by simp [World.cell?, hg]]
      rw [Array.getElem?_eq_getElem (by omega)]
      rfl
    by_cases hroom : n + 1 + 1 ≤ cap
    · have hsz : n * width α + width α + width α ≤ cap * width α := by
        have := Nat.mul_le_mul_right (width α) hroom
        rw [Nat.add_mul, Nat.add_mul] at this
        omega
      have hr := run_append_room_cells (P := P) w t ty e i0 ht hi0 r (width α) n (cap - 1) ⟨b, 0, none⟩ 1 c (cells x) (by rw [Rec.len, hz1]; simp) hnews hone (by omega)
        (fun j hj => hcell _ (by rw [Rec.len] at hj; rw [hz1]; omega)) (fun j hj => by simp [World.frozen?, hg])
      rw [hz1] at hr
      refine ⟨_, _, hr, ⟨some ⟨r, width α, none⟩, cap - 1, by simp [hnl], fun _ => ⟨r, width α, rfl, ?_, fun i y hy j u hu => ?_⟩⟩, ?_, fun a m d ha => ?_⟩
      · rw [size_setCells']; exact hrl
      · have hjw : j < width α := by rw [← Rec.len y]; exact (List.getElem?_eq_some_iff.1 hu).1
        by_cases hil : i < l.length
        · rw [List.getElem?_append_left hil] at hy
          rw [World.cell?_setCells_out r (cells x) _ w ⟨r, width α + i * width α + j, none⟩ (fun _ _ => .inl ?_)]
          · exact hold i y hy j u hu
          · show width α + i * width α + j < width α + n * width α
            have : (i + 1) * width α ≤ n * width α := Nat.mul_le_mul_right _ (by omega)
            rw [Nat.add_mul] at this
            omega
        · have hil2 : i = l.length := by
            have := (List.getElem?_eq_some_iff.1 hy).1
            simp at this
            omega
          subst hil2
          simp only [List.getElem?_concat_length, Option.some.injEq] at hy
          subst hy
          have hin := World.cell?_setCells_in r (cells x) (width α + n * width α) w (fun q hq => hcell _ (by rw [Rec.len] at hq; omega)) j (by rw [Rec.len]; exact hjw)
          rw [hnl] at hin ⊢
          rw [hin]
          exact (List.getElem?_eq_getElem _).symm.trans hu
      · exact grown_setCells r _ _ w
      · simp only [Value.slice.injEq, Option.some.injEq] at ha
        rw [← ha.1]
        exact .inl rfl
    · have hcapn : cap = n + 1 := by omega
      have hbytes : (n + 1) * bytes ≤ 140737488355328 := by
        have : (n + 1) * bytes ≤ 1048577 * 134217000 := Nat.mul_le_mul (by omega) hby
        omega
      have hol : ∀ j u, (l.flatMap cells)[j]? = some u → w.cell? ((⟨r, width α, none⟩ : Addr).add j) = some u := fun j u hj => by
        have hd := Nat.div_add_mod j (width α)
        have hq : j % width α < width α := Nat.mod_lt _ hw0
        have hf := flat_at l (j / width α) (j % width α) hq
        rw [show j / width α * width α + j % width α = j by rw [Nat.mul_comm]; exact hd, hj] at hf
        cases hy : l[j / width α]? with
        | none => rw [hy] at hf; cases hf
        | some y =>
          rw [hy] at hf
          have hu := hold _ y hy (j % width α) u hf.symm
          rw [show width α + j / width α * width α + j % width α = width α + j by rw [Nat.mul_comm (j / width α)]; omega] at hu
          by_cases h0 : j = 0
          · subst h0; simpa [Addr.add] using hu
          · simpa [Addr.add, h0] using hu
      obtain ⟨v', w', hr, ho, hgw⟩ := run_append_arg_grows (P := P) w t ty e i0 z (width α) bytes ht hi0 hz0 hz1 hz2 hz hw0 ⟨r, width α, none⟩ n (cap - 1) (l.flatMap cells) (by rw [flat_length, hnl]) hol ⟨b, 0, none⟩ 1 c (cells x) (by rw [Rec.len]; simp) hnews (by omega) (by unfold maxLen; omega) hbytes
      have ho2 : ownsR w' w.heap.size e v' (l ++ [x]) := by
        unfold ownsR
        rw [List.flatMap_append, List.length_append, ← hnl]
        simpa using ho
      refine ⟨v', w', hr, ho2.reads, ⟨hgw.os, hgw.tape, hgw.output, hgw.size, fun k hk' _ => hgw.block k hk' (by simp)⟩, fun a m d ha => ?_⟩
      subst ha
      exact .inr (ho2.lt a.block rfl).1
structure DgE (g D : Nat) (w0 : World) (nm cr : ByteArray) (fr up : Int) (cu : Bool) (tv : Value) (ks : List Tk) (ts : List Ta) (W : World) : Prop where
  drw : Drw W g
  sv : Save g w0 W
  gl : g < w0.heap.size
  dl : w0.heap.size < D
  res : D6 W w0.heap.size ⟨#[]⟩ ⟨#[]⟩ 0 0 false (.slice none 0 0)
  d : D6 W D nm cr fr up cu tv
  rd : Reads W tv ks
  at' : ∀ a m c, tv = .slice (some a) m c → w0.heap.size ≤ a.block ∧ a.block ≠ w0.heap.size
  aft : AfL W w0.heap.size ks ts
theorem DgS.ends {g D Nn : Nat} {w0 W : World} {nm cr : ByteArray} {fr up : Int} {cu : Bool} {tv : Value} {ks : List Tk} {ts : List Ta} (h : DgS g D Nn w0 nm cr fr up cu tv ks ts W) : DgE g D w0 nm cr fr up cu tv ks ts W :=
  ⟨h.drw, h.sv, h.gl, h.dl, h.res, h.d, h.own.reads, fun a m c e => by
    subst e
    exact ⟨(h.own.lt a.block rfl).1, (h.own.ty (r := a.block) rfl).ne h.tyR (by decide)⟩, h.aft⟩
abbrev set6g (W : World) (b : Nat) (u0 u1 u2 u3 u4 u5 : Value) : World := (((((W.setCell ⟨b, 0, none⟩ u0).setCell ⟨b, 1, none⟩ u1).setCell ⟨b, 2, none⟩ u2).setCell ⟨b, 3, none⟩ u3).setCell ⟨b, 4, none⟩ u4).setCell ⟨b, 5, none⟩ u5
theorem set6g_other (W : World) (b : Nat) (u0 u1 u2 u3 u4 u5 : Value) {k : Nat} (h : k ≠ b) : (set6g W b u0 u1 u2 u3 u4 u5).heap[k]? = W.heap[k]? := by
  unfold set6g
  rw [heap_setCell_other _ ⟨b, 5, none⟩ k _ h, heap_setCell_other _ ⟨b, 4, none⟩ k _ h, heap_setCell_other _ ⟨b, 3, none⟩ k _ h, heap_setCell_other _ ⟨b, 2, none⟩ k _ h, heap_setCell_other _ ⟨b, 1, none⟩ k _ h, heap_setCell_other _ ⟨b, 0, none⟩ k _ h]
theorem below_set6g {B : Nat} {V W : World} {b : Nat} (h : Below B V W) (hb : B ≤ b) (u0 u1 u2 u3 u4 u5 : Value) : Below B V (set6g W b u0 u1 u2 u3 u4 u5) :=
  Below.setCell (Below.setCell (Below.setCell (Below.setCell (Below.setCell (Below.setCell h hb _) hb _) hb _) hb _) hb _) hb _
theorem D6.setg {W : World} {b : Nat} {nm cr nm' cr' : ByteArray} {fr up fr' up' : Int} {cu cu' : Bool} {tv tv' : Value} (h : D6 W b nm cr fr up cu tv) : D6 (set6g W b (.string nm') (.string cr') (.int .i64 fr') (.int .i64 up') (.bool cu') tv') b nm' cr' fr' up' cu' tv' := (((((h.s0 nm').s1 cr').s2 fr').s3 up').s4 cu').s5 tv'
theorem Reads.same {α : Type} [Rec α] {W W' : World} {v : Value} {l : List α} (h : Reads W v l) (hs : W.heap.size ≤ W'.heap.size) (hb : ∀ a m c, v = .slice (some a) m c → W'.heap[a.block]? = W.heap[a.block]?) : Reads W' v l := by
  obtain ⟨ao, cap, rfl, hr⟩ := h
  refine ⟨ao, cap, rfl, fun hne => ?_⟩
  obtain ⟨b, o, rfl, hlt, hc⟩ := hr hne
  refine ⟨b, o, rfl, Nat.lt_of_lt_of_le hlt hs, fun i x hx j u hu => ?_⟩
  have hbb : W'.heap[b]? = W.heap[b]? := hb ⟨b, o, none⟩ _ _ rfl
  rw [World.cell?_of_block (a := ⟨b, o + i * Rec.width α + j, none⟩) hbb]
  exact hc i x hx j u hu
theorem DgE.fin {g D : Nat} {w0 W : World} {nm cr : ByteArray} {fr up : Int} {cu : Bool} {tv : Value} {ks : List Tk} {ts : List Ta} (h : DgE g D w0 nm cr fr up cu tv ks ts W) :
    D6 (set6g W w0.heap.size (.string nm) (.string cr) (.int .i64 fr) (.int .i64 up) (.bool cu) tv) w0.heap.size nm cr fr up cu tv ∧ Reads (set6g W w0.heap.size (.string nm) (.string cr) (.int .i64 fr) (.int .i64 up) (.bool cu) tv) tv ks ∧ AfL (set6g W w0.heap.size (.string nm) (.string cr) (.int .i64 fr) (.int .i64 up) (.bool cu) tv) w0.heap.size ks ts ∧ Drw (set6g W w0.heap.size (.string nm) (.string cr) (.int .i64 fr) (.int .i64 up) (.bool cu) tv) g ∧ Save g w0 (set6g W w0.heap.size (.string nm) (.string cr) (.int .i64 fr) (.int .i64 up) (.bool cu) tv) := by
  have hb := below_set6g (Below.refl w0.heap.size W) (Nat.le_refl _) (.string nm) (.string cr) (.int .i64 fr) (.int .i64 up) (.bool cu) tv
  have hgl := h.gl
  refine ⟨h.res.setg, h.rd.same ?_ fun a m c e => set6g_other _ _ _ _ _ _ _ _ (h.at' a m c e).2, h.aft.same fun k hk al h1 r hr => set6g_other _ _ _ _ _ _ _ _ ((h1.ty hr).ne (t := 9) ⟨_, h.res⟩ (by decide)), h.drw.keep (hb.mono (by omega)), h.sv.qua hb (Nat.le_refl _)⟩
  simp
open Rec in
theorem wpList_append_cut {α : Type} [Rec α] {P : Program} {w : World} {ops : Array Oper} {rest : List Oper} {o : Oper} {a : Act} {Q : Exit → Act → World → Prop} (hgd : o.guard = none) (s x : Operand) (t : TypeId)
    (ho : o.op = .call { callee := .builtin .append, args := #[s, x], argTypes := #[t, t] }) {B : Nat} {e : TypeId} {z : Value} {bytes : Nat} (ht : P.underlying t = some (.slice e)) (hi : (P.info? e).map (fun i => (i.zero, i.size, i.bytes)) = some (some z, width α, bytes)) (hz : z.cells.size = width α)
    {r n cap : Nat} {k0 : α} {l : List α} (hown : ownsR w B e (.slice (some ⟨r, 0, none⟩) (n + 1) cap) (k0 :: l)) (b c : Nat) (y : α) (hs : a.eval s = .slice (some ⟨r, width α, none⟩) n (cap - 1)) (hx : a.eval x = .slice (some ⟨b, 0, none⟩) 1 c) (hc : ∀ j u, (cells y)[j]? = some u → w.cell? ⟨b, j, none⟩ = some u ∧ u.oneCell' = true)
    (hlen : l.length ≤ 1048576) (hby : bytes ≤ 134217000)
    (h : ∀ v' w', Reads w' v' (l ++ [y]) → w.grownBy w' (some r) → (∀ a m d, v' = .slice (some a) m d → a.block = r ∨ w.heap.size ≤ a.block) → wpList P ops Q rest (a.put o.dst v') w') : wpList P ops Q (o :: rest) a w := by
  refine wpList_plain hgd fun K hK => ?_
  obtain ⟨v', w', hrun, h1, h2, h3⟩ := run_append_cut (P := P) w (ty := o.type) ht hi hz hown b c y hc hlen hby
  unfold Oper.wp
  simp [execOp, ho, resolve, invoke, builtin, hs, hx, hrun, Result.andThen]
  exact hK _ _ (h v' w' h1 h2 h3)
theorem DgS.turned {g D Nn : Nat} {w0 W W' : World} {nm cr : ByteArray} {fr up : Int} {cu : Bool} {r n cap : Nat} {ks l' : List Tk} {ts ts' : List Ta} {v' : Value} (h : DgS g D Nn w0 nm cr fr up cu (.slice (some ⟨r, 0, none⟩) n cap) ks ts W) (hg : W.grownBy W' (some r)) (hr : Reads W' v' l') (hl : ∀ W B, AfL W B ks ts → AfL W B l' ts')
    (hat : ∀ a m d, v' = .slice (some a) m d → a.block = r ∨ W.heap.size ≤ a.block) : DgE g D w0 nm cr fr up cu v' l' ts' (W'.setCell ⟨D, 5, none⟩ v') := by
  have hgl := h.gl
  have hdl := h.dl
  have hrB : w0.heap.size ≤ r ∧ r < W.heap.size := h.own.lt r rfl
  have hrT : TyB W r 192 := h.own.ty rfl
  have hrD : r ≠ D := hrT.ne h.tyD (by decide)
  have hrR : r ≠ w0.heap.size := hrT.ne h.tyR (by decide)
  have hDs := h.dlt
  have hsv := h.sv.size
  have hb : ∀ b, b < W.heap.size → b ≠ r → b ≠ D → (W'.setCell ⟨D, 5, none⟩ v').heap[b]? = W.heap[b]? := fun b hb h1 h2 => (heap_setCell_other W' ⟨D, 5, none⟩ b _ h2).trans (hg.block b hb (fun e => h1 (Option.some.inj e)))
  have bw : Below w0.heap.size W (W'.setCell ⟨D, 5, none⟩ v') := ⟨hg.os, hg.tape, hg.output, by have := hg.size; simp; omega, fun k hk => hb k (by omega) (by omega) (by omega)⟩
  have hDd : D6 W' D nm cr fr up cu (.slice (some ⟨r, 0, none⟩) n cap) := (hg.block D hDs (fun e => hrD (Option.some.inj e).symm)).trans h.d
  refine ⟨h.drw.keep (bw.mono (by omega)), h.sv.qua bw (Nat.le_refl _), hgl, hdl, (hb _ (by omega) (fun e => hrR e.symm) (by omega)).trans h.res, hDd.s5 v', hr.same (by simp) fun a m d e => heap_setCell_other W' ⟨D, 5, none⟩ a.block _ ?_, fun a m d e => ?_, hl _ _ (h.aft.same fun k hk al h1 b hb' => hb b (h1.lt b hb').2 ((h1.ty hb').ne hrT (by decide)) ((h1.ty hb').ne h.tyD (by decide)))⟩
  · rcases hat a m d e with h1 | h1
    · rw [h1]; exact hrD
    · show a.block ≠ D; omega
  · rcases hat a m d e with h1 | h1
    · rw [h1]; exact ⟨hrB.1, hrR⟩
    · exact ⟨by omega, by omega⟩
theorem AfL.turn {W : World} {B : Nat} {k0 : Tk} {l : List Tk} {t0 : Ta} {m : List Ta} (h : AfL W B (k0 :: l) (t0 :: m)) : AfL W B (l ++ [k0]) (m ++ [t0]) := by
  have hl : AfL W B l m := ⟨by simpa using h.len, fun i k t hk ht => h.each (i + 1) k t (by rw [List.getElem?_cons_succ]; exact hk) (by rw [List.getElem?_cons_succ]; exact ht)⟩
  exact hl.snoc (h.each 0 k0 t0 rfl rfl)
end Go.Proofs.YtpjpheicldegkaaGreatDoor

namespace Go.Proofs.YtpjpheicldegkaaGreatDoor
open Go Go.RowKit
set_option linter.unusedVariables false

theorem num_built (w : World) (n : Int) : Reads (w.alloc (.cells #[.int .i64 n] 3)) (.slice (some ⟨w.heap.size, 0, none⟩) 1 1) [n] := by
  refine ⟨some ⟨w.heap.size, 0, none⟩, 1, rfl, fun _ => ⟨w.heap.size, 0, rfl, by simp, fun i x hx j u hu => ?_⟩⟩
  match i, hx with
  | 0, hx =>
    simp only [List.getElem?_cons_zero, Option.some.injEq] at hx
    subst hx
    match j, hu with
    | 0, hu => cases hu; simp [go_sem]
    | j + 1, hu => simp [Rec.cells] at hu
  | i + 1, hx => simp at hx
theorem num_one (l : List Int) : ∀ x ∈ l, ∀ u ∈ Rec.cells x, u.oneCell' = true := by
  intro x _ u hu
  simp only [Rec.cells, List.mem_singleton] at hu
  subst hu
  rfl
structure CfS (g : Nat) (w : World) (v : Value) (l : List Int) (W : World) : Prop where
  own : ownsR W w.heap.size 3 v l
  drw : Drw W g
  sv : Save g w W
  gl : g < w.heap.size
theorem CfS.save {g : Nat} {w W W' : World} {v : Value} {l : List Int} (h : CfS g w v l W) (hs : Save g W W') (hd : Drw W' g) : CfS g w v l W' := ⟨h.own.save hs h.gl, hd, h.sv.trans hs, h.gl⟩
theorem CfS.alloc {g : Nat} {w W : World} {v : Value} {l : List Int} (h : CfS g w v l W) (o : Obj) : CfS g w v l (W.alloc o) := h.save (Save.of_below (ba (Below.refl _ _) _)) (h.drw.keep ((ba (Below.refl _ _) _).mono h.drw.lt))
theorem CfS.more {g : Nat} {w W W' : World} {v v' : Value} {l l' : List Int} (h : CfS g w v l W) (hg : W.grownBy W' v.ownBlock) (ho : ownsR W' w.heap.size 3 v' l') : CfS g w v' l' W' :=
  have hb : Below w.heap.size W W' := (Below.refl w.heap.size W).grown hg h.sv.size fun k hk => (h.own.lt k hk).1
  ⟨ho, h.drw.keep (hb.mono h.gl), h.sv.qua hb (Nat.le_refl _), h.gl⟩
structure CfR (l : List Int) : Prop where
  len : l.length ≤ 4
  rng : ∀ x ∈ l, 1 ≤ x ∧ x ≤ 4
  up : l.Pairwise (· < ·)
set_option maxRecDepth 10000 in
set_option maxHeartbeats 2000000 in
theorem l05Conf_any (g : Nat) (w : World) (hd : Drw w g) : Calls Tryz.prog 71 #[.pointer (some ⟨g, 0, none⟩)] w fun e w' => ∃ (v : Value) (l : List Int), e = .returned v ∧ 0 < l.length ∧ CfR l ∧ CfS g w v l w' := by
  have HC0 : Hid (CfS g w (.slice (some ⟨w.heap.size, 0, none⟩) 0 0) [] (w.alloc (.cells #[] 3))) := ⟨qoe _ _ _ (Nat.le_refl _), hd.keep ((ba (Below.refl _ _) _).mono hd.lt), Save.of_below (ba (Below.refl _ _) _), hd.lt⟩
  clear hd
  go_enter Tryz.func71, Tryz.ntmps71
  go_wp2
  go_loopw [3, 4] (fun lv iv wr => ∃ (k : Nat) (l1 : Option Addr) (l2 l3 : Nat) (l : List Int), lv = .slice l1 l2 l3 ∧ iv = .int .i64 k ∧ 1 ≤ k ∧ k ≤ 5 ∧ l.length + 1 ≤ k ∧ Hid ((∀ x ∈ l, 1 ≤ x ∧ x < (k : Int)) ∧ l.Pairwise (· < ·)) ∧ Hid (CfS g w (.slice l1 l2 l3) l wr)) (fun _ iv _ => 5 - (intOf iv).toNat)
  case atStart => exact ⟨1, _, _, _, [], rfl, rfl, Nat.le_refl _, by decide, by decide, ⟨fun x h => absurd h (by simp), List.Pairwise.nil⟩, HC0⟩
  case round =>
    clear HC0
    obtain ⟨k, l1, l2, l3, l, rfl, rfl, hk1, hk5, hll, HR, HC⟩ := hrel
    by_cases hlt : k ≤ 4
    · have hlt2 : (k : Int) ≤ 4 := by omega
      go_wp2_with fail
      refine (qxa g 2 _ HC.out.drw (by decide) (by decide)).mono ?_
      rintro x W1 ⟨b, rfl, hd1, hs1⟩
      have HC1 : Hid (CfS g w (.slice l1 l2 l3) l W1) := HC.out.save hs1 hd1
      clear HC hd1 hs1
      cases b with
      | false =>
        go_wp2
        go_roundw
        case rel => exact ⟨k + 1, _, _, _, l, rfl, by go_num, by omega, by omega, by omega, ⟨fun x h => by have := HR.out.1 x h; omega, HR.out.2⟩, HC1⟩
        case measure => simp [intOf]; omega
      | true =>
        have HB : Hid (Reads (W1.alloc (.cells #[.int .i64 (k : Int)] 3)) (.slice (some ⟨W1.heap.size, 0, none⟩) 1 1) [(k : Int)]) := num_built W1 _
        have HL : Hid (l.length + [(k : Int)].length ≤ 1048577) := by show _ ≤ _; simp; omega
        have HC2 : Hid (CfS g w (.slice l1 l2 l3) l (W1.alloc (.cells #[.int .i64 (k : Int)] 3))) := HC1.out.alloc _
        go_wp2_with (at_builtin; refine qca rfl (.tmp 12) (.tmp 14) 25 rfl w.heap.size 3 _ 8 underI info3 rfl _ _ l [(k : Int)] rfl rfl HC2.out.own HB.out (num_one _) HL.out (by decide) HC2.out.sv.size ?_)
        intro v2 W2 ho2 hg2
        have HC3 : Hid (CfS g w v2 (l ++ [(k : Int)]) W2) := HC2.out.more hg2 ho2
        obtain ⟨y0, y1, rfl⟩ := ho2.slice
        clear ho2 hg2 HC2 HC1 HB HL
        go_wp2
        go_roundw
        case rel => exact ⟨k + 1, _, _, _, l ++ [(k : Int)], rfl, by go_num, by omega, by omega, by simp; omega, (by
          refine ⟨fun x h => ?_, ?_⟩
          · rcases List.mem_append.1 h with h | h
            · have := HR.out.1 x h; omega
            · rw [List.mem_singleton.1 h]; omega
          · rw [List.pairwise_append]
            exact ⟨HR.out.2, List.pairwise_singleton _ _, fun a ha b hb => by rw [List.mem_singleton.1 hb]; exact (HR.out.1 a ha).2⟩), HC3⟩
        case measure => simp [intOf]; omega
    · have hk : k = 5 := by omega
      subst hk
      have hl2 : l2 = l.length := HC.out.own.reads.len
      have hrng : ∀ x ∈ l, 1 ≤ x ∧ x ≤ 4 := fun x h => by have := HR.out.1 x h; omega
      have HU : Hid (CfR l) := ⟨by omega, hrng, HR.out.2⟩
      by_cases h0 : l2 = 0
      · have hl0 : l = [] := List.eq_nil_of_length_eq_zero (by omega)
        subst hl0
        subst h0
        have HB : Hid (Reads (wr.alloc (.cells #[.int .i64 1] 3)) (.slice (some ⟨wr.heap.size, 0, none⟩) 1 1) [(1 : Int)]) := num_built wr _
        have HC2 : Hid (CfS g w (.slice l1 0 l3) [] (wr.alloc (.cells #[.int .i64 1] 3))) := HC.out.alloc _
        clear hl2 hrng HU HR HC hll
        go_wp2_with (at_builtin; refine qca rfl (.tmp 19) (.tmp 20) 25 rfl w.heap.size 3 _ 8 underI info3 rfl _ _ [] [(1 : Int)] rfl rfl HC2.out.own HB.out (num_one _) (by decide) (by decide) HC2.out.sv.size ?_)
        intro v2 W2 ho2 hg2
        have HC3 : Hid (CfS g w v2 [(1 : Int)] W2) := HC2.out.more hg2 ho2
        clear ho2 hg2 HC2 HB
        go_wp2
        go_ret
        exact ⟨_, [1], rfl, by decide, ⟨by decide, by decide, by decide⟩, HC3.out⟩
      · have hq : ((l2 : Int) == 0) = false := beq_eq_false_iff_ne.2 (by omega)
        have hp : 0 < l.length := by omega
        clear hl2 hrng HR
        go_wp2
        go_ret
        exact ⟨_, l, rfl, hp, HU.out, HC.out⟩

set_option maxRecDepth 10000 in
set_option maxHeartbeats 2000000 in
theorem l05AnyConf_any (g : Nat) (w : World) (hd : Drw w g) : Calls Tryz.prog 45 #[.pointer (some ⟨g, 0, none⟩)] w fun e w' => ∃ (v : Value) (l : List Int), e = .returned v ∧ l.length ≤ 5 ∧ (∀ x ∈ l, -9223372036854775808 ≤ x ∧ x ≤ 9223372036854775807) ∧ CfS g w v l w' := by
  go_enter Tryz.func45, Tryz.ntmps45
  go_wp2_with fail
  refine (l05Conf_any g w hd).mono ?_
  rintro x W1 ⟨v, l, rfl, hp, hr, hc⟩
  obtain ⟨l1, l3, rfl⟩ := hc.own.slice
  obtain ⟨l2, hl2⟩ : ∃ n, l.length = n := ⟨_, rfl⟩
  rw [hl2] at hc
  rw [hl2]
  have HC1 : Hid (CfS g w (.slice l1 l2 l3) l W1) := hc
  have HR : Hid (CfR l) := hr
  have HG : Hid (∀ x ∈ l, -9223372036854775808 ≤ x ∧ x ≤ 9223372036854775807) := fun x h => by have := hr.rng x h; omega
  have hl4 : l.length ≤ 4 := hr.len
  clear hc hr hd hp
  go_wp2_with fail
  refine (qga g 12 _ HC1.out.drw (by decide) (by decide)).mono ?_
  rintro x W2 ⟨q, rfl, q0, q1, hd2, hs2⟩
  have HC2 : Hid (CfS g w (.slice l1 l2 l3) l W2) := HC1.out.save hs2 hd2
  clear HC1 hd2 hs2
  by_cases h0 : q = 0
  · subst h0
    go_wp2_with fail
    refine (qnb g [0, 4, 5, 1] W2 W2 HC2.out.drw (Save.refl _ _) (by decide) (by decide) (by decide) #[.int .i64 0, .int .i64 4, .int .i64 5, .int .i64 1] rfl 4 rfl).mono ?_
    rintro x W3 ⟨z, rfl, z0, z1, hd3, hs3⟩
    have HC3 : Hid (CfS g w (.slice l1 l2 l3) l W3) := HC2.out.save hs3 hd3
    clear HC2 hd3 hs3
    have HB : Hid (Reads (W3.alloc (.cells #[.int .i64 z] 3)) (.slice (some ⟨W3.heap.size, 0, none⟩) 1 1) [z]) := num_built W3 _
    have HL : Hid (l.length + [z].length ≤ 1048577) := by show _ ≤ _; simp; omega
    have HC4 : Hid (CfS g w (.slice l1 l2 l3) l (W3.alloc (.cells #[.int .i64 z] 3))) := HC3.out.alloc _
    go_wp2_with (at_builtin; refine qca rfl (.tmp 10) (.tmp 14) 25 rfl w.heap.size 3 _ 8 underI info3 rfl _ _ l [z] rfl rfl HC4.out.own HB.out (num_one _) HL.out (by decide) HC4.out.sv.size ?_)
    intro v2 W4 ho2 hg2
    have HC5 : Hid (CfS g w v2 (l ++ [z]) W4) := HC4.out.more hg2 ho2
    clear ho2 hg2 HC4 HC3 HB HL
    go_wp2
    go_ret
    exact ⟨_, l ++ [z], rfl, by simp; omega, fun x h => by
      rcases List.mem_append.1 h with h | h
      · exact HG.out x h
      · rw [List.mem_singleton.1 h]; omega, HC5.out⟩
  · have e0 : (q == 0) = false := beq_eq_false_iff_ne.2 h0
    by_cases h1 : q = 1
    · subst h1
      have HC3 : Hid (CfS g w (.slice (some ⟨W2.heap.size, 0, none⟩) 0 0) [] (W2.alloc (.cells #[] 3))) := ⟨qoe _ _ _ HC2.out.sv.size, (HC2.out.alloc _).drw, (HC2.out.alloc _).sv, HC2.out.gl⟩
      go_wp2
      go_ret
      exact ⟨_, [], rfl, by decide, fun x h => absurd h (by simp), HC3.out⟩
    · have e1 : (q == 1) = false := beq_eq_false_iff_ne.2 h1
      go_wp2
      go_ret
      exact ⟨_, l, rfl, by omega, HG.out, HC2.out⟩
end Go.Proofs.YtpjpheicldegkaaGreatDoor

namespace Go.Proofs.YtpjpheicldegkaaGreatDoor
open Go Go.RowKit
set_option linter.unusedVariables false

def NumsAt (w : World) (g r : Nat) (l : List Int) : Prop := r ≠ g ∧ ∀ j (h : j < l.length), w.cell? ⟨r, j, none⟩ = some (.int .i64 l[j])
set_option maxHeartbeats 400000 in
theorem pickIn_any (g r n cap : Nat) (l : List Int) (w : World) (hd : Drw w g) (h0 : 0 < n) (h1 : n ≤ 1000000) (hl : l.length = n) (hr : NumsAt w g r l) :
    Calls Tryz.prog 42 #[.pointer (some ⟨g, 0, none⟩), .slice (some ⟨r, 0, none⟩) n cap] w fun e w' => ∃ x ∈ l, e = .returned (.int .i64 x) ∧ Drw w' g ∧ Save g w w' := by
  go_enter Tryz.func42, Tryz.ntmps42
  go_wp2_with (go_at_call 41; refine (qga g n _ hd (by omega) (by omega)).mono ?_; rintro e w1 ⟨x, rfl, hx0, hx1, hd1, hs1⟩; obtain ⟨k, rfl⟩ := Int.eq_ofNat_of_zero_le hx0; have hkl : k < l.length := (by omega); have hz2 : w1.cell? ⟨r, k, none⟩ = some (.int .i64 l[k]) := hs1.cell hr.1 (hr.2 k hkl))
  go_ret
  exact ⟨l[k], List.getElem_mem hkl, rfl, hd1, hs1⟩
theorem pickIn_from (g : Nat) (l : List Int) (w0 w : World) (hd : Drw w g) (hs : Save g w0 w) (h0 : 0 < l.length) (h1 : l.length ≤ 1000000) (cs : Array Value) (hcs : cs = (l.map (Value.int .i64)).toArray) (n : Nat) (hn : n = l.length) :
    Calls Tryz.prog 42 #[.pointer (some ⟨g, 0, none⟩), .slice (some ⟨w.heap.size, 0, none⟩) n n] (w.alloc (.cells cs 3)) fun e w' => ∃ x ∈ l, e = .returned (.int .i64 x) ∧ Drw w' g ∧ Save g w0 w' := by
  have hg := hd.lt
  subst hn hcs
  refine (pickIn_any g w.heap.size l.length l.length l _ (hd.keep ((Below.refl _ _).alloc (by omega) _)) h0 h1 rfl ⟨by omega, fun j hj => by simp [hj]⟩).mono fun _ _ ⟨x, h1, h2, h3, h4⟩ => ⟨x, h1, h2, h3, (hs.alloc _).trans h4⟩
end Go.Proofs.YtpjpheicldegkaaGreatDoor

namespace Go.Proofs.YtpjpheicldegkaaGreatDoor
open Go Go.RowKit

theorem varI_five {n : Nat} (hn : n ≤ 1000000000) : (varI n).length ≤ 5 := by
  by_cases h1 : 127 < n
  · rw [qsb h1]
    by_cases h2 : 127 < n / 128
    · rw [qsb h2]
      by_cases h3 : 127 < n / 128 / 128
      · rw [qsb h3]
        by_cases h4 : 127 < n / 128 / 128 / 128
        · rw [qsb h4, qcb (show ¬ 127 < n / 128 / 128 / 128 / 128 by omega)]
          simp
        · rw [qcb h4]; simp
      · rw [qcb h3]; simp
    · rw [qcb h2]; simp
  · rw [qcb h1]; simp
theorem cmtX_size {op tok seq : Int} {text task : ByteArray} {num up : Int} {yes : Bool} : (cmtX op tok seq text task num up yes).size ≤ 1000 := by
  unfold cmtX
  cases h : cmdB op tok seq text task num up yes with
  | false => exact Nat.zero_le _
  | true =>
    obtain ⟨_, _, t0, t1, s0, s1, x1, k1, n0, n1, u0, u1⟩ := cmd_fine h
    have e1 : ∀ l : List Int, (bstr l).size = l.length := fun l => by simp [bstr, ByteArray.size]
    have e2 := varI_five (n := tok.toNat) (by omega)
    have e3 := varI_five (n := seq.toNat) (by omega)
    have e4 := varI_five (n := num.toNat) (by omega)
    have e5 := varI_five (n := up.toNat) (by omega)
    have e6 := varI_five (n := text.size) (by omega)
    have e7 := varI_five (n := task.size) (by omega)
    have e8 : (flagS yes).size = 1 := by cases yes <;> rfl
    show (cmtS op tok seq text task num up yes).size ≤ 1000
    unfold cmtS qsa
    simp only [ByteArray.size_append, e1, e8, List.length_cons, List.length_nil]
    omega
end Go.Proofs.YtpjpheicldegkaaGreatDoor

namespace Go.Proofs.YtpjpheicldegkaaGreatDoor
open Go Go.RowKit
set_option linter.unusedVariables false
set_option linter.unusedSimpArgs false
theorem loadM {W : World} {b : Nat} {x0 x1 x2 x3 x4 x5 x6 x7 x8 x9 x10 x11 : Value} (h : Kc12 27 W b x0 x1 x2 x3 x4 x5 x6 x7 x8 x9 x10 x11) : (Instr.loadAt 27 (.pointer (some ⟨b, 0, none⟩))).run Tryz.prog W = .ok (.agg #[x0, x1, x2, x3, x4, x5, x6, x7, x8, x9, x10, x11]) W := by
  simp [h.c0, h.c1, h.c2, h.c3, h.c4, h.c5, h.c6, h.c7, h.c8, h.c9, h.c10, h.c11, go_sem]
theorem storeM {W : World} {b : Nat} {x0 x1 x2 x3 x4 x5 x6 x7 x8 x9 x10 x11 : Value} (h : Kc12 27 W b x0 x1 x2 x3 x4 x5 x6 x7 x8 x9 x10 x11) (n0 n1 n2 n3 n4 n5 n6 : Int) (b7 b11 : Bool) (a8 a9 : Option Addr) (m8 c8 m9 c9 : Nat) (s10 : ByteArray) : (Instr.storeAt 27 (.pointer (some ⟨b, 0, none⟩)) (.agg #[.int .i64 n0, .int .i64 n1, .int .i64 n2, .int .i64 n3, .int .i64 n4, .int .i64 n5, .int .i64 n6, .bool b7, .slice a8 m8 c8, .slice a9 m9 c9, .string s10, .bool b11])).run Tryz.prog W = .ok () (set12 W b (.int .i64 n0) (.int .i64 n1) (.int .i64 n2) (.int .i64 n3) (.int .i64 n4) (.int .i64 n5) (.int .i64 n6) (.bool b7) (.slice a8 m8 c8) (.slice a9 m9 c9) (.string s10) (.bool b11)) := by
  have f0 := h.fz 0
  have f1 := h.fz 1
  have f2 := h.fz 2
  have f3 := h.fz 3
  have f4 := h.fz 4
  have f5 := h.fz 5
  have f6 := h.fz 6
  have f7 := h.fz 7
  have f8 := h.fz 8
  have f9 := h.fz 9
  have f10 := h.fz 10
  have f11 := h.fz 11
  have c0 := h.c0
  have c1 := h.c1
  have c2 := h.c2
  have c3 := h.c3
  have c4 := h.c4
  have c5 := h.c5
  have c6 := h.c6
  have c7 := h.c7
  have c8 := h.c8
  have c9 := h.c9
  have c10 := h.c10
  have c11 := h.c11
  simp [c0, c1, c2, c3, c4, c5, c6, c7, c8, c9, c10, c11, f0, f1, f2, f3, f4, f5, f6, f7, f8, f9, f10, f11, asAddr, go_sem]
theorem qna {ops : Array Oper} {rest : List Oper} {o : Oper} {a : Act} {w : World} {Q : Exit → Act → World → Prop} {x0 x1 x2 x3 x4 x5 x6 x7 x8 x9 x10 x11 : Value} (hgd : o.guard = none) (x : Operand) (ho : o.op = .load 27 x) (b : Nat) (hx : a.eval x = .pointer (some ⟨b, 0, none⟩)) (h : Kc12 27 w b x0 x1 x2 x3 x4 x5 x6 x7 x8 x9 x10 x11)
    (hn : wpList Tryz.prog ops Q rest (a.put o.dst (.agg #[x0, x1, x2, x3, x4, x5, x6, x7, x8, x9, x10, x11])) w) : wpList Tryz.prog ops Q (o :: rest) a w :=
  wpList_plain hgd fun _ hK => by
    have hl := loadM h
    unfold Oper.wp execOp
    simp only [ho, hx, Sem.run_bind, hl, Result.andThen_ok, Sem.run_pure]
    exact hK _ _ hn
theorem qja {ops : Array Oper} {rest : List Oper} {o : Oper} {a : Act} {w : World} {Q : Exit → Act → World → Prop} {x0 x1 x2 x3 x4 x5 x6 x7 x8 x9 x10 x11 : Value} (hgd : o.guard = none) (x y : Operand) (ho : o.op = .store 27 x y) (b : Nat) (hx : a.eval x = .pointer (some ⟨b, 0, none⟩)) (h : Kc12 27 w b x0 x1 x2 x3 x4 x5 x6 x7 x8 x9 x10 x11) (n0 n1 n2 n3 n4 n5 n6 : Int) (b7 b11 : Bool) (a8 a9 : Option Addr) (m8 c8 m9 c9 : Nat) (s10 : ByteArray)
    (hy : a.eval y = .agg #[.int .i64 n0, .int .i64 n1, .int .i64 n2, .int .i64 n3, .int .i64 n4, .int .i64 n5, .int .i64 n6, .bool b7, .slice a8 m8 c8, .slice a9 m9 c9, .string s10, .bool b11])
    (hn : wpList Tryz.prog ops Q rest (a.put o.dst undef) (set12 w b (.int .i64 n0) (.int .i64 n1) (.int .i64 n2) (.int .i64 n3) (.int .i64 n4) (.int .i64 n5) (.int .i64 n6) (.bool b7) (.slice a8 m8 c8) (.slice a9 m9 c9) (.string s10) (.bool b11))) : wpList Tryz.prog ops Q (o :: rest) a w :=
  wpList_plain hgd fun _ hK => by
    have hl := storeM h n0 n1 n2 n3 n4 n5 n6 b7 b11 a8 a9 m8 c8 m9 c9 s10
    unfold Oper.wp execOp
    simp only [ho, hx, hy, Sem.run_bind, hl, Result.andThen_ok, Sem.run_pure]
    exact hK _ _ hn
end Go.Proofs.YtpjpheicldegkaaGreatDoor
