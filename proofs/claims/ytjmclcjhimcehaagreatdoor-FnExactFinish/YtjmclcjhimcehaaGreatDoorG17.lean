/-
  slices.Contains and slices.ContainsFunc on rows of texts, as the library has them, the latter at the closure that asks what lacks: the walks. Tasks that come as soon as all that they are behind have come: what the program reckons is what the specification's order tells. Plain facts. Names with commas between, as the specification reads them: the walk.
-/
import Derived.Test.YtjmclcjhimcehaaGreatDoorG16
import Derived.Test.YtjmclcjhimcehaaGreatDoorG15
import Derived.Test.YtjmclcjhimcehaaGreatDoorG7
import Derived.Test.YtjmclcjhimcehaaGreatDoorG8
namespace Go.Proofs.YtjmclcjhimcehaaGreatDoor
open Go Go.RowKit

def memB (m : List ByteArray) (x : ByteArray) : Bool := m.any fun y => decide (x = y)
theorem memB_iff {m : List ByteArray} {x : ByteArray} : memB m x = true ↔ x ∈ m := by
  unfold memB
  rw [List.any_eq_true]
  constructor
  · rintro ⟨y, hy, h⟩
    rw [of_decide_eq_true h]; exact hy
  · intro h
    exact ⟨x, h, decide_eq_true rfl⟩
theorem memB_no {m : List ByteArray} {x : ByteArray} (h : ¬ x ∈ m) : memB m x = false := by
  cases hq : memB m x with
  | false => rfl
  | true => exact absurd (memB_iff.1 hq) h
theorem bmem_drop {m : List ByteArray} {k : Nat} {x y : ByteArray} (h : m[k]? = some y) : x ∈ m.drop k ↔ x = y ∨ x ∈ m.drop (k + 1) := by
  obtain ⟨hk, rfl⟩ := List.getElem?_eq_some_iff.1 h
  rw [List.drop_eq_getElem_cons hk, List.mem_cons]
theorem bmem_end {m : List ByteArray} {k : Nat} {x : ByteArray} (h : k = m.length) (hm : x ∈ m.drop k) : False := by
  subst h
  rw [List.drop_length] at hm
  cases hm
set_option maxRecDepth 10000 in
set_option maxHeartbeats 1000000 in
theorem idxText_any {w : World} {v : Value} {m : List ByteArray} (x : ByteArray) (hr : Reads w v m) (hn : m.length ≤ 1048577) :
    Calls Tryz.prog 185 #[v, .string x] w fun e w' => ∃ r : Int, e = .returned (.int .i64 r) ∧ decide (0 ≤ r) = memB m x ∧ w' = w := by
  obtain ⟨ao, c, rfl, hh⟩ := id hr
  clear hh
  obtain ⟨n, HN⟩ : ∃ n, Hid (m.length = n) := ⟨_, rfl⟩
  rw [HN.out] at hn
  rw [HN.out] at hr ⊢
  have HR : Hid (Reads w (.slice ao n c) m) := hr
  clear hr
  go_enter Tryz.func185, Tryz.ntmps185
  go_wp2
  go_loopw [8] (fun i wr => ∃ k : Nat, k ≤ n ∧ i = .int .i64 k ∧ Hid (x ∈ m ↔ x ∈ m.drop k) ∧ wr = w) (fun i _ => n - (intOf i).toNat)
  case atStart => exact ⟨0, Nat.zero_le _, rfl, (by show x ∈ m ↔ x ∈ m.drop 0; rw [List.drop_zero]), rfl⟩
  case round =>
    obtain ⟨k, hk, rfl, HE, rfl⟩ := hrel
    by_cases hlt : k < n
    · obtain ⟨y, hy⟩ : ∃ y, m[k]? = some y := ⟨_, List.getElem?_eq_getElem (by rw [HN.out]; exact hlt)⟩
      have HM : Hid (x ∈ m ↔ x = y ∨ x ∈ m.drop (k + 1)) := HE.out.trans (bmem_drop hy)
      obtain ⟨b, o, rfl, hb, c0⟩ := text_at HR.out hy
      clear hy HE
      by_cases hyx : x = y
      · have HF : Hid (memB m x = true) := memB_iff.2 (HM.out.2 (.inl hyx))
        have hq2 := eq_list hyx
        clear hyx
        go_wp2
        go_ret
        exact ⟨_, rfl, by rw [HF.out]; exact decide_eq_true (by omega), rfl⟩
      · have HF : Hid (x ∈ m ↔ x ∈ m.drop (k + 1)) := HM.out.trans ⟨fun h => h.resolve_left fun e => hyx e, .inr⟩
        have hq2 := ne_list hyx
        clear hyx
        go_wp2
        go_roundw
        case rel => exact ⟨k + 1, by omega, by go_num, HF, trivial⟩
        case measure => simp [intOf]; omega
    · have HF : Hid (memB m x = false) := memB_no fun h => bmem_end (by rw [HN.out]; omega) (HE.out.1 h)
      go_wp2
      go_ret
      exact ⟨_, rfl, by rw [HF.out]; rfl, rfl⟩
theorem containsText_any {w : World} {v : Value} {m : List ByteArray} (x : ByteArray) (hr : Reads w v m) (hn : m.length ≤ 1048577) :
    Calls Tryz.prog 150 #[v, .string x] w fun e w' => e = .returned (.bool (memB m x)) ∧ w' = w := by
  have HI : Hid (Calls Tryz.prog 185 #[v, .string x] w fun e w' => ∃ r : Int, e = .returned (.int .i64 r) ∧ decide (0 ≤ r) = memB m x ∧ w' = w) := idxText_any x hr hn
  clear hr hn
  go_enter Tryz.func150, Tryz.ntmps150
  go_wp2_with (go_at_call 185; refine HI.out.mono ?_; rintro e w1 ⟨r, rfl, hd, hw⟩; have hw2 := hw.symm; subst hw2)
  go_ret
  exact ⟨by rw [← hd]; rfl, rfl⟩
theorem lacks_any {w : World} {v : Value} {m : List ByteArray} (g : Nat) (x : ByteArray) (hc : w.cell? ⟨g, 0, none⟩ = some v) (hr : Reads w v m) (hn : m.length ≤ 1048577) :
    Calls Tryz.prog 170 #[.string x, .pointer (some ⟨g, 0, none⟩)] w fun e w' => e = .returned (.bool (!memB m x)) ∧ w' = w := by
  obtain ⟨ao, c, rfl, hh⟩ := id hr
  clear hh
  have HI : Hid (Calls Tryz.prog 150 #[.slice ao m.length c, .string x] w fun e w' => e = .returned (.bool (memB m x)) ∧ w' = w) := containsText_any x hr hn
  clear hr hn
  go_enter Tryz.func170, Tryz.ntmps170
  go_wp2_with (go_at_call 150; refine HI.out.mono ?_; rintro e w1 ⟨rfl, hw⟩; have hw2 := hw.symm; subst hw2)
  go_ret
  exact ⟨rfl, rfl⟩
def lackB (m : List ByteArray) (l : List ByteArray) : Bool := l.any fun s => !memB m s
theorem lackB_at {m l : List ByteArray} {s : ByteArray} {k : Nat} (h : l[k]? = some s) : lackB m (l.drop k) = (!memB m s || lackB m (l.drop (k + 1))) := by
  obtain ⟨hk, rfl⟩ := List.getElem?_eq_some_iff.1 h
  rw [List.drop_eq_getElem_cons hk]
  rfl
theorem lackB_end {m l : List ByteArray} {k : Nat} (h : k = l.length) : lackB m (l.drop k) = false := by subst h; rw [List.drop_length]; rfl
set_option maxRecDepth 10000 in
set_option maxHeartbeats 1000000 in
theorem idxLack_any {w : World} {v u : Value} {l m : List ByteArray} (g : Nat) (hr : Reads w v l) (hn : l.length ≤ 1048577) (hc : w.cell? ⟨g, 0, none⟩ = some u) (hm : Reads w u m) (hmn : m.length ≤ 1048577) :
    Calls Tryz.prog 202 #[v, .func (.func 170) #[] #[.pointer (some ⟨g, 0, none⟩)]] w fun e w' => ∃ r : Int, e = .returned (.int .i64 r) ∧ decide (0 ≤ r) = lackB m l ∧ w' = w := by
  obtain ⟨ao, cap, rfl, hh⟩ := id hr
  clear hh
  have HC : Hid (∀ x, Calls Tryz.prog 170 #[.string x, .pointer (some ⟨g, 0, none⟩)] w fun e w' => e = .returned (.bool (!memB m x)) ∧ w' = w) := fun x => lacks_any g x hc hm hmn
  clear hc hm hmn
  obtain ⟨n, HN⟩ : ∃ n, Hid (l.length = n) := ⟨_, rfl⟩
  rw [HN.out] at hn
  rw [HN.out] at hr ⊢
  have HR : Hid (Reads w (.slice ao n cap) l) := hr
  clear hr
  go_enter Tryz.func202, Tryz.ntmps202
  go_wp2
  go_loopw [8] (fun i wr => ∃ k : Nat, k ≤ n ∧ i = .int .i64 k ∧ Hid (lackB m l = lackB m (l.drop k)) ∧ wr = w) (fun i _ => n - (intOf i).toNat)
  case atStart => exact ⟨0, Nat.zero_le _, rfl, (by show lackB m l = lackB m (l.drop 0); rw [List.drop_zero]), rfl⟩
  case round =>
    obtain ⟨k, hk, rfl, HE, rfl⟩ := hrel
    by_cases hlt : k < n
    · obtain ⟨t, ht⟩ : ∃ t, l[k]? = some t := ⟨_, List.getElem?_eq_getElem (by rw [HN.out]; exact hlt)⟩
      obtain ⟨b', o, rfl, hb, c0⟩ := text_at HR.out ht
      obtain ⟨q, HQ⟩ : ∃ q, Hid ((!memB m t) = q) := ⟨_, rfl⟩
      have HC2 : Hid (Calls Tryz.prog 170 #[.string t, .pointer (some ⟨g, 0, none⟩)] wr fun e w' => e = .returned (.bool q) ∧ w' = wr) := by
        have := HC.out t
        rwa [HQ.out] at this
      have HA : Hid (lackB m l = (q || lackB m (l.drop (k + 1)))) := HE.out.trans (by rw [lackB_at ht, HQ.out])
      clear ht HC HQ HE
      cases q with
      | true =>
        have HF : Hid (true = lackB m l) := HA.out.symm
        go_wp2_with (go_at_call 170; refine HC2.out.mono ?_; rintro e w1 ⟨rfl, hw⟩; have hw2 := hw.symm; subst hw2)
        go_ret
        exact ⟨_, rfl, (decide_eq_true (by omega)).trans HF.out, rfl⟩
      | false =>
        have HF : Hid (lackB m l = lackB m (l.drop (k + 1))) := HA.out
        go_wp2_with (go_at_call 170; refine HC2.out.mono ?_; rintro e w1 ⟨rfl, hw⟩; have hw2 := hw.symm; subst hw2)
        go_roundw
        case rel => exact ⟨k + 1, by omega, by go_num, HF, trivial⟩
        case measure => simp [intOf]; omega
    · have HF : Hid (false = lackB m l) := (HE.out.trans (lackB_end (by rw [HN.out]; omega))).symm
      go_wp2
      go_ret
      exact ⟨_, rfl, (decide_eq_false (by omega)).trans HF.out, rfl⟩
theorem containsLack_any {w : World} {v u : Value} {l m : List ByteArray} (g : Nat) (hr : Reads w v l) (hn : l.length ≤ 1048577) (hc : w.cell? ⟨g, 0, none⟩ = some u) (hm : Reads w u m) (hmn : m.length ≤ 1048577) :
    Calls Tryz.prog 171 #[v, .func (.func 170) #[] #[.pointer (some ⟨g, 0, none⟩)]] w fun e w' => e = .returned (.bool (lackB m l)) ∧ w' = w := by
  have HI : Hid (Calls Tryz.prog 202 #[v, .func (.func 170) #[] #[.pointer (some ⟨g, 0, none⟩)]] w fun e w' => ∃ r : Int, e = .returned (.int .i64 r) ∧ decide (0 ≤ r) = lackB m l ∧ w' = w) := idxLack_any g hr hn hc hm hmn
  clear hr hn hc hm hmn
  go_enter Tryz.func171, Tryz.ntmps171
  go_wp2_with (go_at_call 202; refine HI.out.mono ?_; rintro e w1 ⟨r, rfl, hd, hw⟩; have hw2 := hw.symm; subst hw2)
  go_ret
  exact ⟨by rw [← hd]; rfl, rfl⟩
end Go.Proofs.YtjmclcjhimcehaaGreatDoor

namespace Go.Proofs.YtjmclcjhimcehaaGreatDoor
open Go Go.RowKit

/-- A task comes, when it may. -/
def comeS (C : List ByteArray) (t : Ta) : List ByteArray := if (!memB C t.name && !lackB C t.after) = true then C ++ [t.name] else C
def comeR (C : List ByteArray) : List Ta → List ByteArray
  | [] => C
  | t :: r => comeR (comeS C t) r
def comeN (ts : List Ta) : Nat → List ByteArray
  | 0 => []
  | k + 1 => comeR (comeN ts k) ts
def allB (ts : List Ta) : Bool := decide ((comeN ts ts.length).length = ts.length)
theorem lackB_iff {m l : List ByteArray} : lackB m l = false ↔ ∀ s ∈ l, s ∈ m := by
  unfold lackB
  rw [List.any_eq_false]
  constructor
  · intro h s hs
    have := h s hs
    rw [Bool.not_eq_true, Bool.not_eq_false'] at this
    exact memB_iff.1 this
  · intro h s hs
    rw [Bool.not_eq_true, Bool.not_eq_false']
    exact memB_iff.2 (h s hs)
theorem comeS_yes {C : List ByteArray} {t : Ta} (h1 : t.name ∉ C) (h2 : ∀ s ∈ t.after, s ∈ C) : comeS C t = C ++ [t.name] := by
  unfold comeS
  rw [memB_no h1, lackB_iff.2 h2]
  rfl
theorem comeS_or (C : List ByteArray) (t : Ta) : comeS C t = C ∨ (comeS C t = C ++ [t.name] ∧ t.name ∉ C ∧ ∀ s ∈ t.after, s ∈ C) := by
  by_cases h : (!memB C t.name && !lackB C t.after) = true
  · right
    have h' := h
    rw [Bool.and_eq_true, Bool.not_eq_true', Bool.not_eq_true'] at h'
    refine ⟨by unfold comeS; rw [if_pos h], fun hm => ?_, lackB_iff.1 h'.2⟩
    rw [memB_iff.2 hm] at h'
    cases h'.1
  · left
    unfold comeS
    rw [if_neg h]
theorem comeS_sub (C : List ByteArray) (t : Ta) {x : ByteArray} (h : x ∈ C) : x ∈ comeS C t := by
  rcases comeS_or C t with e | ⟨e, _⟩
  · rw [e]; exact h
  · rw [e]; exact List.mem_append_left _ h
theorem comeR_sub : ∀ (r : List Ta) (C : List ByteArray) {x : ByteArray}, x ∈ C → x ∈ comeR C r
  | [], _, _, h => h
  | t :: r, C, _, h => comeR_sub r (comeS C t) (comeS_sub C t h)
/-- One that may come does come in a round. -/
theorem comeR_in : ∀ (r : List Ta) (C : List ByteArray) {t : Ta}, t ∈ r → (∀ s ∈ t.after, s ∈ C) → t.name ∈ comeR C r
  | u :: r, C, t, ht, ha => by
    unfold comeR
    rcases List.mem_cons.1 ht with rfl | ht
    · by_cases hm : t.name ∈ C
      · exact comeR_sub r _ (comeS_sub C t hm)
      · exact comeR_sub r _ (by rw [comeS_yes hm ha]; exact List.mem_append_right _ (List.mem_singleton.2 rfl))
    · exact comeR_in r _ ht fun s hs => comeS_sub C u (ha s hs)
/-- Names one behind the other, each of a task whose own names stand ahead of it. -/
def Row (ts : List Ta) (L : List ByteArray) : Prop := L.Nodup ∧ ∀ A x B, L = A ++ x :: B → ∃ t ∈ ts, t.name = x ∧ ∀ s ∈ t.after, s ∈ A
theorem row_nil (ts : List Ta) : Row ts [] := ⟨List.nodup_nil, fun A x B h => by cases A <;> cases h⟩
theorem split_last {α : Type} {C A B : List α} {x y : α} (h : C ++ [y] = A ++ x :: B) : (B = [] ∧ C = A ∧ y = x) ∨ ∃ B', B = B' ++ [y] ∧ C = A ++ x :: B' := by
  rcases List.eq_nil_or_concat B with rfl | ⟨B', z, rfl⟩
  · left
    have := List.append_inj' h (by simp)
    exact ⟨rfl, this.1, by simpa using this.2⟩
  · right
    have h2 : C ++ [y] = (A ++ x :: B') ++ [z] := by rw [h]; simp
    have := List.append_inj' h2 (by simp)
    have e : y = z := by simpa using this.2
    subst e
    exact ⟨B', by simp, this.1⟩
theorem Row.more {ts : List Ta} {L : List ByteArray} {t : Ta} (h : Row ts L) (ht : t ∈ ts) (hn : t.name ∉ L) (ha : ∀ s ∈ t.after, s ∈ L) : Row ts (L ++ [t.name]) := by
  refine ⟨?_, fun A x B e => ?_⟩
  · rw [List.nodup_append]
    exact ⟨h.1, by simp, fun a ha' b hb => by rw [List.mem_singleton] at hb; subst hb; exact fun e => hn (e ▸ ha')⟩
  · rcases split_last e with ⟨rfl, rfl, rfl⟩ | ⟨B', rfl, rfl⟩
    · exact ⟨t, ht, rfl, ha⟩
    · exact h.2 A x B' rfl
theorem comeS_row {ts : List Ta} {C : List ByteArray} {t : Ta} (h : Row ts C) (ht : t ∈ ts) : Row ts (comeS C t) := by
  rcases comeS_or C t with e | ⟨e, h1, h2⟩
  · rw [e]; exact h
  · rw [e]; exact h.more ht h1 h2
theorem comeR_row {ts : List Ta} : ∀ (r : List Ta) (C : List ByteArray), (∀ t ∈ r, t ∈ ts) → Row ts C → Row ts (comeR C r)
  | [], _, _, h => h
  | t :: r, _, hr, h => comeR_row r _ (fun u hu => hr u (List.mem_cons_of_mem _ hu)) (comeS_row h (hr t (List.mem_cons_self ..)))
theorem comeN_row (ts : List Ta) : ∀ k, Row ts (comeN ts k)
  | 0 => row_nil ts
  | k + 1 => comeR_row ts _ (fun _ h => h) (comeN_row ts k)
/-- The names that stand in a row are names of tasks. -/
theorem Row.names {ts : List Ta} {L : List ByteArray} (h : Row ts L) : ∀ x ∈ L, x ∈ ts.map fun t : Ta => t.name := by
  intro x hx
  obtain ⟨A, B, rfl⟩ := List.append_of_mem hx
  obtain ⟨t, ht, e, _⟩ := h.2 A x B rfl
  rw [← e]
  exact List.mem_map.2 ⟨t, ht, rfl⟩
theorem nodup_sub_len {α : Type} : ∀ {L M : List α}, L.Nodup → (∀ x ∈ L, x ∈ M) → L.length ≤ M.length
  | [], _, _, _ => Nat.zero_le _
  | x :: L, M, hn, hs => by
    obtain ⟨A, B, rfl⟩ := List.append_of_mem (hs x (List.mem_cons_self ..))
    rw [List.nodup_cons] at hn
    have := nodup_sub_len (L := L) (M := A ++ B) hn.2 fun y hy => by
      have h1 := hs y (List.mem_cons_of_mem _ hy)
      rw [List.mem_append, List.mem_cons] at h1
      rcases h1 with h1 | rfl | h1
      · exact List.mem_append_left _ h1
      · exact absurd hy hn.1
      · exact List.mem_append_right _ h1
    simp at this ⊢
    omega
theorem nodup_full {α : Type} : ∀ {L M : List α}, L.Nodup → (∀ x ∈ L, x ∈ M) → M.length ≤ L.length → ∀ x ∈ M, x ∈ L
  | [], M, _, _, hl, x, hx => by
    have : M = [] := List.length_eq_zero_iff.1 (by simpa using hl)
    subst this; cases hx
  | y :: L, M, hn, hs, hl, x, hx => by
    obtain ⟨A, B, rfl⟩ := List.append_of_mem (hs y (List.mem_cons_self ..))
    rw [List.nodup_cons] at hn
    have hsub : ∀ z ∈ L, z ∈ A ++ B := fun z hz => by
      have h1 := hs z (List.mem_cons_of_mem _ hz)
      rw [List.mem_append, List.mem_cons] at h1
      rcases h1 with h1 | rfl | h1
      · exact List.mem_append_left _ h1
      · exact absurd hz hn.1
      · exact List.mem_append_right _ h1
    have ih := nodup_full (L := L) (M := A ++ B) hn.2 hsub (by simp at hl ⊢; omega)
    rw [List.mem_append, List.mem_cons] at hx
    rcases hx with hx | rfl | hx
    · exact List.mem_cons_of_mem _ (ih x (List.mem_append_left _ hx))
    · exact List.mem_cons_self ..
    · exact List.mem_cons_of_mem _ (ih x (List.mem_append_right _ hx))
/-- A row of all names: then all come. -/
theorem comeN_all {ts : List Ta} {L : List ByteArray} (hL : Row ts L) : ∀ k, k ≤ L.length → ∀ x ∈ L.take k, x ∈ comeN ts k
  | 0, _, x, hx => by simp at hx
  | k + 1, hk, x, hx => by
    have ih := comeN_all hL k (by omega)
    have hk' : k < L.length := by omega
    rw [List.take_succ_eq_append_getElem hk', List.mem_append, List.mem_singleton] at hx
    rcases hx with hx | rfl
    · exact comeR_sub ts _ (ih x hx)
    · obtain ⟨t, ht, e, ha⟩ := hL.2 (L.take k) L[k] (L.drop (k + 1)) (by rw [← List.drop_eq_getElem_cons hk', List.take_append_drop])
      rw [← e]
      exact comeR_in ts _ ht fun s hs => ih s (ha s hs)
theorem all_of_row {ts : List Ta} {L : List ByteArray} (hL : Row ts L) (hl : L.length = ts.length) : allB ts = true := by
  have h1 := comeN_all hL ts.length (by omega)
  rw [← hl, List.take_length] at h1
  rw [hl] at h1
  have h2 := nodup_sub_len hL.1 h1
  have h3 := nodup_sub_len (comeN_row ts ts.length).1 (comeN_row ts ts.length).names
  rw [List.length_map] at h3
  exact decide_eq_true (by omega)
theorem row_of_all {ts : List Ta} (h : allB ts = true) : ∃ L, Row ts L ∧ L.length = ts.length := ⟨_, comeN_row ts _, of_decide_eq_true h⟩
/-- The names of places. -/
def nmOf (ts : List Ta) (i : Int) : ByteArray := (ts[i.toNat]?.map fun t => t.name).getD ⟨#[]⟩
def Own (ts : List Ta) : Prop := ∀ (i : Nat) (t : Ta), ts[i]? = some t → atN ts t.name = (i : Int)
theorem atG_find {s : ByteArray} : ∀ (l : List Ta) (k : Nat), 0 ≤ atG s k l → ∃ (j : Nat) (t : Ta), l[j]? = some t ∧ t.name = s ∧ atG s k l = ((k + j : Nat) : Int)
  | [], k, h => by simp [atG] at h
  | t :: r, k, h => by
    unfold atG at h ⊢
    by_cases e : t.name = s
    · rw [if_pos e]
      exact ⟨0, t, rfl, e, rfl⟩
    · rw [if_neg e] at h ⊢
      obtain ⟨j, u, hj, hu, hk⟩ := atG_find r (k + 1) h
      exact ⟨j + 1, u, by simpa using hj, hu, by rw [hk]; congr 1; omega⟩
theorem at_find {ts : List Ta} {s : ByteArray} (h : 0 ≤ atN ts s) : ∃ (j : Nat) (t : Ta), ts[j]? = some t ∧ t.name = s ∧ atN ts s = (j : Int) := by
  obtain ⟨j, t, h1, h2, h3⟩ := atG_find ts 0 h
  exact ⟨j, t, h1, h2, by rw [show atN ts s = atG s 0 ts from rfl, h3, Nat.zero_add]⟩
theorem nm_at {ts : List Ta} {i : Nat} {t : Ta} (h : ts[i]? = some t) : nmOf ts (i : Int) = t.name := by
  unfold nmOf
  rw [Int.toNat_natCast, h]
  rfl
/-- Places that stand in the specification's order. -/
structure Ol (ts : List Ta) (out : List Int) : Prop where
  row : Row ts (out.map (nmOf ts))
  pl : ∀ x ∈ out, ∃ (i : Nat) (t : Ta), x = (i : Int) ∧ ts[i]? = some t
  nd : out.Nodup
theorem Own.inj {ts : List Ta} (h : Own ts) {i j : Nat} {t u : Ta} (hi : ts[i]? = some t) (hj : ts[j]? = some u) (e : t.name = u.name) : i = j := by
  have h1 := h i t hi
  have h2 := h j u hj
  rw [e, h2] at h1
  exact_mod_cast h1.symm
theorem Ol.mem {ts : List Ta} {out : List Int} (h : Ol ts out) (ho : Own ts) {i : Nat} {t : Ta} (hi : ts[i]? = some t) : t.name ∈ out.map (nmOf ts) ↔ (i : Int) ∈ out := by
  constructor
  · intro hm
    obtain ⟨x, hx, e⟩ := List.mem_map.1 hm
    obtain ⟨j, u, rfl, hj⟩ := h.pl x hx
    rw [nm_at hj] at e
    rw [ho.inj hi hj e.symm]
    exact hx
  · intro hm
    exact List.mem_map.2 ⟨_, hm, nm_at hi⟩
theorem Ol.free {ts : List Ta} {out : List Int} (h : Ol ts out) (ho : Own ts) {l : List ByteArray} (hl : ∀ s ∈ l, 0 ≤ atN ts s) : freeB ts out l = true ↔ ∀ s ∈ l, s ∈ out.map (nmOf ts) := by
  unfold freeB
  rw [List.all_eq_true]
  constructor
  · intro hf s hs
    obtain ⟨j, t, hj, e, ha⟩ := at_find (hl s hs)
    have h1 := of_decide_eq_true (hf s hs)
    rw [ha] at h1
    rw [← e]
    exact (h.mem ho hj).2 h1
  · intro hf s hs
    obtain ⟨j, t, hj, e, ha⟩ := at_find (hl s hs)
    have h1 := hf s hs
    rw [← e] at h1
    rw [ha]
    exact decide_eq_true ((h.mem ho hj).1 h1)
/-- What a scan adds. -/
theorem scan_or {ts : List Ta} {out : List Int} : ∀ (r : List Ta) (i : Nat), ts.drop i = r → (ordScan ts out i r = out ∧ ∀ (j : Nat) (t : Ta), i ≤ j → ts[j]? = some t → (j : Int) ∈ out ∨ freeB ts out t.after = false) ∨ ∃ (j : Nat) (t : Ta), ts[j]? = some t ∧ (j : Int) ∉ out ∧ freeB ts out t.after = true ∧ ordScan ts out i r = out ++ [(j : Int)]
  | [], i, h => .inl ⟨rfl, fun j t hj ht => by
    have := List.getElem?_eq_some_iff.1 ht
    have h2 := congrArg List.length h
    rw [List.length_drop] at h2
    obtain ⟨hjl, _⟩ := this
    simp at h2
    omega⟩
  | t :: r, i, h => by
    have hi : ts[i]? = some t := by
      have := congrArg (fun l => l[0]?) h
      simpa [List.getElem?_drop] using this
    have hr : ts.drop (i + 1) = r := by
      have := congrArg List.tail h
      simpa using this
    unfold ordScan
    by_cases hm : (i : Int) ∈ out
    · rw [if_pos hm]
      rcases scan_or r (i + 1) hr with ⟨h1, h2⟩ | h1
      · exact .inl ⟨h1, fun j u hj hu => by
          by_cases e : j = i
          · subst e; exact .inl hm
          · exact h2 j u (by omega) hu⟩
      · exact .inr h1
    · rw [if_neg hm]
      by_cases hf : freeB ts out t.after = true
      · rw [if_pos hf]
        exact .inr ⟨i, t, hi, hm, hf, rfl⟩
      · rw [if_neg hf]
        rcases scan_or r (i + 1) hr with ⟨h1, h2⟩ | h1
        · exact .inl ⟨h1, fun j u hj hu => by
            by_cases e : j = i
            · subst e
              rw [hi] at hu
              cases hu
              exact .inr (by simpa using hf)
            · exact h2 j u (by omega) hu⟩
        · exact .inr h1
theorem ordL_ol {ts : List Ta} (ho : Own ts) (hl : ∀ t ∈ ts, ∀ s ∈ t.after, 0 ≤ atN ts s) : ∀ k, Ol ts (ordL ts k)
  | 0 => ⟨row_nil ts, (fun _ h => nomatch h), List.nodup_nil⟩
  | k + 1 => by
    have ih := ordL_ol ho hl k
    unfold ordL
    rcases scan_or (out := ordL ts k) ts 0 rfl with ⟨h1, _⟩ | ⟨j, t, hj, hn, hf, e⟩
    · rw [h1]; exact ih
    · have hm : t ∈ ts := List.mem_of_getElem? hj
      rw [e]
      refine ⟨?_, fun x hx => ?_, ?_⟩
      · rw [List.map_append, List.map_singleton, nm_at hj]
        exact ih.row.more hm (fun h => hn ((ih.mem ho hj).1 h)) ((ih.free ho (hl t hm)).1 hf)
      · rw [List.mem_append, List.mem_singleton] at hx
        rcases hx with hx | rfl
        · exact ih.pl x hx
        · exact ⟨j, t, rfl, hj⟩
      · rw [List.nodup_append]
        exact ⟨ih.nd, by simp, fun a ha b hb => by rw [List.mem_singleton] at hb; subst hb; exact fun e => hn (e ▸ ha)⟩
/-- While a row of all names stands, a scan adds one. -/
theorem ordL_more {ts : List Ta} {L : List ByteArray} (ho : Own ts) (hl : ∀ t ∈ ts, ∀ s ∈ t.after, 0 ≤ atN ts s) (hL : Row ts L) (hlen : L.length = ts.length) : ∀ k, k ≤ ts.length → (ordL ts k).length = k
  | 0, _ => rfl
  | k + 1, hk => by
    have ih := ordL_more ho hl hL hlen k (by omega)
    have hol := ordL_ol ho hl k
    unfold ordL
    rcases scan_or (out := ordL ts k) ts 0 rfl with ⟨h1, h2⟩ | ⟨j, t, hj, hn, hf, e⟩
    · exfalso
      -- all names of the row stand there already, so the order is as long as the row
      have hall : ∀ m, m ≤ L.length → ∀ x ∈ L.take m, x ∈ (ordL ts k).map (nmOf ts) := by
        intro m
        induction m with
        | zero => intro _ x hx; simp at hx
        | succ m ihm =>
          intro hm x hx
          have hm' : m < L.length := by omega
          have ih' := ihm (by omega)
          rw [List.take_succ_eq_append_getElem hm', List.mem_append, List.mem_singleton] at hx
          rcases hx with hx | rfl
          · exact ih' x hx
          · obtain ⟨t, ht, e, ha⟩ := hL.2 (L.take m) L[m] (L.drop (m + 1)) (by rw [← List.drop_eq_getElem_cons hm', List.take_append_drop])
            obtain ⟨j, hj, rfl⟩ := List.getElem_of_mem ht
            have hj' : ts[j]? = some ts[j] := List.getElem?_eq_getElem hj
            rw [← e]
            rcases h2 j _ (Nat.zero_le _) hj' with h3 | h3
            · exact (hol.mem ho hj').2 h3
            · have := (hol.free ho (hl _ ht)).2 fun s hs => ih' s (ha s hs)
              rw [this] at h3
              cases h3
      have h4 := nodup_sub_len hL.1 (by have := hall L.length (Nat.le_refl _); rwa [List.take_length] at this)
      rw [List.length_map, ih] at h4
      omega
    · rw [e]
      simp [ih]
/-- The specification's order has all tasks just when all come. -/
theorem order_all {ts : List Ta} (ho : Own ts) (hl : ∀ t ∈ ts, ∀ s ∈ t.after, 0 ≤ atN ts s) : decide ((orderL ts).length = ts.length) = allB ts := by
  cases ha : allB ts with
  | true =>
    obtain ⟨L, hL, hlen⟩ := row_of_all ha
    exact decide_eq_true (ordL_more ho hl hL hlen ts.length (Nat.le_refl _))
  | false =>
    apply decide_eq_false
    intro h
    have hol := ordL_ol ho hl ts.length
    have := all_of_row hol.row (by rw [List.length_map]; exact h)
    rw [this] at ha
    cases ha
end Go.Proofs.YtjmclcjhimcehaaGreatDoor

namespace Go.Proofs.YtjmclcjhimcehaaGreatDoor
open Go Go.RowKit

theorem ownsS_reads {w : World} {B : Nat} {e : TypeId} {v : Value} {l : List ByteArray} (h : ownsS w B e v l) : Reads w v l := by
  by_cases hne : l = []
  · subst hne
    obtain ⟨ao, c, rfl⟩ := ownsS_empty h
    exact reads_none w ao c
  · obtain ⟨g, c, rfl, _, hg, _, hc, _⟩ := ownsS_form h hne
    refine ⟨_, c, rfl, fun _ => ⟨g, 0, rfl, hg, fun i x hx j u hu => ?_⟩⟩
    obtain ⟨hi, rfl⟩ := List.getElem?_eq_some_iff.1 hx
    match j, hu with
    | 0, hu =>
      simp only [Rec.cells, List.getElem?_cons_zero, Option.some.injEq] at hu
      subst hu
      rw [show 0 + i * Rec.width ByteArray + 0 = i by show 0 + i * 1 + 0 = i; omega]
      exact hc i hi
    | j + 1, hu => simp [Rec.cells] at hu
/-- One text behind another. -/
def moreB (a b : ByteArray) : Bool := !(Op.bytesLess a.toList b.toList || a.toList == b.toList)
theorem ownsS_drewN {w : World} {B : Nat} {e : TypeId} {v : Value} {l : List ByteArray} (h : ownsS w B e v l) (m : Nat) : ownsS (w.drewN m) B e v l := h
theorem made_cell (w : World) (m : Nat) (v : Value) (t : TypeId) : ((w.drewN m).alloc (.cells #[v] t)).cell? ⟨w.heap.size, 0, none⟩ = some v := by
  obtain ⟨u, hu⟩ : ∃ u, w.drewN m = u := ⟨_, rfl⟩
  have h : w.heap.size = u.heap.size := by rw [← hu]; rfl
  rw [h, hu]
  simp
/-- A name put into a rising list. -/
def insN (l : List ByteArray) (s : ByteArray) : List ByteArray := l.filter (fun x => lessB x s) ++ [s] ++ l.filter (fun x => moreB x s)
def namesGo : List ByteArray → List ByteArray → Option (List ByteArray)
  | [], l => some l
  | s :: r, l => if (nameB s && l.all fun x => !decide (x = s)) = true then namesGo r (insN l s) else none
/-- Names with commas between. -/
def namesO (s : ByteArray) : Option (List ByteArray) := namesGo (splitB s 44) []
theorem namesGo_at {p l : List ByteArray} {k : Nat} {s : ByteArray} (h : p[k]? = some s) : namesGo (p.drop k) l = if (nameB s && l.all fun x => !decide (x = s)) = true then namesGo (p.drop (k + 1)) (insN l s) else none := by
  obtain ⟨hk, rfl⟩ := List.getElem?_eq_some_iff.1 h
  rw [List.drop_eq_getElem_cons hk]
  rfl
theorem namesGo_end {p l : List ByteArray} {k : Nat} (h : k = p.length) : namesGo (p.drop k) l = some l := by
  subst h; rw [List.drop_length]; rfl
theorem filter_take {l : List ByteArray} {k : Nat} {x : ByteArray} (f : ByteArray → Bool) (h : l[k]? = some x) : (l.take (k + 1)).filter f = (l.take k).filter f ++ (if f x then [x] else []) := by
  rw [List.take_add_one, h, List.filter_append]
  congr 1
  cases hf : f x <;> simp [hf]
theorem filter_len {l : List ByteArray} (k : Nat) (f : ByteArray → Bool) : ((l.take k).filter f).length ≤ k := by
  have h1 := List.length_filter_le f (l.take k)
  have h2 := List.length_take_le k l
  omega
theorem insN_len {l : List ByteArray} (s : ByteArray) : (insN l s).length ≤ 2 * l.length + 1 := by
  have h1 := List.length_filter_le (fun x => lessB x s) l
  have h2 := List.length_filter_le (fun x => moreB x s) l
  unfold insN
  simp only [List.length_append, List.length_cons, List.length_nil]
  omega
theorem less_not {s : ByteArray} : ∀ l : List ByteArray, (∀ x ∈ l, lessB x s = true → moreB x s = false) → (l.filter (fun x => lessB x s)).length + (l.filter (fun x => moreB x s)).length ≤ l.length
  | [], _ => Nat.le_refl _
  | x :: r, h => by
    have ih := less_not r fun y hy => h y (List.mem_cons_of_mem _ hy)
    have hx := h x (List.mem_cons_self ..)
    simp only [List.filter_cons, List.length_cons]
    cases h1 : lessB x s with
    | true => rw [hx h1]; simp; omega
    | false => cases h2 : moreB x s <;> simp <;> omega
theorem insN_len1 {l : List ByteArray} (s : ByteArray) : (insN l s).length ≤ l.length + 1 := by
  have := less_not (s := s) l fun x _ h => by unfold moreB; unfold lessB at h; rw [h]; rfl
  unfold insN
  simp only [List.length_append, List.length_cons, List.length_nil]
  omega
theorem all_take {l : List ByteArray} {k : Nat} {x : ByteArray} (f : ByteArray → Bool) (h : l[k]? = some x) : (l.take (k + 1)).all f = ((l.take k).all f && f x) := by
  rw [List.take_add_one, h]
  simp
theorem all_no {l : List ByteArray} {k : Nat} {x : ByteArray} (f : ByteArray → Bool) (h : l[k]? = some x) (hf : f x = false) : l.all f = false := by
  rw [List.all_eq_false]
  exact ⟨x, List.mem_of_getElem? h, by simp [hf]⟩
def NamP (s : ByteArray) (w : World) (e : Ending) (w' : World) : Prop :=
  ∃ v, e = .returned (.tuple #[v, .bool (namesO s).isSome]) ∧ ownsS w' w.heap.size 9 v ((namesO s).getD []) ∧ Below w.heap.size w w'
theorem nam_no {s : ByteArray} {w W : World} (h : namesO s = none) (hb : Below w.heap.size w W) : NamP s w (.returned (.tuple #[.slice (some ⟨W.heap.size, 0, none⟩) 0 0, .bool false])) (W.alloc (.cells #[] 9)) := by
  refine ⟨_, by rw [h]; rfl, ?_, ba hb _⟩
  rw [h]
  exact ownsS_made _ _ _ _ _ hb.size (by decide) rfl

end Go.Proofs.YtjmclcjhimcehaaGreatDoor
