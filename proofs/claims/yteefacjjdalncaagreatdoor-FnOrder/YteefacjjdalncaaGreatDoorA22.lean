/-
  A plan in words, as the specification writes it: the walks. A plan is right for the program just when it is for the specification: plain facts. A plan's block of six cells.
-/
import Derived.Test.YteefacjjdalncaaGreatDoorA18
import Derived.Test.YteefacjjdalncaaGreatDoorA21
import Derived.Test.YteefacjjdalncaaGreatDoorGn
namespace Go.Proofs.YteefacjjdalncaaGreatDoor
open Go Go.RowKit

/-- The first k texts, with a comma between. -/
def joinP (l : List ByteArray) : Nat → ByteArray
  | 0 => ⟨#[]⟩
  | k + 1 => (if k = 0 then joinP l k else joinP l k ++ ⟨#[44]⟩) ++ (l[k]?).getD ⟨#[]⟩
def joinS (l : List ByteArray) : ByteArray := joinP l l.length
theorem joinP_size {l : List ByteArray} (h : ∀ s ∈ l, s.size ≤ 8) : ∀ k, k ≤ l.length → (joinP l k).size ≤ 9 * k
  | 0, _ => by show 0 ≤ _; omega
  | k + 1, hk => by
    have ih := joinP_size h k (by omega)
    have hx := h _ (List.getElem_mem (show k < l.length by omega))
    unfold joinP
    rw [List.getElem?_eq_getElem (by omega), ByteArray.size_append]
    show _ + (l[k]).size ≤ _
    split
    · omega
    · rw [ByteArray.size_append]
      have : (ByteArray.mk #[44]).size = 1 := rfl
      omega
set_option maxHeartbeats 1000000 in
theorem l12Join_any {w : World} {v : Value} {l : List ByteArray} (hr : Reads w v l) (hn : l.length ≤ 1048576) (hs : ∀ s ∈ l, s.size ≤ 8) :
    Calls Tryz.prog 159 #[v] w fun e w' => e = .returned (.string (joinS l)) ∧ w' = w := by
  obtain ⟨ao, cap, rfl, -⟩ := id hr
  have HR : Hid (Reads w (.slice ao l.length cap) l) := hr
  have HS : Hid (∀ s ∈ l, s.size ≤ 8) := hs
  have HJ : Hid (joinS l = joinP l l.length) := rfl
  clear hr hs
  obtain ⟨n, HN⟩ : ∃ n, Hid (l.length = n) := ⟨_, rfl⟩
  rw [HN.out] at hn HR HJ ⊢
  go_enter Tryz.func159, Tryz.ntmps159
  go_wp2
  go_loopw [3, 4] (fun t i wr => ∃ (k : Nat) (y : ByteArray), k ≤ n ∧ i = .int .i64 k ∧ t = .string y ∧ Hid (joinP l k = y) ∧ y.size ≤ 9 * k ∧ wr = w) (fun _ i _ => n - (intOf i).toNat)
  case atStart => exact ⟨0, ⟨#[]⟩, Nat.zero_le _, rfl, rfl, rfl, Nat.zero_le _, rfl⟩
  case round =>
    obtain ⟨k, y, hk, rfl, rfl, HY, hy9, rfl⟩ := hrel
    by_cases hlt : k < n
    · obtain ⟨x, hx⟩ : ∃ x, l[k]? = some x := ⟨_, List.getElem?_eq_getElem (by rw [HN.out]; exact hlt)⟩
      have hx8 := HS.out x (List.mem_of_getElem? hx)
      have HX : Hid (joinP l (k + 1) = (if k = 0 then y else y ++ ⟨#[44]⟩) ++ x) := by show joinP l (k + 1) = _; rw [joinP, hx, HY.out]; rfl
      have HZ : Hid ((joinP l (k + 1)).size ≤ 9 * (k + 1)) := joinP_size HS.out (k + 1) (by rw [HN.out]; omega)
      obtain ⟨b, o, rfl, hb, c0⟩ := text_at HR.out hx
      clear hx
      rcases Nat.eq_zero_or_pos k with hk0 | hk0
      · have HX2 : Hid (joinP l (k + 1) = y ++ x) := HX.out.trans (by rw [if_pos hk0])
        have HZ2 : Hid ((y ++ x).size ≤ 9 * (k + 1)) := by show _ ≤ _; rw [← HX2.out]; exact HZ.out
        subst hk0
        rw [Nat.add_zero] at c0
        go_wp2
        go_roundw
        case rel => exact ⟨0 + 1, y ++ x, by omega, by go_num, rfl, HX2, HZ2.out, trivial⟩
        case measure => simp [intOf]; omega
      · have HX2 : Hid (joinP l (k + 1) = y ++ ⟨#[44]⟩ ++ x) := HX.out.trans (by rw [if_neg (by omega)])
        have HZ2 : Hid ((y ++ ⟨#[44]⟩ ++ x).size ≤ 9 * (k + 1)) := by show _ ≤ _; rw [← HX2.out]; exact HZ.out
        have z1 : (y ++ ⟨#[44]⟩).size = y.size + 1 := by rw [ByteArray.size_append]; rfl
        go_wp2
        go_roundw
        case rel => exact ⟨k + 1, y ++ ⟨#[44]⟩ ++ x, by omega, by go_num, rfl, HX2, HZ2.out, trivial⟩
        case measure => simp [intOf]; omega
    · have hkn : k = n := by omega
      have HF : Hid (joinS l = y) := by show joinS l = y; rw [HJ.out, ← hkn]; exact HY.out
      go_wp2
      go_ret
      exact ⟨by rw [HF.out]; rfl, rfl⟩

/-- The head of a plan in words. -/
def headS (d : Dg) : ByteArray := (⟨#[100, 97, 103, 32]⟩ ++ d.name ++ ⟨#[10, 99, 114, 111, 110, 32]⟩ ++ d.cron ++ ⟨#[10, 102, 114, 111, 109, 32]⟩ ++ bstr (decI d.fr.toNat) ++ ⟨#[10, 116, 111, 32]⟩ ++ bstr (decI d.up.toNat) ++ ⟨#[10]⟩) ++ (if d.cu then ⟨#[99, 97, 116, 99, 104, 117, 112, 10]⟩ else ⟨#[108, 97, 116, 101, 115, 116, 10]⟩)
/-- A task's line behind a text. -/
def baseL (s : ByteArray) (t : Ta) : ByteArray := s ++ ⟨#[116, 97, 115, 107, 32]⟩ ++ t.name ++ ⟨#[32]⟩ ++ t.pool ++ ⟨#[32]⟩ ++ bstr (decI t.ret.toNat) ++ (if t.past then ⟨#[32, 112, 97, 115, 116]⟩ else ⟨#[32, 102, 114, 101, 101]⟩)
def lineS (s : ByteArray) (t : Ta) : ByteArray := (if 0 < t.after.length then baseL s t ++ ⟨#[32]⟩ ++ joinS t.after else baseL s t) ++ ⟨#[10]⟩
def dagP (d : Dg) : List Ta → ByteArray → ByteArray
  | [], s => s
  | t :: r, s => dagP d r (lineS s t)
/-- A plan in words. -/
def dagS (d : Dg) : ByteArray := dagP d d.tasks (headS d)
def dagX (d : Dg) : ByteArray := if dagB d then dagS d else ⟨#[]⟩
theorem dagP_at {d : Dg} {s : ByteArray} {ts : List Ta} {i : Nat} {t : Ta} (h : ts[i]? = some t) : dagP d (ts.drop i) s = dagP d (ts.drop (i + 1)) (lineS s t) := by
  obtain ⟨hk, rfl⟩ := List.getElem?_eq_some_iff.1 h
  rw [List.drop_eq_getElem_cons hk]
  rfl
theorem tasksB_mem {ts : List Ta} : ∀ (r : List Ta) (i : Nat), tasksB ts i r = true → ∀ t ∈ r, ∃ k, taskB ts k t = true
  | [], _, _, t, ht => by cases ht
  | x :: r, i, h, t, ht => by
    unfold tasksB at h
    rw [Bool.and_eq_true] at h
    rcases List.mem_cons.1 ht with rfl | ht
    · exact ⟨i, h.1⟩
    · exact tasksB_mem r (i + 1) h.2 t ht
theorem atG_some {s : ByteArray} : ∀ (l : List Ta) (k : Nat), 0 ≤ atG s k l → ∃ t ∈ l, t.name = s
  | [], _, h => by simp [atG] at h
  | t :: r, k, h => by
    unfold atG at h
    split at h
    · rename_i e; exact ⟨t, List.mem_cons_self .., e⟩
    · obtain ⟨x, hx, e⟩ := atG_some r (k + 1) h
      exact ⟨x, List.mem_cons_of_mem _ hx, e⟩
theorem afterB_mem {ts : List Ta} {nm : ByteArray} : ∀ (l : List ByteArray) (p : Option ByteArray), afterB ts nm p l = true → ∀ s ∈ l, 0 ≤ atN ts s
  | [], _, _, s, hs => by cases hs
  | x :: r, p, h, s, hs => by
    unfold afterB at h
    simp only [Bool.and_eq_true, decide_eq_true_eq] at h
    rcases List.mem_cons.1 hs with rfl | hs
    · exact h.1.1
    · exact afterB_mem r (some x) h.2 s hs
theorem nameB_size {s : ByteArray} (h : nameB s = true) : s.size ≤ 8 := by
  unfold nameB at h
  simp only [Bool.and_eq_true, decide_eq_true_eq] at h
  exact h.1.2
theorem pool_size {s : ByteArray} (h : poolN s ≠ 0) : s.size ≤ 4 := by
  unfold poolN at h
  split at h
  · subst s; decide
  · split at h
    · subst s; decide
    · split at h
      · subst s; decide
      · exact absurd rfl h
/-- What a right plan's tasks are. -/
structure FineT (t : Ta) : Prop where
  name : t.name.size ≤ 8
  pool : t.pool.size ≤ 4
  r0 : 0 ≤ t.ret
  r1 : t.ret ≤ 3
  after : ∀ s ∈ t.after, s.size ≤ 8
theorem dag_fine {d : Dg} (h : dagB d = true) : d.name.size ≤ 8 ∧ 0 ≤ d.fr ∧ d.fr ≤ 68374079 ∧ 0 ≤ d.up ∧ d.up ≤ 68374079 ∧ d.tasks.length ≤ 4 ∧ ∀ t ∈ d.tasks, FineT t := by
  unfold dagB at h
  simp only [Bool.and_eq_true, decide_eq_true_eq] at h
  obtain ⟨h1, _, _, h4, h5, h6, h7, _⟩ := h
  have key : ∀ t ∈ d.tasks, nameB t.name = true ∧ poolN t.pool ≠ 0 ∧ (0 ≤ t.ret ∧ t.ret ≤ 3) ∧ afterB d.tasks t.name none t.after = true := by
    intro t ht
    obtain ⟨k, hk⟩ := tasksB_mem d.tasks 0 h7 t ht
    unfold taskB at hk
    simp only [Bool.and_eq_true, decide_eq_true_eq, Bool.not_eq_true', decide_eq_false_iff_not] at hk
    exact ⟨hk.1, hk.2.2.1, hk.2.2.2.1, hk.2.2.2.2⟩
  refine ⟨nameB_size h1, h5.1, by omega, h4.1, h4.2, by omega, fun t ht => ?_⟩
  obtain ⟨k1, k2, k3, k4⟩ := key t ht
  refine ⟨nameB_size k1, pool_size k2, k3.1, k3.2, fun s hs => ?_⟩
  obtain ⟨x, hx, rfl⟩ := atG_some d.tasks 0 (afterB_mem _ _ k4 s hs)
  exact nameB_size (key x hx).1
theorem dec_size {n : Int} (h : n ≤ 1000000000) : (bstr (decI n.toNat)).size ≤ 10 := by rw [bstr_size']; exact decI_len 9 _ (by omega)
end Go.Proofs.YteefacjjdalncaaGreatDoor

namespace Go.Proofs.YteefacjjdalncaaGreatDoor
open Go Go.RowKit

theorem atG_le {s : ByteArray} : ∀ (l : List Ta) (k j : Nat) (u : Ta), l[j]? = some u → u.name = s → (k : Int) ≤ atG s k l ∧ atG s k l ≤ ((k + j : Nat) : Int)
  | [], _, _, _, h, _ => by simp at h
  | t :: r, k, j, u, h, e => by
    unfold atG
    by_cases ht : t.name = s
    · rw [if_pos ht]; omega
    · rw [if_neg ht]
      match j, h with
      | 0, h => simp at h; subst h; exact absurd e ht
      | j + 1, h =>
        have := atG_le r (k + 1) j u (by simpa using h) e
        omega
theorem at_le {ts : List Ta} {s : ByteArray} {j : Nat} {u : Ta} (h : ts[j]? = some u) (e : u.name = s) : 0 ≤ atN ts s ∧ atN ts s ≤ (j : Int) := by
  have := atG_le ts 0 j u h e
  unfold atN
  omega
theorem hasB_take {ts : List Ta} {i : Nat} {t : Ta} (h : ts[i]? = some t) : hasB (ts.take i) t.name = false ↔ atN ts t.name = (i : Int) := by
  constructor
  · intro hf
    obtain ⟨h0, h1⟩ := at_le h rfl
    obtain ⟨j, u, hj, he, ha⟩ := at_find h0
    by_cases hlt : j < i
    · exfalso
      unfold hasB at hf
      rw [List.any_eq_false] at hf
      have hm : u ∈ ts.take i := List.mem_of_getElem? (i := j) (by rw [List.getElem?_take, if_pos hlt]; exact hj)
      exact hf u hm (decide_eq_true he)
    · omega
  · intro ha
    unfold hasB
    rw [List.any_eq_false]
    intro u hu hq
    obtain ⟨j, hj, rfl⟩ := List.getElem_of_mem hu
    have hjl : j < i := by
      have := hj
      rw [List.length_take] at this
      omega
    have hju : ts[j]? = some (ts.take i)[j] := by
      have := List.getElem?_eq_getElem hj
      rw [List.getElem?_take, if_pos hjl] at this
      exact this
    have := (at_le hju (of_decide_eq_true hq)).2
    omega
theorem onesB_iff {ts : List Ta} : ∀ (r : List Ta) (k : Nat), ts.drop k = r → (onesB ts k r = true ↔ ∀ (i : Nat) (t : Ta), k ≤ i → ts[i]? = some t → oneB ts i t = true)
  | [], k, h => by
    refine ⟨fun _ i t hi ht => ?_, fun _ => rfl⟩
    have h2 := congrArg List.length h
    have := (List.getElem?_eq_some_iff.1 ht).1
    rw [List.length_drop] at h2
    simp at h2
    omega
  | t :: r, k, h => by
    have hk : ts[k]? = some t := by
      have := congrArg (fun l => l[0]?) h
      simpa [List.getElem?_drop] using this
    have hr : ts.drop (k + 1) = r := by
      have := congrArg List.tail h
      simpa using this
    unfold onesB
    rw [Bool.and_eq_true, onesB_iff r (k + 1) hr]
    constructor
    · rintro ⟨h1, h2⟩ i u hi hu
      by_cases e : i = k
      · subst e; rw [hk] at hu; cases hu; exact h1
      · exact h2 i u (by omega) hu
    · intro h1
      exact ⟨h1 k t (Nat.le_refl _) hk, fun i u hi hu => h1 i u (by omega) hu⟩
theorem tasksB_iff {ts : List Ta} : ∀ (r : List Ta) (k : Nat), ts.drop k = r → (tasksB ts k r = true ↔ ∀ (i : Nat) (t : Ta), k ≤ i → ts[i]? = some t → taskB ts i t = true)
  | [], k, h => by
    refine ⟨fun _ i t hi ht => ?_, fun _ => rfl⟩
    have h2 := congrArg List.length h
    have := (List.getElem?_eq_some_iff.1 ht).1
    rw [List.length_drop] at h2
    simp at h2
    omega
  | t :: r, k, h => by
    have hk : ts[k]? = some t := by
      have := congrArg (fun l => l[0]?) h
      simpa [List.getElem?_drop] using this
    have hr : ts.drop (k + 1) = r := by
      have := congrArg List.tail h
      simpa using this
    unfold tasksB
    rw [Bool.and_eq_true, tasksB_iff r (k + 1) hr]
    constructor
    · rintro ⟨h1, h2⟩ i u hi hu
      by_cases e : i = k
      · subst e; rw [hk] at hu; cases hu; exact h1
      · exact h2 i u (by omega) hu
    · intro h1
      exact ⟨h1 k t (Nat.le_refl _) hk, fun i u hi hu => h1 i u (by omega) hu⟩
theorem pool_pos (s : ByteArray) : decide (0 < poolN s) = !decide (poolN s = 0) := by
  unfold poolN
  split
  · rfl
  · split
    · rfl
    · split <;> rfl
theorem asc_after {ts : List Ta} {nm : ByteArray} : ∀ (l : List ByteArray) (p : ByteArray), ascB p l = true → (∀ s ∈ l, 0 ≤ atN ts s ∧ s ≠ nm) → afterB ts nm (some p) l = true
  | [], _, _, _ => rfl
  | s :: r, p, h, ha => by
    unfold ascB at h
    unfold afterB
    simp only [Bool.and_eq_true] at h
    obtain ⟨⟨_, h2⟩, h3⟩ := h
    obtain ⟨a1, a2⟩ := ha s (List.mem_cons_self ..)
    rw [decide_eq_true a1, decide_eq_false a2, asc_after r s h3 fun x hx => ha x (List.mem_cons_of_mem _ hx)]
    show (true && (!false && lessB p s)) && true = true
    rw [less_le, h2]
    rfl
theorem asc_after0 {ts : List Ta} {nm : ByteArray} {l : List ByteArray} (h : ascB ⟨#[]⟩ l = true) (ha : ∀ s ∈ l, 0 ≤ atN ts s ∧ s ≠ nm) : afterB ts nm none l = true := by
  match l, h, ha with
  | [], _, _ => rfl
  | s :: r, h, ha =>
    unfold ascB at h
    unfold afterB
    simp only [Bool.and_eq_true] at h
    obtain ⟨_, h3⟩ := h
    obtain ⟨a1, a2⟩ := ha s (List.mem_cons_self ..)
    rw [decide_eq_true a1, decide_eq_false a2, asc_after r s h3 fun x hx => ha x (List.mem_cons_of_mem _ hx)]
    rfl
theorem after_asc {ts : List Ta} {nm : ByteArray} : ∀ (l : List ByteArray) (p : ByteArray), afterB ts nm (some p) l = true → (∀ s ∈ l, nameB s = true) → ascB p l = true
  | [], _, _, _ => rfl
  | s :: r, p, h, ha => by
    unfold afterB at h
    unfold ascB
    simp only [Bool.and_eq_true] at h
    obtain ⟨⟨_, _, h2⟩, h3⟩ := h
    have h4 : lessB p s = true := h2
    rw [less_le] at h4
    rw [ha s (List.mem_cons_self ..), h4, after_asc r s h3 fun x hx => ha x (List.mem_cons_of_mem _ hx)]
    rfl
theorem name_some {s : ByteArray} (h : nameB s = true) : 0 < s.size := by
  unfold nameB at h
  rw [Bool.and_eq_true] at h
  exact (of_decide_eq_true h.1).1
theorem after_asc0 {ts : List Ta} {nm : ByteArray} {l : List ByteArray} (h : afterB ts nm none l = true) (ha : ∀ s ∈ l, nameB s = true) : ascB ⟨#[]⟩ l = true := by
  match l, h, ha with
  | [], _, _ => rfl
  | s :: r, h, ha =>
    unfold afterB at h
    unfold ascB
    simp only [Bool.and_eq_true] at h
    have hn := ha s (List.mem_cons_self ..)
    rw [hn, leB_none (name_some hn), after_asc r s h.2 fun x hx => ha x (List.mem_cons_of_mem _ hx)]
    rfl
theorem after_mem {ts : List Ta} {nm : ByteArray} {l : List ByteArray} {p : Option ByteArray} (h : afterB ts nm p l = true) {s : ByteArray} (hs : s ∈ l) : 0 ≤ atN ts s := afterB_mem l p h s hs
/-- Tasks are right for both alike. -/
theorem tasks_same (ts : List Ta) : (onesB ts 0 ts && allB ts) = (tasksB ts 0 ts && decide ((orderL ts).length = ts.length)) := by
  rw [Bool.eq_iff_iff, Bool.and_eq_true, Bool.and_eq_true, onesB_iff ts 0 rfl, tasksB_iff ts 0 rfl]
  constructor
  · rintro ⟨h1, h2⟩
    have ho : Own ts := fun i t ht => by
      have := h1 i t (Nat.zero_le _) ht
      unfold oneB at this
      rw [Bool.and_eq_true, Bool.not_eq_true'] at this
      exact (hasB_take ht).1 this.2
    obtain ⟨L, hL, hlen⟩ := row_of_all h2
    have hall := nodup_full hL.1 hL.names (by rw [List.length_map]; omega)
    have haft : ∀ (i : Nat) (t : Ta), ts[i]? = some t → ∀ s ∈ t.after, 0 ≤ atN ts s ∧ s ≠ t.name := by
      intro i t ht s hs
      have hm : t.name ∈ L := hall _ (List.mem_map.2 ⟨t, List.mem_of_getElem? ht, rfl⟩)
      obtain ⟨A, B, rfl⟩ := List.append_of_mem hm
      obtain ⟨u, hu, hn, ha⟩ := hL.2 A t.name B rfl
      obtain ⟨j, hj, rfl⟩ := List.getElem_of_mem hu
      have hju : ts[j]? = some ts[j] := List.getElem?_eq_getElem hj
      have hji := ho.inj hju ht hn
      subst hji
      rw [hju] at ht
      cases ht
      have hsA := ha s hs
      constructor
      · have := hL.names s (List.mem_append_left _ hsA)
        obtain ⟨v, hv, rfl⟩ := List.mem_map.1 this
        obtain ⟨k, hk, rfl⟩ := List.getElem_of_mem hv
        exact (at_le (List.getElem?_eq_getElem hk) rfl).1
      · intro e
        have hnd := hL.1
        rw [List.nodup_append] at hnd
        exact hnd.2.2 s hsA _ (List.mem_cons_self ..) e
    refine ⟨fun i t _ ht => ?_, ?_⟩
    · have h3 := h1 i t (Nat.zero_le _) ht
      unfold oneB rightB at h3
      simp only [Bool.and_eq_true] at h3
      obtain ⟨⟨a1, a2, a3, a4, a5⟩, _⟩ := h3
      rw [pool_pos] at a2
      unfold taskB
      rw [a1, decide_eq_true (ho i t ht), a2, decide_eq_true (p := 0 ≤ t.ret ∧ t.ret ≤ 3) ⟨of_decide_eq_true a3, of_decide_eq_true a4⟩, asc_after0 a5 (haft i t ht)]
      rfl
    · rw [order_all ho fun t ht s hs => by
        obtain ⟨i, hi, rfl⟩ := List.getElem_of_mem ht
        exact (haft i _ (List.getElem?_eq_getElem hi) s hs).1]
      exact h2
  · rintro ⟨h1, h2⟩
    have hp : ∀ (i : Nat) (t : Ta), ts[i]? = some t → nameB t.name = true ∧ atN ts t.name = (i : Int) ∧ (!decide (poolN t.pool = 0)) = true ∧ (0 ≤ t.ret ∧ t.ret ≤ 3) ∧ afterB ts t.name none t.after = true := by
      intro i t ht
      have := h1 i t (Nat.zero_le _) ht
      unfold taskB at this
      simp only [Bool.and_eq_true] at this
      obtain ⟨a1, a2, a3, a4, a5⟩ := this
      exact ⟨a1, of_decide_eq_true a2, a3, of_decide_eq_true a4, a5⟩
    have ho : Own ts := fun i t ht => (hp i t ht).2.1
    have hmem : ∀ t ∈ ts, ∀ s ∈ t.after, 0 ≤ atN ts s := by
      intro t ht s hs
      obtain ⟨i, hi, rfl⟩ := List.getElem_of_mem ht
      exact after_mem (hp i _ (List.getElem?_eq_getElem hi)).2.2.2.2 hs
    refine ⟨fun i t _ ht => ?_, ?_⟩
    · obtain ⟨a1, a2, a3, a4, a5⟩ := hp i t ht
      have hn : ∀ s ∈ t.after, nameB s = true := by
        intro s hs
        obtain ⟨j, u, hj, he, _⟩ := at_find (hmem t (List.mem_of_getElem? ht) s hs)
        rw [← he]
        exact (hp j u hj).1
      unfold oneB rightB
      rw [a1, pool_pos, a3, decide_eq_true a4.1, decide_eq_true a4.2, after_asc0 a5 hn, (hasB_take ht).2 a2]
      rfl
    · rw [← order_all ho hmem]
      exact h2
theorem are_same (ts : List Ta) : areB ts = (decide (1 ≤ (ts.length : Int) ∧ (ts.length : Int) ≤ 4) && (tasksB ts 0 ts && decide ((orderL ts).length = ts.length))) := by
  unfold areB
  rw [tasks_same]
  congr 1
  apply decide_eq_decide.2
  omega
/-- A plan is right for both alike. -/
theorem dag_same (d : Dg) : dagB d = (nameB d.name && ((pcO d.cron).isSome && (decide (againS d.cron = d.cron) && (decide (0 ≤ d.fr) && (decide (d.fr ≤ d.up) && (decide (d.up ≤ 68374079) && areB d.tasks)))))) := by
  rw [are_same]
  unfold dagB
  congr 3
  by_cases h : 0 ≤ d.fr ∧ d.fr ≤ d.up ∧ d.up ≤ 68374079
  · obtain ⟨h1, h2, h3⟩ := h
    rw [decide_eq_true (p := 0 ≤ d.up ∧ d.up ≤ 68374079) ⟨by omega, h3⟩, decide_eq_true (p := 0 ≤ d.fr ∧ d.fr ≤ d.up) ⟨h1, h2⟩, decide_eq_true h1, decide_eq_true h2, decide_eq_true h3]
    rfl
  · have e1 : (decide (0 ≤ d.up ∧ d.up ≤ 68374079) && decide (0 ≤ d.fr ∧ d.fr ≤ d.up)) = false := by
      rw [Bool.and_eq_false_iff]
      by_cases h1 : 0 ≤ d.fr ∧ d.fr ≤ d.up
      · left; exact decide_eq_false (fun h2 => h ⟨h1.1, h1.2, h2.2⟩)
      · right; exact decide_eq_false h1
    have e2 : (decide (0 ≤ d.fr) && (decide (d.fr ≤ d.up) && decide (d.up ≤ 68374079))) = false := by
      cases hq : (decide (0 ≤ d.fr) && (decide (d.fr ≤ d.up) && decide (d.up ≤ 68374079))) with
      | false => rfl
      | true =>
        simp only [Bool.and_eq_true, decide_eq_true_eq] at hq
        exact absurd ⟨hq.1, hq.2.1, hq.2.2⟩ h
    have e3 : ∀ X : Bool, (decide (0 ≤ d.fr) && (decide (d.fr ≤ d.up) && (decide (d.up ≤ 68374079) && X))) = false := fun X => by
      rw [← Bool.and_assoc (decide (d.fr ≤ d.up)), ← Bool.and_assoc, e2]
      rfl
    rw [e3, ← Bool.and_assoc, e1]
    rfl
end Go.Proofs.YteefacjjdalncaaGreatDoor

namespace Go.Proofs.YteefacjjdalncaaGreatDoor
open Go Go.RowKit

def P6 (w : World) (g : Nat) (nm cr : ByteArray) (fr up : Int) (cu : Bool) (tv : Value) : Prop := w.heap[g]? = some (.cells #[.string nm, .string cr, .int .i64 fr, .int .i64 up, .bool cu, tv] 26)
section
variable {w w' : World} {g : Nat} {nm cr : ByteArray} {fr up : Int} {cu : Bool} {tv : Value}
theorem P6.lt (h : P6 w g nm cr fr up cu tv) : g < w.heap.size := (Array.getElem?_eq_some_iff.1 h).1
theorem P6.c0 (h : P6 w g nm cr fr up cu tv) : w.cell? ⟨g, 0, none⟩ = some (.string nm) := by simp [World.cell?, show w.heap[g]? = _ from h]
theorem P6.s0 (h : P6 w g nm cr fr up cu tv) (u : ByteArray) : P6 (w.setCell ⟨g, 0, none⟩ (.string u)) g u cr fr up cu tv := by simp [P6, World.setCell, Array.getElem?_modify, show w.heap[g]? = _ from h]
theorem P6.c1 (h : P6 w g nm cr fr up cu tv) : w.cell? ⟨g, 1, none⟩ = some (.string cr) := by simp [World.cell?, show w.heap[g]? = _ from h]
theorem P6.s1 (h : P6 w g nm cr fr up cu tv) (u : ByteArray) : P6 (w.setCell ⟨g, 1, none⟩ (.string u)) g nm u fr up cu tv := by simp [P6, World.setCell, Array.getElem?_modify, show w.heap[g]? = _ from h]
theorem P6.c2 (h : P6 w g nm cr fr up cu tv) : w.cell? ⟨g, 2, none⟩ = some (.int .i64 fr) := by simp [World.cell?, show w.heap[g]? = _ from h]
theorem P6.s2 (h : P6 w g nm cr fr up cu tv) (u : Int) : P6 (w.setCell ⟨g, 2, none⟩ (.int .i64 u)) g nm cr u up cu tv := by simp [P6, World.setCell, Array.getElem?_modify, show w.heap[g]? = _ from h]
theorem P6.c3 (h : P6 w g nm cr fr up cu tv) : w.cell? ⟨g, 3, none⟩ = some (.int .i64 up) := by simp [World.cell?, show w.heap[g]? = _ from h]
theorem P6.s3 (h : P6 w g nm cr fr up cu tv) (u : Int) : P6 (w.setCell ⟨g, 3, none⟩ (.int .i64 u)) g nm cr fr u cu tv := by simp [P6, World.setCell, Array.getElem?_modify, show w.heap[g]? = _ from h]
theorem P6.c4 (h : P6 w g nm cr fr up cu tv) : w.cell? ⟨g, 4, none⟩ = some (.bool cu) := by simp [World.cell?, show w.heap[g]? = _ from h]
theorem P6.s4 (h : P6 w g nm cr fr up cu tv) (u : Bool) : P6 (w.setCell ⟨g, 4, none⟩ (.bool u)) g nm cr fr up u tv := by simp [P6, World.setCell, Array.getElem?_modify, show w.heap[g]? = _ from h]
theorem P6.c5 (h : P6 w g nm cr fr up cu tv) : w.cell? ⟨g, 5, none⟩ = some (tv) := by simp [World.cell?, show w.heap[g]? = _ from h]
theorem P6.s5 (h : P6 w g nm cr fr up cu tv) (u : Value) : P6 (w.setCell ⟨g, 5, none⟩ u) g nm cr fr up cu u := by simp [P6, World.setCell, Array.getElem?_modify, show w.heap[g]? = _ from h]
theorem P6.fz (h : P6 w g nm cr fr up cu tv) (k : Nat) : w.frozen? ⟨g, k, none⟩ = false := by simp [World.frozen?, show w.heap[g]? = _ from h]
theorem P6.on (h : P6 w g nm cr fr up cu tv) (hb : Below w.heap.size w w') : P6 w' g nm cr fr up cu tv := (hb.block _ h.lt).trans h
theorem P6.grown {r : Option Nat} (h : P6 w g nm cr fr up cu tv) (hg : w.grownBy w' r) (hr : some g ≠ r) : P6 w' g nm cr fr up cu tv := (hg.block g h.lt hr).trans h
theorem P6.far (h : P6 w g nm cr fr up cu tv) {a : Addr} (ha : a.block ≠ g) (u : Value) : P6 (w.setCell a u) g nm cr fr up cu tv := (heap_setCell_other w a g u (fun e => ha e.symm)).trans h
theorem P6.new (w : World) (nm cr : ByteArray) (fr up : Int) (cu : Bool) (tv : Value) : P6 (w.alloc (.cells #[.string nm, .string cr, .int .i64 fr, .int .i64 up, .bool cu, tv] 26)) w.heap.size nm cr fr up cu tv := by
  show (w.heap.push _)[w.heap.size]? = _; simp
end
end Go.Proofs.YteefacjjdalncaaGreatDoor
