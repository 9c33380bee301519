/-
  Names, pools and lines, as the specification tells them: the walks. Tasks of a plan as they lie there, and where a name stands among them: the walk. Pools, and lines of a text, as the specification tells them: the walks. The order of a plan's tasks, as the specification makes it: the walk. Whether a task of a plan is right, as the specification tells it: the walk.
-/
import Derived.Test.YtjmclcjhimcehaaGreatDoorG3
import Derived.Test.YtjmclcjhimcehaaGreatDoorG7
import Derived.Test.YtjmclcjhimcehaaGreatDoorNl
import Derived.Test.YtjmclcjhimcehaaGreatDoorG8
namespace Go.Proofs.YtjmclcjhimcehaaGreatDoor
open Go Go.RowKit

def charB (n : Nat) : Bool := decide (97 ≤ n ∧ n ≤ 122) || decide (48 ≤ n ∧ n ≤ 57)
/-- A name: a letter, then letters and figures, 8 at most. -/
def nameB (s : ByteArray) : Bool := decide (1 ≤ s.size ∧ s.size ≤ 8) && (decide (97 ≤ (s.data.toList.getD 0 0).toNat ∧ (s.data.toList.getD 0 0).toNat ≤ 122) && s.data.toList.all fun b => charB b.toNat)
theorem first_is {s : ByteArray} (h : 0 < s.size) : (s.data.toList.getD 0 0).toNat = s[0].toNat := by
  have h' : 0 < s.data.toList.length := by simpa using h
  rw [List.getD_eq_getElem?_getD, List.getElem?_eq_getElem h']
  rfl
theorem name_size {s : ByteArray} (h : ¬ (1 ≤ s.size ∧ s.size ≤ 8)) : nameB s = false := by unfold nameB; rw [decide_eq_false h]; rfl
theorem name_head {s : ByteArray} (h : 0 < s.size) (hc : ¬ (97 ≤ s[0].toNat ∧ s[0].toNat ≤ 122)) : nameB s = false := by
  unfold nameB
  rw [first_is h, decide_eq_false hc, Bool.false_and, Bool.and_false]
theorem all_at {s : ByteArray} (h : (s.data.toList.all fun b => charB b.toNat) = true) {k : Nat} (hk : k < s.size) : charB s[k].toNat = true := by
  rw [List.all_eq_true] at h
  have h' : k < s.data.toList.length := by simpa using hk
  exact h _ (List.getElem_mem h')
theorem name_bad {s : ByteArray} {k : Nat} (hk : k < s.size) (hc : charB s[k].toNat = false) : nameB s = false := by
  unfold nameB
  cases ha : (s.data.toList.all fun b => charB b.toNat) with
  | false => rw [Bool.and_false, Bool.and_false]
  | true => rw [all_at ha hk] at hc; cases hc
theorem name_good {s : ByteArray} (h0 : 1 ≤ s.size) (h1 : s.size ≤ 8) (hc : 97 ≤ s[0].toNat ∧ s[0].toNat ≤ 122) (ha : ∀ j (h : j < s.size), charB s[j].toNat = true) : nameB s = true := by
  unfold nameB
  rw [decide_eq_true ⟨h0, h1⟩, first_is h0, decide_eq_true hc, Bool.true_and, Bool.true_and, List.all_eq_true]
  intro b hb
  obtain ⟨j, hj, rfl⟩ := List.getElem_of_mem hb
  exact ha j (by simpa using hj)

set_option maxHeartbeats 1000000 in
theorem nameOk_any (s : ByteArray) (w : World) (hs : s.size ≤ 9223372036854775807) :
    Calls Tryz.prog 91 #[.string s] w fun e w' => e = .returned (.bool (nameB s)) ∧ w' = w := by
  by_cases hz : 1 ≤ s.size ∧ s.size ≤ 8
  · have h0 : 0 < s.size := hz.1
    have h8 : s.size ≤ 8 := hz.2
    have HI : Hid (∀ w, Calls Tryz.prog 56 #[.int .i64 (s.size : Int), .int .i64 1, .int .i64 8] w fun e w' => e = .returned (.bool true) ∧ w' = w) := by
      intro w
      have := in_any s.size 1 8 w
      rwa [decide_eq_true (by omega), decide_eq_true (by omega)] at this
    by_cases hc : 97 ≤ s[0].toNat ∧ s[0].toNat ≤ 122
    · have c0 := hc.1
      have c1 := hc.2
      have HG : Hid ((∀ j (h : j < s.size), charB s[j].toNat = true) → nameB s = true) := fun ha => name_good h0 h8 hc ha
      clear hz hc
      go_enter Tryz.func91, Tryz.ntmps91
      go_wp2_with (go_at_call 56; refine (HI.out _).mono ?_; rintro e w1 ⟨rfl, hw⟩; have hw2 := hw.symm; subst hw2)
      go_loopw [3] (fun i wr => ∃ k : Nat, k ≤ s.size ∧ i = .int .i64 k ∧ Hid (∀ j (h : j < s.size), j < k → charB s[j].toNat = true) ∧ wr = w) (fun i _ => s.size - (intOf i).toNat)
      case atStart => exact ⟨0, Nat.zero_le _, rfl, fun j _ hj => by omega, rfl⟩
      case round =>
        obtain ⟨k, hk, rfl, HE, rfl⟩ := hrel
        by_cases hlt : k < s.size
        · have next (hq : charB s[k].toNat = true) : Hid (∀ j (h : j < s.size), j < k + 1 → charB s[j].toNat = true) := fun j h hj => by
            by_cases e : j = k
            · subst e; exact hq
            · exact HE.out j h (by omega)
          by_cases a1 : s[k].toNat < 97
          · by_cases a2 : s[k].toNat < 48
            · have HF : Hid (nameB s = false) := name_bad hlt (by unfold charB; rw [decide_eq_false (by omega), decide_eq_false (by omega)]; rfl)
              clear next
              go_wp2
              go_ret
              exact ⟨by rw [HF.out]; rfl, rfl⟩
            · by_cases a3 : 57 < s[k].toNat
              · have HF : Hid (nameB s = false) := name_bad hlt (by unfold charB; rw [decide_eq_false (by omega), decide_eq_false (by omega)]; rfl)
                clear next
                go_wp2
                go_ret
                exact ⟨by rw [HF.out]; rfl, rfl⟩
              · have HN := next (by unfold charB; rw [decide_eq_true (p := 48 ≤ _ ∧ _) ⟨by omega, by omega⟩, Bool.or_true])
                clear next
                go_wp2
                go_roundw
                case rel => exact ⟨k + 1, by omega, by go_num, HN, trivial⟩
                case measure => simp [intOf]; omega
          · by_cases a2 : 122 < s[k].toNat
            · have HF : Hid (nameB s = false) := name_bad hlt (by unfold charB; rw [decide_eq_false (by omega), decide_eq_false (by omega)]; rfl)
              clear next
              go_wp2
              go_ret
              exact ⟨by rw [HF.out]; rfl, rfl⟩
            · have HN := next (by unfold charB; rw [decide_eq_true (p := 97 ≤ _ ∧ _) ⟨by omega, by omega⟩]; rfl)
              clear next
              go_wp2
              go_roundw
              case rel => exact ⟨k + 1, by omega, by go_num, HN, trivial⟩
              case measure => simp [intOf]; omega
        · have HF : Hid (nameB s = true) := HG.out fun j h => HE.out j h (by omega)
          go_wp2
          go_ret
          exact ⟨by rw [HF.out]; rfl, rfl⟩
    · have HF : Hid (nameB s = false) := name_head h0 hc
      by_cases a1 : s[0].toNat < 97
      · clear hz hc
        go_enter Tryz.func91, Tryz.ntmps91
        go_wp2_with (go_at_call 56; refine (HI.out _).mono ?_; rintro e w1 ⟨rfl, hw⟩; have hw2 := hw.symm; subst hw2)
        go_ret
        exact ⟨by rw [HF.out]; rfl, rfl⟩
      · have a2 : 122 < s[0].toNat := by omega
        clear hz hc
        go_enter Tryz.func91, Tryz.ntmps91
        go_wp2_with (go_at_call 56; refine (HI.out _).mono ?_; rintro e w1 ⟨rfl, hw⟩; have hw2 := hw.symm; subst hw2)
        go_ret
        exact ⟨by rw [HF.out]; rfl, rfl⟩
  · have HF : Hid (nameB s = false) := name_size hz
    have HI : Hid (∀ w, Calls Tryz.prog 56 #[.int .i64 (s.size : Int), .int .i64 1, .int .i64 8] w fun e w' => e = .returned (.bool false) ∧ w' = w) := by
      intro w
      have := in_any s.size 1 8 w
      rwa [← Bool.decide_and, decide_eq_false (by omega)] at this
    clear hz
    go_enter Tryz.func91, Tryz.ntmps91
    go_wp2_with (go_at_call 56; refine (HI.out _).mono ?_; rintro e w1 ⟨rfl, hw⟩; have hw2 := hw.symm; subst hw2)
    go_ret
    exact ⟨by rw [HF.out]; rfl, rfl⟩
end Go.Proofs.YtjmclcjhimcehaaGreatDoor

namespace Go.Proofs.YtjmclcjhimcehaaGreatDoor
open Go Go.RowKit

instance : Rec ByteArray := ⟨1, fun s => [.string s], fun _ => rfl, by decide⟩
theorem text_at {w : World} {ao : Option Addr} {n cap : Nat} {l : List ByteArray} (h : Reads w (.slice ao n cap) l) {k : Nat} {x : ByteArray} (hk : l[k]? = some x) :
    ∃ b o, ao = some ⟨b, o, none⟩ ∧ b < w.heap.size ∧ w.cell? ⟨b, o + k, none⟩ = some (.string x) := by
  obtain ⟨b, o, rfl, hlt, hc⟩ := h.at hk
  have := hc 0 _ rfl
  rw [show o + k * Rec.width ByteArray + 0 = o + k by show o + k * 1 + 0 = _; omega] at this
  exact ⟨b, o, rfl, hlt, this⟩
/-- A task as it lies there. -/
structure Tk where
  name : ByteArray
  pool : ByteArray
  ret : Int
  past : Bool
  after : Value
instance : Rec Tk := ⟨5, fun t => [.string t.name, .string t.pool, .int .i64 t.ret, .bool t.past, t.after], fun _ => rfl, by decide⟩
theorem tk_at {w : World} {ao : Option Addr} {n cap : Nat} {l : List Tk} (h : Reads w (.slice ao n cap) l) {k : Nat} {x : Tk} (hk : l[k]? = some x) :
    ∃ b o, ao = some ⟨b, o, none⟩ ∧ b < w.heap.size ∧ w.cell? ⟨b, o + k * 5, none⟩ = some (.string x.name) ∧ w.cell? ⟨b, o + k * 5 + 1, none⟩ = some (.string x.pool) ∧ w.cell? ⟨b, o + k * 5 + 2, none⟩ = some (.int .i64 x.ret) ∧ w.cell? ⟨b, o + k * 5 + 3, none⟩ = some (.bool x.past) ∧ w.cell? ⟨b, o + k * 5 + 4, none⟩ = some x.after := by
  obtain ⟨b, o, rfl, hlt, hc⟩ := h.at hk
  exact ⟨b, o, rfl, hlt, hc 0 _ rfl, hc 1 _ rfl, hc 2 _ rfl, hc 3 _ rfl, hc 4 _ rfl⟩
/-- A task, plain. -/
structure Ta where
  name : ByteArray
  pool : ByteArray
  ret : Int
  past : Bool
  after : List ByteArray
/-- One task reads as a plain one. -/
structure OneT (w : World) (k : Tk) (t : Ta) : Prop where
  name : k.name = t.name
  pool : k.pool = t.pool
  ret : k.ret = t.ret
  past : k.past = t.past
  after : Reads w k.after t.after
/-- A row of tasks reads as plain ones. -/
def Tasks (w : World) (v : Value) (l : List Ta) : Prop := ∃ ks : List Tk, Reads w v ks ∧ ks.length = l.length ∧ ∀ (i : Nat) (t : Ta), l[i]? = some t → ∃ k : Tk, ks[i]? = some k ∧ OneT w k t
theorem Tasks.below {w w' : World} {v : Value} {l : List Ta} (h : Tasks w v l) (hb : Below w.heap.size w w') : Tasks w' v l := by
  obtain ⟨ks, h1, h2, h3⟩ := h
  refine ⟨ks, h1.below hb, h2, fun i t ht => ?_⟩
  obtain ⟨k, hk, ho⟩ := h3 i t ht
  exact ⟨k, hk, ho.name, ho.pool, ho.ret, ho.past, ho.after.below hb⟩
theorem Tasks.slice {w : World} {v : Value} {l : List Ta} (h : Tasks w v l) : ∃ ao cap, v = .slice ao l.length cap := by
  obtain ⟨ks, h1, h2, _⟩ := h
  obtain ⟨ao, cap, rfl, _⟩ := id h1
  exact ⟨ao, cap, by rw [h2]⟩
theorem Tasks.at {w : World} {ao : Option Addr} {n cap : Nat} {l : List Ta} (h : Tasks w (.slice ao n cap) l) {k : Nat} {t : Ta} (ht : l[k]? = some t) :
    ∃ b o av, ao = some ⟨b, o, none⟩ ∧ b < w.heap.size ∧ w.cell? ⟨b, o + k * 5, none⟩ = some (.string t.name) ∧ w.cell? ⟨b, o + k * 5 + 1, none⟩ = some (.string t.pool) ∧ w.cell? ⟨b, o + k * 5 + 2, none⟩ = some (.int .i64 t.ret) ∧ w.cell? ⟨b, o + k * 5 + 3, none⟩ = some (.bool t.past) ∧ w.cell? ⟨b, o + k * 5 + 4, none⟩ = some av ∧ Reads w av t.after := by
  obtain ⟨ks, h1, h2, h3⟩ := h
  obtain ⟨x, hx, ho⟩ := h3 k t ht
  obtain ⟨b, o, rfl, hlt, c0, c1, c2, c3, c4⟩ := tk_at h1 hx
  rw [ho.name] at c0
  rw [ho.pool] at c1
  rw [ho.ret] at c2
  rw [ho.past] at c3
  exact ⟨b, o, x.after, rfl, hlt, c0, c1, c2, c3, c4, ho.after⟩
/-- Where a name stands. -/
def atG (s : ByteArray) : Nat → List Ta → Int
  | _, [] => -1
  | k, t :: r => if t.name = s then (k : Int) else atG s (k + 1) r
def atN (l : List Ta) (s : ByteArray) : Int := atG s 0 l
theorem atG_at {s : ByteArray} {l : List Ta} {k : Nat} {t : Ta} (h : l[k]? = some t) : atG s k (l.drop k) = if t.name = s then (k : Int) else atG s (k + 1) (l.drop (k + 1)) := by
  obtain ⟨hk, rfl⟩ := List.getElem?_eq_some_iff.1 h
  rw [List.drop_eq_getElem_cons hk]
  rfl
theorem atG_end {s : ByteArray} {l : List Ta} {k : Nat} (h : k = l.length) : atG s k (l.drop k) = -1 := by
  subst h
  rw [List.drop_length]
  rfl
theorem atG_bd (s : ByteArray) : ∀ (l : List Ta) (k : Nat), -1 ≤ atG s k l ∧ atG s k l < k + l.length + 1
  | [], k => by simp [atG]; omega
  | t :: r, k => by
    have := atG_bd s r (k + 1)
    unfold atG
    simp only [List.length_cons]
    split <;> omega
set_option maxHeartbeats 1000000 in
theorem l12At_any {w : World} {v : Value} {l : List Ta} (s : ByteArray) (hr : Tasks w v l) (hn : l.length ≤ 1048577) :
    Calls Tryz.prog 136 #[v, .string s] w fun e w' => e = .returned (.int .i64 (atN l s)) ∧ w' = w := by
  obtain ⟨ao, cap, rfl⟩ := hr.slice
  have HR : Hid (Tasks w (.slice ao l.length cap) l) := hr
  clear hr
  obtain ⟨n, HN⟩ : ∃ n, Hid (l.length = n) := ⟨_, rfl⟩
  rw [HN.out] at hn
  rw [HN.out] at HR ⊢
  go_enter Tryz.func136, Tryz.ntmps136
  go_wp2
  go_loopw [5] (fun i wr => ∃ k : Nat, k ≤ n ∧ i = .int .i64 k ∧ Hid (atN l s = atG s k (l.drop k)) ∧ wr = w) (fun i _ => n - (intOf i).toNat)
  case atStart => exact ⟨0, Nat.zero_le _, rfl, (by show atN l s = atG s 0 (l.drop 0); rw [List.drop_zero]; rfl), rfl⟩
  case round =>
    obtain ⟨k, hk, rfl, HE, rfl⟩ := hrel
    by_cases hlt : k < n
    · obtain ⟨t, ht⟩ : ∃ t, l[k]? = some t := ⟨_, List.getElem?_eq_getElem (by rw [HN.out]; exact hlt)⟩
      obtain ⟨b, o, av, rfl, hb, c0, _, _, _, _, _⟩ := HR.out.at ht
      by_cases hq : t.name = s
      · have HF : Hid (atN l s = k) := HE.out.trans (by rw [atG_at ht, if_pos hq])
        have hq2 := eq_list hq
        clear ht
        go_wp2
        go_ret
        exact ⟨by rw [HF.out]; rfl, rfl⟩
      · have HF : Hid (atN l s = atG s (k + 1) (l.drop (k + 1))) := HE.out.trans (by rw [atG_at ht, if_neg hq])
        have hq2 := ne_list hq
        clear ht
        go_wp2
        go_roundw
        case rel => exact ⟨k + 1, by omega, by go_num, HF, trivial⟩
        case measure => simp [intOf]; omega
    · have HF : Hid (atN l s = -1) := HE.out.trans (atG_end (by rw [HN.out]; omega))
      go_wp2
      go_ret
      exact ⟨by rw [HF.out]; rfl, rfl⟩
end Go.Proofs.YtjmclcjhimcehaaGreatDoor

namespace Go.Proofs.YtjmclcjhimcehaaGreatDoor
open Go Go.RowKit

theorem one_list : (⟨#[111, 110, 101]⟩ : ByteArray).toList = [111, 110, 101] := (ByteArray.toList_eq _).trans rfl
theorem two_list : (⟨#[116, 119, 111]⟩ : ByteArray).toList = [116, 119, 111] := (ByteArray.toList_eq _).trans rfl
theorem wide_list : (⟨#[119, 105, 100, 101]⟩ : ByteArray).toList = [119, 105, 100, 101] := (ByteArray.toList_eq _).trans rfl
/-- How many may run in a pool. -/
def poolN (s : ByteArray) : Int := if s = ⟨#[111, 110, 101]⟩ then 1 else if s = ⟨#[116, 119, 111]⟩ then 2 else if s = ⟨#[119, 105, 100, 101]⟩ then 4 else 0
set_option maxHeartbeats 400000 in
theorem poolSize_any (s : ByteArray) (w : World) : Calls Tryz.prog 137 #[.string s] w fun e w' => e = .returned (.int .i64 (poolN s)) ∧ w' = w := by
  unfold poolN
  by_cases h1 : s = ⟨#[111, 110, 101]⟩
  · rw [if_pos h1]
    subst h1
    go_enter Tryz.func137, Tryz.ntmps137
    go_wp2
    go_ret
    exact ⟨rfl, rfl⟩
  · rw [if_neg h1]
    have q1 : (s.toList == [111, 110, 101]) = false := by rw [← one_list]; exact ne_list h1
    clear h1
    by_cases h2 : s = ⟨#[116, 119, 111]⟩
    · rw [if_pos h2]
      subst h2
      go_enter Tryz.func137, Tryz.ntmps137
      go_wp2
      go_ret
      exact ⟨rfl, rfl⟩
    · rw [if_neg h2]
      have q2 : (s.toList == [116, 119, 111]) = false := by rw [← two_list]; exact ne_list h2
      clear h2
      by_cases h3 : s = ⟨#[119, 105, 100, 101]⟩
      · rw [if_pos h3]
        subst h3
        go_enter Tryz.func137, Tryz.ntmps137
        go_wp2
        go_ret
        exact ⟨rfl, rfl⟩
      · rw [if_neg h3]
        have q3 : (s.toList == [119, 105, 100, 101]) = false := by rw [← wide_list]; exact ne_list h3
        clear h3
        go_enter Tryz.func137, Tryz.ntmps137
        go_wp2
        go_ret
        exact ⟨rfl, rfl⟩

/-- The lines behind the first i places, and where the next one begins. -/
def linesN (s : ByteArray) : Nat → List ByteArray × Nat
  | 0 => ([], 0)
  | i + 1 => if (s.data[i]?.map (fun b => b.toNat)) = some 10 then ((linesN s i).1 ++ [s.extract (linesN s i).2 i], i + 1) else linesN s i
/-- The lines of a text. -/
def linesB (s : ByteArray) : List ByteArray := if (linesN s s.size).2 < s.size then (linesN s s.size).1 ++ [s.extract (linesN s s.size).2 s.size] else (linesN s s.size).1
theorem linesN_bd (s : ByteArray) : ∀ i, (linesN s i).2 ≤ i ∧ (linesN s i).1.length ≤ i
  | 0 => ⟨Nat.le_refl _, Nat.le_refl _⟩
  | i + 1 => by
    obtain ⟨h1, h2⟩ := linesN_bd s i
    unfold linesN
    split
    · exact ⟨Nat.le_refl _, by simp; omega⟩
    · exact ⟨by omega, by omega⟩
end Go.Proofs.YtjmclcjhimcehaaGreatDoor

namespace Go.Proofs.YtjmclcjhimcehaaGreatDoor
open Go Go.RowKit

/-- All that a task is after stands there. -/
def freeB (ts : List Ta) (out : List Int) (l : List ByteArray) : Bool := l.all fun s => decide (atN ts s ∈ out)
/-- The first task from a place on that stands not there yet and is free. -/
def ordScan (ts : List Ta) (out : List Int) : Nat → List Ta → List Int
  | _, [] => out
  | i, t :: r => if (i : Int) ∈ out then ordScan ts out (i + 1) r else if freeB ts out t.after then out ++ [(i : Int)] else ordScan ts out (i + 1) r
def ordL (ts : List Ta) : Nat → List Int
  | 0 => []
  | k + 1 => ordScan ts (ordL ts k) 0 ts
/-- The places of tasks, each behind those that it is after. -/
def orderL (ts : List Ta) : List Int := ordL ts ts.length
theorem ordScan_at {ts : List Ta} {out : List Int} {i : Nat} {t : Ta} (h : ts[i]? = some t) : ordScan ts out i (ts.drop i) = if (i : Int) ∈ out then ordScan ts out (i + 1) (ts.drop (i + 1)) else if freeB ts out t.after then out ++ [(i : Int)] else ordScan ts out (i + 1) (ts.drop (i + 1)) := by
  obtain ⟨hk, rfl⟩ := List.getElem?_eq_some_iff.1 h
  rw [List.drop_eq_getElem_cons hk]
  rfl
theorem ordScan_end {ts : List Ta} {out : List Int} {i : Nat} (h : i = ts.length) : ordScan ts out i (ts.drop i) = out := by
  subst h
  rw [List.drop_length]
  rfl
theorem ordScan_len {ts : List Ta} {out : List Int} : ∀ (r : List Ta) (i : Nat), (ordScan ts out i r).length ≤ out.length + 1
  | [], _ => by simp [ordScan]
  | t :: r, i => by
    unfold ordScan
    split
    · exact ordScan_len r (i + 1)
    · split
      · simp
      · exact ordScan_len r (i + 1)
theorem ordL_len (ts : List Ta) : ∀ k, (ordL ts k).length ≤ k
  | 0 => Nat.le_refl _
  | k + 1 => by
    have := ordL_len ts k
    have := ordScan_len (ts := ts) (out := ordL ts k) ts 0
    unfold ordL
    omega
theorem freeB_take {ts : List Ta} {out : List Int} {l : List ByteArray} {k : Nat} {s : ByteArray} (h : l[k]? = some s) : freeB ts out (l.take (k + 1)) = (freeB ts out (l.take k) && decide (atN ts s ∈ out)) := by
  unfold freeB
  rw [List.take_add_one, h]
  simp
theorem ints_made (w : World) (B : Nat) (hB : B ≤ w.heap.size) : ownsR (w.alloc (.cells #[] 3)) B 3 (.slice (some ⟨w.heap.size, 0, none⟩) 0 0) ([] : List Int) := World.ownsRow_made w #[] 0 hB (by decide) (by simp)

set_option maxRecDepth 10000 in
set_option maxHeartbeats 4000000 in
theorem l12Order_any {w : World} {v : Value} {ts : List Ta} (hr : Tasks w v ts) (hn : ts.length ≤ 100000) (ha : ∀ t ∈ ts, t.after.length ≤ 1048576) :
    Calls Tryz.prog 93 #[v] w fun e w' => ∃ v', e = .returned v' ∧ ownsR w' w.heap.size 3 v' (orderL ts) ∧ Below w.heap.size w w' := by
  obtain ⟨ao, cap, rfl⟩ := hr.slice
  have HR : Hid (Tasks w (.slice ao ts.length cap) ts) := hr
  have HAF : Hid (∀ t ∈ ts, t.after.length ≤ 1048576) := ha
  clear hr ha
  have HO : Hid (orderL ts = ordL ts ts.length) := rfl
  obtain ⟨n, HN⟩ : ∃ n, Hid (ts.length = n) := ⟨_, rfl⟩
  rw [HN.out] at hn HR HO ⊢
  have HAT : Hid (∀ W s, Below w.heap.size w W → Calls Tryz.prog 136 #[.slice ao n cap, .string s] W fun e w' => e = .returned (.int .i64 (atN ts s)) ∧ w' = W) := fun W s hb => by
    have := l12At_any s (HR.out.below hb) (by rw [HN.out]; omega)
    exact this
  go_enter Tryz.func93, Tryz.ntmps93
  go_wp2
  go_loopw [3, 4] (fun out rv wr => ∃ j : Nat, j ≤ n ∧ rv = .int .i64 j ∧ ownsR wr w.heap.size 3 out (ordL ts j) ∧ Below w.heap.size w wr) (fun _ rv _ => n - (intOf rv).toNat)
  case atStart => exact ⟨0, Nat.zero_le _, rfl, ints_made w _ (Nat.le_refl _), ba (Below.refl _ _) _⟩
  case round =>
    obtain ⟨j, hj, rfl, hown, hbel⟩ := hrel
    by_cases hjn : j < n
    · obtain ⟨O, HOJ⟩ : ∃ O, Hid (ordL ts j = O) := ⟨_, rfl⟩
      have hOl : O.length ≤ 100000 := by have := ordL_len ts j; rw [HOJ.out] at this; omega
      have HNX : Hid (ordL ts (j + 1) = ordScan ts O 0 ts) := by show ordL ts (j + 1) = _; rw [ordL, HOJ.out]
      rw [HOJ.out] at hown
      go_wp2
      go_loopw [3, 5] (fun out iv wx => ∃ (i : Nat) (l : List Int), iv = .int .i64 i ∧ i ≤ n + 1 ∧ Hid ((i ≤ n ∧ l = O ∧ ordL ts (j + 1) = ordScan ts O i (ts.drop i)) ∨ (i = n + 1 ∧ l = ordL ts (j + 1))) ∧ ownsR wx w.heap.size 3 out l ∧ Below w.heap.size w wx) (fun _ iv _ => n + 1 - (intOf iv).toNat)
      case atStart => exact ⟨0, O, rfl, by omega, .inl ⟨Nat.zero_le _, rfl, by rw [List.drop_zero]; exact HNX.out⟩, hown, hbel⟩
      case round =>
        clear hown hbel
        obtain ⟨i, l, rfl, hi1, HC, hown, hbel⟩ := hrel
        by_cases hil : i < n
        · obtain ⟨rfl, HE⟩ : l = O ∧ Hid (ordL ts (j + 1) = ordScan ts l i (ts.drop i)) := by
            rcases HC.out with ⟨_, e1, e2⟩ | ⟨e, _⟩
            · subst e1; exact ⟨rfl, e2⟩
            · omega
          clear HC
          obtain ⟨t, ht⟩ : ∃ t, ts[i]? = some t := ⟨_, List.getElem?_eq_getElem (by rw [HN.out]; exact hil)⟩
          have HT : Hid (ts[i]? = some t) := ht
          have HTA : Hid (t.after.length ≤ 1048576) := HAF.out t (List.mem_of_getElem? ht)
          have HS : Hid (ordL ts (j + 1) = if (i : Int) ∈ l then ordScan ts l (i + 1) (ts.drop (i + 1)) else if freeB ts l t.after then l ++ [(i : Int)] else ordScan ts l (i + 1) (ts.drop (i + 1))) := HE.out.trans (ordScan_at ht)
          obtain ⟨oo, oc, rfl, -⟩ := id hown.reads
          have HIN : Hid (∀ x, Calls Tryz.prog 120 #[.slice oo l.length oc, .int .i64 x] wr fun e w' => e = .returned (.bool (decide (x ∈ l))) ∧ w' = wr) := fun x => l10In_try oo _ oc l x wr hown.reads (by omega)
          by_cases hin : (i : Int) ∈ l
          · have HF : Hid (ordL ts (j + 1) = ordScan ts l (i + 1) (ts.drop (i + 1))) := HS.out.trans (if_pos hin)
            have H1 := HIN.out i
            rw [decide_eq_true hin] at H1
            clear ht
            go_wp2_with (go_at_call 120; refine H1.mono ?_; rintro e w1 ⟨rfl, hw⟩; have hw2 := hw.symm; subst hw2)
            go_roundw
            case rel => exact ⟨i + 1, l, by go_num, by omega, .inl ⟨by omega, rfl, HF.out⟩, hown, hbel⟩
            case measure => simp [intOf]; omega
          · have HS2 : Hid (ordL ts (j + 1) = if freeB ts l t.after then l ++ [(i : Int)] else ordScan ts l (i + 1) (ts.drop (i + 1))) := HS.out.trans (if_neg hin)
            have H1 := HIN.out i
            rw [decide_eq_false hin] at H1
            obtain ⟨gb, ob, av, rfl, hgb, c0, -, -, -, c4, HA0⟩ := (HR.out.below hbel).at ht
            obtain ⟨fo, fc, rfl, -⟩ := id HA0
            have HA : Hid (Reads wr (.slice fo t.after.length fc) t.after) := HA0
            clear HA0 ht c0
            obtain ⟨m, HMM⟩ : ∃ m, Hid (t.after.length = m) := ⟨_, rfl⟩
            have hm : m ≤ 1048576 := by rw [← HMM.out]; exact HTA.out
            rw [HMM.out] at c4 HA
            go_wp2_with (go_at_call 120; refine H1.mono ?_; rintro e w1 ⟨rfl, hw⟩; have hw2 := hw.symm; subst hw2)
            clear H1
            go_loopw [6, 7] (fun fv kv wz => ∃ (k : Nat) (q : Bool), k ≤ m ∧ kv = .int .i64 k ∧ fv = .bool q ∧ Hid (freeB ts l (t.after.take k) = q) ∧ wz = wr) (fun _ kv _ => m - (intOf kv).toNat)
            case atStart => exact ⟨0, true, Nat.zero_le _, rfl, rfl, rfl, rfl⟩
            case round =>
              obtain ⟨k, q, hk, rfl, rfl, HFK, hwz⟩ := hrel
              have hwz2 := hwz.symm
              subst hwz2
              by_cases hkm : k < m
              · obtain ⟨s, hs⟩ : ∃ s, t.after[k]? = some s := ⟨_, List.getElem?_eq_getElem (by rw [HMM.out]; exact hkm)⟩
                have HFN : Hid (freeB ts l (t.after.take (k + 1)) = (q && decide (atN ts s ∈ l))) := by show _ = _; rw [freeB_take hs, HFK.out]
                obtain ⟨sb, so, rfl, hsb, cs⟩ := text_at HA.out hs
                have H2 := HAT.out wr s hbel
                have H3 := HIN.out (atN ts s)
                clear hs
                obtain ⟨z, HZ⟩ : ∃ z, Hid (decide (atN ts s ∈ l) = z) := ⟨_, rfl⟩
                rw [HZ.out] at H3 HFN
                cases q with
                | false =>
                  clear H2 H3
                  go_wp2
                  go_roundw
                  case rel => exact ⟨k + 1, false, by omega, by go_num, rfl, HFN, trivial⟩
                  case measure => simp [intOf]; omega
                | true =>
                  go_wp2_with (first | (go_at_call 136; refine H2.mono ?_; rintro e w1 ⟨rfl, hw⟩; have hw2 := hw.symm; subst hw2) | (go_at_call 120; refine H3.mono ?_; rintro e w1 ⟨rfl, hw⟩; have hw2 := hw.symm; subst hw2))
                  go_roundw
                  case rel => exact ⟨k + 1, z, by omega, by go_num, rfl, HFN, trivial⟩
                  case measure => simp [intOf]; omega
              · have HFA : Hid (freeB ts l t.after = q) := by
                  have := HFK.out
                  rwa [List.take_of_length_le (by rw [HMM.out]; omega)] at this
                rw [HFA.out] at HS2
                cases q with
                | false =>
                  have HF : Hid (ordL ts (j + 1) = ordScan ts l (i + 1) (ts.drop (i + 1))) := HS2.out
                  go_wp2
                  go_roundw
                  case rel => exact ⟨i + 1, l, by go_num, by omega, .inl ⟨by omega, rfl, HF.out⟩, hown, hbel⟩
                  case measure => simp [intOf]; omega
                | true =>
                  have HF : Hid (ordL ts (j + 1) = l ++ [(i : Int)]) := HS2.out
                  have hsz := hbel.size
                  go_wp2_with (at_builtin; refine wpList_append_rec _ w rfl (.tmp 50) (.tmp 52) 90 rfl w.heap.size 3 _ 8 underI info3 rfl _ l rfl (hown.alloc _) (hbel.alloc hsz _) wr.heap.size 1 (i : Int) rfl (cell_num (by simp [go_sem])) (by omega) (by decide) (by simp; omega) ?_; intro v' w4 hown4 hbel4 hs4)
                  go_wp2
                  go_roundw
                  case rel => exact ⟨n + 1, l ++ [(i : Int)], by go_num, by omega, .inr ⟨rfl, HF.out.symm⟩, hown4, hbel4⟩
                  case measure => simp [intOf]; omega
        · have HL : Hid (l = ordL ts (j + 1)) := by
            rcases HC.out with ⟨e0, e1, e2⟩ | ⟨_, e⟩
            · rw [e2, ordScan_end (by rw [HN.out]; omega)]; exact e1
            · exact e
          clear HC
          go_wp2
          go_roundw
          case rel => exact ⟨j + 1, by omega, by go_num, by rw [← HL.out]; exact hown, hbel⟩
          case measure => simp [intOf]; omega
    · have hjn2 : j = n := by omega
      rw [hjn2] at hown
      go_wp2
      go_ret
      exact ⟨_, rfl, by rw [HO.out]; exact hown, hbel⟩
end Go.Proofs.YtjmclcjhimcehaaGreatDoor

namespace Go.Proofs.YtjmclcjhimcehaaGreatDoor
open Go Go.RowKit

/-- One text ahead of another. -/
def lessB (a b : ByteArray) : Bool := Op.bytesLess a.toList b.toList
/-- What a task is after. -/
def afterB (ts : List Ta) (nm : ByteArray) : Option ByteArray → List ByteArray → Bool
  | _, [] => true
  | p, s :: r => (decide (0 ≤ atN ts s) && (!decide (s = nm) && p.all fun x => lessB x s)) && afterB ts nm (some s) r
/-- A right task. -/
def taskB (ts : List Ta) (i : Nat) (t : Ta) : Bool := nameB t.name && (decide (atN ts t.name = i) && (!decide (poolN t.pool = 0) && (decide (0 ≤ t.ret ∧ t.ret ≤ 3) && afterB ts t.name none t.after)))
theorem afterB_at {ts : List Ta} {nm : ByteArray} {l : List ByteArray} {k : Nat} {p : Option ByteArray} {s : ByteArray} (h : l[k]? = some s) : afterB ts nm p (l.drop k) = ((decide (0 ≤ atN ts s) && (!decide (s = nm) && p.all fun x => lessB x s)) && afterB ts nm (some s) (l.drop (k + 1))) := by
  obtain ⟨hk, rfl⟩ := List.getElem?_eq_some_iff.1 h
  rw [List.drop_eq_getElem_cons hk]
  rfl
theorem afterB_end {ts : List Ta} {nm : ByteArray} {l : List ByteArray} {k : Nat} {p : Option ByteArray} (h : k = l.length) : afterB ts nm p (l.drop k) = true := by
  subst h
  rw [List.drop_length]
  rfl
theorem task_1 {ts : List Ta} {i : Nat} {t : Ta} (h : nameB t.name = false) : taskB ts i t = false := by unfold taskB; rw [h]; rfl
theorem task_2 {ts : List Ta} {i : Nat} {t : Ta} (h : ¬ atN ts t.name = i) : taskB ts i t = false := by unfold taskB; rw [decide_eq_false h]; simp
theorem task_3 {ts : List Ta} {i : Nat} {t : Ta} (h : poolN t.pool = 0) : taskB ts i t = false := by unfold taskB; rw [decide_eq_true h]; simp
theorem task_4 {ts : List Ta} {i : Nat} {t : Ta} (h : ¬ (0 ≤ t.ret ∧ t.ret ≤ 3)) : taskB ts i t = false := by unfold taskB; rw [decide_eq_false h]; simp
theorem task_5 {ts : List Ta} {i : Nat} {t : Ta} (h1 : nameB t.name = true) (h2 : atN ts t.name = i) (h3 : ¬ poolN t.pool = 0) (h4 : 0 ≤ t.ret ∧ t.ret ≤ 3) : taskB ts i t = afterB ts t.name none t.after := by unfold taskB; rw [h1, decide_eq_true h2, decide_eq_false h3, decide_eq_true h4]; rfl

set_option maxRecDepth 10000 in
set_option maxHeartbeats 4000000 in
theorem l12Task_any {w : World} {v : Value} {ts : List Ta} {i : Nat} {t : Ta} (hr : Tasks w v ts) (hn : ts.length ≤ 100000) (hi : ts[i]? = some t) (ht : t.after.length ≤ 1048576 ∧ t.name.size ≤ 9223372036854775807) :
    Calls Tryz.prog 92 #[v, .int .i64 i] w fun e w' => e = .returned (.bool (taskB ts i t)) ∧ Below w.heap.size w w' := by
  obtain ⟨ao, cap, rfl⟩ := hr.slice
  have HR : Hid (Tasks w (.slice ao ts.length cap) ts) := hr
  have hil : i < ts.length := (List.getElem?_eq_some_iff.1 hi).1
  obtain ⟨n, HN⟩ : ∃ n, Hid (ts.length = n) := ⟨_, rfl⟩
  rw [HN.out] at hn HR hil ⊢
  have HAT : Hid (∀ W s, Below w.heap.size w W → Calls Tryz.prog 136 #[.slice ao n cap, .string s] W fun e w' => e = .returned (.int .i64 (atN ts s)) ∧ w' = W) := fun W s hb => l12At_any s (HR.out.below hb) (by rw [HN.out]; omega)
  obtain ⟨gb, ob, av, hao, hgb, c0, c1, c2, c3, c4, HA0⟩ := hr.at hi
  clear hr
  obtain ⟨fo, fc, rfl, -⟩ := id HA0
  have HA : Hid (Reads w (.slice fo t.after.length fc) t.after) := HA0
  clear HA0
  obtain ⟨m, HMM⟩ : ∃ m, Hid (t.after.length = m) := ⟨_, rfl⟩
  have hm : m ≤ 1048576 := by rw [← HMM.out]; exact ht.1
  rw [HMM.out] at c4 HA
  have HNA : Hid (∀ w, Calls Tryz.prog 91 #[.string t.name] w fun e w' => e = .returned (.bool (nameB t.name)) ∧ w' = w) := fun w => nameOk_any t.name w ht.2
  have HPO : Hid (∀ w, Calls Tryz.prog 137 #[.string t.pool] w fun e w' => e = .returned (.int .i64 (poolN t.pool)) ∧ w' = w) := fun w => poolSize_any t.pool w
  have HAN := HAT.out
  have HF1 : Hid (nameB t.name = false → taskB ts i t = false) := task_1
  have HF2 : Hid (¬ atN ts t.name = i → taskB ts i t = false) := task_2
  have HF3 : Hid (poolN t.pool = 0 → taskB ts i t = false) := task_3
  have HF4 : Hid (¬ (0 ≤ t.ret ∧ t.ret ≤ 3) → taskB ts i t = false) := task_4
  have HF5 : Hid (nameB t.name = true → atN ts t.name = i → ¬ poolN t.pool = 0 → (0 ≤ t.ret ∧ t.ret ≤ 3) → taskB ts i t = afterB ts t.name none t.after) := task_5
  obtain ⟨nm, po, rt, pa, af⟩ := t
  simp only at *
  have HAN : Hid (∀ W, Below w.heap.size w W → Calls Tryz.prog 136 #[.slice ao n cap, .string nm] W fun e w' => e = .returned (.int .i64 (atN ts nm)) ∧ w' = W) := fun W hb => HAT.out W nm hb
  obtain ⟨q, HQ⟩ : ∃ q, Hid (nameB nm = q) := ⟨_, rfl⟩
  obtain ⟨A, HAA⟩ : ∃ A, Hid (atN ts nm = A) := ⟨_, rfl⟩
  obtain ⟨P, HP⟩ : ∃ P, Hid (poolN po = P) := ⟨_, rfl⟩
  obtain ⟨R, HRR⟩ : ∃ R, Hid (taskB ts i ⟨nm, po, rt, pa, af⟩ = R) := ⟨_, rfl⟩
  rw [HQ.out] at HNA HF1 HF5
  rw [HAA.out] at HAN HF2 HF5
  rw [HP.out] at HPO HF3 HF5
  rw [HRR.out] at HF1 HF2 HF3 HF4 HF5 ⊢
  clear HQ HAA HP HRR hi ht
  subst hao
  have HI : Hid (∀ w, Calls Tryz.prog 56 #[.int .i64 rt, .int .i64 0, .int .i64 3] w fun e w' => e = .returned (.bool (decide (0 ≤ rt) && decide (rt ≤ 3))) ∧ w' = w) := fun w => in_any rt 0 3 w
  cases q with
  | false =>
    have HF := HF1.out rfl
    go_enter Tryz.func92, Tryz.ntmps92
    go_wp2_with (first | (go_at_call 91; refine (HNA.out _).mono ?_; rintro e w1 ⟨rfl, hw⟩; have hw2 := hw.symm; subst hw2) | (go_at_call 136; refine (HAN.out _ (ba (Below.refl _ _) _)).mono ?_; rintro e w1 ⟨rfl, hw⟩; have hw2 := hw.symm; subst hw2) | (go_at_call 137; refine (HPO.out _).mono ?_; rintro e w1 ⟨rfl, hw⟩; have hw2 := hw.symm; subst hw2) | (go_at_call 56; refine (HI.out _).mono ?_; rintro e w1 ⟨rfl, hw⟩; have hw2 := hw.symm; subst hw2))
    go_ret
    exact ⟨by rw [HF]; rfl, ba (Below.refl _ _) _⟩
  | true =>
    by_cases hA : A = (i : Int)
    case neg =>
      have HF := HF2.out hA
      go_enter Tryz.func92, Tryz.ntmps92
      go_wp2_with (first | (go_at_call 91; refine (HNA.out _).mono ?_; rintro e w1 ⟨rfl, hw⟩; have hw2 := hw.symm; subst hw2) | (go_at_call 136; refine (HAN.out _ (ba (Below.refl _ _) _)).mono ?_; rintro e w1 ⟨rfl, hw⟩; have hw2 := hw.symm; subst hw2) | (go_at_call 137; refine (HPO.out _).mono ?_; rintro e w1 ⟨rfl, hw⟩; have hw2 := hw.symm; subst hw2) | (go_at_call 56; refine (HI.out _).mono ?_; rintro e w1 ⟨rfl, hw⟩; have hw2 := hw.symm; subst hw2))
      go_ret
      exact ⟨by rw [HF]; rfl, ba (Below.refl _ _) _⟩
    by_cases hP : P = 0
    case pos =>
      have HF := HF3.out hP
      subst hP hA
      go_enter Tryz.func92, Tryz.ntmps92
      go_wp2_with (first | (go_at_call 91; refine (HNA.out _).mono ?_; rintro e w1 ⟨rfl, hw⟩; have hw2 := hw.symm; subst hw2) | (go_at_call 136; refine (HAN.out _ (ba (Below.refl _ _) _)).mono ?_; rintro e w1 ⟨rfl, hw⟩; have hw2 := hw.symm; subst hw2) | (go_at_call 137; refine (HPO.out _).mono ?_; rintro e w1 ⟨rfl, hw⟩; have hw2 := hw.symm; subst hw2) | (go_at_call 56; refine (HI.out _).mono ?_; rintro e w1 ⟨rfl, hw⟩; have hw2 := hw.symm; subst hw2))
      go_ret
      exact ⟨by rw [HF]; rfl, ba (Below.refl _ _) _⟩
    by_cases hR : 0 ≤ rt ∧ rt ≤ 3
    case neg =>
      have HF := HF4.out hR
      have HI2 : Hid (∀ w, Calls Tryz.prog 56 #[.int .i64 rt, .int .i64 0, .int .i64 3] w fun e w' => e = .returned (.bool false) ∧ w' = w) := by
        intro w; have := HI.out w; rwa [← Bool.decide_and, decide_eq_false hR] at this
      subst hA
      go_enter Tryz.func92, Tryz.ntmps92
      go_wp2_with (first | (go_at_call 91; refine (HNA.out _).mono ?_; rintro e w1 ⟨rfl, hw⟩; have hw2 := hw.symm; subst hw2) | (go_at_call 136; refine (HAN.out _ (ba (Below.refl _ _) _)).mono ?_; rintro e w1 ⟨rfl, hw⟩; have hw2 := hw.symm; subst hw2) | (go_at_call 137; refine (HPO.out _).mono ?_; rintro e w1 ⟨rfl, hw⟩; have hw2 := hw.symm; subst hw2) | (go_at_call 56; refine (HI2.out _).mono ?_; rintro e w1 ⟨rfl, hw⟩; have hw2 := hw.symm; subst hw2))
      go_ret
      exact ⟨by rw [HF]; rfl, ba (Below.refl _ _) _⟩
    have HF := HF5.out rfl hA hP hR
    have HFH : Hid (R = afterB ts nm none af) := HF
    have HI2 : Hid (∀ w, Calls Tryz.prog 56 #[.int .i64 rt, .int .i64 0, .int .i64 3] w fun e w' => e = .returned (.bool true) ∧ w' = w) := by
      intro w; have := HI.out w; rwa [← Bool.decide_and, decide_eq_true hR] at this
    clear HF HF1 HF2 HF3 HF4 HF5 HI
    subst hA
    go_enter Tryz.func92, Tryz.ntmps92
    go_wp2_with (first | (go_at_call 91; refine (HNA.out _).mono ?_; rintro e w1 ⟨rfl, hw⟩; have hw2 := hw.symm; subst hw2) | (go_at_call 136; refine (HAN.out _ (ba (Below.refl _ _) _)).mono ?_; rintro e w1 ⟨rfl, hw⟩; have hw2 := hw.symm; subst hw2) | (go_at_call 137; refine (HPO.out _).mono ?_; rintro e w1 ⟨rfl, hw⟩; have hw2 := hw.symm; subst hw2) | (go_at_call 56; refine (HI2.out _).mono ?_; rintro e w1 ⟨rfl, hw⟩; have hw2 := hw.symm; subst hw2))
    obtain ⟨W, hW⟩ : ∃ W, w.alloc (.cells #[.string nm, .string po, .int .i64 rt, .bool pa, .slice fo m fc] 88) = W := ⟨_, rfl⟩
    have BW : Below w.heap.size w W := by rw [← hW]; exact ba (Below.refl _ _) _
    have x0 : W.cell? ⟨w.heap.size, 0, none⟩ = some (.string nm) := by rw [← hW]; simp [go_sem]
    have x4 : W.cell? ⟨w.heap.size, 4, none⟩ = some (.slice fo m fc) := by rw [← hW]; simp [go_sem]
    rw [hW]
    rw [beq_eq_false_iff_ne.2 hP]
    clear hW c0 c1 c2 c3 c4 HNA HPO HAN HI2
    go_loopw [6] (fun kv wr => ∃ (k : Nat) (p : Option ByteArray), k ≤ m ∧ kv = .int .i64 k ∧ Hid (R = afterB ts nm p (af.drop k) ∧ (k = 0 → p = none) ∧ ∀ j, k = j + 1 → ∃ a, p = some a ∧ af[j]? = some a) ∧ Below W.heap.size W wr) (fun kv _ => m - (intOf kv).toNat)
    case atStart => exact ⟨0, none, Nat.zero_le _, rfl, ⟨by rw [List.drop_zero]; exact HFH.out, fun _ => rfl, fun j hj => by omega⟩, Below.refl _ _⟩
    case round =>
      obtain ⟨k, p, hk, rfl, HE, hbel⟩ := hrel
      have y0 := cell_up hbel x0
      have y4 := cell_up hbel x4
      have BR := Below.on BW hbel
      by_cases hkm : k < m
      · obtain ⟨s, hs⟩ : ∃ s, af[k]? = some s := ⟨_, List.getElem?_eq_getElem (by rw [HMM.out]; exact hkm)⟩
        have HS : Hid (af[k]? = some s) := hs
        obtain ⟨A, HAA⟩ : ∃ A, Hid (atN ts s = A) := ⟨_, rfl⟩
        have HX : Hid (R = ((decide (0 ≤ A) && (!decide (s = nm) && p.all fun x => lessB x s)) && afterB ts nm (some s) (af.drop (k + 1)))) := by
          show R = _
          rw [HE.out.1, afterB_at hs, HAA.out]
        have H1 : Hid (∀ x : Wd wr, Calls Tryz.prog 136 #[.slice (some ⟨gb, ob, none⟩) n cap, .string s] x.at' fun e w' => e = .returned (.int .i64 A) ∧ w' = x.at') := by
          intro x; rw [← HAA.out]; exact HAT.out x.at' s (Below.on BR x.ok)
        obtain ⟨sb, so, rfl, hsb, cs⟩ := text_at (HA.out.below BR) hs
        clear hs
        have q0 := Wd.cell y0
        have q4 := Wd.cell y4
        have qs := Wd.cell cs
        by_cases hA : A < 0
        · have HF : Hid (R = false) := HX.out.trans (by rw [decide_eq_false (by omega)]; rfl)
          have g0 : decide (A < 0) = true := decide_eq_true hA
          go_wp2
          refine wp_region_wd (by kernel_rfl) (by kernel_rfl) ?_
          repeat (go_big_quiet_step ((go_at_call 136; refine calls_wd_same (v := .int .i64 A) ?_; with_reducible exact H1.out _)))
          refine wpQuiet_nil ?_
          rintro _ ⟨x, rfl⟩
          go_wp2
          go_ret
          exact ⟨by rw [HF.out]; rfl, Below.on BR x.ok⟩
        · have g0 : decide (A < 0) = false := decide_eq_false hA
          have g1 : decide (0 ≤ A) = true := decide_eq_true (by omega)
          by_cases hsn : s = nm
          · have HF : Hid (R = false) := HX.out.trans (by rw [g1, decide_eq_true hsn]; rfl)
            subst hsn
            go_wp2
            refine wp_region_wd (by kernel_rfl) (by kernel_rfl) ?_
            repeat (go_big_quiet_step ((go_at_call 136; refine calls_wd_same (v := .int .i64 A) ?_; with_reducible exact H1.out _)))
            refine wpQuiet_nil ?_
            rintro _ ⟨x, rfl⟩
            go_wp2
            go_ret
            exact ⟨by rw [HF.out]; rfl, Below.on BR x.ok⟩
          · have e1 := ne_list hsn
            rcases Nat.eq_zero_or_pos k with hk0 | hk0
            · have HF : Hid (R = afterB ts nm (some s) (af.drop (k + 1)) ∧ (k + 1 = 0 → some s = none) ∧ ∀ j, k + 1 = j + 1 → ∃ a, some s = some a ∧ af[j]? = some a) := by
                refine ⟨HX.out.trans ?_, fun h => by omega, fun j hj => ⟨s, rfl, by rw [← Nat.succ.inj hj]; exact HS.out⟩⟩
                rw [g1, decide_eq_false hsn, HE.out.2.1 hk0]
                rfl
              have hg0 : decide ((0 : Int) < (k : Int)) = false := decide_eq_false (by omega)
              have hg1 : decide (0 < k) = false := decide_eq_false (by omega)
              clear hk0
              go_wp2
              refine wp_region_wd (by kernel_rfl) (by kernel_rfl) ?_
              repeat (go_big_quiet_step ((go_at_call 136; refine calls_wd_same (v := .int .i64 A) ?_; with_reducible exact H1.out _)))
              refine wpQuiet_nil ?_
              rintro _ ⟨x, rfl⟩
              go_wp2
              go_roundw
              case rel => exact ⟨k + 1, some s, by omega, by go_num, HF, Below.on hbel x.ok⟩
              case measure => simp [intOf]; omega
            · obtain ⟨j, rfl⟩ : ∃ j, k = j + 1 := ⟨k - 1, by omega⟩
              obtain ⟨a, hpa, hp⟩ := HE.out.2.2 j rfl
              have HPA : Hid (p = some a) := hpa
              obtain ⟨b', o', hbo, -, cp⟩ := text_at (HA.out.below BR) hp
              clear hp hpa
              simp only [Option.some.injEq, Addr.mk.injEq, and_true] at hbo
              obtain ⟨rfl, rfl⟩ := hbo
              have qp := Wd.cell cp
              cases hlb : Op.bytesLess a.toList s.toList with
              | false =>
                have HF : Hid (R = false) := HX.out.trans (by rw [g1, decide_eq_false hsn, HPA.out]; simp [lessB, hlb])
                go_wp2
                refine wp_region_wd (by kernel_rfl) (by kernel_rfl) ?_
                repeat (go_big_quiet_step ((go_at_call 136; refine calls_wd_same (v := .int .i64 A) ?_; with_reducible exact H1.out _)))
                refine wpQuiet_nil ?_
                rintro _ ⟨x, rfl⟩
                go_wp2
                go_ret
                exact ⟨by rw [HF.out]; rfl, Below.on BR x.ok⟩
              | true =>
                have HF : Hid (R = afterB ts nm (some s) (af.drop (j + 1 + 1)) ∧ (j + 1 + 1 = 0 → some s = none) ∧ ∀ i, j + 1 + 1 = i + 1 → ∃ a, some s = some a ∧ af[i]? = some a) := by
                  refine ⟨HX.out.trans ?_, fun h => by omega, fun i hi => ⟨s, rfl, by rw [← Nat.succ.inj hi]; exact HS.out⟩⟩
                  rw [g1, decide_eq_false hsn, HPA.out]
                  simp [lessB, hlb]
                go_wp2
                refine wp_region_wd (by kernel_rfl) (by kernel_rfl) ?_
                repeat (go_big_quiet_step ((go_at_call 136; refine calls_wd_same (v := .int .i64 A) ?_; with_reducible exact H1.out _)))
                refine wpQuiet_nil ?_
                rintro _ ⟨x, rfl⟩
                go_wp2
                go_roundw
                case rel => exact ⟨j + 2, some s, by omega, by go_num, HF, Below.on hbel x.ok⟩
                case measure => simp [intOf]; omega
      · have HF : Hid (R = true) := HE.out.1.trans (afterB_end (by rw [HMM.out]; omega))
        go_wp2
        go_ret
        exact ⟨by rw [HF.out]; rfl, BR⟩
end Go.Proofs.YtjmclcjhimcehaaGreatDoor
