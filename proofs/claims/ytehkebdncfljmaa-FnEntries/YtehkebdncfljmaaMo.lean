/-
  Most of a conf, on both sides, and the law on it: the walks.
-/
import Derived.Test.YtehkebdncfljmaaLco
namespace Go.Proofs.Ytehkebdncfljmaa
open Go Go.RowKit

theorem mem_drop_at {m : List Int} {k : Nat} {y x : Int} (h : m[k]? = some y) : x ∈ m.drop k ↔ x = y ∨ x ∈ m.drop (k + 1) := by
  obtain ⟨hk, rfl⟩ := List.getElem?_eq_some_iff.1 h
  rw [List.drop_eq_getElem_cons hk]
  exact List.mem_cons
theorem not_mem_end {m : List Int} {k : Nat} {x : Int} (h : k = m.length) : ¬ x ∈ m.drop k := by
  subst h
  rw [List.drop_length]
  exact List.not_mem_nil

set_option maxHeartbeats 1000000 in
theorem index_try (ao : Option Addr) (n c : Nat) (m : List Int) (x : Int) (w : World) (hr : Reads w (.slice ao n c) m) (hn : n ≤ 1048577) :
    Calls Try.prog 66 #[.slice ao n c, .int .i64 x] w fun e w' => ∃ r : Int, e = .returned (.int .i64 r) ∧ decide (0 ≤ r) = decide (x ∈ m) ∧ w' = w := by
  have HR : Hid (Reads w (.slice ao n c) m) := hr
  have HN : Hid (n = m.length) := hr.len
  clear hr
  go_enter Try.func66, Try.ntmps66
  go_wp2
  go_loopw [8] (fun i wr => ∃ k : Nat, k ≤ n ∧ i = .int .i64 k ∧ Hid (x ∈ m ↔ x ∈ m.drop k) ∧ wr = w) (fun i _ => n - (intOf i).toNat)
  case atStart => exact ⟨0, Nat.zero_le _, rfl, (by show x ∈ m ↔ x ∈ m.drop 0; rw [List.drop_zero]), rfl⟩
  case round =>
    obtain ⟨k, hk, rfl, HE, rfl⟩ := hrel
    by_cases hlt : k < n
    · obtain ⟨y, hy⟩ : ∃ y, m[k]? = some y := ⟨_, List.getElem?_eq_getElem (by rw [← HN.out]; exact hlt)⟩
      have HM : Hid (x ∈ m ↔ x = y ∨ x ∈ m.drop (k + 1)) := HE.out.trans (mem_drop_at hy)
      obtain ⟨b, o, rfl, hb, c0⟩ := int_at HR.out hy
      clear hy HE
      by_cases hyx : x = y
      · have HF : Hid (decide (x ∈ m) = true) := decide_eq_true (HM.out.2 (.inl hyx))
        go_wp2
        go_ret
        exact ⟨_, rfl, by rw [HF.out]; exact decide_eq_true (by omega), rfl⟩
      · have HF : Hid (x ∈ m ↔ x ∈ m.drop (k + 1)) := HM.out.trans ⟨fun h => h.resolve_left fun e => hyx e, .inr⟩
        go_wp2
        go_roundw
        case rel => exact ⟨k + 1, by omega, by go_num, HF, trivial⟩
        case measure => simp [intOf]; omega
    · have HF : Hid (decide (x ∈ m) = false) := decide_eq_false fun h => not_mem_end (by rw [← HN.out]; omega) (HE.out.1 h)
      go_wp2
      go_ret
      exact ⟨_, rfl, by rw [HF.out]; rfl, rfl⟩

theorem contains_try (ao : Option Addr) (n c : Nat) (m : List Int) (x : Int) (w : World) (hr : Reads w (.slice ao n c) m) (hn : n ≤ 1048577) :
    Calls Try.prog 44 #[.slice ao n c, .int .i64 x] w fun e w' => e = .returned (.bool (decide (x ∈ m))) ∧ w' = w := by
  have HR : Hid (Reads w (.slice ao n c) m) := hr
  clear hr
  go_enter Try.func44, Try.ntmps44
  go_wp2_with (go_at_call 66; refine (index_try _ _ _ m _ _ HR.out hn).mono ?_; rintro e w1 ⟨r, rfl, hd, hw⟩; have hw2 := hw.symm; subst hw2)
  go_ret
  exact ⟨by rw [← hd]; rfl, rfl⟩

/-- How many of l are in m. -/
def cntM (m : List Int) : List Int → Nat
  | [] => 0
  | x :: r => cntM m r + if decide (x ∈ m) then 1 else 0
theorem cntM_snoc (m : List Int) : ∀ (l : List Int) (x : Int), cntM m (l ++ [x]) = cntM m l + if decide (x ∈ m) then 1 else 0
  | [], x => rfl
  | y :: r, x => by
    show cntM m (r ++ [x]) + _ = cntM m r + _ + _
    rw [cntM_snoc m r x]
    omega
theorem cntM_le (m : List Int) : ∀ l : List Int, cntM m l ≤ l.length
  | [] => Nat.le_refl _
  | x :: r => by
    have := cntM_le m r
    show cntM m r + (if _ then 1 else 0) ≤ r.length + 1
    split <;> omega
theorem cntM_take {m l : List Int} {k : Nat} {x : Int} (h : l[k]? = some x) : cntM m (l.take (k + 1)) = cntM m (l.take k) + if decide (x ∈ m) then 1 else 0 := by
  rw [List.take_add_one, h]
  exact cntM_snoc m _ x
def mostB (l m : List Int) : Bool := okC l && decide ((l.length : Int) < 2 * (cntM m l : Int))

set_option maxHeartbeats 1000000 in
theorem most_try (ao bo : Option Addr) (n c n2 c2 : Nat) (l m : List Int) (w : World) (hr : Reads w (.slice ao n c) l) (hm : Reads w (.slice bo n2 c2) m) (hn : n ≤ 1048577) (hn2 : n2 ≤ 1048577) :
    Calls Try.prog 17 #[.slice ao n c, .slice bo n2 c2] w fun e w' => e = .returned (.bool (mostB l m)) ∧ Below w.heap.size w w' := by
  have HR : Hid (Reads w (.slice ao n c) l) := hr
  have HM : Hid (Reads w (.slice bo n2 c2) m) := hm
  have HN : Hid (n = l.length) := hr.len
  have hC := confOk_try ao n c l w hr hn
  clear hr hm
  cases hq : okC l with
  | false =>
    have HF : Hid (mostB l m = false) := by show mostB l m = false; simp [mostB, hq]
    rw [hq] at hC
    rw [HF.out]
    go_enter Try.func17, Try.ntmps17
    go_wp2_with (go_at_call 16; refine hC.mono ?_; rintro e w1 ⟨rfl, hb1⟩)
    go_ret
    exact ⟨rfl, hb1⟩
  | true =>
    have HF : Hid (mostB l m = decide ((l.length : Int) < 2 * (cntM m l : Int))) := by show mostB l m = _; simp [mostB, hq]
    rw [hq] at hC
    rw [HF.out]
    clear hq
    go_enter Try.func17, Try.ntmps17
    go_wp2_with (go_at_call 16; refine hC.mono ?_; rintro e w1 ⟨rfl, hb1⟩)
    clear hC
    go_loopw [5, 13] (fun q i wr => ∃ k j : Nat, k ≤ n ∧ j ≤ k ∧ i = .int .i64 k ∧ q = .int .i64 j ∧ Hid (cntM m (l.take k) = j) ∧ Below w.heap.size w wr) (fun _ i _ => n - (intOf i).toNat)
    case atStart => exact ⟨0, 0, Nat.zero_le _, Nat.zero_le _, rfl, rfl, rfl, hb1⟩
    case round =>
      obtain ⟨k, j, hk, hj, rfl, rfl, HE, hbel⟩ := hrel
      by_cases hlt : k < n
      · obtain ⟨x, hx⟩ : ∃ x, l[k]? = some x := ⟨_, List.getElem?_eq_getElem (by rw [← HN.out]; exact hlt)⟩
        have HT : Hid (cntM m (l.take (k + 1)) = cntM m (l.take k) + if decide (x ∈ m) then 1 else 0) := cntM_take hx
        obtain ⟨b, o, rfl, hb, c0⟩ := int_at (HR.out.below hbel) hx
        clear hx
        cases hin : decide (x ∈ m) with
        | true =>
          have HF2 : Hid (cntM m (l.take (k + 1)) = j + 1) := by show cntM m _ = _; rw [HT.out, HE.out, hin]; rfl
          have H2 : Hid (Calls Try.prog 44 #[.slice bo n2 c2, .int .i64 x] wr fun e w' => e = .returned (.bool true) ∧ w' = wr) := by
            have := contains_try bo n2 c2 m x wr (HM.out.below hbel) hn2
            rw [hin] at this
            exact this
          clear hin
          go_wp2_with (go_at_call 44; refine H2.out.mono ?_; rintro e w2 ⟨rfl, hw⟩; have hw2 := hw.symm; subst hw2)
          go_roundw
          case rel => exact ⟨k + 1, j + 1, by omega, by omega, by go_num, by go_num, HF2, hbel⟩
          case measure => simp [intOf]; omega
        | false =>
          have HF2 : Hid (cntM m (l.take (k + 1)) = j) := by show cntM m _ = _; rw [HT.out, HE.out, hin]; rfl
          have H2 : Hid (Calls Try.prog 44 #[.slice bo n2 c2, .int .i64 x] wr fun e w' => e = .returned (.bool false) ∧ w' = wr) := by
            have := contains_try bo n2 c2 m x wr (HM.out.below hbel) hn2
            rw [hin] at this
            exact this
          clear hin
          go_wp2_with (go_at_call 44; refine H2.out.mono ?_; rintro e w2 ⟨rfl, hw⟩; have hw2 := hw.symm; subst hw2)
          go_roundw
          case rel => exact ⟨k + 1, j, by omega, by omega, by go_num, rfl, HF2, hbel⟩
          case measure => simp [intOf]; omega
      · have HD : Hid (decide ((l.length : Int) < 2 * (cntM m l : Int)) = decide ((n : Int) < 2 * (j : Int))) := by
          show _ = _
          rw [← HE.out, ← HN.out, List.take_of_length_le (by rw [← HN.out]; omega)]
        go_wp2
        go_ret
        exact ⟨by rw [HD.out]; rfl, hbel⟩

theorem most_any {w : World} {v u : Value} {l m : List Int} (hr : Reads w v l) (hm : Reads w u m) (hn : l.length ≤ 1048577) (hn2 : m.length ≤ 1048577) : Calls Try.prog 17 #[v, u] w fun e w' => e = .returned (.bool (mostB l m)) ∧ Below w.heap.size w w' := by
  obtain ⟨ao, c, rfl, _⟩ := id hr
  obtain ⟨bo, d, rfl, _⟩ := id hm
  exact most_try ao bo _ c _ d l m w hr hm hn hn2
end Go.Proofs.Ytehkebdncfljmaa
