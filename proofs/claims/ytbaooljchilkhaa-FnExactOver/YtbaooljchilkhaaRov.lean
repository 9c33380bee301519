/-
  Whether a run is over, and how long is waited, on both sides: the walks.
-/
import Derived.Test.YtbaooljchilkhaaRis
import Derived.Test.YtbaooljchilkhaaWd
namespace Go.Proofs.Ytbaooljchilkhaa
open Go Go.RowKit
set_option linter.unusedVariables false

theorem over_no {st : List Sa} {k : Nat} (hk : k < st.length) (h : isN st (k : Int) 0 = true ∨ isN st (k : Int) 1 = true) : overB st = false := by
  refine range_all_no hk ?_
  rcases h with h | h <;> rw [h] <;> simp
theorem over_next {st : List Sa} {k : Nat} (h : (List.range k).all (fun i => !(isN st (i : Int) 0 || isN st (i : Int) 1)) = true) (h0 : isN st (k : Int) 0 = false) (h1 : isN st (k : Int) 1 = false) : (List.range (k + 1)).all (fun i => !(isN st (i : Int) 0 || isN st (i : Int) 1)) = true := by
  rw [range_all_succ, h, h0, h1]; rfl
set_option maxRecDepth 10000 in
set_option maxHeartbeats 2000000 in
theorem implOver_any (ao : Option Addr) (n cap : Nat) (nm : ByteArray) (fr up ep : Int) (st : List Sa) (w : World) (hr : Reads w (.slice ao n cap) st) (hn : n ≤ 1048577) :
    Calls Try.prog 9 #[.agg #[.string nm, .int .i64 fr, .int .i64 up, .int .i64 ep, .slice ao n cap]] w fun e w' => e = .returned (.bool (overB st)) ∧ Below w.heap.size w w' := by
  have HN : Hid (n = st.length) := hr.len
  have H0 : Hid (∀ (W : World) (i : Int), Below w.heap.size w W → Calls Try.prog 20 #[.agg #[.string nm, .int .i64 fr, .int .i64 up, .int .i64 ep, .slice ao n cap], .int .i64 i] W fun e w' => e = .returned (.bool (isN st i 0)) ∧ Below W.heap.size W w') := fun W i hb => isWaiting_any ao n cap nm fr up ep st i W (hr.below hb) hn
  have H1 : Hid (∀ (W : World) (i : Int), Below w.heap.size w W → Calls Try.prog 21 #[.agg #[.string nm, .int .i64 fr, .int .i64 up, .int .i64 ep, .slice ao n cap], .int .i64 i] W fun e w' => e = .returned (.bool (isN st i 1)) ∧ Below W.heap.size W w') := fun W i hb => isRunning_any ao n cap nm fr up ep st i W (hr.below hb) hn
  clear hr
  obtain ⟨W1, hW1⟩ : ∃ W1, w.alloc (.cells #[.string nm, .int .i64 fr, .int .i64 up, .int .i64 ep, .slice ao n cap] 32) = W1 := ⟨_, rfl⟩
  have Z1 : R5 W1 w.heap.size nm fr up ep (.slice ao n cap) := by rw [← hW1]; exact R5.new _ _ _ _ _ _
  have B1 : Below w.heap.size w W1 := by rw [← hW1]; exact ba (Below.refl _ _) _
  have c4 := Z1.c4
  go_enter Try.func9, Try.ntmps9
  go_wp2
  clear c4 hW1
  go_loopw [7] (fun iv wr => ∃ k : Nat, k ≤ n ∧ iv = .int .i64 k ∧ Hid ((List.range k).all (fun i => !(isN st (i : Int) 0 || isN st (i : Int) 1)) = true) ∧ R5 wr w.heap.size nm fr up ep (.slice ao n cap) ∧ Below w.heap.size w wr) (fun iv _ => n - (intOf iv).toNat)
  case atStart => exact ⟨0, Nat.zero_le _, rfl, rfl, Z1, B1⟩
  case round =>
    clear Z1 B1
    obtain ⟨k, hk, rfl, HA, Z1, B1⟩ := hrel
    by_cases hlt : k < n
    · have c0 := Z1.c0
      have c1 := Z1.c1
      have c2 := Z1.c2
      have c3 := Z1.c3
      have c4 := Z1.c4
      go_wp2_with fail
      refine (H0.out _ _ B1).mono ?_
      rintro e w1 ⟨rfl, hb1⟩
      have Z2 := Z1.on hb1
      have B2 := Below.on B1 hb1
      clear c0 c1 c2 c3 c4 Z1 B1 hb1
      cases hq : isN st (k : Int) 0 with
      | true =>
        have HE : Hid (overB st = false) := over_no (by have := HN.out; omega) (.inl hq)
        clear hq
        go_wp2
        go_ret
        exact ⟨by rw [HE.out]; rfl, B2⟩
      | false =>
        have HQ : Hid (isN st (k : Int) 0 = false) := hq
        clear hq
        have c0 := Z2.c0
        have c1 := Z2.c1
        have c2 := Z2.c2
        have c3 := Z2.c3
        have c4 := Z2.c4
        go_wp2_with fail
        refine (H1.out _ _ B2).mono ?_
        rintro e w2 ⟨rfl, hb2⟩
        have Z3 := Z2.on hb2
        have B3 := Below.on B2 hb2
        clear c0 c1 c2 c3 c4 Z2 B2 hb2
        cases hq : isN st (k : Int) 1 with
        | true =>
          have HE : Hid (overB st = false) := over_no (by have := HN.out; omega) (.inr hq)
          clear hq
          go_wp2
          go_ret
          exact ⟨by rw [HE.out]; rfl, B3⟩
        | false =>
          have HA2 : Hid ((List.range (k + 1)).all (fun i => !(isN st (i : Int) 0 || isN st (i : Int) 1)) = true) := over_next HA.out HQ.out hq
          clear hq HA
          go_wp2
          go_roundw
          case rel => exact ⟨k + 1, by omega, by go_num, HA2, Z3, B3⟩
          case measure => simp [intOf]; omega
    · have HE : Hid (overB st = true) := by
        have e : k = st.length := by have := HN.out; omega
        show overB st = true
        unfold overB
        rw [← e]
        exact HA.out
      go_wp2
      go_ret
      exact ⟨by rw [HE.out]; rfl, B1⟩
set_option maxRecDepth 10000 in
set_option maxHeartbeats 2000000 in
theorem specOver_any (ao : Option Addr) (n cap : Nat) (nm : ByteArray) (fr up ep : Int) (st : List Sa) (w : World) (hr : Reads w (.slice ao n cap) st) (hn : n ≤ 1048577) :
    Calls Try.prog 7 #[.agg #[.string nm, .int .i64 fr, .int .i64 up, .int .i64 ep, .slice ao n cap]] w fun e w' => e = .returned (.bool (overB st)) ∧ Below w.heap.size w w' := by
  have HN : Hid (n = st.length) := hr.len
  obtain ⟨W1, hW1⟩ : ∃ W1, w.alloc (.cells #[.string nm, .int .i64 fr, .int .i64 up, .int .i64 ep, .slice ao n cap] 32) = W1 := ⟨_, rfl⟩
  have Z1 : R5 W1 w.heap.size nm fr up ep (.slice ao n cap) := by rw [← hW1]; exact R5.new _ _ _ _ _ _
  have B1 : Below w.heap.size w W1 := by rw [← hW1]; exact ba (Below.refl _ _) _
  have HR : Hid (Reads W1 (.slice ao n cap) st) := hr.below B1
  clear hr
  have c4 := Z1.c4
  go_enter Try.func7, Try.ntmps7
  go_wp2
  clear hW1
  go_loopw [3] (fun iv wr => ∃ k : Nat, k ≤ n ∧ iv = .int .i64 k ∧ Hid ((List.range k).all (fun i => !(isN st (i : Int) 0 || isN st (i : Int) 1)) = true) ∧ wr = W1) (fun iv _ => n - (intOf iv).toNat)
  case atStart => exact ⟨0, Nat.zero_le _, rfl, rfl, rfl⟩
  case round =>
    obtain ⟨k, hk, rfl, HA, rfl⟩ := hrel
    by_cases hlt : k < n
    · obtain ⟨x, hx⟩ : ∃ x, st[k]? = some x := ⟨_, List.getElem?_eq_getElem (by have := HN.out; omega)⟩
      obtain ⟨b, o, rfl, hb, d0, -, -, -⟩ := sa_at HR.out hx
      have HX : Hid (st[k]? = some x) := hx
      clear hx
      by_cases h0 : x.is = 0
      · have HE : Hid (overB st = false) := over_no (k := k) (by have := HN.out; omega) (.inl (by rw [isN_in HX.out]; exact decide_eq_true h0))
        have h0' : (x.is == 0) = true := beq_iff_eq.2 h0
        go_wp2
        go_ret
        exact ⟨by rw [HE.out]; rfl, B1⟩
      · have h0' : (x.is == 0) = false := beq_eq_false_iff_ne.2 h0
        by_cases h1 : x.is = 1
        · have HE : Hid (overB st = false) := over_no (k := k) (by have := HN.out; omega) (.inr (by rw [isN_in HX.out]; exact decide_eq_true h1))
          have h1' : (x.is == 1) = true := beq_iff_eq.2 h1
          go_wp2
          go_ret
          exact ⟨by rw [HE.out]; rfl, B1⟩
        · have h1' : (x.is == 1) = false := beq_eq_false_iff_ne.2 h1
          have HA2 : Hid ((List.range (k + 1)).all (fun i => !(isN st (i : Int) 0 || isN st (i : Int) 1)) = true) := over_next HA.out (by rw [isN_in HX.out]; exact decide_eq_false h0) (by rw [isN_in HX.out]; exact decide_eq_false h1)
          clear HA h0 h1
          go_wp2
          go_roundw
          case rel => exact ⟨k + 1, by omega, by go_num, HA2, trivial⟩
          case measure => simp [intOf]; omega
    · have HE : Hid (overB st = true) := by
        have e : k = st.length := by have := HN.out; omega
        show overB st = true
        unfold overB
        rw [← e]
        exact HA.out
      go_wp2
      go_ret
      exact ⟨by rw [HE.out]; rfl, B1⟩
set_option maxHeartbeats 400000 in
theorem specBack_any (n : Int) (w : World) : Calls Try.prog 15 #[.int .i64 n] w fun e w' => e = .returned (.int .i64 (backN n)) ∧ w' = w := by
  have HB : Hid (backN n = if n = 0 then 1 else if n = 1 then 2 else if n = 2 then 4 else 8) := rfl
  rw [HB.out]
  by_cases h0 : n = 0
  · subst h0
    go_enter Try.func15, Try.ntmps15
    go_wp2
    go_ret
    exact ⟨rfl, rfl⟩
  rw [if_neg h0]
  by_cases h1 : n = 1
  · subst h1
    go_enter Try.func15, Try.ntmps15
    go_wp2
    go_ret
    exact ⟨rfl, rfl⟩
  rw [if_neg h1]
  by_cases h2 : n = 2
  · subst h2
    go_enter Try.func15, Try.ntmps15
    go_wp2
    go_ret
    exact ⟨rfl, rfl⟩
  rw [if_neg h2]
  go_enter Try.func15, Try.ntmps15
  go_wp2
  go_ret
  exact ⟨rfl, rfl⟩
set_option maxHeartbeats 400000 in
theorem implBack_any (n : Int) (w : World) : Calls Try.prog 16 #[.int .i64 n] w fun e w' => e = .returned (.int .i64 (backN n)) ∧ w' = w := by
  have HB : Hid (backN n = if n = 0 then 1 else if n = 1 then 2 else if n = 2 then 4 else 8) := rfl
  rw [HB.out]
  by_cases h0 : n = 0
  · subst h0
    go_enter Try.func16, Try.ntmps16
    go_wp2
    go_ret
    exact ⟨rfl, rfl⟩
  rw [if_neg h0]
  by_cases h1 : n = 1
  · subst h1
    go_enter Try.func16, Try.ntmps16
    go_wp2
    go_ret
    exact ⟨rfl, rfl⟩
  rw [if_neg h1]
  by_cases h2 : n = 2
  · subst h2
    go_enter Try.func16, Try.ntmps16
    go_wp2
    go_ret
    exact ⟨rfl, rfl⟩
  rw [if_neg h2]
  by_cases h3 : n < 0
  · go_enter Try.func16, Try.ntmps16
    go_wp2
    go_ret
    exact ⟨rfl, rfl⟩
  · have h4 : (2 : Int) < n := by omega
    go_enter Try.func16, Try.ntmps16
    go_wp2
    go_ret
    exact ⟨rfl, rfl⟩
end Go.Proofs.Ytbaooljchilkhaa
