/-
  The name of a snapshot's file, and the index that has it: the walks.
-/
import Derived.Test.YtingfgbcinlflaaDoorDec
import Derived.Test.YtingfgbcinlflaaDoorNl
import Derived.Test.YtingfgbcinlflaaDoorGn
import Derived.Test.YtingfgbcinlflaaDoorTls
namespace Go.Proofs.YtingfgbcinlflaaDoor
open Go Go.RowKit

/-- Whether a number is one of a snapshot. -/
def idxB (n : Int) : Bool := decide (0 ≤ n) && decide (n ≤ 1000000)
/-- The name of a snapshot's file. -/
def sname (n : Int) : ByteArray := if idxB n then (⟨#[115]⟩ : ByteArray) ++ decS n else ByteArray.empty
theorem idxB_out {n : Int} (h : idxB n = true) : 0 ≤ n ∧ n ≤ 1000000 := by simpa [idxB] using h
theorem idxB_in {n : Int} (h0 : 0 ≤ n) (h1 : n ≤ 1000000) : idxB n = true := by simp [idxB, h0, h1]
theorem idxB_no {n : Int} (h : n < 0 ∨ 1000000 < n) : idxB n = false := by
  rcases h with h | h
  · simp only [idxB, decide_eq_false (show ¬ 0 ≤ n by omega), Bool.false_and]
  · simp only [idxB, decide_eq_false (show ¬ n ≤ 1000000 by omega), Bool.and_false]
theorem sname_in {n : Int} (h0 : 0 ≤ n) (h1 : n ≤ 1000000) : sname n = (⟨#[115]⟩ : ByteArray) ++ decS n := by unfold sname; rw [if_pos (idxB_in h0 h1)]
theorem sname_no {n : Int} (h : n < 0 ∨ 1000000 < n) : sname n = ByteArray.empty := by unfold sname; rw [idxB_no h]; rfl
theorem decS_sizeS {n : Int} (h0 : 0 ≤ n) (h1 : n ≤ 1000000) : 1 ≤ (decS n).size ∧ (decS n).size ≤ 7 := by
  obtain ⟨k, rfl⟩ := Int.eq_ofNat_of_zero_le h0
  rw [← decS_pos, bstr_size']
  have h := decI_len 6 k (by omega)
  have := decI_ne k k (Nat.le_refl _)
  have : (decI k).length ≠ 0 := fun e => this (List.length_eq_zero_iff.1 e)
  omega
theorem sname_size (n : Int) : (sname n).size ≤ 8 := by
  unfold sname
  split
  · rename_i h
    have := decS_sizeS (idxB_out h).1 (idxB_out h).2
    rw [ByteArray.size_append]
    have : (⟨#[115]⟩ : ByteArray).size = 1 := rfl
    omega
  · exact Nat.zero_le _
theorem sname_ne {n : Int} (h : idxB n = true) : sname n ≠ ByteArray.empty := fun e => by
  have := congrArg ByteArray.size e
  rw [sname_in (idxB_out h).1 (idxB_out h).2, ByteArray.size_append] at this
  have h1 : (⟨#[115]⟩ : ByteArray).size = 1 := rfl
  have h0 : (ByteArray.empty).size = 0 := rfl
  omega
theorem run_sname {n : Int} (h0 : 0 ≤ n) (h1 : n ≤ 1000000) (wx : World) : (Op.stringOp .add ⟨#[115]⟩ (decS n)).run Tryd.prog wx = .ok (.string ((⟨#[115]⟩ : ByteArray) ++ decS n)) wx := by
  have := decS_sizeS h0 h1
  rw [run_string_add_sum wx _ _ (by rw [show (⟨#[115]⟩ : ByteArray).size = 1 from rfl]; omega)]
set_option maxRecDepth 10000 in
set_option maxHeartbeats 400000 in
theorem snapName_any (n : Int) (w : World) (hp : PowIs w) :
    Calls Tryd.prog 60 #[.int .i64 n] w fun e w' => e = .returned (.string (sname n)) ∧ Below w.heap.size w w' := by
  by_cases h0 : n < 0
  · rw [sname_no (.inl h0)]
    go_enter Tryd.func60, Tryd.ntmps60
    go_wp2
    go_ret
    exact ⟨rfl, Below.refl _ _⟩
  by_cases h1 : 1000000 < n
  · rw [sname_no (.inr h1)]
    go_enter Tryd.func60, Tryd.ntmps60
    go_wp2
    go_ret
    exact ⟨rfl, Below.refl _ _⟩
  · rw [sname_in (by omega) (by omega)]
    have ha := run_sname (n := n) (by omega) (by omega)
    go_enter Tryd.func60, Tryd.ntmps60
    go_wp2_with (go_at_call 75; refine (decimal_any n _ (by omega) (by omega) hp).mono ?_; rintro e w1 ⟨rfl, hb1⟩)
    go_ret
    exact ⟨rfl, hb1⟩
set_option maxRecDepth 10000 in
set_option maxHeartbeats 400000 in
theorem specSnapName_any (n : Int) (w : World) :
    Calls Tryd.prog 55 #[.int .i64 n] w fun e w' => e = .returned (.string (sname n)) ∧ Below w.heap.size w w' := by
  by_cases h : n < 0 ∨ 1000000 < n
  · rw [sname_no h]
    have H : Hid (n < 0 ∨ 1000000 < n) := h
    clear h
    go_enter Tryd.func55, Tryd.ntmps55
    go_wp2_with (go_at_call 41; refine (l01In_no _ _ _ _ H.out).mono ?_; rintro e w' ⟨rfl, rfl⟩)
    go_ret
    exact ⟨rfl, Below.refl _ _⟩
  · rw [sname_in (by omega) (by omega)]
    have ha := run_sname (n := n) (by omega) (by omega)
    go_enter Tryd.func55, Tryd.ntmps55
    go_wp2_with (first | (go_at_call 41; refine (l01In_yes _ _ _ _ (by omega) (by omega)).mono ?_; rintro e w' ⟨rfl, rfl⟩) | (go_at_call 72; refine (specDec_any n _ (by omega) (by omega)).mono ?_; rintro e w1 ⟨rfl, hb1⟩))
    go_ret
    exact ⟨rfl, hb1⟩
/-- The number that has this SnapName, or -1. -/
def idxOf (s : ByteArray) : Int := if (rd (tlS s)).2 = true ∧ sname (rd (tlS s)).1 = s then (rd (tlS s)).1 else -1
theorem sname_first {n : Int} {s : ByteArray} (e : sname n = s) (hs : 1 ≤ s.size) : kAt s 0 = 115 := by
  have hb : idxB n = true := by
    cases h : idxB n with
    | true => rfl
    | false =>
      have e2 : sname n = ByteArray.empty := by unfold sname; rw [h]; rfl
      rw [e2] at e
      subst e
      exact absurd hs (by decide)
  rw [sname_in (idxB_out hb).1 (idxB_out hb).2] at e
  subst e
  rw [kAt_in (by omega), ByteArray.getElem_append_left (show 0 < (⟨#[115]⟩ : ByteArray).size by decide)]
  rfl
theorem idxOf_short {s : ByteArray} (h : s.size < 2) : idxOf s = -1 := by
  unfold idxOf
  rw [rd_out (.inl (by rw [tlS_size]; omega))]
  exact if_neg (by simp)
theorem idxOf_else {s : ByteArray} (h : kAt s 0 ≠ 115) : idxOf s = -1 := by
  by_cases h2 : s.size < 2
  · exact idxOf_short h2
  · unfold idxOf
    exact if_neg fun ⟨_, e⟩ => h (sname_first e (by omega))


theorem first_s {r : ByteArray} (h : 1 ≤ r.size) : ((r.extract 0 1).toList == (⟨#[115]⟩ : ByteArray).toList) = decide (kAt r 0 = 115) := by
  have h0 : 0 < r.size := h
  rw [kAt_in h0]
  by_cases hk : r[0].toNat = 115
  · rw [decide_eq_true hk]
    refine eq_list ?_
    apply ByteArray.ext
    rw [ByteArray.data_extract]
    apply Array.ext
    · simp; exact Nat.min_eq_left h
    · intro i hi hi2
      have hi3 : i = 0 := by simp at hi2; omega
      subst hi3
      simp
      exact UInt8.toNat_inj.1 hk
  · rw [decide_eq_false hk]
    refine ne_list fun e => hk ?_
    have hz : 0 < (r.extract 0 1).size := by rw [ByteArray.size_extract]; omega
    have e2 : (r.extract 0 1)[0] = (115 : UInt8) := by
      have : ∀ (x : ByteArray) (hx : 0 < x.size), x = ⟨#[115]⟩ → x[0] = (115 : UInt8) := fun x hx hh => by subst hh; rfl
      exact this _ hz e
    have e3 : (r.extract 0 1)[0] = r[0] := by
      simp [ByteArray.getElem_extract]
    rw [← e3, e2]; rfl

set_option maxRecDepth 10000 in
set_option maxHeartbeats 1000000 in
theorem hasS_any (r : ByteArray) (w : World) (hr : r.size ≤ 9223372036854775807) :
    Calls Tryd.prog 80 #[.string r, .string ⟨#[115]⟩] w fun e w' => e = .returned (.bool (decide (kAt r 0 = 115))) ∧ w' = w := by
  have hz1 : ((⟨#[115]⟩ : ByteArray).size : Int) = 1 := rfl
  by_cases h : 1 ≤ r.size
  · have HQ : Hid (((r.extract 0 1).toList == ([115] : List UInt8)) = decide (kAt r 0 = 115)) := by
      have := first_s h
      rwa [show (⟨#[115]⟩ : ByteArray).toList = [115] from by rw [ByteArray.toList_eq]] at this
    rw [← HQ.out]
    have hsl : ∀ wx, (Instr.slice 9 (.string r) none (some (.int .i64 1)) none).run Tryd.prog wx = .ok (.string (r.extract 0 1)) wx := fun wx => by
      rw [run_slice_string_to_if wx 9 r .i64 1 Tryd.underlying9, if_pos (by omega)]
      rfl
    go_enter Tryd.func80, Tryd.ntmps80
    go_wp2
    go_ret
    exact ⟨rfl, rfl⟩
  · have hz : r.size = 0 := by omega
    have e : decide (kAt r 0 = 115) = false := by
      unfold kAt
      rw [dif_neg (by omega)]
      rfl
    rw [e]
    go_enter Tryd.func80, Tryd.ntmps80
    go_wp2
    go_ret
    exact ⟨rfl, rfl⟩

set_option maxRecDepth 10000 in
set_option maxHeartbeats 1000000 in
theorem trimS_any (r : ByteArray) (w : World) (hr : r.size ≤ 9223372036854775807) :
    Calls Tryd.prog 59 #[.string r, .string ⟨#[115]⟩] w fun e w' => e = .returned (.string (if kAt r 0 = 115 then tlS r else r)) ∧ w' = w := by
  have hz1 : ((⟨#[115]⟩ : ByteArray).size : Int) = 1 := rfl
  have inner : ∀ w, Calls Tryd.prog 74 #[.string r, .string ⟨#[115]⟩] w fun e w' => e = .returned (.string (if kAt r 0 = 115 then tlS r else r)) ∧ w' = w := fun w => by
    by_cases h : kAt r 0 = 115
    · rw [if_pos h]
      have hr1 : 1 ≤ r.size := by
        by_cases hx : 0 < r.size
        · exact hx
        · unfold kAt at h
          rw [dif_neg hx] at h
          cases h
      have CH : Hid (∀ W, Calls Tryd.prog 80 #[.string r, .string ⟨#[115]⟩] W fun e w' => e = .returned (.bool true) ∧ w' = W) := fun W => by
        have := hasS_any r W hr
        rwa [decide_eq_true h] at this
      have hsl : ∀ wx, (Instr.slice 9 (.string r) (some (.int .i64 1)) none none).run Tryd.prog wx = .ok (.string (tlS r)) wx := fun wx => by
        rw [run_slice_string_from_if wx 9 r .i64 1 Tryd.underlying9, if_pos (by omega)]
        rfl
      clear h
      go_enter Tryd.func74, Tryd.ntmps74
      go_wp2_with fail
      refine Calls.mono (CH.out _) ?_
      rintro e w1 ⟨rfl, hw⟩
      have hw2 := hw.symm
      subst hw2
      go_wp2
      go_ret
      exact ⟨rfl, rfl⟩
    · rw [if_neg h]
      have CH : Hid (∀ W, Calls Tryd.prog 80 #[.string r, .string ⟨#[115]⟩] W fun e w' => e = .returned (.bool false) ∧ w' = W) := fun W => by
        have := hasS_any r W hr
        rwa [decide_eq_false h] at this
      clear h
      go_enter Tryd.func74, Tryd.ntmps74
      go_wp2_with fail
      refine Calls.mono (CH.out _) ?_
      rintro e w1 ⟨rfl, hw⟩
      have hw2 := hw.symm
      subst hw2
      go_wp2
      go_ret
      exact ⟨rfl, rfl⟩
  generalize (if kAt r 0 = 115 then tlS r else r) = t at inner ⊢
  go_enter Tryd.func59, Tryd.ntmps59
  go_wp2_with fail
  refine Calls.mono (inner _) ?_
  rintro e w1 ⟨rfl, hw⟩
  have hw2 := hw.symm
  subst hw2
  go_wp2
  go_ret
  exact ⟨rfl, rfl⟩

set_option maxRecDepth 10000 in
set_option maxHeartbeats 1000000 in
theorem indexOf_walk (s t : ByteArray) (x : Int) (z : Bool) (w : World) (hp : PowIs w)
    (CT : Hid (∀ W, Calls Tryd.prog 59 #[.string s, .string ⟨#[115]⟩] W fun e w' => e = .returned (.string t) ∧ w' = W))
    (CR : Hid (∀ W, Calls Tryd.prog 58 #[.string t] W fun e w' => e = .returned (.tuple #[.int .i64 x, .bool z]) ∧ Below W.heap.size W w')) :
    Calls Tryd.prog 32 #[.string s] w fun e w' => e = .returned (.int .i64 (if z = true ∧ sname x = s then x else -1)) ∧ Below w.heap.size w w' := by
  cases z with
  | false =>
    rw [if_neg (by simp)]
    go_enter Tryd.func32, Tryd.ntmps32
    go_wp2_with fail
    refine Calls.mono (CT.out _) ?_
    rintro e w1 ⟨rfl, hw⟩
    have hw2 := hw.symm
    subst hw2
    go_wp2_with fail
    refine Calls.mono (CR.out _) ?_
    rintro e w2 ⟨rfl, hb2⟩
    go_wp2
    go_ret
    exact ⟨rfl, hb2⟩
  | true =>
    by_cases h : sname x = s
    · rw [if_pos ⟨rfl, h⟩]
      have HQ := eq_list h
      clear h
      go_enter Tryd.func32, Tryd.ntmps32
      go_wp2_with fail
      refine Calls.mono (CT.out _) ?_
      rintro e w1 ⟨rfl, hw⟩
      have hw2 := hw.symm
      subst hw2
      go_wp2_with fail
      refine Calls.mono (CR.out _) ?_
      rintro e w2 ⟨rfl, hb2⟩
      go_wp2_with fail
      refine Calls.mono (snapName_any x _ (hp.below hb2)) ?_
      rintro e w3 ⟨rfl, hb3⟩
      go_wp2
      go_ret
      exact ⟨rfl, Below.on hb2 hb3⟩
    · rw [if_neg (fun hh => h hh.2)]
      have HQ := ne_list h
      clear h
      go_enter Tryd.func32, Tryd.ntmps32
      go_wp2_with fail
      refine Calls.mono (CT.out _) ?_
      rintro e w1 ⟨rfl, hw⟩
      have hw2 := hw.symm
      subst hw2
      go_wp2_with fail
      refine Calls.mono (CR.out _) ?_
      rintro e w2 ⟨rfl, hb2⟩
      go_wp2_with fail
      refine Calls.mono (snapName_any x _ (hp.below hb2)) ?_
      rintro e w3 ⟨rfl, hb3⟩
      go_wp2
      go_ret
      exact ⟨rfl, Below.on hb2 hb3⟩

theorem indexOf_any (s : ByteArray) (w : World) (hs : s.size ≤ 9223372036854775807) (hp : PowIs w) :
    Calls Tryd.prog 32 #[.string s] w fun e w' => e = .returned (.int .i64 (idxOf s)) ∧ Below w.heap.size w w' := by
  by_cases h : kAt s 0 = 115
  · exact indexOf_walk s (tlS s) _ _ w hp (fun W => by have := trimS_any s W hs; rwa [if_pos h] at this) (fun W => readDec_all _ W (by rw [tlS_size]; omega))
  · have := indexOf_walk s s _ _ w hp (fun W => by have := trimS_any s W hs; rwa [if_neg h] at this) (fun W => readDec_all _ W hs)
    rw [if_neg (fun hh => by
      by_cases h1 : 1 ≤ s.size
      · exact h (sname_first hh.2 h1)
      · rw [rd_out (.inl (by omega))] at hh
        exact absurd hh.1 (by decide))] at this
    rw [idxOf_else h]
    exact this

set_option maxRecDepth 10000 in
set_option maxHeartbeats 1000000 in
theorem specIndex_any (s : ByteArray) (w : World) (hs : s.size ≤ 9223372036854775807) :
    Calls Tryd.prog 29 #[.string s] w fun e w' => e = .returned (.int .i64 (idxOf s)) ∧ Below w.heap.size w w' := by
  by_cases h2 : s.size < 2
  · rw [idxOf_short h2]
    go_enter Tryd.func29, Tryd.ntmps29
    go_wp2
    go_ret
    exact ⟨rfl, Below.refl _ _⟩
  have hsl : ∀ wx, (Instr.slice 9 (.string s) (some (.int .i64 1)) none none).run Tryd.prog wx = .ok (.string (tlS s)) wx := fun wx => by
    rw [run_slice_string_from_if wx 9 s .i64 1 Tryd.underlying9, if_pos (by omega)]
    rfl
  have CR : Hid (∀ W, Calls Tryd.prog 54 #[.string (tlS s)] W fun e w' => e = .returned (.tuple #[.int .i64 (rd (tlS s)).1, .bool (rd (tlS s)).2]) ∧ Below W.heap.size W w') := fun W => specReadDec_all _ W (by rw [tlS_size]; omega)
  unfold idxOf
  generalize hx : (rd (tlS s)).1 = x at CR
  generalize hz : (rd (tlS s)).2 = z at CR
  clear hx hz
  cases z with
  | false =>
    rw [if_neg (by simp)]
    go_enter Tryd.func29, Tryd.ntmps29
    go_wp2_with fail
    refine Calls.mono (CR.out _) ?_
    rintro e w2 ⟨rfl, hb2⟩
    go_wp2
    go_ret
    exact ⟨rfl, hb2⟩
  | true =>
    by_cases h : sname x = s
    · rw [if_pos ⟨rfl, h⟩]
      have HQ := eq_list h
      clear h
      go_enter Tryd.func29, Tryd.ntmps29
      go_wp2_with fail
      refine Calls.mono (CR.out _) ?_
      rintro e w2 ⟨rfl, hb2⟩
      go_wp2_with fail
      refine Calls.mono (specSnapName_any x _) ?_
      rintro e w3 ⟨rfl, hb3⟩
      go_wp2
      go_ret
      exact ⟨rfl, Below.on hb2 hb3⟩
    · rw [if_neg (fun hh => h hh.2)]
      have HQ := ne_list h
      clear h
      go_enter Tryd.func29, Tryd.ntmps29
      go_wp2_with fail
      refine Calls.mono (CR.out _) ?_
      rintro e w2 ⟨rfl, hb2⟩
      go_wp2_with fail
      refine Calls.mono (specSnapName_any x _) ?_
      rintro e w3 ⟨rfl, hb3⟩
      go_wp2
      go_ret
      exact ⟨rfl, Below.on hb2 hb3⟩
end Go.Proofs.YtingfgbcinlflaaDoor
