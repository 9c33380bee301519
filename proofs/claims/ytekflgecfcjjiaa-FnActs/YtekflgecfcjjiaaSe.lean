/-
  The specification's act at every disk and act.
-/
import Derived.Test.YtekflgecfcjjiaaSc
namespace Go.Proofs.Ytekflgecfcjjiaa
open Go Go.RowKit

theorem findF_mem {l : List Fl} {s : ByteArray} {f : Fl} (h : findF l s = some f) : f ∈ l := List.mem_of_find?_eq_some h

theorem specAct_any (ao : Option Addr) (n c : Nat) (l : List Fl) (kind : Int) (nm tx to : ByteArray) (w : World) (hr : Reads w (.slice ao n c) l) (hxs : tx.size ≤ 1048576) :
    Calls Try.prog 34 #[.agg #[.slice ao n c], .agg #[.int .i64 kind, .string nm, .string tx, .string to]] w (ActPost l ⟨kind, nm, tx, to⟩ w) := by
  cases hd : diskR l with
  | false => exact specAct_w1 ao n c l kind nm tx to w hr hd
  | true =>
  have hn : n ≤ 1000 := by
    have h1 := (diskR_iff.1 hd).1
    have h2 := hr.len
    omega
  cases hnm : nameR nm with
  | false => exact specAct_w2 ao n c l kind nm tx to w hr hd hnm
  | true =>
  by_cases hk3 : kind = 3
  · subst hk3
    cases ht : tx.toList.isEmpty with
    | false => exact specAct_w4 ao n c l nm tx to w hr hd hnm ht
    | true =>
    cases hf : findF l nm with
    | none => exact specAct_e3 ao n c l nm tx to w hr hn hd hnm ht hf
    | some f =>
    obtain ⟨fn, ft, fk⟩ := f
    by_cases hs : fk < (ft.size : Int)
    · exact specAct_move_short ao n c l nm tx to w hr hn fn ft fk hd hnm ht hf hs
    cases he2 : (to.toList == nm.toList) with
    | true => exact specAct_move_same ao n c l nm tx to w hr hn fn ft fk hd hnm ht hf hs he2
    | false =>
    cases htn : nameR to with
    | false => exact specAct_move_name ao n c l nm tx to w hr hn fn ft fk hd hnm ht hf hs he2 htn
    | true =>
    cases hdo : diskR (putL (l.filter (neP nm)) ⟨to, ft, fk⟩) with
    | true => exact specAct_move_true ao n c l nm tx to w hr hn fn ft fk hd hnm ht hf hs he2 htn hdo
    | false => exact specAct_move_false ao n c l nm tx to w hr hn fn ft fk hd hnm ht hf hs he2 htn hdo
  cases ho : to.toList.isEmpty with
  | false => exact specAct_w3 ao n c l kind nm tx to w hr hd hnm hk3 ho
  | true =>
  by_cases hk1 : kind = 1
  · subst hk1
    cases hf : findF l nm with
    | none =>
      cases hdo : diskR (putL l ⟨nm, ByteArray.empty ++ tx, 0⟩) with
      | true => exact specAct_add0_true ao n c l nm tx to w hr hn hxs hd hnm ho hf hdo
      | false => exact specAct_add0_false ao n c l nm tx to w hr hn hxs hd hnm ho hf hdo
    | some f =>
      obtain ⟨fn, ft, fk⟩ := f
      have hft : ft.size ≤ 20000 := (right_parts ((diskR_iff.1 hd).2.1 _ (findF_mem hf))).1
      cases hdo : diskR (putL l ⟨fn, ft ++ tx, fk⟩) with
      | true => exact specAct_add1_true ao n c l nm tx to w hr hn fn ft fk hxs hft hd hnm ho hf hdo
      | false => exact specAct_add1_false ao n c l nm tx to w hr hn fn ft fk hxs hft hd hnm ho hf hdo
  cases ht : tx.toList.isEmpty with
  | false => exact specAct_w5 ao n c l kind nm tx to w hr hd hnm hk3 hk1 ho ht
  | true =>
  cases hf : findF l nm with
  | none => exact specAct_e0 ao n c l kind nm tx to w hr hn hd hnm hk3 hk1 ho ht hf
  | some f =>
  obtain ⟨fn, ft, fk⟩ := f
  by_cases hk2 : kind = 2
  · subst hk2
    cases hdo : diskR (putL l ⟨fn, ft, (ft.size : Int)⟩) with
    | true => exact specAct_keep_true ao n c l nm tx to w hr hn fn ft fk hd hnm ho ht hf hdo
    | false => exact specAct_keep_false ao n c l nm tx to w hr hn fn ft fk hd hnm ho ht hf hdo
  by_cases hk4 : kind = 4
  · subst hk4
    cases hdo : diskR (l.filter (neP nm)) with
    | true => exact specAct_drop_true ao n c l nm tx to w hr hn fn ft fk hd hnm ho ht hf hdo
    | false => exact specAct_drop_false ao n c l nm tx to w hr hn fn ft fk hd hnm ho ht hf hdo
  exact specAct_other ao n c l kind nm tx to w hr hn fn ft fk hd hnm hk1 hk2 hk3 hk4 ho ht hf
end Go.Proofs.Ytekflgecfcjjiaa
