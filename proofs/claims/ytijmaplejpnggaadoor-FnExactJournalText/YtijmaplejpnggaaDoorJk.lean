/-
  Journals: which are right, on both sides: the walks; the law's helpers on them (sizes, copies, held against each other).
-/
import Derived.Test.YtijmaplejpnggaaDoorJo
import Derived.Test.YtijmaplejpnggaaDoorLg
namespace Go.Proofs.YtijmaplejpnggaaDoor
open Go Go.RowKit
theorem bcell {W w1 : World} (hb : Below W.heap.size W w1) : (∀ b o, b < W.heap.size → w1.cell? ⟨b, o, none⟩ = W.cell? ⟨b, o, none⟩) ∧ (∀ b o, b < W.heap.size → w1.frozen? ⟨b, o, none⟩ = W.frozen? ⟨b, o, none⟩) :=
  ⟨fun b o h => hb.cell (p := ⟨b, o, none⟩) h, fun b o h => hb.frozen (p := ⟨b, o, none⟩) h⟩

/-- A journal as a value. -/
abbrev jV (n t v s st : Int) (e : Value) : Value := .agg #[.int .i64 n, .int .i64 t, .int .i64 v, .int .i64 s, .int .i64 st, e]

set_option maxRecDepth 10000 in
set_option maxHeartbeats 1000000 in
theorem journalOk_try (n t v s st : Int) (ao : Option Addr) (k c : Nat) (l : List En) (w : World) (hp : PowIs w) (hr : Reads w (.slice ao k c) l) (hk : k ≤ 1048577) (hz : SizedE l) :
    Calls Tryd.prog 23 #[jV n t v s st (.slice ao k c)] w fun e w' => e = .returned (.bool (jokB n t v s st l)) ∧ Below w.heap.size w w' := by
  have HR : Hid (Reads w (.slice ao k c) l) := hr
  have HZ : Hid (SizedE l) := hz
  have HL : Hid (l.length ≤ 1048577) := by show _ ≤ _; rw [← hr.len]; exact hk
  clear hr hz
  cases hn : numB n with
  | false =>
    have HB : Hid (jokB n t v s st l = false) := by show _ = _; unfold jokB; rw [hn]; rfl
    rw [HB.out]
    have HNN : Hid (numB n = false) := hn
    clear hn
    go_enter Tryd.func23, Tryd.ntmps23
    go_wp2_with (go_at_call 19; refine (journalName_no HNN.out _ (hp.below (ba (Below.refl _ _) _))).mono ?_; rintro e w1 ⟨rfl, hb1⟩)
    go_ret
    exact ⟨rfl, below_new hb1⟩
  | true =>
    obtain ⟨hq, hq2⟩ := empty_not (jname_ne hn)
    cases hh : hdB t v with
    | false =>
      have HB : Hid (jokB n t v s st l = false) := by show _ = _; unfold jokB; rw [hn, hh]; rfl
      have HH : Hid (hdB t v = false) := hh
      rw [HB.out]
      clear hn hh
      go_enter Tryd.func23, Tryd.ntmps23
      go_wp2_with (first | (go_at_call 19; refine (journalName_any n _ (hp.below (ba (Below.refl _ _) _))).mono ?_; rintro e w1 ⟨rfl, hb1⟩; obtain ⟨hc, hf⟩ := bcell hb1) | (go_at_call 46; refine (isHead_any t v _).mono ?_; rw [HH.out]; rintro e w' ⟨rfl, hw⟩; have hw2 := hw.symm; subst hw2))
      go_ret
      exact ⟨rfl, below_new hb1⟩
    | true =>
      have HB : Hid (jokB n t v s st l = okL s st l) := by show _ = _; unfold jokB; rw [hn, hh]; simp
      have HH : Hid (hdB t v = true) := hh
      rw [HB.out]
      clear hn hh
      go_enter Tryd.func23, Tryd.ntmps23
      go_wp2_with (first | (go_at_call 19; refine (journalName_any n _ (hp.below (ba (Below.refl _ _) _))).mono ?_; rintro e w1 ⟨rfl, hb1⟩; obtain ⟨hc, hf⟩ := bcell hb1) | (go_at_call 46; refine (isHead_any t v _).mono ?_; rw [HH.out]; rintro e w' ⟨rfl, hw⟩; have hw2 := hw.symm; subst hw2) | (go_at_call 47; refine (logOk_any (HR.out.below (below_new hb1)) HL.out HZ.out).mono ?_; rintro e w3 ⟨rfl, hb3⟩))
      go_ret
      exact ⟨rfl, Below.on (below_new hb1) hb3⟩
theorem journalOk_any {n t v s st : Int} {w : World} {x : Value} {l : List En} (hp : PowIs w) (hr : Reads w x l) (hk : l.length ≤ 1048577) (hz : SizedE l) :
    Calls Tryd.prog 23 #[jV n t v s st x] w fun e w' => e = .returned (.bool (jokB n t v s st l)) ∧ Below w.heap.size w w' := by
  obtain ⟨ao, c, rfl, _⟩ := id hr
  exact journalOk_try n t v s st ao _ c l w hp hr hk hz

end Go.Proofs.YtijmaplejpnggaaDoor
