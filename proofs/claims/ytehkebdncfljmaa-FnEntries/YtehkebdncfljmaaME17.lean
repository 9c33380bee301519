/-
  An entry read from its text, by the program: the walk. Two rows of numbers held against each other: the walk. The law on drawn entries and lists of servers: the walk.
-/
import Derived.Test.YtehkebdncfljmaaME16
import Derived.Test.YtehkebdncfljmaaRi
import Derived.Test.YtehkebdncfljmaaGn
import Derived.Test.YtehkebdncfljmaaInf
import Derived.Test.YtehkebdncfljmaaME15
import Derived.Test.YtehkebdncfljmaaME11
import Derived.Test.YtehkebdncfljmaaMo
import Derived.Test.YtehkebdncfljmaaDh
namespace Go.Proofs.Ytehkebdncfljmaa
open Go Go.RowKit


theorem rd_no1 {s : ByteArray} (h : (rv s 1).2.2 = false) : rdV s = zeroV := by
  unfold rdV
  rw [if_neg]
  rintro ⟨k, -⟩
  rw [h] at k
  cases k
theorem rd_no2 {s : ByteArray} {x a : Nat} (h : rv s 1 = ((x : Int), (a : Int), true)) (h2 : (rv s (a : Int)).2.2 = false) : rdV s = zeroV := by
  unfold rdV
  rw [if_neg]
  rintro ⟨-, k, -⟩
  rw [h] at k
  rw [h2] at k
  cases k
theorem rd_no3 {s : ByteArray} {x a t b : Nat} (h : rv s 1 = ((x : Int), (a : Int), true)) (h2 : rv s (a : Int) = ((t : Int), (b : Int), true)) (h3 : b = s.size) : rdV s = zeroV := by
  unfold rdV
  rw [if_neg]
  rintro ⟨-, -, k⟩
  rw [h] at k
  dsimp only at k
  rw [h2] at k
  dsimp only at k
  omega
theorem rd_yes {s : ByteArray} {x a t b : Nat} (h : rv s 1 = ((x : Int), (a : Int), true)) (h2 : rv s (a : Int) = ((t : Int), (b : Int), true)) (h3 : b < s.size) : rdV s = finV s x t b := by
  unfold rdV
  rw [h]
  dsimp only
  rw [h2]
  dsimp only
  rw [if_pos ⟨rfl, rfl, by omega⟩]
  simp

theorem zero_block {w W : World} (hb : Below w.heap.size w W) (hr : W.heap[w.heap.size]? = some (.cells #[.int .i64 0, .int .i64 0, .string ByteArray.empty] 25)) :
    (((W.setCell ⟨w.heap.size, 0, none⟩ (.int .i64 0)).setCell ⟨w.heap.size, 1, none⟩ (.int .i64 0)).setCell ⟨w.heap.size, 2, none⟩ (.string ByteArray.empty)).heap[w.heap.size]? = some (.cells #[.int .i64 0, .int .i64 0, .string ByteArray.empty] 25) ∧
    Below w.heap.size w (((W.setCell ⟨w.heap.size, 0, none⟩ (.int .i64 0)).setCell ⟨w.heap.size, 1, none⟩ (.int .i64 0)).setCell ⟨w.heap.size, 2, none⟩ (.string ByteArray.empty)) :=
  ⟨cur_set2 (cur_set1 (cur_set0 hr _) _) _, ((hb.setCell (p := ⟨w.heap.size, 0, none⟩) (Nat.le_refl _) _).setCell (p := ⟨w.heap.size, 1, none⟩) (Nat.le_refl _) _).setCell (p := ⟨w.heap.size, 2, none⟩) (Nat.le_refl _) _⟩

set_option maxRecDepth 10000 in
set_option maxHeartbeats 4000000 in
theorem readEntry_any (s : ByteArray) (w : World) (hs : s.size ≤ 1048576) :
    Calls Try.prog 10 #[.string s] w fun e w' => e = .returned (rdV s) ∧ Below w.heap.size w w' := by
  rcases hr1 : rv s 1 with ⟨x, y, z⟩
  have H1 : Hid (∀ w, Calls Try.prog 40 #[.string s, .int .i64 1] w fun e w' => e = .returned (.tuple #[.int .i64 x, .int .i64 y, .bool z]) ∧ w' = w) := fun w => readVar_any s 1 w hs x y z hr1
  cases z with
  | false =>
    have HZ : Hid (rdV s = zeroV) := rd_no1 (by rw [hr1])
    clear hr1
    go_enter Try.func10, Try.ntmps10
    go_wp2_with (go_at_call 40; refine (H1.out _).mono ?_; rintro e w2 ⟨rfl, hw⟩; have hw2 := hw.symm; subst hw2; clear hw)
    exact bodyPost_ret (ret_entry (g := w.heap.size) rfl rfl rfl rfl (heap_last _ _)) rfl ⟨by rw [HZ.out]; rfl, ba (Below.refl _ _) _⟩
  | true =>
    obtain ⟨X, Y, rfl, rfl, hX, hY0, hY⟩ := rv_in hr1
    rcases hr2 : rv s (Y : Int) with ⟨x, y, z⟩
    have H2 : Hid (∀ w, Calls Try.prog 40 #[.string s, .int .i64 (Y : Int)] w fun e w' => e = .returned (.tuple #[.int .i64 x, .int .i64 y, .bool z]) ∧ w' = w) := fun w => readVar_any s Y w hs x y z hr2
    cases z with
    | false =>
      have HZ : Hid (rdV s = zeroV) := rd_no2 hr1 (by rw [hr2])
      clear hr1 hr2
      go_enter Try.func10, Try.ntmps10
      go_wp2_with fail
      refine (H1.out _).mono ?_
      rintro e w2 ⟨rfl, hw⟩; have hw2 := hw.symm; subst hw2; clear hw
      go_wp2_with fail
      refine (H2.out _).mono ?_
      rintro e w2 ⟨rfl, hw⟩; have hw2 := hw.symm; subst hw2; clear hw
      go_wp2
      exact bodyPost_ret (ret_entry (g := w.heap.size) rfl rfl rfl rfl (heap_last _ _)) rfl ⟨by rw [HZ.out]; rfl, ba (Below.refl _ _) _⟩
    | true =>
      obtain ⟨U, V, rfl, rfl, hU, hV0, hV⟩ := rv_in hr2
      by_cases hVs : V = s.size
      · have HZ : Hid (rdV s = zeroV) := rd_no3 hr1 hr2 hVs
        have hVi : (V : Int) = (s.size : Int) := by omega
        clear hr1 hr2 hVs
        go_enter Try.func10, Try.ntmps10
        go_wp2_with fail
        refine (H1.out _).mono ?_
        rintro e w2 ⟨rfl, hw⟩; have hw2 := hw.symm; subst hw2; clear hw
        go_wp2_with fail
        refine (H2.out _).mono ?_
        rintro e w2 ⟨rfl, hw⟩; have hw2 := hw.symm; subst hw2; clear hw
        go_wp2
        exact bodyPost_ret (ret_entry (g := w.heap.size) rfl rfl rfl rfl (heap_last _ _)) rfl ⟨by rw [HZ.out]; rfl, ba (Below.refl _ _) _⟩
      · have hlt : V < s.size := by omega
        have G1 : Hid (rdV s = finV s X U V) := rd_yes hr1 hr2 hlt
        have hVi : ¬ (V : Int) = (s.size : Int) := by omega
        clear hr1 hr2 hVs
        obtain ⟨k, hk⟩ : ∃ k : Nat, s[V].toNat = k := ⟨_, rfl⟩
        have hk8 : k < 256 := by rw [← hk]; exact UInt8.toNat_lt _
        obtain ⟨d, hd⟩ : ∃ d, dAt s V = d := ⟨_, rfl⟩
        have GK : Hid (kAt s V = k) := by show kAt s V = k; rw [kAt_in hlt, hk]
        have GD : Hid (dAt s V = d) := hd
        have hds : d.size ≤ 1048576 := by rw [← hd]; exact Nat.le_trans (dAt_size s V) hs
        have hsl : ∀ wx, (Instr.slice 9 (.string s) (some (.int .i64 ((V : Int) + 1))) none none).run Try.prog wx = .ok (.string d) wx := fun wx => by
          rw [run_slice_string_l (P := Try.prog) wx 9 s Try.underlying9 .i64 ((V : Int) + 1) (by omega) (by omega), show ((V : Int) + 1).toNat = V + 1 by omega, ← hd]
          rfl
        have hwk : IntKind.i64.wrap (k : Int) = (k : Int) := by go_arith
        have hwv : IntKind.i64.wrap ((V : Int) + 1) = (V : Int) + 1 := by go_arith
        have hi0 : (0 : Int) ≤ (V : Int) := by omega
        have hi1 : (V : Int) < (s.size : Int) := by omega
        clear hd
        have HM : Hid (d.size ≤ maxLen) := by show d.size ≤ maxLen; unfold maxLen; omega
        obtain ⟨q, HQ⟩ : ∃ q, Hid (okX X U k d = q) := ⟨_, rfl⟩
        obtain ⟨u, HU⟩ : ∃ u, Hid (textX X U k d = u) := ⟨_, rfl⟩
        have HV : Hid (valX X U k d = .tuple #[.string u, .bool q]) := by show valX _ _ _ d = _; rw [valX, HQ.out, HU.out]
        have HF : Hid (okF s X U V = (q && (u.toList == s.toList))) := by show okF s X U V = _; rw [okF, GK.out, GD.out, HQ.out, HU.out]
        have R0 : Hid ((w.alloc (.cells #[.int .i64 0, .int .i64 0, .string ByteArray.empty] 25)).heap[w.heap.size]? = some (.cells #[.int .i64 0, .int .i64 0, .string ByteArray.empty] 25)) := heap_last _ _
        have B0 := ba (Below.refl _ w) (.cells #[.int .i64 0, .int .i64 0, .string ByteArray.empty] 25)
        go_enter Try.func10, Try.ntmps10
        go_wp2_with fail
        refine (H1.out _).mono ?_
        rintro e w2 ⟨rfl, hw⟩; have hw2 := hw.symm; subst hw2; clear hw
        go_wp2_with fail
        refine (H2.out _).mono ?_
        rintro e w2 ⟨rfl, hw⟩; have hw2 := hw.symm; subst hw2; clear hw
        go_wp2
        rename ((V : Int) == (s.size : Int)) = false => hbeq
        rw [hbeq]
        clear hbeq
        obtain ⟨w1, hw1⟩ : ∃ w1, w.alloc (.cells #[.int .i64 0, .int .i64 0, .string ByteArray.empty] 25) = w1 := ⟨_, rfl⟩
        rw [hw1] at R0 B0
        rw [show w.alloc (.cells #[.int .i64 0, .int .i64 0, .string { data := #[] }] 25) = w1 from hw1]
        clear hw1
        refine wp_puts (α := Nat) (fun E => [(37, .int .i64 (U : Int)), (38, .string s), (39, .int .i64 (V : Int)), (40, .int .u8 (k : Int)), (41, .int .i64 (k : Int)), (42, .string s), (43, .int .i64 (V : Int)), (44, .int .i64 ((V : Int) + 1)), (45, .string d), (46, .string d), (47, .agg #[.int .i64 (U : Int), .int .i64 (k : Int), .string d]), (9, .pointer (some ⟨E, 0, none⟩))]) (fun E w' => w1.heap.size ≤ E ∧ w'.heap[E]? = some (.cells #[.int .i64 (U : Int), .int .i64 (k : Int), .string d] 25) ∧ Below w1.heap.size w1 w') ?_ ?_
        · go_region_held3 (fun w' => Below w1.heap.size w1 w') ((first | assumption | exact (Below.refl _ _).drew | exact hSa | exact Below.alloc hSa hSa.size _ | exact Below.alloc (by assumption) (Below.size (by assumption)) _ | exact ((Below.setCell hSa (Nat.le_refl _) _).setCell (Nat.le_refl _) _).setCell (Nat.le_refl _) _)) ((go_at_call 41; refine (clone_any _ _ hds).mono ?_; rintro e wa ⟨rfl, hba⟩; have hSa := keep_on (B := w1.heap.size) (W := w1) hba (by assumption) (Nat.le_refl _); (try (have hE0 := heap_new hba; obtain ⟨p0, p1, p2, pf⟩ := cur_cells hE0)); (try (have hE0 := heap_newd hba; obtain ⟨p0, p1, p2, pf⟩ := cur_cells hE0))))
          all_goals first | refine ⟨rfl, wa.heap.size, ?_, hSa.size, heap_last _ _, Below.alloc hSa hSa.size _⟩ | refine ⟨rfl, w1.heap.size, ?_, Nat.le_refl _, cur_set2 (cur_set1 (cur_set0 hE0 _) _) _, ((Below.setCell hSa (p := ⟨w1.heap.size, 0, none⟩) (Nat.le_refl _) _).setCell (p := ⟨w1.heap.size, 1, none⟩) (Nat.le_refl _) _).setCell (p := ⟨w1.heap.size, 2, none⟩) (Nat.le_refl _) _⟩
          all_goals kernel_rfl
        rintro E w2 ⟨hE, E2, hb2⟩
        simp only [putAll]
        have hR := (Array.getElem?_eq_some_iff.1 R0.out).1
        have B2 := Below.trans B0 (hb2.mono B0.size)
        have R2 := heap_on hb2 R0.out
        have hne : E ≠ w.heap.size := by omega
        clear hb2 hsl hwv hwk hi0 hi1 H1 H2
        obtain ⟨e0, e1, e2, ef⟩ := cur_cells E2
        go_wp2_with fail
        refine (entryText_any X U k d _ HM.out).mono ?_
        rintro e w6 ⟨rfl, hb6⟩
        have B6 := Below.trans B2 (hb6.mono B2.size)
        have E6 : Hid (w6.heap[E]? = some (.cells #[.int .i64 (U : Int), .int .i64 (k : Int), .string d] 25)) := heap_on hb6 E2
        have R6 : Hid (w6.heap[w.heap.size]? = some (.cells #[.int .i64 0, .int .i64 0, .string ByteArray.empty] 25)) := heap_on hb6 R2
        clear hb6 E2 R2 B2 e0 e1 e2 ef
        obtain ⟨e0, e1, e2, ef⟩ := cur_cells E6.out
        obtain ⟨r0, r1, r2, rf⟩ := cur_cells R6.out
        rw [HV.out]
        cases q with
        | false =>
          have HZ : Hid (rdV s = zeroV) := by show rdV s = zeroV; rw [G1.out, finV, HF.out]; rfl
          go_wp2
          exact bodyPost_ret (ret_entry (g := w.heap.size) rfl rfl rfl rfl (zero_block B6 R6.out).1) rfl ⟨by rw [HZ.out]; rfl, (zero_block B6 R6.out).2⟩
        | true =>
          cases hu : (u.toList == s.toList) with
          | false =>
            have HZ : Hid (rdV s = zeroV) := by show rdV s = zeroV; rw [G1.out, finV, HF.out, hu]; rfl
            go_wp2
            exact bodyPost_ret (ret_entry (g := w.heap.size) rfl rfl rfl rfl (zero_block B6 R6.out).1) rfl ⟨by rw [HZ.out]; rfl, (zero_block B6 R6.out).2⟩
          | true =>
            have HZ : Hid (rdV s = .tuple #[.int .i64 X, .agg #[.int .i64 U, .int .i64 k, .string d], .bool true]) := by
              show rdV s = _
              rw [G1.out, finV, HF.out, hu, GK.out, GD.out]
              rfl
            go_wp2
            go_region
            go_wp2
            have RF := cur_set2 (cur_set1 (cur_set0 R6.out (.int .i64 (U : Int))) (.int .i64 (k : Int))) (.string d)
            have BF := (((B6.setCell (p := ⟨w.heap.size, 0, none⟩) (Nat.le_refl _) (.int .i64 (U : Int))).setCell (p := ⟨w.heap.size, 1, none⟩) (Nat.le_refl _) (.int .i64 (k : Int))).setCell (p := ⟨w.heap.size, 2, none⟩) (Nat.le_refl _) (.string d)).drew
            exact bodyPost_ret (ret_entry (g := w.heap.size) rfl rfl rfl rfl RF) rfl ⟨by rw [HZ.out]; rfl, BF⟩
end Go.Proofs.Ytehkebdncfljmaa

namespace Go.Proofs.Ytehkebdncfljmaa
open Go Go.RowKit

set_option maxHeartbeats 1000000 in
theorem sameInts_any (ao bo : Option Addr) (n c d : Nat) (l : List Int) (w : World) (ha : Reads w (.slice ao n c) l) (hb : Reads w (.slice bo n d) l) (hn : n ≤ 1048577) :
    Calls Try.prog 15 #[.slice ao n c, .slice bo n d] w fun e w' => e = .returned (.bool true) ∧ Below w.heap.size w w' := by
  have HN : Hid (n = l.length) := ha.len
  have HA : Hid (Reads w (.slice ao n c) l) := ha
  have HB : Hid (Reads w (.slice bo n d) l) := hb
  clear ha hb
  go_enter Try.func15, Try.ntmps15
  go_wp2
  go_loopw [5] (fun i wr => ∃ k : Nat, k ≤ n ∧ i = .int .i64 k ∧ Below w.heap.size w wr) (fun i _ => n - (intOf i).toNat)
  case atStart => exact ⟨0, Nat.zero_le _, rfl, Below.refl _ _⟩
  case round =>
    obtain ⟨k, hk, rfl, hbel⟩ := hrel
    by_cases hlt : k < n
    · obtain ⟨f, hf⟩ : ∃ f, l[k]? = some f := ⟨_, List.getElem?_eq_getElem (by rw [← HN.out]; exact hlt)⟩
      obtain ⟨a, oa, rfl, hga, a0⟩ := int_at (HA.out.below hbel) hf
      obtain ⟨b, ob, rfl, hgb, b0⟩ := int_at (HB.out.below hbel) hf
      clear hf
      go_wp2
      go_quiet (fail)
      go_wp2
      go_roundw
      case rel => exact ⟨k + 1, by omega, by go_num, bdrewN hbel _⟩
      case measure => simp [intOf]; omega
    · go_wp2
      go_ret
      exact ⟨rfl, hbel⟩
end Go.Proofs.Ytehkebdncfljmaa

namespace Go.Proofs.Ytehkebdncfljmaa
open Go Go.RowKit
set_option linter.unusedVariables false

theorem ret_ie {W : World} {b : Nat} {x0 x1 x2 y : Value} {fn : Func} {p q : Tmp} {tmps : Array Value} (h : fn.results = #[.tmp q, .cell p 25]) (hp : tmps.getD p undef = .pointer (some ⟨b, 0, none⟩)) (hq : tmps.getD q undef = y) (hb : K3 25 W b x0 x1 x2) :
    (results fn tmps).run Try.prog W = .ok (.tuple #[y, .agg #[x0, x1, x2]]) W := by
  have hp' : tmps[p]?.getD undef = .pointer (some ⟨b, 0, none⟩) := by simpa using hp
  have hq' : tmps[q]?.getD undef = y := by simpa using hq
  simp [results, h, hp', hq', hb.c0, hb.c1, hb.c2, asAddr, go_sem]
set_option maxHeartbeats 1000000 in
theorem drawEntry_any (v : Value) (n : Nat) (w : World) (hn : n ≤ 1048576) (hc : CodeAt w w.heap.size v n) : Calls Try.prog 7 #[v] w fun e w' => ∃ (z t k : Int) (d : ByteArray), e = .returned (.tuple #[.int .i64 z, .agg #[.int .i64 t, .int .i64 k, .string d]]) ∧ d.size ≤ 1000 ∧ Below w.heap.size w w' := by
  obtain ⟨W0, HW0⟩ : ∃ W0, Hid (w.alloc (.cells #[.int .i64 0, .int .i64 0, .string ⟨#[]⟩] 25) = W0) := ⟨_, rfl⟩
  have Z0 : Hid (K3 25 W0 w.heap.size (.int .i64 0) (.int .i64 0) (.string ⟨#[]⟩)) := by rw [← HW0.out]; exact K3.new _ _ _ _ _
  have B0 : Hid (Below w.heap.size w W0) := by rw [← HW0.out]; exact ba (Below.refl _ _) _
  have HCO : Hid (CodeAt W0 W0.heap.size v n) := hc.on B0.out
  clear hc
  go_enter Try.func7, Try.ntmps7
  go_wp2_with fail
  rw [HW0.out]
  refine (new_any v n _ hn HCO.out).mono ?_
  rintro x W1 ⟨g, rfl, hg, hd1, hb1⟩
  have HB1 : Hid (Below W0.heap.size W0 W1) := hb1
  have HD1 : Hid (Drw W1 g) := hd1
  clear hb1 hd1 HCO HW0
  go_wp2_with fail
  refine (l05Index_any g W1 HD1.out).mono ?_
  rintro x W2 ⟨z, rfl, -, -, hd2, hs2⟩
  have HB2 : Hid (Below W0.heap.size W0 W2) := HB1.out.trans (hs2.below hg HB1.out.size)
  have HD2 : Hid (Drw W2 g) := hd2
  clear hs2 hd2 HD1 HB1
  go_wp2_with fail
  refine (l05Any_any g W2 HD2.out).mono ?_
  rintro x W3 ⟨t, k, d, rfl, hd, hd3, hs3⟩
  have HB3 : Hid (Below W0.heap.size W0 W3) := HB2.out.trans (hs3.below hg HB2.out.size)
  have Z3 : Hid (K3 25 W3 w.heap.size (.int .i64 0) (.int .i64 0) (.string ⟨#[]⟩)) := Z0.out.up HB3.out
  have HW3 : Hid (Below w.heap.size w W3) := B0.out.trans (HB3.out.mono B0.out.size)
  clear hs3 hd3 HD2 HB2 HB3 Z0 B0
  have r0 := Z3.out.c0
  have f0 := Z3.out.fz 0
  have r1 := Z3.out.c1
  have f1 := Z3.out.fz 1
  have r2 := Z3.out.c2
  have f2 := Z3.out.fz 2
  go_wp2
  refine bodyPost_ret (ret_ie (y := .int .i64 z) (p := 3) (q := 2) rfl rfl rfl (((Z3.out.s0 _).s1 _).s2 _)) rfl ?_
  exact ⟨z, t, k, d, rfl, hd, Below.setCell (Below.setCell (Below.setCell HW3.out (Nat.le_refl _) _) (Nat.le_refl _) _) (Nat.le_refl _) _⟩
theorem textX_size (i t k : Int) (d : ByteArray) : (textX i t k d).size ≤ 700 := by
  unfold textX
  cases h : okX i t k d with
  | false => exact Nat.zero_le _
  | true =>
    obtain ⟨h1, h2, h3, h4, h5, h6, h7⟩ := okX_out h
    have e1 : (⟨#[69]⟩ : ByteArray).size = 1 := rfl
    have e2 := varI_len3 (n := i.toNat) (by omega)
    have e3 := varI_len3 (n := t.toNat) (by omega)
    show (textE i t k d).size ≤ 700
    unfold textE rawE
    simp only [ByteArray.size_append, bstr_sz, List.length_cons, List.length_nil]
    omega
theorem rdV_form (s : ByteArray) : ∃ (i t k : Int) (d : ByteArray) (z : Bool), rdV s = .tuple #[.int .i64 i, .agg #[.int .i64 t, .int .i64 k, .string d], .bool z] := by
  unfold rdV
  split
  · unfold finV
    split
    · exact ⟨_, _, _, _, _, rfl⟩
    · exact ⟨_, _, _, _, _, rfl⟩
  · exact ⟨_, _, _, _, _, rfl⟩
/-- What comes back of an entry that was written. -/
theorem rdV_all (i t k : Int) (d : ByteArray) : ∃ (i' t' k' : Int) (d' : ByteArray) (z : Bool), rdV (textX i t k d) = .tuple #[.int .i64 i', .agg #[.int .i64 t', .int .i64 k', .string d'], .bool z] ∧ (okX i t k d = true → i' = i ∧ t' = t ∧ k' = k ∧ d' = d ∧ z = true) := by
  cases h : okX i t k d with
  | true => exact ⟨i, t, k, d, true, rdV_back i t k d h, fun _ => ⟨rfl, rfl, rfl, rfl, rfl⟩⟩
  | false =>
    obtain ⟨i', t', k', d', z, e⟩ := rdV_form (textX i t k d)
    exact ⟨i', t', k', d', z, e, fun h => by cases h⟩
theorem cntM_in (m : List Int) : ∀ r : List Int, (∀ x ∈ r, x ∈ m) → cntM m r = r.length
  | [], _ => rfl
  | x :: r, h => by
    have h1 := cntM_in m r fun y hy => h y (List.mem_cons_of_mem _ hy)
    have h2 : decide (x ∈ m) = true := decide_eq_true (h x List.mem_cons_self)
    show cntM m r + (if decide (x ∈ m) then 1 else 0) = r.length + 1
    rw [h1, h2]; rfl
theorem cntM_out (m : List Int) : ∀ r : List Int, (∀ x ∈ r, ¬ x ∈ m) → cntM m r = 0
  | [], _ => rfl
  | x :: r, h => by
    have h1 := cntM_out m r fun y hy => h y (List.mem_cons_of_mem _ hy)
    have h2 : decide (x ∈ m) = false := decide_eq_false (h x List.mem_cons_self)
    show cntM m r + (if decide (x ∈ m) then 1 else 0) = 0
    rw [h1, h2]; rfl
theorem asc_lt : ∀ (l : List Int) (a : Int), asc a l = true → ∀ y ∈ l, a < y
  | [], a, _, y, hy => by cases hy
  | x :: r, a, h, y, hy => by
    simp only [asc, Bool.and_eq_true, decide_eq_true_eq] at h
    rcases List.mem_cons.1 hy with rfl | hy
    · exact h.1.1
    · have := asc_lt r x h.2 y hy; omega
theorem most_self {l : List Int} (h : okC l = true) : mostB l l = true := by
  have h0 : l.length ≠ 0 := fun e => by rw [okC_nil e] at h; cases h
  unfold mostB
  rw [h, cntM_in l l fun x hx => hx]
  simp only [Bool.true_and, decide_eq_true_eq]
  omega
theorem most_none {l : List Int} (h : okC l = true) : mostB l [] = false := by
  unfold mostB
  rw [h, cntM_out [] l fun x _ hx => by cases hx]
  simp
theorem most_first {l : List Int} (h : okC l = true) : mostB l (l.take 1) = decide (l.length = 1) := by
  cases l with
  | nil => rw [okC_nil rfl] at h; cases h
  | cons x r =>
    have ha : asc 0 (x :: r) = true := by rw [← okC_asc (by simp)]; exact h
    simp only [asc, Bool.and_eq_true, decide_eq_true_eq] at ha
    have hl := asc_lt r x ha.2
    have hc : cntM [x] (x :: r) = 1 := by
      show cntM [x] r + (if decide (x ∈ [x]) then 1 else 0) = 1
      rw [cntM_out [x] r fun y hy hm => by have := hl y hy; rw [List.mem_singleton.1 hm] at this; omega]
      simp
    unfold mostB
    rw [h, show (x :: r).take 1 = [x] from rfl, hc]
    simp only [Bool.true_and, List.length_cons]
    rw [decide_eq_decide]
    omega
theorem readsI_none (w : World) (ao : Option Addr) (c : Nat) : Reads w (.slice ao 0 c) ([] : List Int) := ⟨ao, c, rfl, fun h => absurd rfl h⟩
set_option maxRecDepth 10000 in
set_option maxHeartbeats 8000000 in
theorem law_Entries (v : Value) (n : Nat) (w : World) (hn : n ≤ 9223372036854775807) (hc : CodeAt w w.heap.size v n) :
    Calls Try.prog 3 #[v] w fun e w' => e = .returned (.bool true) ∧ Below w.heap.size w w' := by
  have HCO : Hid (CodeAt w w.heap.size v n) := hc
  obtain ⟨a, cap, rfl, -⟩ := hc
  by_cases hbig : 1048576 < n
  · have HB : Hid (∀ w, Calls Try.prog 6 #[.slice a n cap] w fun e w' => e = .returned (.bool true) ∧ w' = w) := by
      intro w; have := big_any a n cap w hn; rwa [decide_eq_true hbig] at this
    go_enter Try.func3, Try.ntmps3
    go_wp2_with (go_at_call 6; refine (HB.out _).mono ?_; rintro e w1 ⟨rfl, hw⟩; have hw2 := hw.symm; subst hw2)
    go_ret
    exact ⟨rfl, Below.refl _ _⟩
  · have HB : Hid (∀ w, Calls Try.prog 6 #[.slice a n cap] w fun e w' => e = .returned (.bool false) ∧ w' = w) := by
      intro w; have := big_any a n cap w hn; rwa [decide_eq_false hbig] at this
    have HNN : Hid (n ≤ 1048576) := by show n ≤ 1048576; omega
    go_enter Try.func3, Try.ntmps3
    go_wp2_with fail
    refine (HB.out _).mono ?_
    rintro e w1 ⟨rfl, hw⟩
    have hw2 := hw.symm
    subst hw2
    clear HB hbig hn
    go_wp2_with fail
    refine (drawEntry_any _ n _ HNN.out HCO.out).mono ?_
    rintro e w2 ⟨i, t, k, d, rfl, hd, hb2⟩
    obtain ⟨i', t', k', d', z, hr1, hr2⟩ := rdV_all i t k d
    have hsz := textX_size i t k d
    have e1 := entryText_any i t k d
    have e2 := specEntryText_any i t k d
    unfold valX at e1 e2
    obtain ⟨S, hS⟩ : ∃ S, textX i t k d = S := ⟨_, rfl⟩
    obtain ⟨q, hQ⟩ : ∃ q, okX i t k d = q := ⟨_, rfl⟩
    rw [hS] at hsz hr1 e1 e2
    rw [hQ] at hr2 e1 e2
    have HI : Hid (∀ W : World, Calls Try.prog 8 #[.int .i64 i, .agg #[.int .i64 t, .int .i64 k, .string d]] W fun e w' => e = .returned (.tuple #[.string S, .bool q]) ∧ Below W.heap.size W w') := fun W => e1 W (by unfold maxLen; omega)
    have HP : Hid (∀ W : World, Calls Try.prog 9 #[.int .i64 i, .agg #[.int .i64 t, .int .i64 k, .string d]] W fun e w' => e = .returned (.tuple #[.string S, .bool q]) ∧ Below W.heap.size W w') := fun W => e2 W (by unfold maxLen; omega)
    have HRE : Hid (∀ W : World, Calls Try.prog 10 #[.string S] W fun e w' => e = .returned (.tuple #[.int .i64 i', .agg #[.int .i64 t', .int .i64 k', .string d'], .bool z]) ∧ Below W.heap.size W w') := fun W => by
      have := readEntry_any S W (by omega)
      rw [hr1] at this
      exact this
    obtain ⟨W2, HW2⟩ : ∃ V, Hid (w2.alloc (.cells #[.int .i64 t, .int .i64 k, .string d] 25) = V) := ⟨_, rfl⟩
    have K2 : K3 25 W2 w2.heap.size (.int .i64 t) (.int .i64 k) (.string d) := by rw [← HW2.out]; exact K3.new _ _ _ _ _
    have B2 : Hid (Below w.heap.size w W2) := by rw [← HW2.out]; exact ba hb2 _
    clear hr1 e1 e2 hS hQ hsz hd hb2
    go_wp2_with fail
    rw [HW2.out]
    refine (HI.out _).mono ?_
    rintro e w3 ⟨rfl, hb3⟩
    have K3' := K2.up hb3
    have B3 : Hid (Below w.heap.size w w3) := Below.on B2.out hb3
    clear hb3 B2 K2 HW2 HI
    have c0 := K3'.c0
    have c1 := K3'.c1
    have c2 := K3'.c2
    go_wp2_with fail
    clear c0 c1 c2
    refine (HP.out _).mono ?_
    rintro e w4 ⟨rfl, hb4⟩
    have K4 := K3'.up hb4
    have B4 : Hid (Below w.heap.size w w4) := Below.on B3.out hb4
    clear hb4 B3 K3' HP
    go_wp2_with fail
    refine (HRE.out _).mono ?_
    rintro e w5 ⟨rfl, hb5⟩
    have K5 := (K4.up hb5).alloc (.cells #[.int .i64 t', .int .i64 k', .string d'] 25)
    have L5 := K3.new 25 w5 (.int .i64 t') (.int .i64 k') (.string d')
    have B5 : Hid (Below w.heap.size w (w5.alloc (.cells #[.int .i64 t', .int .i64 k', .string d'] 25))) := ba (Below.on B4.out hb5) _
    have hlt5 := (K4.up hb5).lt
    clear hb5 B4 K4 HRE
    have c0 := K5.c0
    have c1 := K5.c1
    have c2 := K5.c2
    cases q with
    | false =>
      clear hr2
      go_wp2_with fail
      clear c0 c1 c2 K5 L5 hlt5
      refine (drawConf_any _ n _ HNN.out (HCO.out.on B5.out)).mono ?_
      rintro e w6 ⟨u, l, rfl, hl5, -, ho, hb6⟩
      have B6 : Hid (Below w.heap.size w w6) := Below.on B5.out hb6
      obtain ⟨l0, lc, rfl, hlc⟩ := ho.cap
      obtain ⟨l2, hl2⟩ : ∃ n, l.length = n := ⟨_, rfl⟩
      have HR6 : Hid (Reads w6 (.slice l0 l.length lc) l) := ho.reads
      have HLC : Hid (l.length ≤ lc) := hlc
      rw [hl2] at HR6 HLC
      rw [hl2]
      clear ho hb6 B5 HCO HNN hlc
      cases hq : okC l with
      | false =>
        have HT : Hid (∀ W, Reads W (.slice l0 l2 lc) l → Calls Try.prog 12 #[.slice l0 l2 lc] W fun e w' => e = .returned (.tuple #[.string (textC l), .bool false]) ∧ Below W.heap.size W w') := fun W h => by
          have := confText_any h (by omega)
          unfold textV at this
          rw [hq] at this
          exact this
        have HS : Hid (∀ W, Reads W (.slice l0 l2 lc) l → Calls Try.prog 14 #[.slice l0 l2 lc] W fun e w' => e = .returned (.bool false) ∧ Below W.heap.size W w') := fun W h => by
          have := specConfOk_any h (by omega)
          rw [hq] at this
          exact this
        have HI : Hid (∀ W, Reads W (.slice l0 l2 lc) l → Calls Try.prog 16 #[.slice l0 l2 lc] W fun e w' => e = .returned (.bool false) ∧ Below W.heap.size W w') := fun W h => by
          have := confOk_any h (by omega)
          rw [hq] at this
          exact this
        have hz : (textC l).size ≤ maxLen := by have := textC_size4 l; unfold maxLen; omega
        go_wp2_with fail
        refine (HT.out _ HR6.out).mono ?_
        rintro e w7 ⟨rfl, hb7⟩
        have B7 : Hid (Below w.heap.size w w7) := Below.on B6.out hb7
        have HR7 : Hid (Reads w7 (.slice l0 l2 lc) l) := HR6.out.below hb7
        clear hb7 B6 HR6 HT
        go_wp2_with fail
        refine (readConf_any (textC l) _ hz).mono ?_
        rintro e w8 ⟨v8, rfl, ho8, hb8⟩
        obtain ⟨y0, y1, y2, rfl⟩ := ho8.slice3
        have B8 : Hid (Below w.heap.size w w8) := Below.on B7.out hb8
        have HR8 : Hid (Reads w8 (.slice l0 l2 lc) l) := HR7.out.below hb8
        obtain ⟨z8, hz8⟩ : ∃ z, okT (textC l) = z := ⟨_, rfl⟩
        rw [hz8]
        clear hb8 ho8 B7 HR7 hz8
        go_wp2_with fail
        refine (HS.out _ HR8.out).mono ?_
        rintro e w9 ⟨rfl, hb9⟩
        have B9 : Hid (Below w.heap.size w w9) := Below.on B8.out hb9
        have HR9 : Hid (Reads w9 (.slice l0 l2 lc) l) := HR8.out.below hb9
        clear hb9 B8 HR8
        go_wp2_with fail
        refine (HI.out _ HR9.out).mono ?_
        rintro e w10 ⟨rfl, hb10⟩
        have B10 : Hid (Below w.heap.size w w10) := Below.on B9.out hb10
        clear hb10 B9 HR9 HI HS
        go_wp2
        go_ret
        exact ⟨rfl, B10.out⟩
      | true =>
        have HT : Hid (∀ W, Reads W (.slice l0 l2 lc) l → Calls Try.prog 12 #[.slice l0 l2 lc] W fun e w' => e = .returned (.tuple #[.string (textC l), .bool true]) ∧ Below W.heap.size W w') := fun W h => by
          have := confText_any h (by omega)
          unfold textV at this
          rw [hq] at this
          exact this
        have HS : Hid (∀ W, Reads W (.slice l0 l2 lc) l → Calls Try.prog 14 #[.slice l0 l2 lc] W fun e w' => e = .returned (.bool true) ∧ Below W.heap.size W w') := fun W h => by
          have := specConfOk_any h (by omega)
          rw [hq] at this
          exact this
        have HI : Hid (∀ W, Reads W (.slice l0 l2 lc) l → Calls Try.prog 16 #[.slice l0 l2 lc] W fun e w' => e = .returned (.bool true) ∧ Below W.heap.size W w') := fun W h => by
          have := confOk_any h (by omega)
          rw [hq] at this
          exact this
        have HRC : Hid (∀ W, Calls Try.prog 13 #[.string (textC l)] W fun e w' => ∃ v, e = .returned (.tuple #[v, .bool true]) ∧ ownsR w' W.heap.size 3 v l ∧ Below W.heap.size W w') := fun W => by
          have := readConf_any (textC l) W (by have := textC_size4 l; unfold maxLen; omega)
          rw [(confT_back hq).1, (confT_back hq).2] at this
          exact this
        have HM1 : Hid (∀ W, Reads W (.slice l0 l2 lc) l → Calls Try.prog 17 #[.slice l0 l2 lc, .slice l0 l2 lc] W fun e w' => e = .returned (.bool true) ∧ Below W.heap.size W w') := fun W h => by
          have := most_any h h (by omega) (by omega)
          rw [most_self hq] at this
          exact this
        have HM2 : Hid (∀ (W : World) (ao : Option Addr) (c : Nat), Reads W (.slice l0 l2 lc) l → Calls Try.prog 17 #[.slice l0 l2 lc, .slice ao 0 c] W fun e w' => e = .returned (.bool false) ∧ Below W.heap.size W w') := fun W ao c h => by
          have := most_any h (readsI_none W ao c) (by omega) (by simp)
          rw [most_none hq] at this
          exact this
        have hpos : 1 ≤ l2 := by
          rw [← hl2]
          rcases Nat.eq_zero_or_pos l.length with e | e
          · rw [okC_nil e] at hq; cases hq
          · exact e
        have HM3 : Hid (∀ (W : World) (c : Nat), Reads W (.slice l0 l2 lc) l → Calls Try.prog 17 #[.slice l0 l2 lc, .slice l0 1 c] W fun e w' => e = .returned (.bool (decide (l2 = 1))) ∧ Below W.heap.size W w') := fun W c h => by
          have := most_any h (h.take 1 hpos c) (by omega) (by rw [List.length_take]; omega)
          rw [most_first hq, hl2] at this
          exact this
        clear hq
        go_wp2_with fail
        refine (HT.out _ HR6.out).mono ?_
        rintro e w7 ⟨rfl, hb7⟩
        have B7 : Hid (Below w.heap.size w w7) := Below.on B6.out hb7
        have HR7 : Hid (Reads w7 (.slice l0 l2 lc) l) := HR6.out.below hb7
        clear hb7 B6 HR6 HT
        go_wp2_with fail
        refine (HRC.out _).mono ?_
        rintro e w8 ⟨v8, rfl, ho8, hb8⟩
        obtain ⟨y0, y2, rfl⟩ := ho8.slice
        have HY8 : Hid (Reads w8 (.slice y0 l.length y2) l) := ho8.reads
        rw [hl2] at HY8
        rw [hl2]
        have B8 : Hid (Below w.heap.size w w8) := Below.on B7.out hb8
        have HR8 : Hid (Reads w8 (.slice l0 l2 lc) l) := HR7.out.below hb8
        clear hb8 ho8 B7 HR7 HRC
        go_wp2_with fail
        refine (HS.out _ HR8.out).mono ?_
        rintro e w9 ⟨rfl, hb9⟩
        have B9 : Hid (Below w.heap.size w w9) := Below.on B8.out hb9
        have HR9 : Hid (Reads w9 (.slice l0 l2 lc) l) := HR8.out.below hb9
        have HY9 : Hid (Reads w9 (.slice y0 l2 y2) l) := HY8.out.below hb9
        clear hb9 B8 HR8 HY8
        go_wp2_with fail
        refine (sameInts_any y0 l0 l2 y2 lc l _ HY9.out HR9.out (by omega)).mono ?_
        rintro e w10 ⟨rfl, hb10⟩
        have B10 : Hid (Below w.heap.size w w10) := Below.on B9.out hb10
        have HR10 : Hid (Reads w10 (.slice l0 l2 lc) l) := HR9.out.below hb10
        clear hb10 B9 HR9 HY9
        go_wp2_with fail
        refine (HI.out _ HR10.out).mono ?_
        rintro e w11 ⟨rfl, hb11⟩
        have B11 : Hid (Below w.heap.size w w11) := Below.on B10.out hb11
        have HR11 : Hid (Reads w11 (.slice l0 l2 lc) l) := HR10.out.below hb11
        clear hb11 B10 HR10 HI HS
        go_wp2_with fail
        refine (HM1.out _ HR11.out).mono ?_
        rintro e w12 ⟨rfl, hb12⟩
        have B12 : Hid (Below w.heap.size w w12) := Below.on B11.out hb12
        have HR12 : Hid (Reads w12 (.slice l0 l2 lc) l) := HR11.out.below hb12
        clear hb12 B11 HR11 HM1
        go_wp2_with fail
        refine (HM2.out _ _ _ (HR12.out.below (ba (Below.refl _ _) _))).mono ?_
        rintro e w13 ⟨rfl, hb13⟩
        have B13 : Hid (Below w.heap.size w w13) := Below.on B12.out (below_new hb13)
        have HR13 : Hid (Reads w13 (.slice l0 l2 lc) l) := HR12.out.below (below_new hb13)
        clear hb13 B12 HR12 HM2
        have hcap : 1 ≤ lc := by have := HLC.out; omega
        go_wp2_with fail
        refine (HM3.out _ lc HR13.out).mono ?_
        rintro e w14 ⟨rfl, hb14⟩
        have B14 : Hid (Below w.heap.size w w14) := Below.on B13.out hb14
        clear hb14 B13 HR13 HM3
        by_cases h1 : l2 = 1
        · have hq1 : ((l2 : Int) == 1) = true := by rw [beq_iff_eq]; omega
          rw [decide_eq_true h1]
          go_wp2
          go_ret
          exact ⟨rfl, B14.out⟩
        · have hq1 : ((l2 : Int) == 1) = false := beq_eq_false_iff_ne.2 (by omega)
          rw [decide_eq_false h1]
          go_wp2
          go_ret
          exact ⟨rfl, B14.out⟩
    | true =>
      obtain ⟨rfl, rfl, rfl, rfl, rfl⟩ := hr2 rfl
      go_wp2_with fail
      clear c0 c1 c2 K5 L5 hlt5
      refine (drawConf_any _ n _ HNN.out (HCO.out.on B5.out)).mono ?_
      rintro e w6 ⟨u, l, rfl, hl5, -, ho, hb6⟩
      have B6 : Hid (Below w.heap.size w w6) := Below.on B5.out hb6
      obtain ⟨l0, lc, rfl, hlc⟩ := ho.cap
      obtain ⟨l2, hl2⟩ : ∃ n, l.length = n := ⟨_, rfl⟩
      have HR6 : Hid (Reads w6 (.slice l0 l.length lc) l) := ho.reads
      have HLC : Hid (l.length ≤ lc) := hlc
      rw [hl2] at HR6 HLC
      rw [hl2]
      clear ho hb6 B5 HCO HNN hlc
      cases hq : okC l with
      | false =>
        have HT : Hid (∀ W, Reads W (.slice l0 l2 lc) l → Calls Try.prog 12 #[.slice l0 l2 lc] W fun e w' => e = .returned (.tuple #[.string (textC l), .bool false]) ∧ Below W.heap.size W w') := fun W h => by
          have := confText_any h (by omega)
          unfold textV at this
          rw [hq] at this
          exact this
        have HS : Hid (∀ W, Reads W (.slice l0 l2 lc) l → Calls Try.prog 14 #[.slice l0 l2 lc] W fun e w' => e = .returned (.bool false) ∧ Below W.heap.size W w') := fun W h => by
          have := specConfOk_any h (by omega)
          rw [hq] at this
          exact this
        have HI : Hid (∀ W, Reads W (.slice l0 l2 lc) l → Calls Try.prog 16 #[.slice l0 l2 lc] W fun e w' => e = .returned (.bool false) ∧ Below W.heap.size W w') := fun W h => by
          have := confOk_any h (by omega)
          rw [hq] at this
          exact this
        have hz : (textC l).size ≤ maxLen := by have := textC_size4 l; unfold maxLen; omega
        go_wp2_with fail
        refine (HT.out _ HR6.out).mono ?_
        rintro e w7 ⟨rfl, hb7⟩
        have B7 : Hid (Below w.heap.size w w7) := Below.on B6.out hb7
        have HR7 : Hid (Reads w7 (.slice l0 l2 lc) l) := HR6.out.below hb7
        clear hb7 B6 HR6 HT
        go_wp2_with fail
        refine (readConf_any (textC l) _ hz).mono ?_
        rintro e w8 ⟨v8, rfl, ho8, hb8⟩
        obtain ⟨y0, y1, y2, rfl⟩ := ho8.slice3
        have B8 : Hid (Below w.heap.size w w8) := Below.on B7.out hb8
        have HR8 : Hid (Reads w8 (.slice l0 l2 lc) l) := HR7.out.below hb8
        obtain ⟨z8, hz8⟩ : ∃ z, okT (textC l) = z := ⟨_, rfl⟩
        rw [hz8]
        clear hb8 ho8 B7 HR7 hz8
        go_wp2_with fail
        refine (HS.out _ HR8.out).mono ?_
        rintro e w9 ⟨rfl, hb9⟩
        have B9 : Hid (Below w.heap.size w w9) := Below.on B8.out hb9
        have HR9 : Hid (Reads w9 (.slice l0 l2 lc) l) := HR8.out.below hb9
        clear hb9 B8 HR8
        go_wp2_with fail
        refine (HI.out _ HR9.out).mono ?_
        rintro e w10 ⟨rfl, hb10⟩
        have B10 : Hid (Below w.heap.size w w10) := Below.on B9.out hb10
        clear hb10 B9 HR9 HI HS
        go_wp2
        go_ret
        exact ⟨rfl, B10.out⟩
      | true =>
        have HT : Hid (∀ W, Reads W (.slice l0 l2 lc) l → Calls Try.prog 12 #[.slice l0 l2 lc] W fun e w' => e = .returned (.tuple #[.string (textC l), .bool true]) ∧ Below W.heap.size W w') := fun W h => by
          have := confText_any h (by omega)
          unfold textV at this
          rw [hq] at this
          exact this
        have HS : Hid (∀ W, Reads W (.slice l0 l2 lc) l → Calls Try.prog 14 #[.slice l0 l2 lc] W fun e w' => e = .returned (.bool true) ∧ Below W.heap.size W w') := fun W h => by
          have := specConfOk_any h (by omega)
          rw [hq] at this
          exact this
        have HI : Hid (∀ W, Reads W (.slice l0 l2 lc) l → Calls Try.prog 16 #[.slice l0 l2 lc] W fun e w' => e = .returned (.bool true) ∧ Below W.heap.size W w') := fun W h => by
          have := confOk_any h (by omega)
          rw [hq] at this
          exact this
        have HRC : Hid (∀ W, Calls Try.prog 13 #[.string (textC l)] W fun e w' => ∃ v, e = .returned (.tuple #[v, .bool true]) ∧ ownsR w' W.heap.size 3 v l ∧ Below W.heap.size W w') := fun W => by
          have := readConf_any (textC l) W (by have := textC_size4 l; unfold maxLen; omega)
          rw [(confT_back hq).1, (confT_back hq).2] at this
          exact this
        have HM1 : Hid (∀ W, Reads W (.slice l0 l2 lc) l → Calls Try.prog 17 #[.slice l0 l2 lc, .slice l0 l2 lc] W fun e w' => e = .returned (.bool true) ∧ Below W.heap.size W w') := fun W h => by
          have := most_any h h (by omega) (by omega)
          rw [most_self hq] at this
          exact this
        have HM2 : Hid (∀ (W : World) (ao : Option Addr) (c : Nat), Reads W (.slice l0 l2 lc) l → Calls Try.prog 17 #[.slice l0 l2 lc, .slice ao 0 c] W fun e w' => e = .returned (.bool false) ∧ Below W.heap.size W w') := fun W ao c h => by
          have := most_any h (readsI_none W ao c) (by omega) (by simp)
          rw [most_none hq] at this
          exact this
        have hpos : 1 ≤ l2 := by
          rw [← hl2]
          rcases Nat.eq_zero_or_pos l.length with e | e
          · rw [okC_nil e] at hq; cases hq
          · exact e
        have HM3 : Hid (∀ (W : World) (c : Nat), Reads W (.slice l0 l2 lc) l → Calls Try.prog 17 #[.slice l0 l2 lc, .slice l0 1 c] W fun e w' => e = .returned (.bool (decide (l2 = 1))) ∧ Below W.heap.size W w') := fun W c h => by
          have := most_any h (h.take 1 hpos c) (by omega) (by rw [List.length_take]; omega)
          rw [most_first hq, hl2] at this
          exact this
        clear hq
        go_wp2_with fail
        refine (HT.out _ HR6.out).mono ?_
        rintro e w7 ⟨rfl, hb7⟩
        have B7 : Hid (Below w.heap.size w w7) := Below.on B6.out hb7
        have HR7 : Hid (Reads w7 (.slice l0 l2 lc) l) := HR6.out.below hb7
        clear hb7 B6 HR6 HT
        go_wp2_with fail
        refine (HRC.out _).mono ?_
        rintro e w8 ⟨v8, rfl, ho8, hb8⟩
        obtain ⟨y0, y2, rfl⟩ := ho8.slice
        have HY8 : Hid (Reads w8 (.slice y0 l.length y2) l) := ho8.reads
        rw [hl2] at HY8
        rw [hl2]
        have B8 : Hid (Below w.heap.size w w8) := Below.on B7.out hb8
        have HR8 : Hid (Reads w8 (.slice l0 l2 lc) l) := HR7.out.below hb8
        clear hb8 ho8 B7 HR7 HRC
        go_wp2_with fail
        refine (HS.out _ HR8.out).mono ?_
        rintro e w9 ⟨rfl, hb9⟩
        have B9 : Hid (Below w.heap.size w w9) := Below.on B8.out hb9
        have HR9 : Hid (Reads w9 (.slice l0 l2 lc) l) := HR8.out.below hb9
        have HY9 : Hid (Reads w9 (.slice y0 l2 y2) l) := HY8.out.below hb9
        clear hb9 B8 HR8 HY8
        go_wp2_with fail
        refine (sameInts_any y0 l0 l2 y2 lc l _ HY9.out HR9.out (by omega)).mono ?_
        rintro e w10 ⟨rfl, hb10⟩
        have B10 : Hid (Below w.heap.size w w10) := Below.on B9.out hb10
        have HR10 : Hid (Reads w10 (.slice l0 l2 lc) l) := HR9.out.below hb10
        clear hb10 B9 HR9 HY9
        go_wp2_with fail
        refine (HI.out _ HR10.out).mono ?_
        rintro e w11 ⟨rfl, hb11⟩
        have B11 : Hid (Below w.heap.size w w11) := Below.on B10.out hb11
        have HR11 : Hid (Reads w11 (.slice l0 l2 lc) l) := HR10.out.below hb11
        clear hb11 B10 HR10 HI HS
        go_wp2_with fail
        refine (HM1.out _ HR11.out).mono ?_
        rintro e w12 ⟨rfl, hb12⟩
        have B12 : Hid (Below w.heap.size w w12) := Below.on B11.out hb12
        have HR12 : Hid (Reads w12 (.slice l0 l2 lc) l) := HR11.out.below hb12
        clear hb12 B11 HR11 HM1
        go_wp2_with fail
        refine (HM2.out _ _ _ (HR12.out.below (ba (Below.refl _ _) _))).mono ?_
        rintro e w13 ⟨rfl, hb13⟩
        have B13 : Hid (Below w.heap.size w w13) := Below.on B12.out (below_new hb13)
        have HR13 : Hid (Reads w13 (.slice l0 l2 lc) l) := HR12.out.below (below_new hb13)
        clear hb13 B12 HR12 HM2
        have hcap : 1 ≤ lc := by have := HLC.out; omega
        go_wp2_with fail
        refine (HM3.out _ lc HR13.out).mono ?_
        rintro e w14 ⟨rfl, hb14⟩
        have B14 : Hid (Below w.heap.size w w14) := Below.on B13.out hb14
        clear hb14 B13 HR13 HM3
        by_cases h1 : l2 = 1
        · have hq1 : ((l2 : Int) == 1) = true := by rw [beq_iff_eq]; omega
          rw [decide_eq_true h1]
          go_wp2
          go_ret
          exact ⟨rfl, B14.out⟩
        · have hq1 : ((l2 : Int) == 1) = false := beq_eq_false_iff_ne.2 (by omega)
          rw [decide_eq_false h1]
          go_wp2
          go_ret
          exact ⟨rfl, B14.out⟩
end Go.Proofs.Ytehkebdncfljmaa
