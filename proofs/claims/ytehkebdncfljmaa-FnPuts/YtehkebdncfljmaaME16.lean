/-
  Arguments that are rows of records, opened. Over any program. Whether an entry is right, on both sides, and the law on it: the walks. The text of an entry: the walks. The text of an entry that is none, as the specification tells it: the walks. Blocks that lie behind an alloc. The text of an entry, as the specification tells it: the walks. An entry read from its text: what is read; and as the specification reads it: the walk. A number that is written is read back, whatever stands ahead of it and behind it; one that is torn is not. An entry comes back from its text, a conf from its: plain facts. Contracts of the library, proved once there, laid at this program by the kit (its plain words). A text is cloned: the walk.
-/
import Derived.Test.YtehkebdncfljmaaRec
import Derived.Deep.Slices
import Derived.Deep.Strs
import Derived.ProofKit
import Derived.OpenShut
import Derived.Test.YtehkebdncfljmaaME15
import Derived.Test.YtehkebdncfljmaaRvs
import Derived.Handy
import Derived.BigRegion
import Derived.Deep.RegionHeld
import Derived.Deep.RegionHeld3
import Derived.Shelf.LaysM
import Derived.Shelf.Strconv.Clone
import Derived.Test.YtehkebdncfljmaaProg
import Derived.Test.YtehkebdncfljmaaAid
import Derived.Deep.QuietTactic
import Derived.BigQuiet
namespace Go.Proofs.Ytehkebdncfljmaa
open Go Go.RowKit Go.ChangeShapes Go.WideShapes

theorem len1 {α : Type} {l : List α} (h : l.length = 1) : ∃ a, l = [a] := by
  match l, h with
  | [a], _ => exact ⟨a, rfl⟩
theorem len3 {α : Type} {l : List α} (h : l.length = 3) : ∃ a b c, l = [a, b, c] := by
  match l, h with
  | [a, b, c], _ => exact ⟨a, b, c, rfl⟩
theorem len4 {α : Type} {l : List α} (h : l.length = 4) : ∃ a b c d, l = [a, b, c, d] := by
  match l, h with
  | [a, b, c, d], _ => exact ⟨a, b, c, d, rfl⟩
theorem arr1 {α : Type} {l : Array α} (h : l.toList.length = 1) : ∃ a, l = #[a] := by
  obtain ⟨l⟩ := l
  obtain ⟨a, rfl⟩ := len1 h
  exact ⟨a, rfl⟩
theorem arr4 {α : Type} {l : Array α} (h : l.toList.length = 4) : ∃ a b c d, l = #[a, b, c, d] := by
  obtain ⟨l⟩ := l
  obtain ⟨a, b, c, d, rfl⟩ := len4 h
  exact ⟨a, b, c, d, rfl⟩

section
variable {α : Type} [Rec α] [Inhabited α] {H : Type} {enc : TypeId × Value → H} {P : Program} {w : World} {held : Bool}

/-- A slice of records that came in: the records that it reads as. -/
theorem open_rows {t e : TypeId} {fuel : Nat} {a : Option Addr} {len cap : Nat} {x : DataW H × List MemPlace} (G : α → Prop) (ht : P.underlying t = some (.slice e)) (hc : P.cellsOf e = Rec.width α)
    (each : ∀ n cs y, DataW.trod enc P w 0 (fun _ => true) held n e cs = some y → ∃ r : α, cs = Rec.cells r ∧ G r)
    (h : DataW.trod enc P w 0 (fun _ => true) held fuel t [.slice a len cap] = some x) : ∃ l : List α, Reads w (.slice a len cap) l ∧ (∀ r ∈ l, G r) ∧ len ≤ maxLen := by
  rcases Deep.open_slice ht h with ⟨hcs, _⟩ | ⟨b, len', cap', m, n, D, Pl, hcs, _, hl, hm, hmm, _, hx⟩
  · simp only [List.cons.injEq, Value.slice.injEq, and_true] at hcs
    obtain ⟨rfl, rfl, rfl⟩ := hcs
    exact ⟨[], reads_none w none 0, fun r hr => by simp at hr, Nat.zero_le _⟩
  · simp only [List.cons.injEq, Value.slice.injEq, and_true] at hcs
    obtain ⟨rfl, rfl, rfl⟩ := hcs
    simp only [if_true] at hmm
    subst hmm
    have hex : ∀ i, i < len → ∃ r : α, G r ∧ ∀ j u, (Rec.cells r)[j]? = some u → w.cell? (b.add (i * Rec.width α + j)) = some u := by
      intro i hi
      obtain ⟨cs', h1, h2⟩ := hx i (by omega)
      obtain ⟨r, rfl, hG⟩ := each _ _ _ h2
      rw [hc] at h1
      obtain ⟨_, hlen, hcell⟩ := World.cells?_some h1
      refine ⟨r, hG, fun j u hu => ?_⟩
      have hj := (List.getElem?_eq_some_iff.1 hu).1
      have := hcell j (by rw [← Rec.len r]; exact hj)
      rw [Deep.add_add] at this
      rw [this, hu]
    obtain ⟨f, hf⟩ := Deep.choose_lt hex
    refine ⟨(List.range len).map f, ⟨some b, _, by simp; rfl, fun hne => ?_⟩, ?_, by omega⟩
    · have hpos : 0 < len := by
        rcases Nat.eq_zero_or_pos len with h0 | h0
        · subst h0; simp at hne
        · exact h0
      have hw : 0 < Rec.width α := Rec.pos
      obtain ⟨u, hu⟩ : ∃ u, (Rec.cells (f 0))[0]? = some u := ⟨_, List.getElem?_eq_getElem (by rw [Rec.len]; exact hw)⟩
      have h0 := (hf 0 hpos).2 0 u hu
      obtain ⟨bb, oo, sp⟩ := b
      have hsp : sp = none := by
        simp only [Nat.zero_mul, Nat.add_zero, Addr.add, if_true, World.cell?] at h0
        cases sp with
        | none => rfl
        | some s => split at h0 <;> simp at h0
      subst hsp
      have hlt : bb < w.heap.size := by
        have := World.block_lt_of_cell? w _ h0
        simpa [Addr.add] using this
      refine ⟨bb, oo, rfl, hlt, fun i r hr j u hu => ?_⟩
      rw [List.getElem?_map] at hr
      by_cases hi : i < len
      · rw [List.getElem?_range hi] at hr
        simp only [Option.map_some, Option.some.injEq] at hr
        subst hr
        have := (hf i hi).2 j u hu
        have hadd : (⟨bb, oo, none⟩ : Addr).add (i * Rec.width α + j) = ⟨bb, oo + (i * Rec.width α + j), none⟩ := by unfold Addr.add; split <;> simp_all
        rw [hadd, ← Nat.add_assoc] at this
        exact this
      · rw [List.getElem?_eq_none (by simp; omega)] at hr
        simp at hr
    · intro r hr
      obtain ⟨i, hi, rfl⟩ := List.mem_map.1 hr
      exact (hf i (List.mem_range.1 hi)).1
end
end Go.Proofs.Ytehkebdncfljmaa

namespace Go.Proofs.Ytehkebdncfljmaa
open Go Go.RowKit

theorem okE_low {t k : Int} {d : ByteArray} (h : ¬ 0 ≤ t) : okE t k d = false := by simp [okE, h]
theorem okE_high {t k : Int} {d : ByteArray} (h : ¬ t ≤ 100000) : okE t k d = false := by simp [okE, h]
theorem okE_in {t k : Int} {d : ByteArray} (h : 0 ≤ t) (h2 : t ≤ 100000) : okE t k d = kindOk k d := by simp [okE, h, h2]

set_option maxHeartbeats 1000000 in
theorem entryOk_any (t k : Int) (d : ByteArray) (w : World) (hd : d.size ≤ maxLen) :
    Calls Try.prog 34 #[.agg #[.int .i64 t, .int .i64 k, .string d]] w fun e w' => e = .returned (.bool (okE t k d)) ∧ Below w.heap.size w w' := by
  have HD : Hid (d.size ≤ maxLen) := hd
  clear hd
  by_cases h0 : 0 ≤ t
  · by_cases h1 : t ≤ 100000
    · rw [okE_in h0 h1]
      obtain ⟨q, HQ⟩ : ∃ q, Hid (kindOk k d = q) := ⟨_, rfl⟩
      obtain ⟨v, HV⟩ : ∃ v, Hid (contV k d = v) := ⟨_, rfl⟩
      have H1 : Hid (∀ w, Calls Try.prog 36 #[.agg #[.int .i64 t, .int .i64 k, .string d]] w fun e w' => e = .returned v ∧ Below w.heap.size w w') := by
        intro w; rw [← HV.out]; exact contentOf_any t k d w
      have H2 : Hid (∀ w, Calls Try.prog 62 #[v] w fun e w' => e = .returned (.bool q) ∧ Below w.heap.size w w') := by
        intro w; rw [← HV.out, ← HQ.out]; exact isRight_any k d w HD.out
      rw [HQ.out]
      go_enter Try.func34, Try.ntmps34
      go_wp2_with (first | (go_at_call 36; refine (H1.out _).mono ?_; rintro e w1 ⟨rfl, hb1⟩) | (go_at_call 62; refine (H2.out _).mono ?_; rintro e w2 ⟨rfl, hb2⟩))
      go_ret
      exact ⟨rfl, Below.on (below_new hb1) hb2⟩
    · rw [okE_high h1]
      go_enter Try.func34, Try.ntmps34
      go_wp2
      go_ret
      exact ⟨rfl, ba (Below.refl _ _) _⟩
  · rw [okE_low h0]
    go_enter Try.func34, Try.ntmps34
    go_wp2
    go_ret
    exact ⟨rfl, ba (Below.refl _ _) _⟩

theorem okE_out {t k : Int} {d : ByteArray} (h : (decide (0 ≤ t) && decide (t ≤ 100000)) = false) : okE t k d = false := by simp [okE, h]
theorem okE_in' {t k : Int} {d : ByteArray} (h : (decide (0 ≤ t) && decide (t ≤ 100000)) = true) : okE t k d = kindOk k d := by simp [okE, h]

set_option maxHeartbeats 1000000 in
theorem specEntryOk_any (t k : Int) (d : ByteArray) (w : World) (hd : d.size ≤ maxLen) :
    Calls Try.prog 37 #[.agg #[.int .i64 t, .int .i64 k, .string d]] w fun e w' => e = .returned (.bool (okE t k d)) ∧ Below w.heap.size w w' := by
  have HD : Hid (d.size ≤ maxLen) := hd
  unfold maxLen at hd
  cases hv : (decide (0 ≤ t) && decide (t ≤ 100000)) with
  | false =>
    rw [okE_out hv]
    go_enter Try.func37, Try.ntmps37
    go_wp2_with (go_at_call 38; refine (in_any _ _ _ _).mono ?_; rintro e w' ⟨rfl, hw⟩; have hw2 := hw.symm; subst hw2; rw [hv])
    go_ret
    exact ⟨rfl, ba (Below.refl _ _) _⟩
  | true =>
    rw [okE_in' hv]
    by_cases h1 : k = 1
    · subst h1
      show Calls Try.prog 37 _ w fun e w' => e = .returned (.bool d.toList.isEmpty) ∧ Below w.heap.size w w'
      go_enter Try.func37, Try.ntmps37
      go_wp2_with (go_at_call 38; refine (in_any _ _ _ _).mono ?_; rintro e w' ⟨rfl, hw⟩; have hw2 := hw.symm; subst hw2; rw [hv])
      go_ret
      exact ⟨rfl, ba (Below.refl _ _) _⟩
    · by_cases h2 : k = 2
      · subst h2
        show Calls Try.prog 37 _ w fun e w' => e = .returned (.bool (okT d)) ∧ Below w.heap.size w w'
        go_enter Try.func37, Try.ntmps37
        go_wp2_with (first | (go_at_call 38; refine (in_any _ _ _ _).mono ?_; rintro e w' ⟨rfl, hw⟩; have hw2 := hw.symm; subst hw2; rw [hv]) | (go_at_call 63; refine (specReadConf_any _ _ HD.out).mono ?_; rintro e w1 ⟨v1, rfl, ho, hb⟩; clear ho))
        go_ret
        exact ⟨rfl, below_new hb⟩
      · by_cases h3 : k = 3
        · subst h3
          show Calls Try.prog 37 _ w fun e w' => e = .returned (.bool (decide ((d.size : Int) ≤ 640))) ∧ Below w.heap.size w w'
          go_enter Try.func37, Try.ntmps37
          go_wp2_with (go_at_call 38; refine (in_any _ _ _ _).mono ?_; rintro e w' ⟨rfl, hw⟩; have hw2 := hw.symm; subst hw2; rw [hv])
          go_ret
          exact ⟨rfl, ba (Below.refl _ _) _⟩
        · have HK : Hid (kindOk k d = false) := by show kindOk k d = _; simp [kindOk, h1, h2, h3]
          rw [HK.out]
          go_enter Try.func37, Try.ntmps37
          go_wp2_with (go_at_call 38; refine (in_any _ _ _ _).mono ?_; rintro e w' ⟨rfl, hw⟩; have hw2 := hw.symm; subst hw2; rw [hv])
          go_ret
          exact ⟨rfl, ba (Below.refl _ _) _⟩

end Go.Proofs.Ytehkebdncfljmaa

namespace Go.Proofs.Ytehkebdncfljmaa
open Go Go.RowKit

theorem varI_len3 {n : Nat} (hn : n ≤ 1000000) : (varI n).length ≤ 3 := by
  by_cases h1 : 127 < n
  · rw [varI_more h1]
    by_cases h2 : 127 < n / 128
    · rw [varI_more h2, varI_last (show ¬ 127 < n / 128 / 128 by omega)]
      simp
    · rw [varI_last h2]; simp
  · rw [varI_last h1]; simp
/-- All of an entry's text is right. -/
def okX (i t k : Int) (d : ByteArray) : Bool := decide (1 ≤ i) && decide (i ≤ 1000000) && okE t k d
/-- The text of an entry. -/
def rawE (p q : ByteArray) (k : Int) (d : ByteArray) : ByteArray := (⟨#[69]⟩ : ByteArray) ++ p ++ q ++ bstr [k] ++ d
def textE (i t k : Int) (d : ByteArray) : ByteArray := rawE (bstr (varI i.toNat)) (bstr (varI t.toNat)) k d
def textX (i t k : Int) (d : ByteArray) : ByteArray := if okX i t k d then textE i t k d else ByteArray.empty
def valX (i t k : Int) (d : ByteArray) : Value := .tuple #[.string (textX i t k d), .bool (okX i t k d)]
theorem valX_no {i t k : Int} {d : ByteArray} (h : okX i t k d = false) : valX i t k d = .tuple #[.string ByteArray.empty, .bool false] := by simp [valX, textX, h]
theorem valX_yes {i t k : Int} {d : ByteArray} (h : okX i t k d = true) : valX i t k d = .tuple #[.string (textE i t k d), .bool true] := by simp [valX, textX, h]
theorem kindOk_out {k : Int} {d : ByteArray} (h : kindOk k d = true) : (k = 1 ∨ k = 2 ∨ k = 3) ∧ d.size ≤ 640 := by
  unfold kindOk at h
  split at h
  · rename_i h1
    refine ⟨.inl h1, ?_⟩
    have e : d.toList = [] := by simpa using h
    have : d.size = 0 := by
      rw [ByteArray.toList_eq] at e
      have := congrArg List.length e
      simpa using this
    omega
  · split at h
    · rename_i h1
      refine ⟨.inr (.inl h1), ?_⟩
      have := okC_len h
      rw [bytesI_length] at this
      omega
    · split at h
      · rename_i h1
        exact ⟨.inr (.inr h1), by have := of_decide_eq_true h; omega⟩
      · cases h
theorem okX_out {i t k : Int} {d : ByteArray} (h : okX i t k d = true) : 1 ≤ i ∧ i ≤ 1000000 ∧ 0 ≤ t ∧ t ≤ 100000 ∧ (k = 1 ∨ k = 2 ∨ k = 3) ∧ d.size ≤ 640 ∧ okE t k d = true := by
  unfold okX at h
  simp only [Bool.and_eq_true, decide_eq_true_eq] at h
  have h2 := h.2
  unfold okE at h2
  simp only [Bool.and_eq_true, decide_eq_true_eq] at h2
  obtain ⟨h3, h4⟩ := kindOk_out h2.2
  exact ⟨h.1.1, h.1.2, h2.1.1, h2.1.2, h3, h4, h.2⟩
section
variable {p q d : ByteArray} {k : Int} (hp : p.size ≤ 3) (hq : q.size ≤ 3) (hd : d.size ≤ 640)
include hp in
theorem add1 (wx : World) : (Op.stringOp .add ⟨#[69]⟩ p).run Try.prog wx = .ok (.string ((⟨#[69]⟩ : ByteArray) ++ p)) wx :=
  run_string_add_sum wx _ _ (by have : (⟨#[69]⟩ : ByteArray).size = 1 := rfl; omega)
include hp hq in
theorem add2 (wx : World) : (Op.stringOp .add ((⟨#[69]⟩ : ByteArray) ++ p) q).run Try.prog wx = .ok (.string ((⟨#[69]⟩ : ByteArray) ++ p ++ q)) wx :=
  run_string_add_sum wx _ _ (by have : (⟨#[69]⟩ : ByteArray).size = 1 := rfl; rw [ByteArray.size_append]; omega)
include hp hq in
theorem add3 (wx : World) : (Op.stringOp .add ((⟨#[69]⟩ : ByteArray) ++ p ++ q) (bstr [k])).run Try.prog wx = .ok (.string ((⟨#[69]⟩ : ByteArray) ++ p ++ q ++ bstr [k])) wx :=
  run_string_add_sum wx _ _ (by have : (⟨#[69]⟩ : ByteArray).size = 1 := rfl; rw [ByteArray.size_append, ByteArray.size_append, bstr_size']; simp; omega)
include hp hq hd in
theorem add4 (wx : World) : (Op.stringOp .add ((⟨#[69]⟩ : ByteArray) ++ p ++ q ++ bstr [k]) d).run Try.prog wx = .ok (.string (rawE p q k d)) wx :=
  run_string_add_sum wx _ _ (by have : (⟨#[69]⟩ : ByteArray).size = 1 := rfl; rw [ByteArray.size_append, ByteArray.size_append, ByteArray.size_append, bstr_size']; simp; omega)
end

theorem kind_1 (d : ByteArray) (w : World) : Calls Try.prog 128 #[.string d] w fun e w' => e = .returned (.int .u8 1) ∧ w' = w := by
  go_enter Try.func128, Try.ntmps128
  go_wp2
  go_ret
  exact ⟨rfl, rfl⟩
theorem kind_2 (d : ByteArray) (w : World) : Calls Try.prog 129 #[.string d] w fun e w' => e = .returned (.int .u8 2) ∧ w' = w := by
  go_enter Try.func129, Try.ntmps129
  go_wp2
  go_ret
  exact ⟨rfl, rfl⟩
theorem kind_3 (d : ByteArray) (w : World) : Calls Try.prog 130 #[.string d] w fun e w' => e = .returned (.int .u8 3) ∧ w' = w := by
  go_enter Try.func130, Try.ntmps130
  go_wp2
  go_ret
  exact ⟨rfl, rfl⟩
set_option maxHeartbeats 1000000 in
theorem entryText_1 (i t : Nat) (d : ByteArray) (w : World) (h1 : 1 ≤ i) (h2 : i ≤ 1000000) (h3 : t ≤ 100000) (hd : d.size ≤ 640) (hk : okE t 1 d = true) :
    Calls Try.prog 8 #[.int .i64 i, .agg #[.int .i64 t, .int .i64 1, .string d]] w fun e w' => e = .returned (.tuple #[.string (rawE (bstr (varI i)) (bstr (varI t)) 1 d), .bool true]) ∧ Below w.heap.size w w' := by
  have k1 : ¬ (i : Int) < 1 := by omega
  have k2 : ¬ 1000000 < (i : Int) := by omega
  have hs1 : (bstr (varI i)).size ≤ 3 := by rw [bstr_size']; exact varI_len3 h2
  have hs2 : (bstr (varI t)).size ≤ 3 := by rw [bstr_size']; exact varI_len3 (by omega)
  have H0 : Hid (∀ w, Calls Try.prog 34 #[.agg #[.int .i64 t, .int .i64 1, .string d]] w fun e w' => e = .returned (.bool true) ∧ Below w.heap.size w w') := by
    intro w; rw [← hk]; exact entryOk_any t 1 d w (by unfold maxLen; omega)
  have H1 : Hid (∀ w, Calls Try.prog 35 #[.int .i64 i] w fun e w' => e = .returned (.tuple #[.string (bstr (varI i)), .bool true]) ∧ Below w.heap.size w w') := fun w => varText_ok i w (by omega)
  have H2 : Hid (∀ w, Calls Try.prog 35 #[.int .i64 t] w fun e w' => e = .returned (.tuple #[.string (bstr (varI t)), .bool true]) ∧ Below w.heap.size w w') := fun w => varText_ok t w (by omega)
  generalize bstr (varI i) = p at *
  generalize bstr (varI t) = q at *
  have a1 := add1 hs1
  have a2 := add2 hs1 hs2
  have a3 := add3 (k := 1) hs1 hs2
  have a4 := add4 (k := 1) hs1 hs2 hd
  clear hk hs1 hs2
  go_enter Try.func8, Try.ntmps8
  go_wp2_with fail
  refine (H0.out _).mono ?_
  rintro e w1 ⟨rfl, hb1⟩
  have B1 := below_new hb1
  have c1 : w1.cell? ⟨w.heap.size, 0, none⟩ = some (.int .i64 t) := (hb1.cell (by simp)).trans (by simp [go_sem])
  have c2 : w1.cell? ⟨w.heap.size, 1, none⟩ = some (.int .i64 1) := (hb1.cell (by simp)).trans (by simp [go_sem])
  have c3 : w1.cell? ⟨w.heap.size, 2, none⟩ = some (.string d) := (hb1.cell (by simp)).trans (by simp [go_sem])
  clear hb1
  go_wp2_with fail
  refine (H1.out _).mono ?_
  rintro e w2 ⟨rfl, hb2⟩
  have B2 := Below.on B1 hb2
  have d1 := cell_up hb2 c1
  have d2 := cell_up hb2 c2
  have d3 := cell_up hb2 c3
  clear hb2 B1 c1 c2 c3
  go_wp2_with fail
  refine (H2.out _).mono ?_
  rintro e w3 ⟨rfl, hb3⟩
  have B3 := Below.on B2 hb3
  have e1 := cell_up hb3 d1
  have e2 := cell_up hb3 d2
  have e3 := cell_up hb3 d3
  clear hb3 B2 d1 d2 d3
  go_wp2_with fail
  refine (contentOf_any t 1 d _).mono ?_
  rintro e w4 ⟨rfl, hb4⟩
  have B4 := Below.on B3 hb4
  have g3 := cell_up hb4 e3
  clear hb4 B3 e1 e2 e3
  rw [show contV 1 d = .iface 87 (.string d) from rfl]
  have hlt : w.heap.size < w4.heap.size := World.block_lt_of_cell? w4 _ g3
  have hcv := run_one_string w4 1
  go_wp2_with fail
  refine (kind_1 d _).mono ?_
  rintro e w5 ⟨rfl, hw⟩
  have hw2 := hw.symm
  subst hw2
  clear hw
  go_wp2
  go_ret2
  exact ⟨rfl, ba B4 _⟩
set_option maxHeartbeats 1000000 in
theorem entryText_2 (i t : Nat) (d : ByteArray) (w : World) (h1 : 1 ≤ i) (h2 : i ≤ 1000000) (h3 : t ≤ 100000) (hd : d.size ≤ 640) (hk : okE t 2 d = true) :
    Calls Try.prog 8 #[.int .i64 i, .agg #[.int .i64 t, .int .i64 2, .string d]] w fun e w' => e = .returned (.tuple #[.string (rawE (bstr (varI i)) (bstr (varI t)) 2 d), .bool true]) ∧ Below w.heap.size w w' := by
  have k1 : ¬ (i : Int) < 1 := by omega
  have k2 : ¬ 1000000 < (i : Int) := by omega
  have hs1 : (bstr (varI i)).size ≤ 3 := by rw [bstr_size']; exact varI_len3 h2
  have hs2 : (bstr (varI t)).size ≤ 3 := by rw [bstr_size']; exact varI_len3 (by omega)
  have H0 : Hid (∀ w, Calls Try.prog 34 #[.agg #[.int .i64 t, .int .i64 2, .string d]] w fun e w' => e = .returned (.bool true) ∧ Below w.heap.size w w') := by
    intro w; rw [← hk]; exact entryOk_any t 2 d w (by unfold maxLen; omega)
  have H1 : Hid (∀ w, Calls Try.prog 35 #[.int .i64 i] w fun e w' => e = .returned (.tuple #[.string (bstr (varI i)), .bool true]) ∧ Below w.heap.size w w') := fun w => varText_ok i w (by omega)
  have H2 : Hid (∀ w, Calls Try.prog 35 #[.int .i64 t] w fun e w' => e = .returned (.tuple #[.string (bstr (varI t)), .bool true]) ∧ Below w.heap.size w w') := fun w => varText_ok t w (by omega)
  generalize bstr (varI i) = p at *
  generalize bstr (varI t) = q at *
  have a1 := add1 hs1
  have a2 := add2 hs1 hs2
  have a3 := add3 (k := 2) hs1 hs2
  have a4 := add4 (k := 2) hs1 hs2 hd
  clear hk hs1 hs2
  go_enter Try.func8, Try.ntmps8
  go_wp2_with fail
  refine (H0.out _).mono ?_
  rintro e w1 ⟨rfl, hb1⟩
  have B1 := below_new hb1
  have c1 : w1.cell? ⟨w.heap.size, 0, none⟩ = some (.int .i64 t) := (hb1.cell (by simp)).trans (by simp [go_sem])
  have c2 : w1.cell? ⟨w.heap.size, 1, none⟩ = some (.int .i64 2) := (hb1.cell (by simp)).trans (by simp [go_sem])
  have c3 : w1.cell? ⟨w.heap.size, 2, none⟩ = some (.string d) := (hb1.cell (by simp)).trans (by simp [go_sem])
  clear hb1
  go_wp2_with fail
  refine (H1.out _).mono ?_
  rintro e w2 ⟨rfl, hb2⟩
  have B2 := Below.on B1 hb2
  have d1 := cell_up hb2 c1
  have d2 := cell_up hb2 c2
  have d3 := cell_up hb2 c3
  clear hb2 B1 c1 c2 c3
  go_wp2_with fail
  refine (H2.out _).mono ?_
  rintro e w3 ⟨rfl, hb3⟩
  have B3 := Below.on B2 hb3
  have e1 := cell_up hb3 d1
  have e2 := cell_up hb3 d2
  have e3 := cell_up hb3 d3
  clear hb3 B2 d1 d2 d3
  go_wp2_with fail
  refine (contentOf_any t 2 d _).mono ?_
  rintro e w4 ⟨rfl, hb4⟩
  have B4 := Below.on B3 hb4
  have g3 := cell_up hb4 e3
  clear hb4 B3 e1 e2 e3
  rw [show contV 2 d = .iface 88 (.string d) from rfl]
  have hlt : w.heap.size < w4.heap.size := World.block_lt_of_cell? w4 _ g3
  have hcv := run_one_string w4 2
  go_wp2_with fail
  refine (kind_2 d _).mono ?_
  rintro e w5 ⟨rfl, hw⟩
  have hw2 := hw.symm
  subst hw2
  clear hw
  go_wp2
  go_ret2
  exact ⟨rfl, ba B4 _⟩
set_option maxHeartbeats 1000000 in
theorem entryText_3 (i t : Nat) (d : ByteArray) (w : World) (h1 : 1 ≤ i) (h2 : i ≤ 1000000) (h3 : t ≤ 100000) (hd : d.size ≤ 640) (hk : okE t 3 d = true) :
    Calls Try.prog 8 #[.int .i64 i, .agg #[.int .i64 t, .int .i64 3, .string d]] w fun e w' => e = .returned (.tuple #[.string (rawE (bstr (varI i)) (bstr (varI t)) 3 d), .bool true]) ∧ Below w.heap.size w w' := by
  have k1 : ¬ (i : Int) < 1 := by omega
  have k2 : ¬ 1000000 < (i : Int) := by omega
  have hs1 : (bstr (varI i)).size ≤ 3 := by rw [bstr_size']; exact varI_len3 h2
  have hs2 : (bstr (varI t)).size ≤ 3 := by rw [bstr_size']; exact varI_len3 (by omega)
  have H0 : Hid (∀ w, Calls Try.prog 34 #[.agg #[.int .i64 t, .int .i64 3, .string d]] w fun e w' => e = .returned (.bool true) ∧ Below w.heap.size w w') := by
    intro w; rw [← hk]; exact entryOk_any t 3 d w (by unfold maxLen; omega)
  have H1 : Hid (∀ w, Calls Try.prog 35 #[.int .i64 i] w fun e w' => e = .returned (.tuple #[.string (bstr (varI i)), .bool true]) ∧ Below w.heap.size w w') := fun w => varText_ok i w (by omega)
  have H2 : Hid (∀ w, Calls Try.prog 35 #[.int .i64 t] w fun e w' => e = .returned (.tuple #[.string (bstr (varI t)), .bool true]) ∧ Below w.heap.size w w') := fun w => varText_ok t w (by omega)
  generalize bstr (varI i) = p at *
  generalize bstr (varI t) = q at *
  have a1 := add1 hs1
  have a2 := add2 hs1 hs2
  have a3 := add3 (k := 3) hs1 hs2
  have a4 := add4 (k := 3) hs1 hs2 hd
  clear hk hs1 hs2
  go_enter Try.func8, Try.ntmps8
  go_wp2_with fail
  refine (H0.out _).mono ?_
  rintro e w1 ⟨rfl, hb1⟩
  have B1 := below_new hb1
  have c1 : w1.cell? ⟨w.heap.size, 0, none⟩ = some (.int .i64 t) := (hb1.cell (by simp)).trans (by simp [go_sem])
  have c2 : w1.cell? ⟨w.heap.size, 1, none⟩ = some (.int .i64 3) := (hb1.cell (by simp)).trans (by simp [go_sem])
  have c3 : w1.cell? ⟨w.heap.size, 2, none⟩ = some (.string d) := (hb1.cell (by simp)).trans (by simp [go_sem])
  clear hb1
  go_wp2_with fail
  refine (H1.out _).mono ?_
  rintro e w2 ⟨rfl, hb2⟩
  have B2 := Below.on B1 hb2
  have d1 := cell_up hb2 c1
  have d2 := cell_up hb2 c2
  have d3 := cell_up hb2 c3
  clear hb2 B1 c1 c2 c3
  go_wp2_with fail
  refine (H2.out _).mono ?_
  rintro e w3 ⟨rfl, hb3⟩
  have B3 := Below.on B2 hb3
  have e1 := cell_up hb3 d1
  have e2 := cell_up hb3 d2
  have e3 := cell_up hb3 d3
  clear hb3 B2 d1 d2 d3
  go_wp2_with fail
  refine (contentOf_any t 3 d _).mono ?_
  rintro e w4 ⟨rfl, hb4⟩
  have B4 := Below.on B3 hb4
  have g3 := cell_up hb4 e3
  clear hb4 B3 e1 e2 e3
  rw [show contV 3 d = .iface 89 (.string d) from rfl]
  have hlt : w.heap.size < w4.heap.size := World.block_lt_of_cell? w4 _ g3
  have hcv := run_one_string w4 3
  go_wp2_with fail
  refine (kind_3 d _).mono ?_
  rintro e w5 ⟨rfl, hw⟩
  have hw2 := hw.symm
  subst hw2
  clear hw
  go_wp2
  go_ret2
  exact ⟨rfl, ba B4 _⟩

set_option maxHeartbeats 1000000 in
theorem entryText_any (i t k : Int) (d : ByteArray) (w : World) (hd : d.size ≤ maxLen) :
    Calls Try.prog 8 #[.int .i64 i, .agg #[.int .i64 t, .int .i64 k, .string d]] w fun e w' => e = .returned (valX i t k d) ∧ Below w.heap.size w w' := by
  cases hx : okX i t k d with
  | true =>
    rw [valX_yes hx]
    obtain ⟨h1, h2, h3, h4, h5, h6, h7⟩ := okX_out hx
    obtain ⟨a, rfl⟩ := Int.eq_ofNat_of_zero_le (show 0 ≤ i by omega)
    obtain ⟨b, rfl⟩ := Int.eq_ofNat_of_zero_le h3
    rcases h5 with rfl | rfl | rfl
    · exact entryText_1 a b d w (by omega) (by omega) (by omega) h6 h7
    · exact entryText_2 a b d w (by omega) (by omega) (by omega) h6 h7
    · exact entryText_3 a b d w (by omega) (by omega) (by omega) h6 h7
  | false =>
    rw [valX_no hx]
    by_cases k1 : i < 1
    · clear hx
      go_enter Try.func8, Try.ntmps8
      go_wp2
      go_ret2
      exact ⟨rfl, ba (Below.refl _ _) _⟩
    · by_cases k2 : 1000000 < i
      · clear hx
        go_enter Try.func8, Try.ntmps8
        go_wp2
        go_ret2
        exact ⟨rfl, ba (Below.refl _ _) _⟩
      · have he : okE t k d = false := by
          unfold okX at hx
          rw [decide_eq_true (show 1 ≤ i by omega), decide_eq_true (show i ≤ 1000000 by omega)] at hx
          simpa using hx
        have H0 : Hid (∀ w, Calls Try.prog 34 #[.agg #[.int .i64 t, .int .i64 k, .string d]] w fun e w' => e = .returned (.bool false) ∧ Below w.heap.size w w') := by
          intro w; rw [← he]; exact entryOk_any t k d w hd
        clear hx he
        go_enter Try.func8, Try.ntmps8
        go_wp2_with (go_at_call 34; refine (H0.out _).mono ?_; rintro e w1 ⟨rfl, hb1⟩)
        go_ret2
        exact ⟨rfl, below_new hb1⟩
end Go.Proofs.Ytehkebdncfljmaa

namespace Go.Proofs.Ytehkebdncfljmaa
open Go Go.RowKit

set_option maxHeartbeats 1000000 in
theorem specEntryText_bad (i t k : Int) (d : ByteArray) (w : World) (hd : d.size ≤ maxLen) (hx : okX i t k d = false) :
    Calls Try.prog 9 #[.int .i64 i, .agg #[.int .i64 t, .int .i64 k, .string d]] w fun e w' => e = .returned (.tuple #[.string ByteArray.empty, .bool false]) ∧ Below w.heap.size w w' := by
  have H0 := fun w => specEntryOk_any t k d w hd
  cases he : okE t k d with
  | false =>
    rw [he] at H0
    have H0 : Hid (∀ w, Calls Try.prog 37 #[.agg #[.int .i64 t, .int .i64 k, .string d]] w fun e w' => e = .returned (.bool false) ∧ Below w.heap.size w w') := H0
    clear he hx
    go_enter Try.func9, Try.ntmps9
    go_wp2_with (go_at_call 37; refine (H0.out _).mono ?_; rintro e w1 ⟨rfl, hb1⟩)
    go_ret2
    exact ⟨rfl, below_new hb1⟩
  | true =>
    rw [he] at H0
    have H0 : Hid (∀ w, Calls Try.prog 37 #[.agg #[.int .i64 t, .int .i64 k, .string d]] w fun e w' => e = .returned (.bool true) ∧ Below w.heap.size w w') := H0
    have hv : (decide ((1 : Int) ≤ i) && decide (i ≤ 1000000)) = false := by
      unfold okX at hx
      rw [he] at hx
      simpa using hx
    clear he hx
    go_enter Try.func9, Try.ntmps9
    go_wp2_with (first | (go_at_call 37; refine (H0.out _).mono ?_; rintro e w1 ⟨rfl, hb1⟩) | (go_at_call 38; refine (in_any _ _ _ _).mono ?_; rintro e w2 ⟨rfl, hw⟩; have hw2 := hw.symm; subst hw2; rw [hv]))
    go_ret2
    exact ⟨rfl, below_new hb1⟩
end Go.Proofs.Ytehkebdncfljmaa

namespace Go.Proofs.Ytehkebdncfljmaa
open Go Go.RowKit

theorem heap_new {W w' : World} {o : Obj} (hb : Below (W.alloc o).heap.size (W.alloc o) w') : w'.heap[W.heap.size]? = some o := (hb.block _ (by simp)).trans (by show (W.heap.push o)[W.heap.size]? = some o; simp)
theorem heap_newd {W w' : World} {o : Obj} (hb : Below (W.alloc o).drew.heap.size (W.alloc o).drew w') : w'.heap[W.heap.size]? = some o := (hb.block _ (by show W.heap.size < (W.alloc o).heap.size; simp)).trans (by show (W.heap.push o)[W.heap.size]? = some o; simp)
theorem heap_on {W w' : World} {X : Nat} {o : Obj} (hb : Below W.heap.size W w') (h : W.heap[X]? = some o) : w'.heap[X]? = some o := (hb.block _ (by
  rcases Nat.lt_or_ge X W.heap.size with hl | hl
  · exact hl
  · rw [Array.getElem?_eq_none hl] at h; cases h)).trans h
end Go.Proofs.Ytehkebdncfljmaa

namespace Go.Proofs.Ytehkebdncfljmaa
open Go Go.RowKit

/-- string(b) of a block of one byte. -/
theorem size_drew (w : World) : w.drew.heap.size = w.heap.size := rfl
theorem conv_at {w : World} {X : Nat} {x : Int} (h : w.heap[X]? = some (.cells #[.int .u8 x] 5)) : (convert 22 9 (.slice (some ⟨X, 0, none⟩) 1 1)).run Try.prog w = .ok (.string (bstr [x])) w :=
  run_own_string (P := Try.prog) (B := 0) (e := 5) 22 9 (show ownsB w 0 5 (.slice (some ⟨X, 0, none⟩) 1 1) [x] from
    ⟨rfl, .inr ⟨X, 1, #[.int .u8 x], rfl, Nat.zero_le _, h, Nat.le_refl _, by unfold maxLen; omega, rfl, rfl⟩⟩) Try.underlying22 Try.underlying5 Try.underlying9

set_option maxHeartbeats 4000000 in
theorem specEntryText_ok (i t k : Nat) (d : ByteArray) (w : World) (h1 : 1 ≤ i) (h2 : i ≤ 1000000) (h3 : t ≤ 100000) (hk3 : k ≤ 3) (hd : d.size ≤ 640) (hk : okE t k d = true) :
    Calls Try.prog 9 #[.int .i64 i, .agg #[.int .i64 t, .int .i64 k, .string d]] w fun e w' => e = .returned (.tuple #[.string (rawE (bstr (varI i)) (bstr (varI t)) k d), .bool true]) ∧ Below w.heap.size w w' := by
  have hv : (decide ((1 : Int) ≤ (i : Int)) && decide ((i : Int) ≤ 1000000)) = true := by
    rw [Bool.and_eq_true, decide_eq_true_iff, decide_eq_true_iff]
    omega
  have hs1 : (bstr (varI i)).size ≤ 3 := by rw [bstr_size']; exact varI_len3 h2
  have hs2 : (bstr (varI t)).size ≤ 3 := by rw [bstr_size']; exact varI_len3 (by omega)
  have H0 : Hid (∀ w, Calls Try.prog 37 #[.agg #[.int .i64 t, .int .i64 k, .string d]] w fun e w' => e = .returned (.bool true) ∧ Below w.heap.size w w') := by
    intro w; rw [← hk]; exact specEntryOk_any t k d w (by unfold maxLen; omega)
  have a1 := add1 hs1
  have a2 := add2 hs1 hs2
  have a3 := add3 (k := k) hs1 hs2
  have a4 := add4 (k := k) hs1 hs2 hd
  clear hk hs1 hs2
  go_enter Try.func9, Try.ntmps9
  go_wp2_with (first | (go_at_call 37; refine (H0.out _).mono ?_; rintro e w1 ⟨rfl, hb1⟩) | (go_at_call 38; refine (in_any _ _ _ _).mono ?_; rintro e w2 ⟨rfl, hw⟩; have hw2 := hw.symm; subst hw2; rw [hv]))
  have B1 := below_new hb1
  have c1 : w1.cell? ⟨w.heap.size, 0, none⟩ = some (.int .i64 t) := (hb1.cell (by simp)).trans (by simp [go_sem])
  have c2 : w1.cell? ⟨w.heap.size, 1, none⟩ = some (.int .i64 k) := (hb1.cell (by simp)).trans (by simp [go_sem])
  have c3 : w1.cell? ⟨w.heap.size, 2, none⟩ = some (.string d) := (hb1.cell (by simp)).trans (by simp [go_sem])
  have hlt : w.heap.size < w1.heap.size := World.block_lt_of_cell? w1 _ c3
  clear hb1
  have k1 : ∀ w', Below w1.heap.size w1 w' → w'.cell? ⟨w.heap.size, 0, none⟩ = some (.int .i64 t) := Below.cellOf hlt c1
  have k2 : ∀ w', Below w1.heap.size w1 w' → w'.cell? ⟨w.heap.size, 1, none⟩ = some (.int .i64 k) := Below.cellOf hlt c2
  have k3 : ∀ w', Below w1.heap.size w1 w' → w'.cell? ⟨w.heap.size, 2, none⟩ = some (.string d) := Below.cellOf hlt c3
  have hcv := run_one_string
  have hcd : (convert 22 9 (.slice (some ⟨w1.heap.size, 0, none⟩) 1 1)).run Try.prog (w1.alloc (.cells #[.int .u8 (k : Int)] 5)).drew = .ok (.string (bstr [(k : Int)])) (w1.alloc (.cells #[.int .u8 (k : Int)] 5)).drew := conv_at (by show (w1.heap.push _)[w1.heap.size]? = _; simp)
  have hwr : IntKind.u8.wrap (k : Int) = (k : Int) := by go_arith
  refine wp_region_noPanic ?_
  go_region_held (fun w' => Below w1.heap.size w1 w') ((first | assumption | exact (Below.refl _ _).drew | exact keep_on hba (by assumption) (Nat.le_refl _) | exact Below.alloc (by assumption) (Below.size (by assumption)) _ | exact Below.alloc (keep_on hba (by assumption) (Nat.le_refl _)) (Below.size (keep_on hba (by assumption) (Nat.le_refl _))) _)) ((go_at_call 39; refine (l01Var_any _ _ (by omega)).mono ?_; rintro e wa ⟨rfl, hba⟩; (try (have hX := heap_new hba; (try rw [size_drew] at hX); have hY := conv_at hX)); (try (have hX := heap_newd hba; have hY := conv_at hX)); (try (have hX := heap_on hba hX; have hY := conv_at hX))))
  all_goals refine NoPanic.normal ?_
  all_goals go_wp2
  all_goals (go_ret2; refine ⟨rfl, B1.trans (Below.mono (B := w1.heap.size) (by assumption) B1.size)⟩)

theorem specEntryText_any (i t k : Int) (d : ByteArray) (w : World) (hd : d.size ≤ maxLen) :
    Calls Try.prog 9 #[.int .i64 i, .agg #[.int .i64 t, .int .i64 k, .string d]] w fun e w' => e = .returned (valX i t k d) ∧ Below w.heap.size w w' := by
  cases hx : okX i t k d with
  | true =>
    rw [valX_yes hx]
    obtain ⟨h1, h2, h3, h4, h5, h6, h7⟩ := okX_out hx
    obtain ⟨a, rfl⟩ := Int.eq_ofNat_of_zero_le (show 0 ≤ i by omega)
    obtain ⟨b, rfl⟩ := Int.eq_ofNat_of_zero_le h3
    obtain ⟨c, rfl⟩ := Int.eq_ofNat_of_zero_le (show 0 ≤ k by omega)
    exact specEntryText_ok a b c d w (by omega) (by omega) (by omega) (by omega) h6 h7
  | false =>
    rw [valX_no hx]
    exact specEntryText_bad i t k d w hd hx

end Go.Proofs.Ytehkebdncfljmaa

namespace Go.Proofs.Ytehkebdncfljmaa
open Go Go.RowKit

def zeroV : Value := .tuple #[.int .i64 0, .agg #[.int .i64 0, .int .i64 0, .string ByteArray.empty], .bool false]
/-- The entry's data, behind its kind. -/
def dAt (s : ByteArray) (a : Nat) : ByteArray := s.extract (a + 1) s.size
theorem dAt_size (s : ByteArray) (a : Nat) : (dAt s a).size ≤ s.size := by
  unfold dAt
  rw [ByteArray.size_extract]
  omega
/-- Whether what was read would be written so. -/
def okF (s : ByteArray) (i t a : Nat) : Bool := okX i t (kAt s a) (dAt s a) && ((textX i t (kAt s a) (dAt s a)).toList == s.toList)
def finV (s : ByteArray) (i t a : Nat) : Value := if okF s i t a then .tuple #[.int .i64 i, .agg #[.int .i64 t, .int .i64 (kAt s a), .string (dAt s a)], .bool true] else zeroV
/-- What is read. -/
def rdV (s : ByteArray) : Value :=
  if (rv s 1).2.2 = true ∧ (rv s (rv s 1).2.1).2.2 = true ∧ (rv s (rv s 1).2.1).2.1 < s.size then finV s (rv s 1).1.toNat (rv s (rv s 1).2.1).1.toNat (rv s (rv s 1).2.1).2.1.toNat else zeroV

theorem rd_good {s t1 t4 : ByteArray} {a1 a2 a3 a4 x2 x3 : Nat} {b1 b2 b3 : Bool} (h1 : takeS s 0 false 1 = (t1, a1, b1)) (h2 : varS s a1 b1 = (x2, a2, b2)) (h3 : varS s a2 b2 = (x3, a3, b3)) (h4 : takeS s a3 b3 1 = (t4, a4, false)) :
    rdV s = finV s x2 x3 a3 ∧ a3 < s.size ∧ t4 = s.extract a3 (a3 + 1) ∧ a4 = a3 + 1 := by
  obtain ⟨rfl, h5, h6, h7⟩ := takeS_ok h4
  obtain ⟨rfl, h8⟩ := varS_ok h3
  obtain ⟨rfl, h9⟩ := varS_ok h2
  obtain ⟨-, h10, -, h11⟩ := takeS_ok h1
  have e1 : a1 = 1 := by omega
  subst e1
  have h9' : rv s 1 = ((x2 : Int), (a2 : Int), true) := h9
  refine ⟨?_, by omega, h6, h7⟩
  unfold rdV
  rw [h9']
  dsimp only
  rw [h8]
  dsimp only
  rw [if_pos ⟨rfl, rfl, by omega⟩]
  simp
theorem rd_bad {s t1 t4 : ByteArray} {a1 a2 a3 a4 x2 x3 : Nat} {b1 b2 b3 : Bool} (h1 : takeS s 0 false 1 = (t1, a1, b1)) (h2 : varS s a1 b1 = (x2, a2, b2)) (h3 : varS s a2 b2 = (x3, a3, b3)) (h4 : takeS s a3 b3 1 = (t4, a4, true)) :
    rdV s = zeroV := by
  unfold rdV
  rw [if_neg]
  rintro ⟨k1, k2, k3⟩
  rcases hr1 : rv s 1 with ⟨X, Y, z⟩
  rw [hr1] at k1 k2 k3
  dsimp only at k1 k2 k3
  subst k1
  obtain ⟨X, Y, rfl, rfl, -, hy, hY⟩ := rv_in hr1
  rcases hr2 : rv s (Y : Int) with ⟨U, V, z⟩
  rw [hr2] at k2 k3
  dsimp only at k2 k3
  subst k2
  obtain ⟨U, V, rfl, rfl, -, hv, hV⟩ := rv_in hr2
  rw [takeS_yes (show 0 + 1 ≤ s.size by omega)] at h1
  simp only [Prod.mk.injEq] at h1
  obtain ⟨-, rfl, rfl⟩ := h1
  rw [varS_yes (show rv s ((0 + 1 : Nat) : Int) = ((X : Int), (Y : Int), true) from hr1)] at h2
  simp only [Prod.mk.injEq] at h2
  obtain ⟨rfl, rfl, rfl⟩ := h2
  rw [varS_yes hr2] at h3
  simp only [Prod.mk.injEq] at h3
  obtain ⟨rfl, rfl, rfl⟩ := h3
  rw [takeS_yes (by omega)] at h4
  simp at h4

theorem ret_entry {fn : Func} {p u v : Tmp} {w : World} {g : Nat} {a b c x y : Value} {tmps : Array Value} (h : fn.results = #[.tmp u, .cell p 25, .tmp v]) (hp : tmps.getD p undef = .pointer (some ⟨g, 0, none⟩)) (hu : tmps.getD u undef = x) (hv : tmps.getD v undef = y) (hb : w.heap[g]? = some (.cells #[a, b, c] 25)) :
    (results fn tmps).run Try.prog w = .ok (.tuple #[x, .agg #[a, b, c], y]) w := by
  have hp' : tmps[p]?.getD undef = .pointer (some ⟨g, 0, none⟩) := by simpa using hp
  have hu' : tmps[u]?.getD undef = x := by simpa using hu
  have hv' : tmps[v]?.getD undef = y := by simpa using hv
  obtain ⟨h0, h1, h2, _⟩ := cur_cells hb
  simp [results, h, hp', hu', hv', h0, h1, h2, asAddr, go_sem]

end Go.Proofs.Ytehkebdncfljmaa

namespace Go.Proofs.Ytehkebdncfljmaa
open Go.RowKit

theorem bstr_sz (l : List Int) : (bstr l).size = l.length := by simp [bstr, ByteArray.size]
/-- From the place i on the text has these numbers. -/
def Fits (s : ByteArray) (i : Nat) (l : List Int) : Prop := ∀ j x, l[j]? = some x → ∃ h : i + j < s.size, (s[i + j].toNat : Int) = x
theorem Fits.tail {s : ByteArray} {i : Nat} {x : Int} {l : List Int} (h : Fits s i (x :: l)) : Fits s (i + 1) l := by
  intro j y hy
  have := h (j + 1) y (by simpa using hy)
  rw [show i + (j + 1) = i + 1 + j by omega] at this
  exact this
theorem rvGo_back (s : ByteArray) : ∀ (f m i k N : Nat), f + k = 5 → Fits s i (varI m) → N + m * 128 ^ k ≤ 1000000000 → (0 < m ∨ k = 0) →
    rvGo s f i k N = (((N + m * 128 ^ k : Nat) : Int), ((i + (varI m).length : Nat) : Int), true)
  | 0, m, i, k, N, hf, hb, hv, hk => by
    exfalso
    obtain rfl : k = 5 := by omega
    rcases hk with h | h
    · have : 1 * 128 ^ 5 ≤ m * 128 ^ 5 := Nat.mul_le_mul_right _ h
      omega
    · omega
  | f + 1, m, i, k, N, hf, hb, hv, hk => by
    by_cases hm : 127 < m
    · rw [varI_more hm] at hb ⊢
      obtain ⟨hi, hx⟩ := hb 0 _ rfl
      have hx2 : s[i].toNat = m % 128 + 128 := by have : (s[i].toNat : Int) = (m : Int) % 128 + 128 := hx; omega
      have hi2 : i < s.size := hi
      rw [rvGo_more hi2 (by omega), hx2, show (m % 128 + 128) % 128 = m % 128 by omega]
      have e : N + m % 128 * 128 ^ k + m / 128 * 128 ^ (k + 1) = N + m * 128 ^ k := by
        have h1 : m * 128 ^ k = (m % 128 + 128 * (m / 128)) * 128 ^ k := by rw [Nat.mod_add_div]
        rw [h1, Nat.pow_succ, Nat.add_mul, Nat.add_assoc]
        congr 2
        rw [Nat.mul_comm (128 ^ k) 128, ← Nat.mul_assoc, Nat.mul_comm (m / 128) 128]
      rw [rvGo_back s f (m / 128) (i + 1) (k + 1) _ (by omega) hb.tail (by rw [e]; exact hv) (Or.inl (by omega)), e]
      rw [List.length_cons, show i + 1 + (varI (m / 128)).length = i + ((varI (m / 128)).length + 1) by omega]
    · rw [varI_last hm] at hb ⊢
      obtain ⟨hi, hx⟩ := hb 0 _ rfl
      have hi2 : i < s.size := hi
      have hx2 : s[i].toNat = m := by have : (s[i].toNat : Int) = (m : Int) := hx; omega
      rw [rvGo_ok hi2 (by omega)]
      · rw [hx2, Nat.mod_eq_of_lt (by omega : m < 128)]
        rfl
      · rw [hx2, Nat.mod_eq_of_lt (by omega : m < 128)]
        omega
theorem fits_bstr (a b : ByteArray) (l : List Int) (hl : ∀ x ∈ l, 0 ≤ x ∧ x < 256) : Fits (a ++ bstr l ++ b) a.size l := by
  intro j x hx
  obtain ⟨hj, rfl⟩ := List.getElem?_eq_some_iff.1 hx
  have hs : (a ++ bstr l ++ b).size = a.size + l.length + b.size := by rw [ByteArray.size_append, ByteArray.size_append, bstr_sz]
  refine ⟨by omega, ?_⟩
  have hr := hl l[j] (List.getElem_mem hj)
  have e : (a ++ bstr l ++ b)[a.size + j]'(by omega) = UInt8.ofNat (l[j]).toNat := by
    show (a ++ bstr l ++ b).data[a.size + j]'(by show _ < (a ++ bstr l ++ b).size; omega) = _
    have h2 : (a ++ bstr l ++ b).data = a.data ++ (l.map fun n => UInt8.ofNat n.toNat).toArray ++ b.data := by
      rw [ByteArray.data_append, ByteArray.data_append]; rfl
    have h3 : ((a ++ bstr l ++ b).data)[a.size + j]? = some (UInt8.ofNat (l[j]).toNat) := by
      rw [h2, Array.getElem?_append_left (by simp; exact hj), Array.getElem?_append_right (by show a.size ≤ a.size + j; omega)]
      simp [hj]
    exact (Array.getElem?_eq_some_iff.1 h3).2
  rw [e]
  simp
  omega
/-- A number comes back, whatever stands ahead of it and behind it. -/
theorem rv_back (a b : ByteArray) (n : Nat) (hn : n ≤ 1000000000) : rv (a ++ bstr (varI n) ++ b) a.size = ((n : Int), ((a.size + (varI n).length : Nat) : Int), true) := by
  unfold rv
  have hs : (a ++ bstr (varI n) ++ b).size = a.size + (varI n).length + b.size := by rw [ByteArray.size_append, ByteArray.size_append, bstr_sz]
  rw [if_pos (by omega), Int.toNat_natCast, rvGo_back _ 5 n a.size 0 0 rfl (fits_bstr a b _ (varI_range n n (Nat.le_refl _))) (by omega) (Or.inr rfl)]
  simp

/-- Of a number that is torn nothing is read. -/
theorem rvGo_torn (s : ByteArray) : ∀ (f m i k N : Nat), i ≤ s.size → s.size < i + (varI m).length → (∀ j (h : i + j < s.size), ∃ x, (varI m)[j]? = some x ∧ (s[i + j].toNat : Int) = x) → rvGo s f i k N = (0, 0, false)
  | 0, m, i, k, N, _, _, _ => rfl
  | f + 1, m, i, k, N, hi, hl, hb => by
    by_cases hs : i < s.size
    · have hm : 127 < m := by
        refine Decidable.byContradiction fun hm => ?_
        rw [varI_last hm] at hl
        simp at hl
        omega
      rw [varI_more hm] at hl hb
      obtain ⟨x, hx, he⟩ := hb 0 hs
      have hx2 : s[i].toNat = m % 128 + 128 := by
        simp at hx
        have : (s[i].toNat : Int) = x := he
        omega
      rw [rvGo_more hs (by omega)]
      refine rvGo_torn s f (m / 128) (i + 1) (k + 1) _ (by omega) (by simp at hl; omega) fun j h => ?_
      obtain ⟨y, hy, hy2⟩ := hb (j + 1) (by omega)
      refine ⟨y, by simpa using hy, ?_⟩
      rw [← hy2]
      congr 3
      omega
    · exact rvGo_end hs
theorem rv_torn (a c : ByteArray) (n : Nat) (hc : c.size < (varI n).length) (he : c = (bstr (varI n)).extract 0 c.size) : rv (a ++ c) a.size = (0, 0, false) := by
  have hs : (a ++ c).size = a.size + c.size := ByteArray.size_append
  rw [rv_in_eq (by omega)]
  refine rvGo_torn _ 5 n a.size 0 0 (by omega) (by omega) fun j h => ?_
  have hj : j < c.size := by omega
  have hj2 : j < (varI n).length := by omega
  refine ⟨(varI n)[j], List.getElem?_eq_getElem hj2, ?_⟩
  have e : (a ++ c)[a.size + j] = UInt8.ofNat ((varI n)[j]).toNat := by
    rw [ByteArray.getElem_append_right (by omega)]
    have h1 : c[a.size + j - a.size]'(by omega) = c[j] := by congr 1; omega
    rw [h1]
    have h2 : ∀ (d : ByteArray) (hd : d = (bstr (varI n)).extract 0 c.size) (h : j < d.size), d[j] = UInt8.ofNat ((varI n)[j]).toNat := by
      intro d hd h
      subst hd
      rw [ByteArray.getElem_extract]
      simp only [Nat.zero_add]
      rw [ByteArray.getElem_eq_getElem_data]
      simp [bstr]
    exact h2 c he hj
  rw [e]
  have hr := varI_range n n (Nat.le_refl _) _ (List.getElem_mem hj2)
  simp
  omega
end Go.Proofs.Ytehkebdncfljmaa

namespace Go.Proofs.Ytehkebdncfljmaa
open Go Go.RowKit
set_option linter.unusedVariables false

theorem kAt_back {s : ByteArray} (a b : ByteArray) (n : Nat) (h1 : n < 256) (he : s = a ++ bstr [(n : Int)] ++ b) {p : Nat} (hp : p = a.size) : kAt s p = n := by
  have hz : s.size = a.size + 1 + b.size := by rw [he]; simp only [ByteArray.size_append, bstr_sz, List.length_singleton]
  subst hp
  rw [kAt_in (by omega)]
  have hx : (a ++ (bstr [(n : Int)] ++ b))[a.size]'(by rw [← ByteArray.append_assoc, ← he]; omega) = n.toUInt8 := by
    rw [ByteArray.getElem_append_right (Nat.le_refl _), ByteArray.getElem_append_left (by rw [bstr_sz]; simp)]
    simp [bstr]
    rfl
  have e2 : s = a ++ (bstr [(n : Int)] ++ b) := by rw [he, ByteArray.append_assoc]
  have hg : s[a.size]'(by omega) = n.toUInt8 := by
    simp only [e2]
    exact hx
  rw [hg]
  simp [Nat.toUInt8]
  omega
theorem dAt_back {s : ByteArray} (a t : ByteArray) (c : Int) (he : s = a ++ bstr [c] ++ t) {p : Nat} (hp : p = a.size) : dAt s p = t := by
  have hz : s.size = a.size + 1 + t.size := by rw [he]; simp only [ByteArray.size_append, bstr_sz, List.length_singleton]
  have ha : (a ++ bstr [c]).size = a.size + 1 := by rw [ByteArray.size_append, bstr_sz]; rfl
  subst hp
  unfold dAt
  rw [hz, he]
  apply ByteArray.ext
  apply Array.ext
  · simp only [ByteArray.data_extract, ByteArray.data_append, Array.size_extract, Array.size_append]
    have h1 : a.data.size = a.size := rfl
    have h2 : (bstr [c]).data.size = 1 := by show (bstr [c]).size = 1; rw [bstr_sz]; rfl
    have h3 : t.data.size = t.size := rfl
    omega
  · intro i h1 h2
    have hi : i < t.size := h2
    have hd : (a.data ++ (bstr [c]).data).size = a.size + 1 := by rw [Array.size_append]; exact ByteArray.size_append ▸ ha
    simp only [ByteArray.data_extract, ByteArray.data_append, Array.getElem_extract]
    rw [Array.getElem_append_right (by omega)]
    congr 1
    omega
/-- An entry comes back from its text, with its index. -/
theorem rdV_back (i t k : Int) (d : ByteArray) (hx : okX i t k d = true) : rdV (textX i t k d) = .tuple #[.int .i64 i, .agg #[.int .i64 t, .int .i64 k, .string d], .bool true] := by
  obtain ⟨h1, h2, h3, h4, h5, h6, h7⟩ := okX_out hx
  obtain ⟨I, rfl⟩ : ∃ I : Nat, i = (I : Int) := ⟨i.toNat, by omega⟩
  obtain ⟨T, rfl⟩ : ∃ T : Nat, t = (T : Int) := ⟨t.toNat, by omega⟩
  obtain ⟨K, rfl⟩ : ∃ K : Nat, k = (K : Int) := ⟨k.toNat, by omega⟩
  have he : textX I T K d = textE I T K d := by
    unfold textX
    rw [hx]; rfl
  obtain ⟨s, hs⟩ : ∃ s, textE I T K d = s := ⟨_, rfl⟩
  rw [he, hs]
  obtain ⟨Q, hQ⟩ : ∃ Q, bstr (varI T) = Q := ⟨_, rfl⟩
  have hs1 : s = (⟨#[69]⟩ : ByteArray) ++ bstr (varI I) ++ (Q ++ bstr [(K : Int)] ++ d) := by
    rw [← hs, ← hQ]
    unfold textE rawE
    simp [ByteArray.append_assoc]
  obtain ⟨C, hC⟩ : ∃ C : Nat, C = 1 + (varI I).length := ⟨_, rfl⟩
  have r1 : rv s 1 = ((I : Int), (C : Int), true) := by
    have := rv_back ⟨#[69]⟩ (Q ++ bstr [(K : Int)] ++ d) I (by omega)
    rw [← hs1] at this
    rw [hC]
    exact this
  obtain ⟨P, hP⟩ : ∃ P, (⟨#[69]⟩ : ByteArray) ++ bstr (varI I) = P := ⟨_, rfl⟩
  have hPz : P.size = C := by
    rw [← hP, ByteArray.size_append, bstr_sz, hC]; rfl
  have hs2 : s = P ++ bstr (varI T) ++ (bstr [(K : Int)] ++ d) := by
    rw [hs1, hP, hQ]
    simp [ByteArray.append_assoc]
  have hs3 : s = (P ++ Q) ++ bstr [(K : Int)] ++ d := by
    rw [hs1, hP]
    simp [ByteArray.append_assoc]
  obtain ⟨A, hA⟩ : ∃ A : Nat, A = (P ++ Q).size := ⟨_, rfl⟩
  have hAQ : A = C + (varI T).length := by
    rw [hA, ByteArray.size_append, hPz, ← hQ, bstr_sz]
  have r2 : rv s (C : Int) = ((T : Int), (A : Int), true) := by
    have := rv_back P (bstr [(K : Int)] ++ d) T (by omega)
    rw [← hs2, hPz] at this
    rw [hAQ]
    exact this
  have hz : s.size = A + 1 + d.size := by
    rw [hs3, ByteArray.size_append, ByteArray.size_append, ← hA, bstr_sz]; rfl
  have hk : kAt s A = K := kAt_back (P ++ Q) d K (by omega) hs3 hA
  have hd : dAt s A = d := dAt_back (P ++ Q) d (K : Int) hs3 hA
  have hf : okF s I T A = true := by
    unfold okF
    rw [hk, hd]
    unfold textX
    rw [hx]
    simp only [Bool.true_and, if_true]
    rw [hs]
    exact beq_self_eq_true _
  unfold rdV
  rw [r1]
  simp only []
  rw [r2]
  simp only []
  rw [if_pos ⟨trivial, trivial, by omega⟩]
  unfold finV
  rw [Int.toNat_natCast, Int.toNat_natCast, Int.toNat_natCast, hf, if_pos rfl, hk, hd]
theorem bytesI_bstr (l : List Int) (h : ∀ x ∈ l, 0 ≤ x ∧ x < 256) : bytesI (bstr l) = l := by
  unfold bytesI
  rw [ByteArray.toList_eq]
  unfold bstr
  simp only [List.map_map]
  conv => rhs; rw [← List.map_id l]
  apply List.map_congr_left
  intro x hx
  have := h x hx
  simp only [Function.comp, id, UInt8.toNat_ofNat']
  omega
theorem confT_back {l : List Int} (h : okC l = true) : okT (textC l) = true ∧ confT (textC l) = l := by
  have e : bytesI (textC l) = l := by
    unfold textC
    rw [if_pos h]
    refine bytesI_bstr l fun x hx => ?_
    obtain ⟨k, hk⟩ := List.getElem?_of_mem hx
    have := okC_at h hk
    omega
  have h2 : okT (textC l) = true := by unfold okT; rw [e]; exact h
  exact ⟨h2, by rw [confT_yes h2, e]⟩
end Go.Proofs.Ytehkebdncfljmaa

namespace Go.Proofs
open Go.Shelf
def Try.laysMC316_ren : Go.Shelf.Ren := ⟨fun | 316 => 64 | n => n, fun | 9 => 9 | 3 => 3 | 4 => 4 | 37 => 22 | 0 => 0 | 127 => 96 | 5 => 5 | n => n, fun | n => n⟩
theorem Try.laysMC316 : Go.Proofs.LaysM.n316 Try.prog Try.laysMC316_ren := {
  mixed := by kernel_rfl
  f316 := Try.func64.trans (congrArg some (by kernel_rfl))
  t0 := Try.underlying0
  a0 := Try.isAgg0
  z0 := Try.sizeOf0
  v0 := Try.zeroValue0
  t3 := Try.underlying3
  a3 := Try.isAgg3
  z3 := Try.sizeOf3
  v3 := Try.zeroValue3
  t4 := Try.underlying4
  a4 := Try.isAgg4
  z4 := Try.sizeOf4
  v4 := Try.zeroValue4
  t9 := Try.underlying9
  a9 := Try.isAgg9
  z9 := Try.sizeOf9
  v9 := Try.zeroValue9
  t37 := Try.underlying22
  a37 := Try.isAgg22
  z37 := Try.sizeOf22
  v37 := Try.zeroValue22
  t127 := Try.underlying96
  a127 := Try.isAgg96
  z127 := Try.sizeOf96
  v127 := Try.zeroValue96
  t5 := Try.underlying5
  a5 := Try.isAgg5
  z5 := Try.sizeOf5
  v5 := Try.zeroValue5
  i0 := by kernel_rfl
  i3 := by kernel_rfl
  i4 := by kernel_rfl
  i5 := by kernel_rfl
  i9 := by kernel_rfl
  i37 := by kernel_rfl
  i127 := by kernel_rfl }
open Go.RowKit in
theorem Try.stringslite_Clone (s : ByteArray) (w : World) (hlim : s.size ≤ 281474976710656) :
    Calls Try.prog 64 #[.string s] w fun e w' => e = .returned (.string s) ∧ Below w.heap.size w w' := Any.stringslite_Clone Try.laysMC316 s w hlim
end Go.Proofs

namespace Go.Proofs.Ytehkebdncfljmaa
open Go Go.RowKit

set_option maxHeartbeats 400000 in
theorem clone_any (s : ByteArray) (w : World) (h : s.size ≤ 1048576) :
    Calls Try.prog 41 #[.string s] w fun e w' => e = .returned (.string s) ∧ Below w.heap.size w w' := by
  go_enter Try.func41, Try.ntmps41
  go_wp2_with (go_at_call 64; refine (Try.stringslite_Clone _ _ (by omega)).mono ?_; rintro e w1 ⟨rfl, hb1⟩)
  go_ret
  exact ⟨rfl, hb1⟩
end Go.Proofs.Ytehkebdncfljmaa
