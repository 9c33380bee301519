/-
  The text of a snapshot: what it is, and the walks of what writes it. The text of a snapshot: the walks of SnapText on both sides. The text of a snapshot, as the specification writes it: the walks. Snapshots: the law's helpers on them (sizes, copies, held against each other, marked): the walks.
-/
import Derived.Test.YtgpojfkdcdgloaaDoorSn
import Derived.Test.YtgpojfkdcdgloaaDoorT7
import Derived.Test.YtgpojfkdcdgloaaDoorCt
import Derived.Test.YtgpojfkdcdgloaaDoorT4
import Derived.Test.YtgpojfkdcdgloaaDoorT6
namespace Go.Proofs.YtgpojfkdcdgloaaDoor
open Go Go.RowKit

theorem varI_len5 {n : Nat} (hn : n ≤ 1000000000) : 1 ≤ (varI n).length ∧ (varI n).length ≤ 5 := by
  by_cases h1 : 127 < n
  · rw [varI_more h1]
    by_cases h2 : 127 < n / 128
    · rw [varI_more h2]
      by_cases h3 : 127 < n / 128 / 128
      · rw [varI_more h3]
        by_cases h4 : 127 < n / 128 / 128 / 128
        · rw [varI_more h4]
          rw [varI_last (show ¬ 127 < n / 128 / 128 / 128 / 128 by omega)]
          simp
        · rw [varI_last h4]; simp
      · rw [varI_last h3]; simp
    · rw [varI_last h2]; simp
  · rw [varI_last h1]; simp
/-- A short text, behind its length. -/
def shT (s : ByteArray) : ByteArray := bstr (varI s.size) ++ s
theorem shT_size {s : ByteArray} (h : s.size ≤ 1000000000) : s.size + 1 ≤ (shT s).size ∧ (shT s).size ≤ s.size + 5 := by
  have := varI_len5 h
  unfold shT
  rw [ByteArray.size_append, bstr_size]
  omega
/-- Whether a term is one. -/
def trmB (n : Int) : Bool := decide (0 ≤ n) && decide (n ≤ 100000)
theorem trmB_out {n : Int} (h : trmB n = true) : 0 ≤ n ∧ n ≤ 100000 := by simpa [trmB] using h
/-- What is sealed. -/
def snT (i t : Nat) (l : List Int) (b : ByteArray) : ByteArray := bstr (varI i) ++ bstr (varI t) ++ shT (bstr l) ++ shT b
/-- Whether a snapshot has a text. -/
def okS (i t : Int) (l : List Int) (b : ByteArray) : Bool := okC l && idxB i && trmB t && decide (b.size ≤ 20000) && decide ((snT i.toNat t.toNat l b).size + 4 ≤ 20000)
/-- The text of a snapshot. -/
def textS (i t : Int) (l : List Int) (b : ByteArray) : ByteArray := if okS i t l b then sealT (snT i.toNat t.toNat l b) else ByteArray.empty
def textSV (i t : Int) (l : List Int) (b : ByteArray) : Value := .tuple #[.string (textS i t l b), .bool (okS i t l b)]
theorem textSV_no {i t : Int} {l : List Int} {b : ByteArray} (h : okS i t l b = false) : textSV i t l b = .tuple #[.string ByteArray.empty, .bool false] := by simp [textSV, textS, h]
theorem textSV_yes {i t : Int} {l : List Int} {b : ByteArray} (h : okS i t l b = true) : textSV i t l b = .tuple #[.string (sealT (snT i.toNat t.toNat l b)), .bool true] := by simp [textSV, textS, h]
theorem okS_out {i t : Int} {l : List Int} {b : ByteArray} (h : okS i t l b = true) : okC l = true ∧ idxB i = true ∧ trmB t = true ∧ b.size ≤ 20000 ∧ (snT i.toNat t.toNat l b).size + 4 ≤ 20000 := by
  unfold okS at h
  simp only [Bool.and_eq_true, decide_eq_true_eq] at h
  exact ⟨h.1.1.1.1, h.1.1.1.2, h.1.1.2, h.1.2, h.2⟩
theorem okS_in {i t : Int} {l : List Int} {b : ByteArray} (h1 : okC l = true) (h2 : idxB i = true) (h3 : trmB t = true) (h4 : b.size ≤ 20000) (h5 : (snT i.toNat t.toNat l b).size + 4 ≤ 20000) : okS i t l b = true := by
  unfold okS
  simp [h1, h2, h3, h4, h5]
theorem okS_no {i t : Int} {l : List Int} {b : ByteArray} (h : okC l = false ∨ idxB i = false ∨ trmB t = false ∨ 20000 < b.size ∨ 20000 < (snT i.toNat t.toNat l b).size + 4) : okS i t l b = false := by
  cases hk : okS i t l b with
  | false => rfl
  | true =>
    obtain ⟨a1, a2, a3, a4, a5⟩ := okS_out hk
    rw [a1, a2, a3] at h
    simp at h
    omega
theorem snT_size {i t : Nat} {l : List Int} {b : ByteArray} (hi : i ≤ 1000000000) (ht : t ≤ 1000000000) (hl : l.length ≤ 4) (hb : b.size ≤ 20000) :
    (bstr (varI i)).size ≤ 5 ∧ (bstr (varI t)).size ≤ 5 ∧ (shT (bstr l)).size ≤ 9 ∧ (shT b).size ≤ 20005 := by
  have a1 := varI_len5 hi
  have a2 := varI_len5 ht
  have a3 := shT_size (s := bstr l) (by rw [bstr_size]; omega)
  have a4 := shT_size (s := b) (by omega)
  rw [bstr_size] at a3
  rw [bstr_size, bstr_size]
  omega

theorem empty_add (s : ByteArray) : ({ data := #[] } : ByteArray) ++ s = s := by
  apply ByteArray.ext
  rw [ByteArray.data_append]
  simp
set_option maxRecDepth 10000 in
set_option maxHeartbeats 1000000 in
theorem pair0_ok (a b : Nat) (w : World) (ha : a ≤ 1000000000) (hb : b ≤ 1000000000) :
    Calls Tryd.prog 42 #[.string { data := #[] }, .int .i64 a, .int .i64 b] w fun e w' => e = .returned (.tuple #[.string (bstr (varI a) ++ bstr (varI b)), .bool true]) ∧ Below w.heap.size w w' := by
  have q1 := varI_len5 ha
  have q2 := varI_len5 hb
  have h1 : ∀ wx, (Op.stringOp .add { data := #[] } (bstr (varI a))).run Tryd.prog wx = .ok (.string (bstr (varI a))) wx := fun wx => by
    rw [run_string_add_sum wx _ _ (by rw [bstr_size, show ({ data := #[] } : ByteArray).size = 0 from rfl]; omega), empty_add]
  have h2 : ∀ wx, (Op.stringOp .add (bstr (varI a)) (bstr (varI b))).run Tryd.prog wx = .ok (.string (bstr (varI a) ++ bstr (varI b))) wx := fun wx => by
    rw [run_string_add_sum wx _ _ (by rw [bstr_size, bstr_size]; omega)]
  clear q1 q2
  have CA : Hid (∀ w, Calls Tryd.prog 74 #[.int .i64 a] w fun e w' => e = .returned (.tuple #[.string (bstr (varI a)), .bool true]) ∧ Below w.heap.size w w') := fun w => varText_ok a w ha
  have CB : Hid (∀ w, Calls Tryd.prog 74 #[.int .i64 b] w fun e w' => e = .returned (.tuple #[.string (bstr (varI b)), .bool true]) ∧ Below w.heap.size w w') := fun w => varText_ok b w hb
  go_enter Tryd.func42, Tryd.ntmps42
  go_wp2_with fail
  refine Calls.mono (CA.out _) ?_
  rintro e w1 ⟨rfl, hb1⟩
  go_wp2_with fail
  refine Calls.mono (CB.out _) ?_
  rintro e w2 ⟨rfl, hb2⟩
  go_wp2
  go_ret2
  exact ⟨rfl, Below.on hb1 hb2⟩

/-- What VarText makes of any number. -/
theorem varText_any (n : Int) : ∃ t : ByteArray, t.size ≤ 5 ∧ ∀ w, Calls Tryd.prog 74 #[.int .i64 n] w fun e w' => e = .returned (.tuple #[.string t, .bool (decide (0 ≤ n) && decide (n ≤ 1000000000))]) ∧ Below w.heap.size w w' := by
  by_cases h : n < 0 ∨ 1000000000 < n
  · refine ⟨ByteArray.empty, Nat.zero_le _, fun w => ?_⟩
    have e : (decide (0 ≤ n) && decide (n ≤ 1000000000)) = false := by
      rw [Bool.and_eq_false_iff]
      rcases h with h | h
      · exact .inl (decide_eq_false (by omega))
      · exact .inr (decide_eq_false (by omega))
    rw [e]
    exact varText_bad n w h
  · obtain ⟨k, rfl⟩ := Int.eq_ofNat_of_zero_le (show 0 ≤ n by omega)
    refine ⟨bstr (varI k), ?_, fun w => ?_⟩
    · rw [bstr_size]; exact (varI_len5 (by omega)).2
    · have e : (decide (0 ≤ (k : Int)) && decide ((k : Int) ≤ 1000000000)) = true := by simp; omega
      rw [e]
      exact varText_ok k w (by omega)
set_option maxRecDepth 10000 in
set_option maxHeartbeats 1000000 in
theorem pair0_bad (a b : Int) (x y : ByteArray) (w : World) (h : a < 0 ∨ b < 0) (hx : x.size ≤ 5) (hy : y.size ≤ 5)
    (CA : ∀ w, Calls Tryd.prog 74 #[.int .i64 a] w fun e w' => e = .returned (.tuple #[.string x, .bool (decide (0 ≤ a) && decide (a ≤ 1000000000))]) ∧ Below w.heap.size w w')
    (CB : ∀ w, Calls Tryd.prog 74 #[.int .i64 b] w fun e w' => e = .returned (.tuple #[.string y, .bool (decide (0 ≤ b) && decide (b ≤ 1000000000))]) ∧ Below w.heap.size w w') :
    Calls Tryd.prog 42 #[.string { data := #[] }, .int .i64 a, .int .i64 b] w fun e w' => e = .returned (.tuple #[.string (x ++ y), .bool false]) ∧ Below w.heap.size w w' := by
  obtain ⟨p, hp⟩ : ∃ p, (decide (0 ≤ a) && decide (a ≤ 1000000000)) = p := ⟨_, rfl⟩
  obtain ⟨q, hq⟩ : ∃ q, (decide (0 ≤ b) && decide (b ≤ 1000000000)) = q := ⟨_, rfl⟩
  have hpq : p = false ∨ q = false := by
    rcases h with h | h
    · exact .inl (by rw [← hp, decide_eq_false (show ¬ 0 ≤ a by omega)]; rfl)
    · exact .inr (by rw [← hq, decide_eq_false (show ¬ 0 ≤ b by omega)]; rfl)
  rw [hp] at CA
  rw [hq] at CB
  have CA : Hid (∀ w, Calls Tryd.prog 74 #[.int .i64 a] w fun e w' => e = .returned (.tuple #[.string x, .bool p]) ∧ Below w.heap.size w w') := CA
  have CB : Hid (∀ w, Calls Tryd.prog 74 #[.int .i64 b] w fun e w' => e = .returned (.tuple #[.string y, .bool q]) ∧ Below w.heap.size w w') := CB
  clear hp hq h
  have h1 : ∀ wx, (Op.stringOp .add { data := #[] } x).run Tryd.prog wx = .ok (.string x) wx := fun wx => by
    rw [run_string_add_sum wx _ _ (by rw [show ({ data := #[] } : ByteArray).size = 0 from rfl]; omega), empty_add]
  have h2 : ∀ wx, (Op.stringOp .add x y).run Tryd.prog wx = .ok (.string (x ++ y)) wx := fun wx => by
    rw [run_string_add_sum wx _ _ (by omega)]
  clear hx hy
  cases p with
  | false =>
    clear hpq
    go_enter Tryd.func42, Tryd.ntmps42
    go_wp2_with fail
    refine Calls.mono (CA.out _) ?_
    rintro e w1 ⟨rfl, hb1⟩
    go_wp2_with fail
    refine Calls.mono (CB.out _) ?_
    rintro e w2 ⟨rfl, hb2⟩
    go_wp2
    go_ret2
    exact ⟨rfl, Below.on hb1 hb2⟩
  | true =>
    have hq : q = false := by simpa using hpq
    subst hq
    clear hpq
    go_enter Tryd.func42, Tryd.ntmps42
    go_wp2_with fail
    refine Calls.mono (CA.out _) ?_
    rintro e w1 ⟨rfl, hb1⟩
    go_wp2_with fail
    refine Calls.mono (CB.out _) ?_
    rintro e w2 ⟨rfl, hb2⟩
    go_wp2
    go_ret2
    exact ⟨rfl, Below.on hb1 hb2⟩

/-- What lies in the block of a snapshot that came in. -/
def Sb (w : World) (g : Nat) (i t : Int) (v : Value) (b : ByteArray) : Prop := w.heap[g]? = some (.cells #[.int .i64 i, .int .i64 t, v, .string b] 30)
theorem sb_cells {w : World} {g : Nat} {x0 x1 x2 x3 : Value} {t : TypeId} (h : w.heap[g]? = some (.cells #[x0, x1, x2, x3] t)) :
    w.cell? ⟨g, 0, none⟩ = some x0 ∧ w.cell? ⟨g, 1, none⟩ = some x1 ∧ w.cell? ⟨g, 2, none⟩ = some x2 ∧ w.cell? ⟨g, 3, none⟩ = some x3 := by
  simp [World.cell?, h]
end Go.Proofs.YtgpojfkdcdgloaaDoor

namespace Go.Proofs.YtgpojfkdcdgloaaDoor
open Go Go.RowKit

theorem blk_on {w w' : World} {o : Obj} (hb : Below (w.alloc o).heap.size (w.alloc o) w') : w'.heap[w.heap.size]? = some o :=
  (hb.block _ (by rw [World.size_alloc]; omega)).trans (heap_last w o)
theorem blk_up {w w' : World} {g : Nat} {o : Obj} (h : w.heap[g]? = some o) (hb : Below w.heap.size w w') : w'.heap[g]? = some o :=
  (hb.block _ (Array.getElem?_eq_some_iff.1 h).1).trans h
theorem snT_add (i t : Nat) (l : List Int) (b : ByteArray) : (bstr (varI i) ++ bstr (varI t) ++ shT (bstr l)) ++ shT b = snT i t l b := rfl

set_option maxRecDepth 10000 in
set_option maxHeartbeats 2000000 in
/-- One part of a snapshot has no text. -/
theorem snapText_no (i t : Int) (ao : Option Addr) (n cap : Nat) (l : List Int) (p u x b : ByteArray) (z k y : Bool) (w : World) (hr : Reads w (.slice ao n cap) l) (hn : l.length ≤ 1048577) (hi : ¬ 1000000 < i) (ht : ¬ 100000 < t)
    (CP : Hid (∀ w, Calls Tryd.prog 42 #[.string { data := #[] }, .int .i64 i, .int .i64 t] w fun e w' => e = .returned (.tuple #[.string p, .bool z]) ∧ Below w.heap.size w w'))
    (HT : Hid (textV l = .tuple #[.string u, .bool k]))
    (CN : Hid (∀ w, Calls Tryd.prog 44 #[.string u] w fun e w' => e = .returned (.tuple #[.string (shT u), .bool true]) ∧ Below w.heap.size w w'))
    (CB : Hid (∀ w, Calls Tryd.prog 44 #[.string b] w fun e w' => e = .returned (.tuple #[.string x, .bool y]) ∧ Below w.heap.size w w'))
    (hz : (z && k && y) = false) :
    Calls Tryd.prog 14 #[.agg #[.int .i64 i, .int .i64 t, .slice ao n cap, .string b]] w fun e w' => e = .returned (.tuple #[.string ByteArray.empty, .bool false]) ∧ Below w.heap.size w w' := by
  have HR : Hid (Reads w (.slice ao n cap) l) := hr
  have HL : Hid (l.length ≤ 1048577) := hn
  clear hr hn
  cases z with
  | false =>
    clear hz
    go_enter Tryd.func14, Tryd.ntmps14
    go_wp2_with fail
    refine Calls.mono (CP.out _) ?_
    rintro e w1 ⟨rfl, hb1⟩
    obtain ⟨c0, c1, c2, c3⟩ := sb_cells (blk_on hb1)
    go_wp2_with fail
    refine Calls.mono (confText_any (HR.out.below ((ba (Below.refl _ _) _).trans (hb1.mono (by simp)))) HL.out) ?_
    rintro e w2 ⟨rfl, hb2⟩
    have K2 := blk_up (blk_on hb1) hb2
    clear c0 c1 c2 c3
    obtain ⟨c0, c1, c2, c3⟩ := sb_cells K2
    rw [HT.out]
    go_wp2_with fail
    refine Calls.mono (CN.out _) ?_
    rintro e w3 ⟨rfl, hb3⟩
    have K3 := blk_up K2 hb3
    clear c0 c1 c2 c3
    obtain ⟨c0, c1, c2, c3⟩ := sb_cells K3
    go_wp2_with fail
    refine Calls.mono (CB.out _) ?_
    rintro e w4 ⟨rfl, hb4⟩
    have B4 := ((ba (Below.refl w.heap.size w) _).trans (hb1.mono (by simp))).trans ((Below.on (Below.on hb2 hb3) hb4).mono (by have := hb1.size; simp at this; omega))
    clear c0 c1 c2 c3 K2 K3
    go_wp2
    go_ret2
    exact ⟨rfl, B4⟩
  | true =>
    cases k with
    | false =>
      clear hz
      go_enter Tryd.func14, Tryd.ntmps14
      go_wp2_with fail
      refine Calls.mono (CP.out _) ?_
      rintro e w1 ⟨rfl, hb1⟩
      obtain ⟨c0, c1, c2, c3⟩ := sb_cells (blk_on hb1)
      go_wp2_with fail
      refine Calls.mono (confText_any (HR.out.below ((ba (Below.refl _ _) _).trans (hb1.mono (by simp)))) HL.out) ?_
      rintro e w2 ⟨rfl, hb2⟩
      have K2 := blk_up (blk_on hb1) hb2
      clear c0 c1 c2 c3
      obtain ⟨c0, c1, c2, c3⟩ := sb_cells K2
      rw [HT.out]
      go_wp2_with fail
      refine Calls.mono (CN.out _) ?_
      rintro e w3 ⟨rfl, hb3⟩
      have K3 := blk_up K2 hb3
      clear c0 c1 c2 c3
      obtain ⟨c0, c1, c2, c3⟩ := sb_cells K3
      go_wp2_with fail
      refine Calls.mono (CB.out _) ?_
      rintro e w4 ⟨rfl, hb4⟩
      have B4 := ((ba (Below.refl w.heap.size w) _).trans (hb1.mono (by simp))).trans ((Below.on (Below.on hb2 hb3) hb4).mono (by have := hb1.size; simp at this; omega))
      clear c0 c1 c2 c3 K2 K3
      go_wp2
      go_ret2
      exact ⟨rfl, B4⟩
    | true =>
      have hy : y = false := by simpa using hz
      subst hy
      clear hz
      go_enter Tryd.func14, Tryd.ntmps14
      go_wp2_with fail
      refine Calls.mono (CP.out _) ?_
      rintro e w1 ⟨rfl, hb1⟩
      obtain ⟨c0, c1, c2, c3⟩ := sb_cells (blk_on hb1)
      go_wp2_with fail
      refine Calls.mono (confText_any (HR.out.below ((ba (Below.refl _ _) _).trans (hb1.mono (by simp)))) HL.out) ?_
      rintro e w2 ⟨rfl, hb2⟩
      have K2 := blk_up (blk_on hb1) hb2
      clear c0 c1 c2 c3
      obtain ⟨c0, c1, c2, c3⟩ := sb_cells K2
      rw [HT.out]
      go_wp2_with fail
      refine Calls.mono (CN.out _) ?_
      rintro e w3 ⟨rfl, hb3⟩
      have K3 := blk_up K2 hb3
      clear c0 c1 c2 c3
      obtain ⟨c0, c1, c2, c3⟩ := sb_cells K3
      go_wp2_with fail
      refine Calls.mono (CB.out _) ?_
      rintro e w4 ⟨rfl, hb4⟩
      have B4 := ((ba (Below.refl w.heap.size w) _).trans (hb1.mono (by simp))).trans ((Below.on (Below.on hb2 hb3) hb4).mono (by have := hb1.size; simp at this; omega))
      clear c0 c1 c2 c3 K2 K3
      go_wp2
      go_ret2
      exact ⟨rfl, B4⟩

set_option maxRecDepth 10000 in
set_option maxHeartbeats 2000000 in
/-- All parts of a snapshot have their texts. -/
theorem snapText_go (i t : Int) (ao : Option Addr) (n cap : Nat) (l : List Int) (p u b r : ByteArray) (q : Bool) (w : World) (hr : Reads w (.slice ao n cap) l) (hn : l.length ≤ 1048577) (hi : ¬ 1000000 < i) (ht : ¬ 100000 < t) (htb : TableIs w)
    (CP : Hid (∀ w, Calls Tryd.prog 42 #[.string { data := #[] }, .int .i64 i, .int .i64 t] w fun e w' => e = .returned (.tuple #[.string p, .bool true]) ∧ Below w.heap.size w w'))
    (HT : Hid (textV l = .tuple #[.string u, .bool true]))
    (CN : Hid (∀ w, Calls Tryd.prog 44 #[.string u] w fun e w' => e = .returned (.tuple #[.string (shT u), .bool true]) ∧ Below w.heap.size w w'))
    (CB : Hid (∀ w, Calls Tryd.prog 44 #[.string b] w fun e w' => e = .returned (.tuple #[.string (shT b), .bool true]) ∧ Below w.heap.size w w'))
    (h1 : ∀ wx, (Op.stringOp .add p (shT u)).run Tryd.prog wx = .ok (.string (p ++ shT u)) wx)
    (h2 : ∀ wx, (Op.stringOp .add (p ++ shT u) (shT b)).run Tryd.prog wx = .ok (.string (p ++ shT u ++ shT b)) wx)
    (CS : Hid (∀ w, TableIs w → Calls Tryd.prog 45 #[.string (p ++ shT u ++ shT b)] w fun e w' => e = .returned (.tuple #[.string r, .bool q]) ∧ Below w.heap.size w w')) (hrs : r.size ≤ 1048576) :
    Calls Tryd.prog 14 #[.agg #[.int .i64 i, .int .i64 t, .slice ao n cap, .string b]] w fun e w' => e = .returned (if q = true ∧ r.size ≤ 20000 then .tuple #[.string r, .bool true] else .tuple #[.string ByteArray.empty, .bool false]) ∧ Below w.heap.size w w' := by
  have HR : Hid (Reads w (.slice ao n cap) l) := hr
  have HL : Hid (l.length ≤ 1048577) := hn
  have HTB : Hid (TableIs w) := htb
  clear hr hn htb
  obtain ⟨RR, HRR⟩ : ∃ RR, Hid ((if q = true ∧ r.size ≤ 20000 then Value.tuple #[.string r, .bool true] else .tuple #[.string ByteArray.empty, .bool false]) = RR) := ⟨_, rfl⟩
  rw [HRR.out]
  go_enter Tryd.func14, Tryd.ntmps14
  go_wp2_with fail
  refine Calls.mono (CP.out _) ?_
  rintro e w1 ⟨rfl, hb1⟩
  obtain ⟨c0, c1, c2, c3⟩ := sb_cells (blk_on hb1)
  go_wp2_with fail
  refine Calls.mono (confText_any (HR.out.below ((ba (Below.refl _ _) _).trans (hb1.mono (by simp)))) HL.out) ?_
  rintro e w2 ⟨rfl, hb2⟩
  have K2 := blk_up (blk_on hb1) hb2
  clear c0 c1 c2 c3
  obtain ⟨c0, c1, c2, c3⟩ := sb_cells K2
  rw [HT.out]
  go_wp2_with fail
  refine Calls.mono (CN.out _) ?_
  rintro e w3 ⟨rfl, hb3⟩
  have K3 := blk_up K2 hb3
  clear c0 c1 c2 c3
  obtain ⟨c0, c1, c2, c3⟩ := sb_cells K3
  go_wp2_with fail
  refine Calls.mono (CB.out _) ?_
  rintro e w4 ⟨rfl, hb4⟩
  have B4 := ((ba (Below.refl w.heap.size w) _).trans (hb1.mono (by simp))).trans ((Below.on (Below.on hb2 hb3) hb4).mono (by have := hb1.size; simp at this; omega))
  clear c0 c1 c2 c3 K2 K3
  go_wp2_with fail
  refine Calls.mono (CS.out w4 ?_) ?_
  · exact HTB.out.below (Below.mono B4 (Nat.le_refl _))
  rintro e w5 ⟨rfl, hb5⟩
  have B5 := B4.trans (hb5.mono B4.size)
  clear B4 hb1 hb2 hb3 hb4 hb5
  cases q with
  | false =>
    go_wp2
    go_ret2
    exact ⟨by rw [← HRR.out, if_neg (by simp)]; rfl, B5⟩
  | true =>
    by_cases h20 : r.size ≤ 20000
    · go_wp2
      go_ret2
      exact ⟨by rw [← HRR.out, if_pos (by simp [h20])]; rfl, B5⟩
    · go_wp2
      go_ret2
      exact ⟨by rw [← HRR.out, if_neg (by simp [h20])]; rfl, B5⟩

set_option maxRecDepth 10000 in
set_option maxHeartbeats 2000000 in
theorem snapText_far (i t : Int) (ao : Option Addr) (n cap : Nat) (b : ByteArray) (w : World) (h : 1000000 < i ∨ 100000 < t) :
    Calls Tryd.prog 14 #[.agg #[.int .i64 i, .int .i64 t, .slice ao n cap, .string b]] w fun e w' => e = .returned (.tuple #[.string ByteArray.empty, .bool false]) ∧ Below w.heap.size w w' := by
  by_cases hi : 1000000 < i
  · clear h
    go_enter Tryd.func14, Tryd.ntmps14
    go_wp2
    go_ret2
    exact ⟨rfl, ba (Below.refl _ _) _⟩
  · have ht : 100000 < t := by omega
    clear h
    go_enter Tryd.func14, Tryd.ntmps14
    go_wp2
    go_ret2
    exact ⟨rfl, ba (Below.refl _ _) _⟩

theorem textC_size (l : List Int) : (textC l).size ≤ 4 := by
  unfold textC
  split
  · rename_i h
    rw [bstr_size]
    exact okC_len h
  · exact Nat.zero_le _
/-- The program's SnapText. -/
theorem snapText_any {i t : Int} {v : Value} {l : List Int} {b : ByteArray} {w : World} (hr : Reads w v l) (hn : l.length ≤ 1048577) (hb : b.size ≤ 1048576) (ht : TableIs w) :
    Calls Tryd.prog 14 #[.agg #[.int .i64 i, .int .i64 t, v, .string b]] w fun e w' => e = .returned (textSV i t l b) ∧ Below w.heap.size w w' := by
  obtain ⟨ao, cap, rfl, _⟩ := id hr
  by_cases hfar : 1000000 < i ∨ 100000 < t
  · rw [textSV_no (okS_no (by
      rcases hfar with h | h
      · exact .inr (.inl (idxB_no (.inr h)))
      · exact .inr (.inr (.inl (by unfold trmB; rw [decide_eq_false (show ¬ t ≤ 100000 by omega), Bool.and_false])))))]
    exact snapText_far i t ao _ cap b w hfar
  have CN : Hid (∀ w, Calls Tryd.prog 44 #[.string (textC l)] w fun e w' => e = .returned (.tuple #[.string (shT (textC l)), .bool true]) ∧ Below w.heap.size w w') := fun w => short_ok _ w (by have := textC_size l; omega)
  have HT : Hid (textV l = .tuple #[.string (textC l), .bool (okC l)]) := rfl
  by_cases hneg : i < 0 ∨ t < 0
  · have hno : okS i t l b = false := okS_no (by
      rcases hneg with h | h
      · exact .inr (.inl (idxB_no (.inl h)))
      · exact .inr (.inr (.inl (by unfold trmB; rw [decide_eq_false (show ¬ 0 ≤ t by omega), Bool.false_and]))))
    rw [textSV_no hno]
    obtain ⟨x, hx, CA⟩ := varText_any i
    obtain ⟨y, hy, CB⟩ := varText_any t
    have CP : Hid (∀ w, Calls Tryd.prog 42 #[.string { data := #[] }, .int .i64 i, .int .i64 t] w fun e w' => e = .returned (.tuple #[.string (x ++ y), .bool false]) ∧ Below w.heap.size w w') := fun w => pair0_bad i t x y w hneg hx hy CA CB
    by_cases h20 : b.size ≤ 20000
    · exact snapText_no i t ao _ cap l _ _ (shT b) b false (okC l) true w hr hn (by omega) (by omega) CP HT CN (fun w => short_ok b w h20) rfl
    · exact snapText_no i t ao _ cap l _ _ ByteArray.empty b false (okC l) false w hr hn (by omega) (by omega) CP HT CN (fun w => short_bad b w (by omega) (by omega)) rfl
  obtain ⟨I, rfl⟩ := Int.eq_ofNat_of_zero_le (show 0 ≤ i by omega)
  obtain ⟨T, rfl⟩ := Int.eq_ofNat_of_zero_le (show 0 ≤ t by omega)
  have CP : Hid (∀ w, Calls Tryd.prog 42 #[.string { data := #[] }, .int .i64 (I : Int), .int .i64 (T : Int)] w fun e w' => e = .returned (.tuple #[.string (bstr (varI I) ++ bstr (varI T)), .bool true]) ∧ Below w.heap.size w w') := fun w => pair0_ok I T w (by omega) (by omega)
  by_cases h20 : b.size ≤ 20000
  · cases hk : okC l with
    | false =>
      rw [textSV_no (okS_no (.inl hk))]
      exact snapText_no _ _ ao _ cap l _ _ (shT b) b true (okC l) true w hr hn (by omega) (by omega) CP HT CN (fun w => short_ok b w h20) (by rw [hk]; rfl)
    | true =>
      obtain ⟨z1, z2, z3, z4⟩ := snT_size (i := I) (t := T) (l := l) (b := b) (by omega) (by omega) (okC_len hk) h20
      have et : textC l = bstr l := by simp [textC, hk]
      have HT2 : Hid (textV l = .tuple #[.string (bstr l), .bool true]) := textV_yes hk
      rw [et] at CN
      have h1 : ∀ wx, (Op.stringOp .add (bstr (varI I) ++ bstr (varI T)) (shT (bstr l))).run Tryd.prog wx = .ok (.string (bstr (varI I) ++ bstr (varI T) ++ shT (bstr l))) wx := fun wx => by
        rw [run_string_add_sum wx _ _ (by rw [ByteArray.size_append]; omega)]
      have h2 : ∀ wx, (Op.stringOp .add (bstr (varI I) ++ bstr (varI T) ++ shT (bstr l)) (shT b)).run Tryd.prog wx = .ok (.string (bstr (varI I) ++ bstr (varI T) ++ shT (bstr l) ++ shT b)) wx := fun wx => by
        rw [run_string_add_sum wx _ _ (by rw [ByteArray.size_append, ByteArray.size_append]; omega)]
      have hid : idxB (I : Int) = true := idxB_in (by omega) (by omega)
      have htr : trmB (T : Int) = true := by unfold trmB; rw [decide_eq_true (show 0 ≤ (T : Int) by omega), decide_eq_true (show (T : Int) ≤ 100000 by omega)]; rfl
      have esz : (snT I T l b).size ≤ 20024 := by
        unfold snT
        rw [ByteArray.size_append, ByteArray.size_append, ByteArray.size_append]
        omega
      by_cases hs : (snT I T l b).size ≤ 20000
      · have CS : Hid (∀ w, TableIs w → Calls Tryd.prog 45 #[.string (snT I T l b)] w fun e w' => e = .returned (.tuple #[.string (sealT (snT I T l b)), .bool true]) ∧ Below w.heap.size w w') := fun w h => sealed_ok _ w hs h
        have hsz : (sealT (snT I T l b)).size = (snT I T l b).size + 4 := by unfold sealT; rw [ByteArray.size_append, tail4_size]
        have := snapText_go I T ao _ cap l _ _ b _ true w hr hn (by omega) (by omega) ht CP HT2 CN (fun w => short_ok b w h20) h1 h2 CS (by omega)
        refine this.mono ?_
        rintro e w' ⟨rfl, hb'⟩
        refine ⟨?_, hb'⟩
        by_cases h4 : (snT I T l b).size + 4 ≤ 20000
        · rw [if_pos ⟨rfl, by omega⟩, textSV_yes (okS_in hk hid htr h20 (by simpa using h4))]
          rfl
        · rw [if_neg (fun h => h4 (by omega)), textSV_no (okS_no (.inr (.inr (.inr (.inr (by simp only [Int.toNat_natCast]; omega))))))]
      · have CS : Hid (∀ w, TableIs w → Calls Tryd.prog 45 #[.string (snT I T l b)] w fun e w' => e = .returned (.tuple #[.string ByteArray.empty, .bool false]) ∧ Below w.heap.size w w') := fun w _ => sealed_bad _ w (by omega) (by omega)
        have := snapText_go I T ao _ cap l _ _ b _ false w hr hn (by omega) (by omega) ht CP HT2 CN (fun w => short_ok b w h20) h1 h2 CS (by decide)
        refine this.mono ?_
        rintro e w' ⟨rfl, hb'⟩
        exact ⟨by rw [if_neg (by simp), textSV_no (okS_no (.inr (.inr (.inr (.inr (by simp only [Int.toNat_natCast]; omega))))))], hb'⟩
  · rw [textSV_no (okS_no (.inr (.inr (.inr (.inl (by omega))))))]
    exact snapText_no _ _ ao _ cap l _ _ ByteArray.empty b true (okC l) false w hr hn (by omega) (by omega) CP HT CN (fun w => short_bad b w (by omega) (by omega)) (by simp)
end Go.Proofs.YtgpojfkdcdgloaaDoor

namespace Go.Proofs.YtgpojfkdcdgloaaDoor
open Go Go.RowKit

set_option maxHeartbeats 400000 in
theorem l05Short_any (s : ByteArray) (w : World) (hs : s.size ≤ 1048576) :
    Calls Tryd.prog 39 #[.string s] w fun e w' => e = .returned (.string (shT s)) ∧ Below w.heap.size w w' := by
  have hadd : ∀ wx, (Op.stringOp .add (bstr (varI s.size)) s).run Tryd.prog wx = .ok (.string (shT s)) wx := fun wx => run_string_add_sum wx _ s (by
    have hl := (varI_len5 (n := s.size) (by omega)).2
    have hb := bstr_size (varI s.size)
    omega)
  go_enter Tryd.func39, Tryd.ntmps39
  go_wp2_with (go_at_call 38; refine (l01Var_any _ _ (by omega)).mono ?_; rintro e w1 ⟨rfl, hb1⟩)
  go_ret
  exact ⟨rfl, hb1⟩

set_option maxRecDepth 10000 in
set_option maxHeartbeats 2000000 in
theorem specSnapText_no (i t : Int) (ao : Option Addr) (n cap : Nat) (l : List Int) (u b : ByteArray) (k p q : Bool) (w : World) (hr : Reads w (.slice ao n cap) l) (hn : l.length ≤ 1048577) (hb : b.size ≤ 1048576)
    (HT : Hid (textV l = .tuple #[.string u, .bool k]))
    (CI : Hid (∀ w, Calls Tryd.prog 33 #[.int .i64 i, .int .i64 0, .int .i64 1000000] w fun e w' => e = .returned (.bool p) ∧ w' = w))
    (CT : Hid (∀ w, Calls Tryd.prog 33 #[.int .i64 t, .int .i64 0, .int .i64 100000] w fun e w' => e = .returned (.bool q) ∧ w' = w))
    (hz : k = false ∨ p = false ∨ q = false ∨ 20000 < b.size) :
    Calls Tryd.prog 12 #[.agg #[.int .i64 i, .int .i64 t, .slice ao n cap, .string b]] w fun e w' => e = .returned (.tuple #[.string ByteArray.empty, .bool false]) ∧ Below w.heap.size w w' := by
  have HR : Hid (Reads w (.slice ao n cap) l) := hr
  have HL : Hid (l.length ≤ 1048577) := hn
  clear hr hn
  go_enter Tryd.func12, Tryd.ntmps12
  go_wp2_with fail
  refine Calls.mono (specConfText_any (HR.out.below (ba (Below.refl _ _) _)) HL.out) ?_
  rintro e w1 ⟨rfl, hb1⟩
  obtain ⟨c0, c1, c2, c3⟩ := sb_cells (blk_on hb1)
  have B1 := below_new hb1
  clear hb1
  rw [HT.out]
  cases k with
  | false =>
    clear hz
    go_wp2
    go_ret2
    exact ⟨rfl, B1⟩
  | true =>
    cases p with
    | false =>
      clear hz
      go_wp2_with (first | (go_at_call 33; with_reducible refine Calls.mono (CI.out _) ?_; rintro e w' ⟨rfl, hw⟩; have hw2 := hw.symm; subst hw2; clear hw) | (go_at_call 33; with_reducible refine Calls.mono (CT.out _) ?_; rintro e w' ⟨rfl, hw⟩; have hw2 := hw.symm; subst hw2; clear hw))
      go_ret2
      exact ⟨rfl, B1⟩
    | true =>
      cases q with
      | false =>
        clear hz
        go_wp2_with (first | (go_at_call 33; with_reducible refine Calls.mono (CI.out _) ?_; rintro e w' ⟨rfl, hw⟩; have hw2 := hw.symm; subst hw2; clear hw) | (go_at_call 33; with_reducible refine Calls.mono (CT.out _) ?_; rintro e w' ⟨rfl, hw⟩; have hw2 := hw.symm; subst hw2; clear hw))
        go_ret2
        exact ⟨rfl, B1⟩
      | true =>
        have hz2 : 20000 < b.size := by simpa using hz
        clear hz
        go_wp2_with (first | (go_at_call 33; with_reducible refine Calls.mono (CI.out _) ?_; rintro e w' ⟨rfl, hw⟩; have hw2 := hw.symm; subst hw2; clear hw) | (go_at_call 33; with_reducible refine Calls.mono (CT.out _) ?_; rintro e w' ⟨rfl, hw⟩; have hw2 := hw.symm; subst hw2; clear hw))
        go_ret2
        exact ⟨rfl, B1⟩

set_option maxRecDepth 10000 in
set_option maxHeartbeats 2000000 in
theorem specSnapText_go (I T : Nat) (ao : Option Addr) (n cap : Nat) (l : List Int) (b : ByteArray) (w : World) (hr : Reads w (.slice ao n cap) l) (hn : l.length ≤ 1048577) (hb : b.size ≤ 20000) (hI : I ≤ 1000000) (hT : T ≤ 100000)
    (hk : okC l = true) (hsz : (snT I T l b).size ≤ 20024) :
    Calls Tryd.prog 12 #[.agg #[.int .i64 I, .int .i64 T, .slice ao n cap, .string b]] w fun e w' => e = .returned (if (snT I T l b).size + 4 ≤ 20000 then .tuple #[.string (sealT (snT I T l b)), .bool true] else .tuple #[.string ByteArray.empty, .bool false]) ∧ Below w.heap.size w w' := by
  obtain ⟨z1, z2, z3, z4⟩ := snT_size (i := I) (t := T) (l := l) (b := b) (by omega) (by omega) (okC_len hk) hb
  have h0 : ∀ wx, (Op.stringOp .add (bstr (varI I)) (bstr (varI T))).run Tryd.prog wx = .ok (.string (bstr (varI I) ++ bstr (varI T))) wx := fun wx => by
    rw [run_string_add_sum wx _ _ (by omega)]
  have h1 : ∀ wx, (Op.stringOp .add (bstr (varI I) ++ bstr (varI T)) (shT (bstr l))).run Tryd.prog wx = .ok (.string (bstr (varI I) ++ bstr (varI T) ++ shT (bstr l))) wx := fun wx => by
    rw [run_string_add_sum wx _ _ (by rw [ByteArray.size_append]; omega)]
  have h2 : ∀ wx, (Op.stringOp .add (bstr (varI I) ++ bstr (varI T) ++ shT (bstr l)) (shT b)).run Tryd.prog wx = .ok (.string (snT I T l b)) wx := fun wx => by
    rw [run_string_add_sum wx _ _ (by rw [ByteArray.size_append, ByteArray.size_append]; omega)]
    rfl
  clear z1 z2 z3 z4
  have HT : Hid (textV l = .tuple #[.string (bstr l), .bool true]) := textV_yes hk
  have HR : Hid (Reads w (.slice ao n cap) l) := hr
  have HL : Hid (l.length ≤ 1048577) := hn
  have HC : Hid ((bstr l).size ≤ 1048576) := by show (bstr l).size ≤ _; rw [bstr_size]; have := okC_len hk; omega
  clear hr hn hk
  obtain ⟨RR, HRR⟩ : ∃ RR, Hid ((if (snT I T l b).size + 4 ≤ 20000 then Value.tuple #[.string (sealT (snT I T l b)), .bool true] else .tuple #[.string ByteArray.empty, .bool false]) = RR) := ⟨_, rfl⟩
  rw [HRR.out]
  obtain ⟨x, hx⟩ : ∃ x, snT I T l b = x := ⟨_, rfl⟩
  rw [hx] at h2 HRR hsz
  clear hx
  go_enter Tryd.func12, Tryd.ntmps12
  go_wp2_with fail
  refine Calls.mono (specConfText_any (HR.out.below (ba (Below.refl _ _) _)) HL.out) ?_
  rintro e w1 ⟨rfl, hb1⟩
  obtain ⟨c0, c1, c2, c3⟩ := sb_cells (blk_on hb1)
  have B1 := below_new hb1
  clear hb1
  rw [HT.out]
  have q0 := Wd.cell c0
  have q1 := Wd.cell c1
  have q3 := Wd.cell c3
  go_wp2_with (go_at_call 33; refine (l01In_yes _ _ _ _ (by omega) (by omega)).mono ?_; rintro e w' ⟨rfl, hw⟩; have hw2 := hw.symm; subst hw2; clear hw)
  refine wp_region_wd (by kernel_rfl) (by kernel_rfl) ?_
  repeat (go_big_quiet_step ((first | (go_at_call 38; refine calls_wd (v := .string (bstr (varI I))) ?_; with_reducible exact l01Var_any I _ (by omega)) | (go_at_call 38; refine calls_wd (v := .string (bstr (varI T))) ?_; with_reducible exact l01Var_any T _ (by omega)) | (go_at_call 39; refine calls_wd (v := .string (shT (bstr l))) ?_; with_reducible exact l05Short_any (bstr l) _ HC.out) | (go_at_call 39; refine calls_wd (v := .string (shT b)) ?_; with_reducible exact l05Short_any b _ (by omega)))))
  refine wpQuiet_nil ?_
  rintro _ ⟨v, rfl⟩
  have B2 := B1.trans (v.ok.mono B1.size)
  generalize v.at' = w2 at B2 ⊢
  clear q0 q1 q3 c0 c1 c2 c3 h0 h1 h2 B1
  by_cases h4 : x.size + 4 ≤ 20000
  · have HE := HRR.out
    rw [if_pos h4] at HE
    have HE : Hid (Value.tuple #[.string (sealT x), .bool true] = RR) := HE
    have CS : Hid (∀ w, Calls Tryd.prog 40 #[.string x] w fun e w' => e = .returned (.tuple #[.string (sealT x), .bool true]) ∧ Below w.heap.size w w') := fun w => specSealed_ok x w (by omega)
    have hx1 : ¬ 20000 < (x.size : Int) + 4 := by omega
    have hx2 : (x.size : Int) ≤ 20024 := by omega
    clear h4 hsz HRR
    generalize sealT x = r at HE CS
    go_wp2_with fail
    refine Calls.mono (CS.out _) ?_
    rintro e w3 ⟨rfl, hb3⟩
    go_wp2
    go_ret2
    exact ⟨by rw [← HE.out]; rfl, Below.on B2 hb3⟩
  · have HE := HRR.out
    rw [if_neg h4] at HE
    have HE : Hid (Value.tuple #[.string ByteArray.empty, .bool false] = RR) := HE
    have hx1 : 20000 < (x.size : Int) + 4 := by omega
    have hx2 : (x.size : Int) ≤ 20024 := by omega
    clear h4 hsz HRR
    go_wp2
    go_ret2
    exact ⟨by rw [← HE.out]; rfl, B2⟩

/-- The specification's SnapText. -/
theorem specSnapText_any {i t : Int} {v : Value} {l : List Int} {b : ByteArray} {w : World} (hr : Reads w v l) (hn : l.length ≤ 1048577) (hb : b.size ≤ 1048576) :
    Calls Tryd.prog 12 #[.agg #[.int .i64 i, .int .i64 t, v, .string b]] w fun e w' => e = .returned (textSV i t l b) ∧ Below w.heap.size w w' := by
  obtain ⟨ao, cap, rfl, _⟩ := id hr
  have HT : Hid (textV l = .tuple #[.string (textC l), .bool (okC l)]) := rfl
  have CI : Hid (∀ w, Calls Tryd.prog 33 #[.int .i64 i, .int .i64 0, .int .i64 1000000] w fun e w' => e = .returned (.bool (idxB i)) ∧ w' = w) := fun w => in_any i 0 1000000 w
  have CT : Hid (∀ w, Calls Tryd.prog 33 #[.int .i64 t, .int .i64 0, .int .i64 100000] w fun e w' => e = .returned (.bool (trmB t)) ∧ w' = w) := fun w => in_any t 0 100000 w
  by_cases hz : okC l = false ∨ idxB i = false ∨ trmB t = false ∨ 20000 < b.size
  · rw [textSV_no (okS_no (by rcases hz with h | h | h | h <;> simp [h]))]
    exact specSnapText_no i t ao _ cap l _ b _ _ _ w hr hn hb HT CI CT hz
  · have hk : okC l = true := by cases h : okC l <;> simp_all
    have hid : idxB i = true := by cases h : idxB i <;> simp_all
    have htr : trmB t = true := by cases h : trmB t <;> simp_all
    have h20 : b.size ≤ 20000 := by
      rcases Nat.lt_or_ge 20000 b.size with h | h
      · exact absurd (.inr (.inr (.inr h))) hz
      · exact h
    obtain ⟨I, rfl⟩ := Int.eq_ofNat_of_zero_le (idxB_out hid).1
    obtain ⟨T, rfl⟩ := Int.eq_ofNat_of_zero_le (trmB_out htr).1
    have a1 := (idxB_out hid).2
    have a2 := (trmB_out htr).2
    obtain ⟨z1, z2, z3, z4⟩ := snT_size (i := I) (t := T) (l := l) (b := b) (by omega) (by omega) (okC_len hk) h20
    have esz : (snT I T l b).size ≤ 20024 := by
      unfold snT
      rw [ByteArray.size_append, ByteArray.size_append, ByteArray.size_append]
      omega
    refine (specSnapText_go I T ao _ cap l b w hr hn h20 (by omega) (by omega) hk esz).mono ?_
    rintro e w' ⟨rfl, hb'⟩
    refine ⟨?_, hb'⟩
    by_cases h4 : (snT I T l b).size + 4 ≤ 20000
    · rw [if_pos h4, textSV_yes (okS_in hk hid htr h20 (by simpa using h4))]
      rfl
    · rw [if_neg h4, textSV_no (okS_no (.inr (.inr (.inr (.inr (by simp only [Int.toNat_natCast]; omega))))))]
end Go.Proofs.YtgpojfkdcdgloaaDoor

namespace Go.Proofs.YtgpojfkdcdgloaaDoor
open Go Go.RowKit

/-- The block of a record of four cells that is wholly there. -/
theorem cells4_new {w w' : World} {a b c d : Value} {t : TypeId} (hb : Below (w.alloc (.cells #[a, b, c, d] t)).heap.size (w.alloc (.cells #[a, b, c, d] t)) w') :
    w'.cell? ⟨w.heap.size, 0, none⟩ = some a ∧ w'.cell? ⟨w.heap.size, 1, none⟩ = some b ∧ w'.cell? ⟨w.heap.size, 2, none⟩ = some c ∧ w'.cell? ⟨w.heap.size, 3, none⟩ = some d := sb_cells (blk_on hb)

set_option maxHeartbeats 1000000 in
theorem szIntS_any (ao : Option Addr) (n c : Nat) (left : Int) (w : World) (hl : left ≤ 1048576) (h0 : 0 ≤ left) (hn : n ≤ 9223372036854775807) :
    Calls Tryd.prog 36 #[.slice ao n c, .int .i64 left] w fun e w' => ∃ r : Int, e = .returned (.int .i64 r) ∧ (r = -1 ∨ 0 ≤ r ∧ r = left - n) ∧ w' = w := by
  go_enter Tryd.func36, Tryd.ntmps36
  go_wp2
  · go_ret
    exact ⟨-1, rfl, .inl rfl, rfl⟩
  · go_ret
    exact ⟨left - n, by go_num, .inr ⟨by omega, rfl⟩, rfl⟩

set_option maxHeartbeats 1000000 in
theorem szSnap_any (i t : Int) (x : Value) (l : List Int) (b : ByteArray) (left : Int) (w : World) (hr : Reads w x l) (hb : b.size ≤ 9223372036854775807) (hl : left ≤ 1048576) (h0 : 0 ≤ left) (hn : l.length ≤ 9223372036854775807) :
    Calls Tryd.prog 11 #[.agg #[.int .i64 i, .int .i64 t, x, .string b], .int .i64 left] w fun e w' => ∃ r : Int, e = .returned (.int .i64 r) ∧ (r = -1 ∨ 0 ≤ r ∧ r = left - l.length - b.size) ∧ Below w.heap.size w w' := by
  obtain ⟨ao, cap, rfl, _⟩ := id hr
  clear hr
  generalize l.length = n at hn ⊢
  go_enter Tryd.func11, Tryd.ntmps11
  go_wp2_with fail
  refine (szIntS_any ao n cap left _ hl h0 hn).mono ?_
  rintro e w2 ⟨r2, rfl, h2, rfl⟩
  rcases h2 with rfl | ⟨h2, h3⟩
  · go_wp2
    go_ret
    exact ⟨-1, rfl, .inl rfl, ba (Below.refl _ _) _⟩
  · have H3 : Hid (r2 = left - n) := h3
    have h4 : r2 ≤ 1048576 := by omega
    clear h3
    go_wp2
    · go_ret
      exact ⟨-1, rfl, .inl rfl, ba (Below.refl _ _) _⟩
    · go_ret
      exact ⟨r2 - b.size, by go_num, .inr ⟨by omega, by rw [H3.out]⟩, ba (Below.refl _ _) _⟩

theorem ret_snap {fn : Func} {p : Tmp} {w : World} {g : Nat} {a b c d : Value} {tmps : Array Value} (h : fn.results = #[.cell p 30]) (hp : tmps.getD p undef = .pointer (some ⟨g, 0, none⟩)) (h0 : w.cell? ⟨g, 0, none⟩ = some a) (h1 : w.cell? ⟨g, 1, none⟩ = some b) (h2 : w.cell? ⟨g, 2, none⟩ = some c) (h3 : w.cell? ⟨g, 3, none⟩ = some d) :
    (results fn tmps).run Tryd.prog w = .ok (.agg #[a, b, c, d]) w := by
  have hp' : tmps[p]?.getD undef = .pointer (some ⟨g, 0, none⟩) := by simpa using hp
  simp [results, h, hp', h0, h1, h2, h3, asAddr, go_sem]

set_option maxHeartbeats 1000000 in
theorem toSnap_any (i t : Int) (v : Value) (l : List Int) (b : ByteArray) (w : World) (hr : Reads w v l) (hn : l.length ≤ 1048576) :
    Calls Tryd.prog 13 #[.agg #[.int .i64 i, .int .i64 t, v, .string b]] w fun e w' => ∃ v', e = .returned (.agg #[.int .i64 i, .int .i64 t, v', .string b]) ∧ ownsR w' w.heap.size 3 v' l ∧ Below w.heap.size w w' := by
  obtain ⟨ao, cap, rfl, _⟩ := id hr
  have HR : Hid (Reads w (.slice ao l.length cap) l) := hr
  clear hr
  go_enter Tryd.func13, Tryd.ntmps13
  go_wp2_with fail
  refine Calls.mono (toIntS_any ao l.length cap l _ (HR.out.below ?_) hn) ?_
  · exact ba (ba (ba (Below.refl _ _) _) _) _
  rintro e w2 ⟨v2, rfl, h2, hb2⟩
  obtain ⟨ao2, cap2, rfl⟩ := h2.slice
  have qa0 : w2.cell? ⟨w.heap.size, 0, none⟩ = some (.int .i64 i) := (hb2.cell (by simp; omega)).trans (by simp [go_sem])
  have qa3 : w2.cell? ⟨w.heap.size, 3, none⟩ = some (.string b) := (hb2.cell (by simp; omega)).trans (by simp [go_sem])
  have q0 : w2.cell? ⟨w.heap.size + 1 + 1, 0, none⟩ = some (.int .i64 i) := (hb2.cell (by simp)).trans (by simp [go_sem])
  have q1 : w2.cell? ⟨w.heap.size + 1 + 1, 1, none⟩ = some (.int .i64 t) := (hb2.cell (by simp)).trans (by simp [go_sem])
  have q2 : w2.cell? ⟨w.heap.size + 1 + 1, 2, none⟩ = some (.slice none 0 0) := (hb2.cell (by simp)).trans (by simp [go_sem])
  have q3 : w2.cell? ⟨w.heap.size + 1 + 1, 3, none⟩ = some (.string { data := #[] }) := (hb2.cell (by simp)).trans (by simp [go_sem])
  have z2 : w2.frozen? ⟨w.heap.size + 1 + 1, 2, none⟩ = false := (hb2.frozen (by simp)).trans (by simp [go_sem])
  have z3 : w2.frozen? ⟨w.heap.size + 1 + 1, 3, none⟩ = false := (hb2.frozen (by simp)).trans (by simp [go_sem])
  have p0 : w2.cell? ⟨w.heap.size + 1, 0, none⟩ = some (.int .i64 0) := (hb2.cell (by simp)).trans (by simp [go_sem])
  have p1 : w2.cell? ⟨w.heap.size + 1, 1, none⟩ = some (.int .i64 0) := (hb2.cell (by simp)).trans (by simp [go_sem])
  have p2 : w2.cell? ⟨w.heap.size + 1, 2, none⟩ = some (.slice none 0 0) := (hb2.cell (by simp)).trans (by simp [go_sem])
  have p3 : w2.cell? ⟨w.heap.size + 1, 3, none⟩ = some (.string { data := #[] }) := (hb2.cell (by simp)).trans (by simp [go_sem])
  have y0 : w2.frozen? ⟨w.heap.size + 1, 0, none⟩ = false := (hb2.frozen (by simp)).trans (by simp [go_sem])
  have y1 : w2.frozen? ⟨w.heap.size + 1, 1, none⟩ = false := (hb2.frozen (by simp)).trans (by simp [go_sem])
  have y2 : w2.frozen? ⟨w.heap.size + 1, 2, none⟩ = false := (hb2.frozen (by simp)).trans (by simp [go_sem])
  have y3 : w2.frozen? ⟨w.heap.size + 1, 3, none⟩ = false := (hb2.frozen (by simp)).trans (by simp [go_sem])
  have hb3 : Below w.heap.size w w2 := (ba (ba (ba (Below.refl _ _) _) _) _).trans (hb2.mono (by simp; omega))
  clear hb2
  go_wp2
  refine bodyPost_ret (ret_snap (a := .int .i64 i) (b := .int .i64 t) (c := .slice ao2 l.length cap2) (d := .string b) rfl rfl (by simp [go_sem, p0]) (by simp [go_sem, p1]) (by simp [go_sem, p2]) (by simp [go_sem, p3])) rfl ⟨_, rfl, ?_, ?_⟩
  · refine ownsR.mono (ownsR.setBelow (ownsR.setBelow (ownsR.setBelow (ownsR.setBelow (ownsR.setBelow (ownsR.setBelow h2 ?_ _) ?_ _) ?_ _) ?_ _) ?_ _) ?_ _) ?_ <;> simp <;> omega
  · refine Below.setCell (Below.setCell (Below.setCell (Below.setCell (Below.setCell (Below.setCell hb3 ?_ _) ?_ _) ?_ _) ?_ _) ?_ _) ?_ _ <;> simp <;> omega

set_option maxHeartbeats 1000000 in
theorem eqSnap_any (i t : Int) (va vb : Value) (l : List Int) (b : ByteArray) (w : World) (ha : Reads w va l) (hb : Reads w vb l) (hn : l.length ≤ 1048577) :
    Calls Tryd.prog 15 #[.agg #[.int .i64 i, .int .i64 t, va, .string b], .agg #[.int .i64 i, .int .i64 t, vb, .string b]] w fun e w' => e = .returned (.bool true) ∧ Below w.heap.size w w' := by
  obtain ⟨ao, c, rfl, _⟩ := id ha
  obtain ⟨bo, d, rfl, _⟩ := id hb
  have HA : Hid (Reads w (.slice ao l.length c) l) := ha
  have HB : Hid (Reads w (.slice bo l.length d) l) := hb
  clear ha hb
  go_enter Tryd.func15, Tryd.ntmps15
  go_wp2_with fail
  refine (eqIntS_any ao bo l.length c d l _ ((HA.out.alloc _).alloc _) ((HB.out.alloc _).alloc _) hn).mono ?_
  rintro e w2 ⟨rfl, hb2⟩
  have p3 : w2.cell? ⟨w.heap.size, 3, none⟩ = some (.string b) := (hb2.cell (by simp; omega)).trans (by simp [go_sem])
  have q3 : w2.cell? ⟨w.heap.size + 1, 3, none⟩ = some (.string b) := (hb2.cell (by simp)).trans (by simp [go_sem])
  have B2 : Below w.heap.size w w2 := (ba (ba (Below.refl _ _) _) _).trans (hb2.mono (by simp; omega))
  clear hb2
  go_wp2
  go_ret
  exact ⟨rfl, B2⟩

set_option maxHeartbeats 1000000 in
theorem markSnap_any {w : World} {B : Nat} {i t x : Int} {v : Value} {l : List Int} {b : ByteArray} (ho : ownsR w B 3 v l) (hn : l.length ≤ 1048577) (hx0 : 0 ≤ x) (hx : x ≤ 1073741824) :
    Calls Tryd.prog 18 #[.agg #[.int .i64 i, .int .i64 t, v, .string b], .int .i64 x] w fun e w' => e = .returned (.int .i64 (x + l.length)) ∧ w.grownBy w' v.ownBlock := by
  obtain ⟨ao, c, rfl⟩ := ho.slice
  have HO : Hid (ownsR w B 3 (.slice ao l.length c) l) := ho
  clear ho
  go_enter Tryd.func18, Tryd.ntmps18
  go_wp2_with fail
  refine (markIntS_any' (HO.out.alloc _) hn hx0 hx).mono ?_
  rintro e w2 ⟨rfl, hb2⟩
  go_wp2
  go_ret
  exact ⟨rfl, grown_trans (World.grownBy_alloc w _ _) hb2⟩
set_option maxHeartbeats 1000000 in
theorem markSnap_one {w : World} {B : Nat} {i t : Int} {v : Value} {l : List Int} {b : ByteArray} (ho : ownsR w B 3 v l) (hn : l.length ≤ 1048577) :
    Calls Tryd.prog 18 #[.agg #[.int .i64 i, .int .i64 t, v, .string b], .int .i64 1] w fun e w' => e = .returned (.int .i64 (1 + (l.length : Int))) ∧ ownsR w' B 3 v (marksR id 1 1 l.length) ∧ w.grownBy w' v.ownBlock := by
  obtain ⟨ao, c, rfl⟩ := ho.slice
  have HO : Hid (ownsR w B 3 (.slice ao l.length c) l) := ho
  clear ho
  go_enter Tryd.func18, Tryd.ntmps18
  go_wp2_with fail
  refine (markInt_any (HO.out.alloc _) hn).mono ?_
  rintro e w2 ⟨rfl, ho2, hb2⟩
  go_wp2
  go_ret
  exact ⟨rfl, ho2, grown_trans (World.grownBy_alloc w _ _) hb2⟩
set_option maxHeartbeats 1000000 in
theorem heldSnap_one {w : World} {i t : Int} {n : Nat} {v : Value} {b : ByteArray} (hr : Reads w v (marksR (id : Int → Int) 1 1 n)) (hn : n ≤ 1048577) :
    Calls Tryd.prog 19 #[.agg #[.int .i64 i, .int .i64 t, v, .string b], .int .i64 1] w fun e w' => e = .returned (.int .i64 (1 + (n : Int))) ∧ Below w.heap.size w w' := by
  obtain ⟨ao, c, rfl, _⟩ := id hr
  rw [marksR_length] at hr ⊢
  have HR : Hid (Reads w (.slice ao n c) (marksR (id : Int → Int) 1 1 n)) := hr
  clear hr
  go_enter Tryd.func19, Tryd.ntmps19
  go_wp2_with fail
  refine (heldInt_try ao n c _ (HR.out.alloc _) hn).mono ?_
  rintro e w2 ⟨rfl, rfl⟩
  go_wp2
  go_ret
  exact ⟨rfl, ba (Below.refl _ _) _⟩
end Go.Proofs.YtgpojfkdcdgloaaDoor
