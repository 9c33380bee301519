/-
  The text of a snapshot: what it is, and the walks of what writes it.
-/
import Derived.Test.YtgpojfkdcdgloaaDoorSn
import Derived.Test.YtgpojfkdcdgloaaDoorSh
import Derived.Test.YtgpojfkdcdgloaaDoorCt
import Derived.Test.YtgpojfkdcdgloaaDoorUns
namespace Go.Proofs.YtgpojfkdcdgloaaDoor
open Go Go.RowKit

theorem varI_len5 {n : Nat} (hn : n ≤ 1000000000) : 1 ≤ (varI n).length ∧ (varI n).length ≤ 5 := by
  by_cases h1 : 127 < n
  · rw [varI_more h1]
    by_cases h2 : 127 < n / 128
    · rw [varI_more h2]
      by_cases h3 : 127 < n / 128 / 128
      · rw [varI_more h3]
        by_cases h4 : 127 < n / 128 / 128 / 128
        · rw [varI_more h4]
          rw [varI_last (show ¬ 127 < n / 128 / 128 / 128 / 128 by omega)]
          simp
        · rw [varI_last h4]; simp
      · rw [varI_last h3]; simp
    · rw [varI_last h2]; simp
  · rw [varI_last h1]; simp
/-- A short text, behind its length. -/
def shT (s : ByteArray) : ByteArray := bstr (varI s.size) ++ s
theorem shT_size {s : ByteArray} (h : s.size ≤ 1000000000) : s.size + 1 ≤ (shT s).size ∧ (shT s).size ≤ s.size + 5 := by
  have := varI_len5 h
  unfold shT
  rw [ByteArray.size_append, bstr_size]
  omega
/-- Whether a term is one. -/
def trmB (n : Int) : Bool := decide (0 ≤ n) && decide (n ≤ 100000)
theorem trmB_out {n : Int} (h : trmB n = true) : 0 ≤ n ∧ n ≤ 100000 := by simpa [trmB] using h
/-- What is sealed. -/
def snT (i t : Nat) (l : List Int) (b : ByteArray) : ByteArray := bstr (varI i) ++ bstr (varI t) ++ shT (bstr l) ++ shT b
/-- Whether a snapshot has a text. -/
def okS (i t : Int) (l : List Int) (b : ByteArray) : Bool := okC l && idxB i && trmB t && decide (b.size ≤ 20000) && decide ((snT i.toNat t.toNat l b).size + 4 ≤ 20000)
/-- The text of a snapshot. -/
def textS (i t : Int) (l : List Int) (b : ByteArray) : ByteArray := if okS i t l b then sealT (snT i.toNat t.toNat l b) else ByteArray.empty
def textSV (i t : Int) (l : List Int) (b : ByteArray) : Value := .tuple #[.string (textS i t l b), .bool (okS i t l b)]
theorem textSV_no {i t : Int} {l : List Int} {b : ByteArray} (h : okS i t l b = false) : textSV i t l b = .tuple #[.string ByteArray.empty, .bool false] := by simp [textSV, textS, h]
theorem textSV_yes {i t : Int} {l : List Int} {b : ByteArray} (h : okS i t l b = true) : textSV i t l b = .tuple #[.string (sealT (snT i.toNat t.toNat l b)), .bool true] := by simp [textSV, textS, h]
theorem okS_out {i t : Int} {l : List Int} {b : ByteArray} (h : okS i t l b = true) : okC l = true ∧ idxB i = true ∧ trmB t = true ∧ b.size ≤ 20000 ∧ (snT i.toNat t.toNat l b).size + 4 ≤ 20000 := by
  unfold okS at h
  simp only [Bool.and_eq_true, decide_eq_true_eq] at h
  exact ⟨h.1.1.1.1, h.1.1.1.2, h.1.1.2, h.1.2, h.2⟩
theorem okS_in {i t : Int} {l : List Int} {b : ByteArray} (h1 : okC l = true) (h2 : idxB i = true) (h3 : trmB t = true) (h4 : b.size ≤ 20000) (h5 : (snT i.toNat t.toNat l b).size + 4 ≤ 20000) : okS i t l b = true := by
  unfold okS
  simp [h1, h2, h3, h4, h5]
theorem okS_no {i t : Int} {l : List Int} {b : ByteArray} (h : okC l = false ∨ idxB i = false ∨ trmB t = false ∨ 20000 < b.size ∨ 20000 < (snT i.toNat t.toNat l b).size + 4) : okS i t l b = false := by
  cases hk : okS i t l b with
  | false => rfl
  | true =>
    obtain ⟨a1, a2, a3, a4, a5⟩ := okS_out hk
    rw [a1, a2, a3] at h
    simp at h
    omega
theorem snT_size {i t : Nat} {l : List Int} {b : ByteArray} (hi : i ≤ 1000000000) (ht : t ≤ 1000000000) (hl : l.length ≤ 4) (hb : b.size ≤ 20000) :
    (bstr (varI i)).size ≤ 5 ∧ (bstr (varI t)).size ≤ 5 ∧ (shT (bstr l)).size ≤ 9 ∧ (shT b).size ≤ 20005 := by
  have a1 := varI_len5 hi
  have a2 := varI_len5 ht
  have a3 := shT_size (s := bstr l) (by rw [bstr_size]; omega)
  have a4 := shT_size (s := b) (by omega)
  rw [bstr_size] at a3
  rw [bstr_size, bstr_size]
  omega

theorem empty_add (s : ByteArray) : ({ data := #[] } : ByteArray) ++ s = s := by
  apply ByteArray.ext
  rw [ByteArray.data_append]
  simp
set_option maxRecDepth 10000 in
set_option maxHeartbeats 1000000 in
theorem pair0_ok (a b : Nat) (w : World) (ha : a ≤ 1000000000) (hb : b ≤ 1000000000) :
    Calls Tryd.prog 42 #[.string { data := #[] }, .int .i64 a, .int .i64 b] w fun e w' => e = .returned (.tuple #[.string (bstr (varI a) ++ bstr (varI b)), .bool true]) ∧ Below w.heap.size w w' := by
  have q1 := varI_len5 ha
  have q2 := varI_len5 hb
  have h1 : ∀ wx, (Op.stringOp .add { data := #[] } (bstr (varI a))).run Tryd.prog wx = .ok (.string (bstr (varI a))) wx := fun wx => by
    rw [run_string_add_sum wx _ _ (by rw [bstr_size, show ({ data := #[] } : ByteArray).size = 0 from rfl]; omega), empty_add]
  have h2 : ∀ wx, (Op.stringOp .add (bstr (varI a)) (bstr (varI b))).run Tryd.prog wx = .ok (.string (bstr (varI a) ++ bstr (varI b))) wx := fun wx => by
    rw [run_string_add_sum wx _ _ (by rw [bstr_size, bstr_size]; omega)]
  clear q1 q2
  have CA : Hid (∀ w, Calls Tryd.prog 74 #[.int .i64 a] w fun e w' => e = .returned (.tuple #[.string (bstr (varI a)), .bool true]) ∧ Below w.heap.size w w') := fun w => varText_ok a w ha
  have CB : Hid (∀ w, Calls Tryd.prog 74 #[.int .i64 b] w fun e w' => e = .returned (.tuple #[.string (bstr (varI b)), .bool true]) ∧ Below w.heap.size w w') := fun w => varText_ok b w hb
  go_enter Tryd.func42, Tryd.ntmps42
  go_wp2_with fail
  refine Calls.mono (CA.out _) ?_
  rintro e w1 ⟨rfl, hb1⟩
  go_wp2_with fail
  refine Calls.mono (CB.out _) ?_
  rintro e w2 ⟨rfl, hb2⟩
  go_wp2
  go_ret2
  exact ⟨rfl, Below.on hb1 hb2⟩

/-- What VarText makes of any number. -/
theorem varText_any (n : Int) : ∃ t : ByteArray, t.size ≤ 5 ∧ ∀ w, Calls Tryd.prog 74 #[.int .i64 n] w fun e w' => e = .returned (.tuple #[.string t, .bool (decide (0 ≤ n) && decide (n ≤ 1000000000))]) ∧ Below w.heap.size w w' := by
  by_cases h : n < 0 ∨ 1000000000 < n
  · refine ⟨ByteArray.empty, Nat.zero_le _, fun w => ?_⟩
    have e : (decide (0 ≤ n) && decide (n ≤ 1000000000)) = false := by
      rw [Bool.and_eq_false_iff]
      rcases h with h | h
      · exact .inl (decide_eq_false (by omega))
      · exact .inr (decide_eq_false (by omega))
    rw [e]
    exact varText_bad n w h
  · obtain ⟨k, rfl⟩ := Int.eq_ofNat_of_zero_le (show 0 ≤ n by omega)
    refine ⟨bstr (varI k), ?_, fun w => ?_⟩
    · rw [bstr_size]; exact (varI_len5 (by omega)).2
    · have e : (decide (0 ≤ (k : Int)) && decide ((k : Int) ≤ 1000000000)) = true := by simp; omega
      rw [e]
      exact varText_ok k w (by omega)
set_option maxRecDepth 10000 in
set_option maxHeartbeats 1000000 in
theorem pair0_bad (a b : Int) (x y : ByteArray) (w : World) (h : a < 0 ∨ b < 0) (hx : x.size ≤ 5) (hy : y.size ≤ 5)
    (CA : ∀ w, Calls Tryd.prog 74 #[.int .i64 a] w fun e w' => e = .returned (.tuple #[.string x, .bool (decide (0 ≤ a) && decide (a ≤ 1000000000))]) ∧ Below w.heap.size w w')
    (CB : ∀ w, Calls Tryd.prog 74 #[.int .i64 b] w fun e w' => e = .returned (.tuple #[.string y, .bool (decide (0 ≤ b) && decide (b ≤ 1000000000))]) ∧ Below w.heap.size w w') :
    Calls Tryd.prog 42 #[.string { data := #[] }, .int .i64 a, .int .i64 b] w fun e w' => e = .returned (.tuple #[.string (x ++ y), .bool false]) ∧ Below w.heap.size w w' := by
  obtain ⟨p, hp⟩ : ∃ p, (decide (0 ≤ a) && decide (a ≤ 1000000000)) = p := ⟨_, rfl⟩
  obtain ⟨q, hq⟩ : ∃ q, (decide (0 ≤ b) && decide (b ≤ 1000000000)) = q := ⟨_, rfl⟩
  have hpq : p = false ∨ q = false := by
    rcases h with h | h
    · exact .inl (by rw [← hp, decide_eq_false (show ¬ 0 ≤ a by omega)]; rfl)
    · exact .inr (by rw [← hq, decide_eq_false (show ¬ 0 ≤ b by omega)]; rfl)
  rw [hp] at CA
  rw [hq] at CB
  have CA : Hid (∀ w, Calls Tryd.prog 74 #[.int .i64 a] w fun e w' => e = .returned (.tuple #[.string x, .bool p]) ∧ Below w.heap.size w w') := CA
  have CB : Hid (∀ w, Calls Tryd.prog 74 #[.int .i64 b] w fun e w' => e = .returned (.tuple #[.string y, .bool q]) ∧ Below w.heap.size w w') := CB
  clear hp hq h
  have h1 : ∀ wx, (Op.stringOp .add { data := #[] } x).run Tryd.prog wx = .ok (.string x) wx := fun wx => by
    rw [run_string_add_sum wx _ _ (by rw [show ({ data := #[] } : ByteArray).size = 0 from rfl]; omega), empty_add]
  have h2 : ∀ wx, (Op.stringOp .add x y).run Tryd.prog wx = .ok (.string (x ++ y)) wx := fun wx => by
    rw [run_string_add_sum wx _ _ (by omega)]
  clear hx hy
  cases p with
  | false =>
    clear hpq
    go_enter Tryd.func42, Tryd.ntmps42
    go_wp2_with fail
    refine Calls.mono (CA.out _) ?_
    rintro e w1 ⟨rfl, hb1⟩
    go_wp2_with fail
    refine Calls.mono (CB.out _) ?_
    rintro e w2 ⟨rfl, hb2⟩
    go_wp2
    go_ret2
    exact ⟨rfl, Below.on hb1 hb2⟩
  | true =>
    have hq : q = false := by simpa using hpq
    subst hq
    clear hpq
    go_enter Tryd.func42, Tryd.ntmps42
    go_wp2_with fail
    refine Calls.mono (CA.out _) ?_
    rintro e w1 ⟨rfl, hb1⟩
    go_wp2_with fail
    refine Calls.mono (CB.out _) ?_
    rintro e w2 ⟨rfl, hb2⟩
    go_wp2
    go_ret2
    exact ⟨rfl, Below.on hb1 hb2⟩

/-- What lies in the block of a snapshot that came in. -/
def Sb (w : World) (g : Nat) (i t : Int) (v : Value) (b : ByteArray) : Prop := w.heap[g]? = some (.cells #[.int .i64 i, .int .i64 t, v, .string b] 30)
theorem sb_cells {w : World} {g : Nat} {x0 x1 x2 x3 : Value} {t : TypeId} (h : w.heap[g]? = some (.cells #[x0, x1, x2, x3] t)) :
    w.cell? ⟨g, 0, none⟩ = some x0 ∧ w.cell? ⟨g, 1, none⟩ = some x1 ∧ w.cell? ⟨g, 2, none⟩ = some x2 ∧ w.cell? ⟨g, 3, none⟩ = some x3 := by
  simp [World.cell?, h]
end Go.Proofs.YtgpojfkdcdgloaaDoor
