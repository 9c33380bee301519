/-
  The text of a snapshot: what it is, and the walks of what writes it.
-/
import Derived.Test.YtingfgbcinlflaaDoorSn
import Derived.Test.YtingfgbcinlflaaDoorSh
import Derived.Test.YtingfgbcinlflaaDoorCt
import Derived.Test.YtingfgbcinlflaaDoorUns
namespace Go.Proofs.YtingfgbcinlflaaDoor
open Go Go.RowKit

theorem varI_len5 {n : Nat} (hn : n ≤ 1000000000) : 1 ≤ (varI n).length ∧ (varI n).length ≤ 5 := by
  by_cases h1 : 127 < n
  · rw [varI_more h1]
    by_cases h2 : 127 < n / 128
    · rw [varI_more h2]
      by_cases h3 : 127 < n / 128 / 128
      · rw [varI_more h3]
        by_cases h4 : 127 < n / 128 / 128 / 128
        · rw [varI_more h4]
          rw [varI_last (show ¬ 127 < n / 128 / 128 / 128 / 128 by omega)]
          simp
        · rw [varI_last h4]; simp
      · rw [varI_last h3]; simp
    · rw [varI_last h2]; simp
  · rw [varI_last h1]; simp
/-- A short text, behind its length. -/
def shT (s : ByteArray) : ByteArray := bstr (varI s.size) ++ s
theorem shT_size {s : ByteArray} (h : s.size ≤ 1000000000) : s.size + 1 ≤ (shT s).size ∧ (shT s).size ≤ s.size + 5 := by
  have := varI_len5 h
  unfold shT
  rw [ByteArray.size_append, bstr_size]
  omega
/-- Whether a term is one. -/
def trmB (n : Int) : Bool := decide (0 ≤ n) && decide (n ≤ 100000)
theorem trmB_out {n : Int} (h : trmB n = true) : 0 ≤ n ∧ n ≤ 100000 := by simpa [trmB] using h
/-- What is sealed. -/
def snT (i t : Nat) (l : List Int) (b : ByteArray) : ByteArray := bstr (varI i) ++ bstr (varI t) ++ shT (bstr l) ++ shT b
/-- Whether a snapshot has a text. -/
def okS (i t : Int) (l : List Int) (b : ByteArray) : Bool := okC l && idxB i && trmB t && decide (b.size ≤ 20000) && decide ((snT i.toNat t.toNat l b).size + 4 ≤ 20000)
/-- The text of a snapshot. -/
def textS (i t : Int) (l : List Int) (b : ByteArray) : ByteArray := if okS i t l b then sealT (snT i.toNat t.toNat l b) else ByteArray.empty
def textSV (i t : Int) (l : List Int) (b : ByteArray) : Value := .tuple #[.string (textS i t l b), .bool (okS i t l b)]
theorem textSV_no {i t : Int} {l : List Int} {b : ByteArray} (h : okS i t l b = false) : textSV i t l b = .tuple #[.string ByteArray.empty, .bool false] := by simp [textSV, textS, h]
theorem textSV_yes {i t : Int} {l : List Int} {b : ByteArray} (h : okS i t l b = true) : textSV i t l b = .tuple #[.string (sealT (snT i.toNat t.toNat l b)), .bool true] := by simp [textSV, textS, h]
theorem okS_out {i t : Int} {l : List Int} {b : ByteArray} (h : okS i t l b = true) : okC l = true ∧ idxB i = true ∧ trmB t = true ∧ b.size ≤ 20000 ∧ (snT i.toNat t.toNat l b).size + 4 ≤ 20000 := by
  unfold okS at h
  simp only [Bool.and_eq_true, decide_eq_true_eq] at h
  exact ⟨h.1.1.1.1, h.1.1.1.2, h.1.1.2, h.1.2, h.2⟩
theorem okS_in {i t : Int} {l : List Int} {b : ByteArray} (h1 : okC l = true) (h2 : idxB i = true) (h3 : trmB t = true) (h4 : b.size ≤ 20000) (h5 : (snT i.toNat t.toNat l b).size + 4 ≤ 20000) : okS i t l b = true := by
  unfold okS
  simp [h1, h2, h3, h4, h5]
theorem okS_no {i t : Int} {l : List Int} {b : ByteArray} (h : okC l = false ∨ idxB i = false ∨ trmB t = false ∨ 20000 < b.size ∨ 20000 < (snT i.toNat t.toNat l b).size + 4) : okS i t l b = false := by
  cases hk : okS i t l b with
  | false => rfl
  | true =>
    obtain ⟨a1, a2, a3, a4, a5⟩ := okS_out hk
    rw [a1, a2, a3] at h
    simp at h
    omega
theorem snT_size {i t : Nat} {l : List Int} {b : ByteArray} (hi : i ≤ 1000000000) (ht : t ≤ 1000000000) (hl : l.length ≤ 4) (hb : b.size ≤ 20000) :
    (bstr (varI i)).size ≤ 5 ∧ (bstr (varI t)).size ≤ 5 ∧ (shT (bstr l)).size ≤ 9 ∧ (shT b).size ≤ 20005 := by
  have a1 := varI_len5 hi
  have a2 := varI_len5 ht
  have a3 := shT_size (s := bstr l) (by rw [bstr_size]; omega)
  have a4 := shT_size (s := b) (by omega)
  rw [bstr_size] at a3
  rw [bstr_size, bstr_size]
  omega

theorem empty_add (s : ByteArray) : ({ data := #[] } : ByteArray) ++ s = s := by
  apply ByteArray.ext
  rw [ByteArray.data_append]
  simp
/-- What lies in the block of a snapshot that came in. -/
def Sb (w : World) (g : Nat) (i t : Int) (v : Value) (b : ByteArray) : Prop := w.heap[g]? = some (.cells #[.int .i64 i, .int .i64 t, v, .string b] 24)
theorem sb_cells {w : World} {g : Nat} {x0 x1 x2 x3 : Value} {t : TypeId} (h : w.heap[g]? = some (.cells #[x0, x1, x2, x3] t)) :
    w.cell? ⟨g, 0, none⟩ = some x0 ∧ w.cell? ⟨g, 1, none⟩ = some x1 ∧ w.cell? ⟨g, 2, none⟩ = some x2 ∧ w.cell? ⟨g, 3, none⟩ = some x3 := by
  simp [World.cell?, h]
end Go.Proofs.YtingfgbcinlflaaDoor
