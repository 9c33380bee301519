/-
  The law's marks: texts made of numbers: the walk.
-/
import Derived.Test.YtehkebdncfljmaaDci
import Derived.WalkMore
namespace Go.Proofs.Ytehkebdncfljmaa
open Go Go.RowKit

theorem decI_len : ∀ (k n : Nat), n < 10 ^ (k + 1) → (decI n).length ≤ k + 1
  | 0, n, h => by rw [decI_one (by simpa using h)]; simp
  | k + 1, n, h => by
    by_cases hn : n < 10
    · rw [decI_one hn]; simp
    · rw [decI_more hn]
      have := decI_len k (n / 10) (by rw [Nat.pow_succ] at h; omega)
      simp; omega
theorem told_len {n m : Nat} {t : List Int} (hn : n ≤ 9223372036854775808) (HE : Hid (decI n = decPre m ++ t)) : t.length ≤ 20 := by
  have h1 := decI_len 19 n (by omega)
  have h2 := congrArg List.length HE.out
  simp at h2
  omega
theorem run_add_one (x : Int) (t : List Int) (ht : t.length ≤ 20) (wx : World) : (Op.stringOp .add (bstr [x]) (bstr t)).run Try.prog wx = .ok (.string (bstr (x :: t))) wx := by
  rw [run_string_add_sum wx _ _ (by rw [bstr_size', bstr_size']; simp; omega), bstr_cons]
/-- The k-th mark. -/
def markB (k : Nat) : ByteArray := bstr (109 :: decI k)
/-- The mark of a number. -/
def mkT (x : Int) : ByteArray := markB x.toNat
end Go.Proofs.Ytehkebdncfljmaa
