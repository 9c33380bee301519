/-
  Decimal figures of a number, and texts of one byte: small facts.
-/
import Derived.Test.YtehkebdncfljmaaInf
import Derived.Test.YtehkebdncfljmaaAid
import Derived.WalkMore
namespace Go.Proofs.Ytehkebdncfljmaa
open Go Go.RowKit

def decF : Nat → Nat → List Int
  | 0, n => [48 + (n : Int)]
  | f + 1, n => if n < 10 then [48 + (n : Int)] else decF f (n / 10) ++ [48 + (n : Int) % 10]
/-- The decimal figures of a number, the highest first. -/
def decI (n : Nat) : List Int := decF n n
theorem decF_enough : ∀ (f g n : Nat), n ≤ f → n ≤ g → decF f n = decF g n
  | 0, 0, n, _, _ => rfl
  | 0, g + 1, n, h, _ => by have : n = 0 := by omega
                            subst this; simp [decF]
  | f + 1, 0, n, _, h => by have : n = 0 := by omega
                            subst this; simp [decF]
  | f + 1, g + 1, n, h1, h2 => by
    unfold decF
    by_cases h : n < 10
    · rw [if_pos h, if_pos h]
    · rw [if_neg h, if_neg h, decF_enough f g (n / 10) (by omega) (by omega)]
theorem decI_one {n : Nat} (h : n < 10) : decI n = [48 + (n : Int)] := by
  unfold decI
  match n, h with
  | 0, _ => rfl
  | k + 1, h => rw [decF, if_pos h]
theorem decI_more {n : Nat} (h : ¬ n < 10) : decI n = decI (n / 10) ++ [48 + (n : Int) % 10] := by
  unfold decI
  match n, h with
  | k + 1, h => rw [decF, if_neg h, decF_enough k ((k + 1) / 10) _ (by omega) (by omega)]

/-- What stands ahead of the figures that are told already. -/
def decPre (m : Nat) : List Int := if m = 0 then [] else decI m
theorem decPre_step {m : Nat} (h : m ≠ 0) (t : List Int) : decPre m ++ t = decPre (m / 10) ++ ((48 + (m : Int) % 10) :: t) := by
  unfold decPre
  rw [if_neg h]
  by_cases hm : m < 10
  · rw [decI_one hm, if_pos (by omega)]
    simp
    omega
  · rw [decI_more hm, if_neg (by omega)]
    simp

theorem bstr_cons (x : Int) (t : List Int) : bstr [x] ++ bstr t = bstr (x :: t) := by
  apply ByteArray.ext
  simp [bstr]
theorem bstr_size' (l : List Int) : (bstr l).size = l.length := by simp [bstr, ByteArray.size]

/-- string([]byte{x}) of a block just made. -/
theorem run_one_string (wr : World) (x : Int) :
    (convert 22 9 (.slice (some ⟨wr.heap.size, 0, none⟩) 1 1)).run Try.prog (wr.alloc (.cells #[.int .u8 x] 5)) = .ok (.string (bstr [x])) (wr.alloc (.cells #[.int .u8 x] 5)) :=
  run_own_string (P := Try.prog) (B := 0) 22 9 (show ownsB (wr.alloc (.cells #[.int .u8 x] 5)) 0 5 (.slice (some ⟨wr.heap.size, 0, none⟩) 1 1) [x] from
    World.ownsRow_lit wr #[.int .u8 x] 1 (Nat.zero_le _) (by decide) rfl) Try.underlying22 Try.underlying5 Try.underlying9
end Go.Proofs.Ytehkebdncfljmaa
