/-
  The law's marks: texts made of numbers: the walk.
-/
import Derived.Test.YtnapjkpkhdbalaaInf
import Derived.Test.YtnapjkpkhdbalaaAid
import Derived.WalkMore
namespace Go.Proofs.Ytnapjkpkhdbalaa
open Go Go.RowKit

def decF : Nat → Nat → List Int
  | 0, n => [48 + (n : Int)]
  | f + 1, n => if n < 10 then [48 + (n : Int)] else decF f (n / 10) ++ [48 + (n : Int) % 10]
/-- The decimal figures of a number, the highest first. -/
def decI (n : Nat) : List Int := decF n n
theorem decF_enough : ∀ (f g n : Nat), n ≤ f → n ≤ g → decF f n = decF g n
  | 0, 0, n, _, _ => rfl
  | 0, g + 1, n, h, _ => by have : n = 0 := by omega
                            subst this; simp [decF]
  | f + 1, 0, n, _, h => by have : n = 0 := by omega
                            subst this; simp [decF]
  | f + 1, g + 1, n, h1, h2 => by
    unfold decF
    by_cases h : n < 10
    · rw [if_pos h, if_pos h]
    · rw [if_neg h, if_neg h, decF_enough f g (n / 10) (by omega) (by omega)]
theorem decI_one {n : Nat} (h : n < 10) : decI n = [48 + (n : Int)] := by
  unfold decI
  match n, h with
  | 0, _ => rfl
  | k + 1, h => rw [decF, if_pos h]
theorem decI_more {n : Nat} (h : ¬ n < 10) : decI n = decI (n / 10) ++ [48 + (n : Int) % 10] := by
  unfold decI
  match n, h with
  | k + 1, h => rw [decF, if_neg h, decF_enough k ((k + 1) / 10) _ (by omega) (by omega)]

/-- What stands ahead of the figures that are told already. -/
def decPre (m : Nat) : List Int := if m = 0 then [] else decI m
theorem decPre_step {m : Nat} (h : m ≠ 0) (t : List Int) : decPre m ++ t = decPre (m / 10) ++ ((48 + (m : Int) % 10) :: t) := by
  unfold decPre
  rw [if_neg h]
  by_cases hm : m < 10
  · rw [decI_one hm, if_pos (by omega)]
    simp
    omega
  · rw [decI_more hm, if_neg (by omega)]
    simp

theorem bstr_cons (x : Int) (t : List Int) : bstr [x] ++ bstr t = bstr (x :: t) := by
  apply ByteArray.ext
  simp [bstr]
theorem bstr_size' (l : List Int) : (bstr l).size = l.length := by simp [bstr, ByteArray.size]

/-- string([]byte{x}) of a block just made. -/
theorem run_one_string (wr : World) (x : Int) :
    (convert 75 9 (.slice (some ⟨wr.heap.size, 0, none⟩) 1 1)).run Try.prog (wr.alloc (.cells #[.int .u8 x] 5)) = .ok (.string (bstr [x])) (wr.alloc (.cells #[.int .u8 x] 5)) :=
  run_own_string (P := Try.prog) (B := 0) 75 9 (show ownsB (wr.alloc (.cells #[.int .u8 x] 5)) 0 5 (.slice (some ⟨wr.heap.size, 0, none⟩) 1 1) [x] from
    World.ownsRow_lit wr #[.int .u8 x] 1 (Nat.zero_le _) (by decide) rfl) Try.underlying75 Try.underlying5 Try.underlying9

theorem decI_len : ∀ (k n : Nat), n < 10 ^ (k + 1) → (decI n).length ≤ k + 1
  | 0, n, h => by rw [decI_one (by simpa using h)]; simp
  | k + 1, n, h => by
    by_cases hn : n < 10
    · rw [decI_one hn]; simp
    · rw [decI_more hn]
      have := decI_len k (n / 10) (by rw [Nat.pow_succ] at h; omega)
      simp; omega
theorem told_len {n m : Nat} {t : List Int} (hn : n ≤ 9223372036854775808) (HE : Hid (decI n = decPre m ++ t)) : t.length ≤ 20 := by
  have h1 := decI_len 19 n (by omega)
  have h2 := congrArg List.length HE.out
  simp at h2
  omega
theorem run_add_one (x : Int) (t : List Int) (ht : t.length ≤ 20) (wx : World) : (Op.stringOp .add (bstr [x]) (bstr t)).run Try.prog wx = .ok (.string (bstr (x :: t))) wx := by
  rw [run_string_add_sum wx _ _ (by rw [bstr_size', bstr_size']; simp; omega), bstr_cons]
/-- The k-th mark. -/
def markB (k : Nat) : ByteArray := bstr (109 :: decI k)
set_option maxHeartbeats 400000 in
theorem markText_any (n : Nat) (w : World) (h0 : 0 < n) (hn : n ≤ 1000000000) :
    Calls Try.prog 46 #[.int .i64 n] w fun e w' => e = .returned (.string (markB n)) ∧ Below w.heap.size w w' := by
  have hz : decide ((n : Int) ≤ 0) = false := decide_eq_false (by omega)
  go_enter Try.func46, Try.ntmps46
  go_wp2
  go_loopw [0, 3] (fun c st wr => ∃ (m : Nat) (t : List Int), c = .int .i64 m ∧ st = .string (bstr t) ∧ m ≤ n ∧ Hid (decI n = decPre m ++ t) ∧ Below w.heap.size w wr) (fun c _ _ => (intOf c).toNat)
  case atStart => exact ⟨n, [], rfl, rfl, by simp, (by show decI n = decPre n ++ []; unfold decPre; rw [if_neg (by omega)]; simp), Below.refl _ _⟩
  case round =>
    obtain ⟨m, t, rfl, rfl, hle, HE, hbel⟩ := hrel
    have hsz := hbel.size
    have htl := told_len (by omega) HE
    by_cases hm : m = 0
    · subst hm
      have hadd : ∀ wx, (Op.stringOp .add { data := #[109] } (bstr t)).run Try.prog wx = .ok (.string (bstr (109 :: t))) wx := run_add_one 109 t htl
      go_wp2
      go_ret
      exact ⟨by unfold markB; rw [HE.out]; rfl, hbel⟩
    · have hm2 : 0 < m := by omega
      have hcv := run_one_string wr (48 + (m : Int) % 10)
      have hadd := run_add_one (48 + (m : Int) % 10) t htl
      go_wp2
      go_roundw
      case rel => exact ⟨m / 10, (48 + (m : Int) % 10) :: t, by go_num, rfl, by omega, (by show decI n = _; rw [HE.out, decPre_step hm]), hbel.alloc hsz _⟩
      case measure => simp [intOf]; omega

/-- The mark of a number. -/
def mkT (x : Int) : ByteArray := markB x.toNat
theorem markText_int (x : Int) (w : World) (h0 : 0 < x) (hn : x ≤ 1000000000) :
    Calls Try.prog 46 #[.int .i64 x] w fun e w' => e = .returned (.string (mkT x)) ∧ Below w.heap.size w w' := by
  have h := markText_any x.toNat w (by omega) (by omega)
  rw [Int.toNat_of_nonneg (by omega)] at h
  exact h
end Go.Proofs.Ytnapjkpkhdbalaa
