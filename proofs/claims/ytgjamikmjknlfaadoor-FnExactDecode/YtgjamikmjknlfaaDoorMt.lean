/-
  The law's marks: texts made of numbers: the walk.
-/
import Derived.Test.YtgjamikmjknlfaaDoorDci
import Derived.WalkMore
namespace Go.Proofs.YtgjamikmjknlfaaDoor
open Go Go.RowKit

theorem decI_len : ∀ (k n : Nat), n < 10 ^ (k + 1) → (decI n).length ≤ k + 1
  | 0, n, h => by rw [decI_one (by simpa using h)]; simp
  | k + 1, n, h => by
    by_cases hn : n < 10
    · rw [decI_one hn]; simp
    · rw [decI_more hn]
      have := decI_len k (n / 10) (by rw [Nat.pow_succ] at h; omega)
      simp; omega
theorem told_len {n m : Nat} {t : List Int} (hn : n ≤ 9223372036854775808) (HE : Hid (decI n = decPre m ++ t)) : t.length ≤ 20 := by
  have h1 := decI_len 19 n (by omega)
  have h2 := congrArg List.length HE.out
  simp at h2
  omega
theorem run_add_one (x : Int) (t : List Int) (ht : t.length ≤ 20) (wx : World) : (Op.stringOp .add (bstr [x]) (bstr t)).run Tryd.prog wx = .ok (.string (bstr (x :: t))) wx := by
  rw [run_string_add_sum wx _ _ (by rw [bstr_size', bstr_size']; simp; omega), bstr_cons]
/-- The k-th mark. -/
def markB (k : Nat) : ByteArray := bstr (109 :: decI k)
set_option maxHeartbeats 400000 in
theorem markText_any (n : Nat) (w : World) (h0 : 0 < n) (hn : n ≤ 1000000000) :
    Calls Tryd.prog 70 #[.int .i64 n] w fun e w' => e = .returned (.string (markB n)) ∧ Below w.heap.size w w' := by
  have hz : decide ((n : Int) ≤ 0) = false := decide_eq_false (by omega)
  go_enter Tryd.func70, Tryd.ntmps70
  go_wp2
  go_loopw [0, 3] (fun c st wr => ∃ (m : Nat) (t : List Int), c = .int .i64 m ∧ st = .string (bstr t) ∧ m ≤ n ∧ Hid (decI n = decPre m ++ t) ∧ Below w.heap.size w wr) (fun c _ _ => (intOf c).toNat)
  case atStart => exact ⟨n, [], rfl, rfl, by simp, (by show decI n = decPre n ++ []; unfold decPre; rw [if_neg (by omega)]; simp), Below.refl _ _⟩
  case round =>
    obtain ⟨m, t, rfl, rfl, hle, HE, hbel⟩ := hrel
    have hsz := hbel.size
    have htl := told_len (by omega) HE
    by_cases hm : m = 0
    · subst hm
      have hadd : ∀ wx, (Op.stringOp .add { data := #[109] } (bstr t)).run Tryd.prog wx = .ok (.string (bstr (109 :: t))) wx := run_add_one 109 t htl
      go_wp2
      go_ret
      exact ⟨by unfold markB; rw [HE.out]; rfl, hbel⟩
    · have hm2 : 0 < m := by omega
      have hcv := run_one_string wr (48 + (m : Int) % 10)
      have hadd := run_add_one (48 + (m : Int) % 10) t htl
      go_wp2
      go_roundw
      case rel => exact ⟨m / 10, (48 + (m : Int) % 10) :: t, by go_num, rfl, by omega, (by show decI n = _; rw [HE.out, decPre_step hm]), hbel.alloc hsz _⟩
      case measure => simp [intOf]; omega

/-- The mark of a number. -/
def mkT (x : Int) : ByteArray := markB x.toNat
theorem markText_int (x : Int) (w : World) (h0 : 0 < x) (hn : x ≤ 1000000000) :
    Calls Tryd.prog 70 #[.int .i64 x] w fun e w' => e = .returned (.string (mkT x)) ∧ Below w.heap.size w w' := by
  have h := markText_any x.toNat w (by omega) (by omega)
  rw [Int.toNat_of_nonneg (by omega)] at h
  exact h
end Go.Proofs.YtgjamikmjknlfaaDoor
