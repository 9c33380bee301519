/-
  Decimal figures told: the walks.
-/
import Derived.Test.YtnnfhhdiamidhaaDoorRows
import Derived.Test.YtnnfhhdiamidhaaDoorAid
import Derived.Test.YtnnfhhdiamidhaaDoorDecP
import Derived.Test.YtnnfhhdiamidhaaDoorShelfI
import Derived.WalkKit
import Derived.WalkSpells
import Derived.WalkLawsBesides
import Derived.Handy
namespace Go.Proofs.YtnnfhhdiamidhaaDoor
open Go.RowKit

theorem decI_len : ∀ (k n : Nat), n < 10 ^ (k + 1) → (decI n).length ≤ k + 1
  | 0, n, h => by rw [decI_one (by simpa using h)]; simp
  | k + 1, n, h => by
    by_cases hn : n < 10
    · rw [decI_one hn]; simp
    · rw [decI_more hn]
      have := decI_len k (n / 10) (by rw [Nat.pow_succ] at h; omega)
      simp; omega
theorem told_len {n m : Nat} {t : List Int} (hn : n ≤ 9223372036854775808) (HE : Hid (decI n = decPre m ++ t)) : t.length ≤ 20 := by
  have h1 := decI_len 19 n (by omega)
  have h2 := congrArg List.length HE.out
  simp at h2
  omega
theorem run_add_one (x : Int) (t : List Int) (ht : t.length ≤ 20) (wx : World) : (Op.stringOp .add (bstr [x]) (bstr t)).run Tryd.prog wx = .ok (.string (bstr (x :: t))) wx := by
  rw [run_string_add_sum wx _ _ (by rw [bstr_size', bstr_size']; simp; omega), bstr_cons]
theorem told_step {n m : Nat} {t : List Int} (HE : Hid (decI n = decPre m ++ t)) (hm : m ≠ 0) : Hid (decI n = decPre (m / 10) ++ (fig ((m : Int) % 10) :: t)) := by
  show decI n = _
  rw [HE.out, decPre_step hm, show fig ((m : Int) % 10) = 48 + (m : Int) % 10 by unfold fig; rw [if_pos (by omega)]]

theorem decI_lib : ∀ (f n : Nat), n ≤ f → (decI n).map (fun x => UInt8.ofNat x.toNat) = Lib.decDigits n
  | 0, n, h => by
    rw [decI_one (by omega), Lib.decDigits_one (by omega), List.map_cons, List.map_nil, show (48 + (n : Int)).toNat = 48 + n by omega]
  | f + 1, n, h => by
    by_cases hn : n < 10
    · rw [decI_one hn, Lib.decDigits_one hn, List.map_cons, List.map_nil, show (48 + (n : Int)).toNat = 48 + n by omega]
    · rw [decI_more hn, Lib.decDigits, dif_neg hn, List.map_append, decI_lib f (n / 10) (by omega), List.map_cons, List.map_nil, show (48 + (n : Int) % 10).toNat = 48 + n % 10 by omega]

/-- The figures of every number. -/
def decS (n : Int) : ByteArray := ⟨(Lib.itoa n).toArray⟩
theorem decS_pos (n : Nat) : bstr (decI n) = decS n := by
  unfold decS bstr
  rw [decI_lib _ _ (Nat.le_refl _)]
  simp [Lib.itoa]
theorem decS_neg (n : Nat) (h : 0 < n) : bstr (45 :: decI n) = decS (-(n : Int)) := by
  unfold decS bstr
  rw [List.map_cons, decI_lib _ _ (Nat.le_refl _)]
  simp [Lib.itoa, h]

/-- The table that the library's figures are reckoned by lies as it should. -/
def PowIs (w : World) : Prop := Lib.TabIs Tryd.prog w "internal/strconv.uint64pow10" .u64 Lib.pow10Tab
theorem gPow : Tryd.prog.globalNamed "internal/strconv.uint64pow10" = some 1 := by kernel_rfl
theorem below_grow_drewN (w : World) (k : Nat) (os : Array Obj) : Below w.heap.size w (Go.Sort.grow (w.drewN k) os) :=
  ⟨rfl, rfl, rfl, by simp [Go.Sort.grow, World.drewN], fun j hj => by
    show ((w.drewN k).heap ++ os)[j]? = _
    exact Array.getElem?_append_left hj⟩
theorem PowIs.below {w w1 : World} (h : PowIs w) (hb : Below w.heap.size w w1) : PowIs w1 := by
  have hc := Lib.TabIs.cell h gPow 0 (by decide)
  exact var?_below hb gPow (World.block_lt_of_cell? w _ hc) h

set_option maxHeartbeats 400000 in
theorem decimal_any (n : Int) (w : World) (h0 : -9223372036854775808 ≤ n) (h1 : n ≤ 9223372036854775807) (hp : PowIs w) :
    Calls Tryd.prog 9 #[.int .i64 n] w fun e w' => e = .returned (.string (decS n)) ∧ Below w.heap.size w w' := by
  go_enter Tryd.func9, Tryd.ntmps9
  go_wp2_with (go_at_call 17; refine (Tryd.strconv_Itoa n h0 h1 _ hp).mono ?_; rintro e w1 ⟨rfl, k, os, hw⟩)
  go_ret
  exact ⟨rfl, by subst hw; exact below_grow_drewN _ _ _⟩

end Go.Proofs.YtnnfhhdiamidhaaDoor
