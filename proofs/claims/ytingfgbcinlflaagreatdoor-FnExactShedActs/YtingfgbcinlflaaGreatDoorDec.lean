/-
  Decimal figures told: the walks.
-/
import Derived.Test.YtingfgbcinlflaaGreatDoorRows
import Derived.Test.YtingfgbcinlflaaGreatDoorAid
import Derived.Test.YtingfgbcinlflaaGreatDoorDecP
import Derived.Test.YtingfgbcinlflaaGreatDoorMt
import Derived.Test.YtingfgbcinlflaaGreatDoorShelfI
import Derived.WalkKit
import Derived.WalkSpells
import Derived.WalkLawsBesides
import Derived.Handy
namespace Go.Proofs.YtingfgbcinlflaaGreatDoor
open Go.RowKit

set_option maxRecDepth 10000 in
set_option maxHeartbeats 400000 in
theorem specDec_zero (w : World) :
    Calls Tryz.prog 54 #[.int .i64 0] w fun e w' => e = .returned (.string (bstr (decI 0))) ∧ Below w.heap.size w w' := by
  go_enter Tryz.func54, Tryz.ntmps54
  go_wp2
  go_ret
  exact ⟨rfl, Below.refl _ _⟩

set_option maxRecDepth 10000 in
set_option maxHeartbeats 400000 in
theorem specDec_pos (n : Nat) (w : World) (h0 : 0 < n) (hn : n ≤ 9223372036854775807) :
    Calls Tryz.prog 54 #[.int .i64 n] w fun e w' => e = .returned (.string (bstr (decI n))) ∧ Below w.heap.size w w' := by
  have hz : ((n : Int) == 0) = false := by simp; omega
  have hneg : decide ((n : Int) < 0) = false := by simp
  go_enter Tryz.func54, Tryz.ntmps54
  go_wp2
  go_loopw [0, 4] (fun c st wr => ∃ (m : Nat) (t : List Int), c = .int .i64 m ∧ st = .string (bstr t) ∧ t.length + m ≤ n ∧ Hid (decI n = decPre m ++ t) ∧ Below w.heap.size w wr) (fun c _ _ => (intOf c).toNat)
  case atStart => exact ⟨n, [], rfl, rfl, by simp, (by show decI n = decPre n ++ []; unfold decPre; rw [if_neg (by omega)]; simp), Below.refl _ _⟩
  case round =>
    obtain ⟨m, t, rfl, rfl, hle, HE, hbel⟩ := hrel
    have hsz := hbel.size
    by_cases hm : m = 0
    · subst hm
      go_wp2
      go_ret
      exact ⟨by rw [HE.out]; rfl, hbel⟩
    · have hm2 : ((m : Int) != 0) = true := by rw [bne_iff_ne]; omega
      have hcv := run_one_string wr (fig ((m : Int) % 10))
      have hadd : ∀ wx, (Op.stringOp .add (bstr [fig ((m : Int) % 10)]) (bstr t)).run Tryz.prog wx = .ok (.string (bstr (fig ((m : Int) % 10) :: t))) wx := fun wx => by
        rw [run_string_add_sum wx _ _ (by rw [bstr_size', bstr_size']; simp; omega), bstr_cons]
      go_wp2_with (go_at_call 74; refine (l01Figure_any _ _ (by omega) (by omega)).mono ?_; rintro e w' ⟨rfl, hw⟩; have hw2 := hw.symm; subst hw2)
      go_roundw
      case rel => exact ⟨m / 10, fig ((m : Int) % 10) :: t, by go_num, rfl, by simp; omega, (by show decI n = _; rw [HE.out, decPre_step hm, show fig ((m : Int) % 10) = 48 + (m : Int) % 10 by unfold fig; rw [if_pos (by omega)]]), hbel.alloc hsz _⟩
      case measure => simp [intOf]; omega

theorem told_step {n m : Nat} {t : List Int} (HE : Hid (decI n = decPre m ++ t)) (hm : m ≠ 0) : Hid (decI n = decPre (m / 10) ++ (fig ((m : Int) % 10) :: t)) := by
  show decI n = _
  rw [HE.out, decPre_step hm, show fig ((m : Int) % 10) = 48 + (m : Int) % 10 by unfold fig; rw [if_pos (by omega)]]

set_option maxRecDepth 10000 in
set_option maxHeartbeats 400000 in
theorem specDec_neg (n : Nat) (w : World) (h0 : 0 < n) (hn : n ≤ 9223372036854775808) :
    Calls Tryz.prog 54 #[.int .i64 (-(n : Int))] w fun e w' => e = .returned (.string (bstr (45 :: decI n))) ∧ Below w.heap.size w w' := by
  have hz : ((-(n : Int)) == 0) = false := beq_eq_false_iff_ne.2 (by omega)
  have hneg : decide ((-(n : Int)) < 0) = true := decide_eq_true (by omega)
  go_enter Tryz.func54, Tryz.ntmps54
  go_wp2
  go_loopw [0, 4, 5] (fun c st _ wr => ∃ (m : Nat) (t : List Int), c = .int .i64 (-(m : Int)) ∧ st = .string (bstr t) ∧ m ≤ n ∧ Hid (decI n = decPre m ++ t) ∧ Below w.heap.size w wr) (fun c _ _ _ => (-(intOf c)).toNat)
  case atStart => exact ⟨n, [], rfl, rfl, by simp, (by show decI n = decPre n ++ []; unfold decPre; rw [if_neg (by omega)]; simp), Below.refl _ _⟩
  case round =>
    obtain ⟨m, t, rfl, rfl, hle, HE, hbel⟩ := hrel
    have hsz := hbel.size
    have htl := told_len hn HE
    by_cases hm : m = 0
    · subst hm
      have hadd : ∀ wx, (Op.stringOp .add { data := #[45] } (bstr t)).run Tryz.prog wx = .ok (.string (bstr (45 :: t))) wx := run_add_one 45 t htl
      go_wp2
      go_ret
      exact ⟨by rw [HE.out]; rfl, hbel⟩
    · have hm2 : ((-(m : Int)) != 0) = true := by rw [bne_iff_ne]; omega
      have ht : (-(m : Int)).tmod 10 = -((m : Int) % 10) := by rw [Int.neg_tmod, Int.tmod_eq_emod_of_nonneg (by omega)]
      have hq : (-(m : Int)).tdiv 10 = -((m : Int) / 10) := by rw [Int.neg_tdiv, Int.tdiv_eq_ediv_of_nonneg (by omega)]
      have HS := told_step HE hm
      by_cases hd : m % 10 = 0
      · have hd2 : (m : Int) % 10 = 0 := by omega
        rw [hd2] at HS
        have hcv := run_one_string wr (fig 0)
        have hadd := run_add_one (fig 0) t htl
        go_wp2_with (go_at_call 74; refine (l01Figure_any _ _ (by omega) (by omega)).mono ?_; rintro e w' ⟨rfl, hw⟩; have hw2 := hw.symm; subst hw2)
        go_roundw
        case rel => exact ⟨m / 10, fig 0 :: t, by go_num, rfl, by omega, HS, hbel.alloc hsz _⟩
        case measure => simp [intOf]; omega
      · have hd1 : (0 : Int) < (m : Int) % 10 := by omega
        have hd2 : (m : Int) % 10 < 10 := by omega
        have hcv := run_one_string wr (fig ((m : Int) % 10))
        have hadd := run_add_one (fig ((m : Int) % 10)) t htl
        go_wp2_with (go_at_call 74; refine (l01Figure_any _ _ (by omega) (by omega)).mono ?_; rintro e w' ⟨rfl, hw⟩; have hw2 := hw.symm; subst hw2)
        go_roundw
        case rel => exact ⟨m / 10, fig ((m : Int) % 10) :: t, by go_num, rfl, by omega, HS, hbel.alloc hsz _⟩
        case measure => simp [intOf]; omega

theorem decI_lib : ∀ (f n : Nat), n ≤ f → (decI n).map (fun x => UInt8.ofNat x.toNat) = Lib.decDigits n
  | 0, n, h => by
    rw [decI_one (by omega), Lib.decDigits_one (by omega), List.map_cons, List.map_nil, show (48 + (n : Int)).toNat = 48 + n by omega]
  | f + 1, n, h => by
    by_cases hn : n < 10
    · rw [decI_one hn, Lib.decDigits_one hn, List.map_cons, List.map_nil, show (48 + (n : Int)).toNat = 48 + n by omega]
    · rw [decI_more hn, Lib.decDigits, dif_neg hn, List.map_append, decI_lib f (n / 10) (by omega), List.map_cons, List.map_nil, show (48 + (n : Int) % 10).toNat = 48 + n % 10 by omega]

/-- The figures of every number. -/
def decS (n : Int) : ByteArray := ⟨(Lib.itoa n).toArray⟩
theorem decS_pos (n : Nat) : bstr (decI n) = decS n := by
  unfold decS bstr
  rw [decI_lib _ _ (Nat.le_refl _)]
  simp [Lib.itoa]
theorem decS_neg (n : Nat) (h : 0 < n) : bstr (45 :: decI n) = decS (-(n : Int)) := by
  unfold decS bstr
  rw [List.map_cons, decI_lib _ _ (Nat.le_refl _)]
  simp [Lib.itoa, h]

theorem specDec_any (n : Int) (w : World) (h0 : -9223372036854775808 ≤ n) (h1 : n ≤ 9223372036854775807) :
    Calls Tryz.prog 54 #[.int .i64 n] w fun e w' => e = .returned (.string (decS n)) ∧ Below w.heap.size w w' := by
  by_cases hn : 0 ≤ n
  · obtain ⟨k, rfl⟩ := Int.eq_ofNat_of_zero_le hn
    rw [← decS_pos]
    by_cases hk : k = 0
    · subst hk; exact specDec_zero w
    · exact specDec_pos k w (by omega) (by omega)
  · obtain ⟨k, hk⟩ : ∃ k : Nat, n = -(k : Int) := ⟨n.natAbs, by omega⟩
    subst hk
    rw [← decS_neg k (by omega)]
    exact specDec_neg k w (by omega) (by omega)

/-- The table that the library's figures are reckoned by lies as it should. -/
def PowIs (w : World) : Prop := Lib.TabIs Tryz.prog w "internal/strconv.uint64pow10" .u64 Lib.pow10Tab
theorem gPow : Tryz.prog.globalNamed "internal/strconv.uint64pow10" = some 0 := by kernel_rfl
theorem below_grow_drewN (w : World) (k : Nat) (os : Array Obj) : Below w.heap.size w (Go.Sort.grow (w.drewN k) os) :=
  ⟨rfl, rfl, rfl, by simp [Go.Sort.grow, World.drewN], fun j hj => by
    show ((w.drewN k).heap ++ os)[j]? = _
    exact Array.getElem?_append_left hj⟩
theorem PowIs.below {w w1 : World} (h : PowIs w) (hb : Below w.heap.size w w1) : PowIs w1 := by
  have hc := Lib.TabIs.cell h gPow 0 (by decide)
  exact var?_below hb gPow (World.block_lt_of_cell? w _ hc) h

set_option maxRecDepth 10000 in
set_option maxHeartbeats 400000 in
theorem decimal_any (n : Int) (w : World) (h0 : -9223372036854775808 ≤ n) (h1 : n ≤ 9223372036854775807) (hp : PowIs w) :
    Calls Tryz.prog 53 #[.int .i64 n] w fun e w' => e = .returned (.string (decS n)) ∧ Below w.heap.size w w' := by
  go_enter Tryz.func53, Tryz.ntmps53
  go_wp2_with (go_at_call 73; refine (Tryz.strconv_Itoa n h0 h1 _ hp).mono ?_; rintro e w1 ⟨rfl, k, os, hw⟩)
  go_ret
  exact ⟨rfl, by subst hw; exact below_grow_drewN _ _ _⟩

end Go.Proofs.YtingfgbcinlflaaGreatDoor
