/-
  Sums: the walks.
-/
import Derived.Test.YtingfgbcinlflaaGreatDoorRows
import Derived.Test.YtingfgbcinlflaaGreatDoorAid
import Derived.Test.YtingfgbcinlflaaGreatDoorCrc
import Derived.WalkKit
import Derived.WalkSpells
import Derived.WalkLawsBesides
import Derived.Handy
import Derived.Laws.BitsAllLaws
import Derived.Lib.LaidTab
namespace Go.Proofs.YtingfgbcinlflaaGreatDoor
open Go.RowKit

def tabI : List Int := [0, 1166650509, 2333301018, 3466261911, 3189058079, 4221339282, 889615109, 1888477064, 3558460437, 2442158232, 1594529039, 444807554, 1779230218, 797264519, 3776954128, 2761298845]
theorem tabI_is : tabI = tab.map fun (n : Nat) => (n : Int) := by decide
def TableIs (w : World) : Prop := Lib.TabIs Tryz.prog w "loop.example/g00188/impl.sumTable" .u32 tabI
theorem gTab : Tryz.prog.globalNamed "loop.example/g00188/impl.sumTable" = some 1 := by kernel_rfl
theorem TableIs.below {w w1 : World} (h : TableIs w) (hb : Below w.heap.size w w1) : TableIs w1 := by
  have hc := Lib.TabIs.cell h gTab 0 (by decide)
  exact var?_below hb gTab (World.block_lt_of_cell? w _ hc) h

def tabAt (r : Nat) : Nat := tab.getD r 0
theorem tab_lt (r : Nat) (h : r < 16) : tabAt r < 4294967296 := (show ∀ r < 16, tab.getD r 0 < 4294967296 by decide +kernel) r h
theorem TableIs.cell {w : World} (h : TableIs w) (r : Nat) (hr : r < 16) : w.cell? { block := 1, off := r } = some (.int .u32 ((tabAt r : Nat) : Int)) := by
  rw [Lib.TabIs.cell h gTab r (by simpa [tabI] using hr)]
  exact congrArg (fun z => some (Value.int .u32 z)) ((show ∀ r < 16, tabI.getD r 0 = ((tab.getD r 0 : Nat) : Int) by decide +kernel) r hr)

set_option maxHeartbeats 400000 in
theorem halved4_any (s : Nat) (w : World) (hs : s < 4294967296) (ht : TableIs w) :
    Calls Tryz.prog 94 #[.int .u32 s] w fun e w' => e = .returned (.int .u32 (half4 s)) ∧ w' = w := by
  have hc := ht.cell (s % 16) (by omega)
  have hx : bits .xor .u32 ((s : Int) / 16) ((tabAt (s % 16) : Nat) : Int) = ((half4 s : Nat) : Int) := by
    rw [show (s : Int) / 16 = ((s / 16 : Nat) : Int) by omega, u32_xor_nat _ _ (by omega) (tab_lt _ (by omega)), half4_tab]; rfl
  go_enter Tryz.func94, Tryz.ntmps94
  go_wp2
  go_ret
  exact ⟨rfl, rfl⟩

set_option maxHeartbeats 400000 in
theorem more_any (s b : Nat) (w : World) (hs : s < 4294967296) (hb : b < 256) (ht : TableIs w) :
    Calls Tryz.prog 89 #[.int .u32 s, .int .u8 b] w fun e w' => e = .returned (.int .u32 (more s b)) ∧ w' = w := by
  have hx : bits .xor .u32 (s : Int) (b : Int) = ((s ^^^ b : Nat) : Int) := u32_xor_nat _ _ (by omega) (by omega)
  have hl : s ^^^ b < 4294967296 := Nat.xor_lt_two_pow (n := 32) (by omega) (by omega)
  go_enter Tryz.func89, Tryz.ntmps89
  go_wp2_with (go_at_call 94; refine (halved4_any _ _ (by first | exact hl | exact half4_lt hl) ht).mono ?_; rintro e w' ⟨rfl, hw⟩; have hw2 := hw.symm; subst hw2)
  go_ret
  exact ⟨rfl, rfl⟩

/-- The bytes of a text as numbers; the sum of a text behind a sum. -/
def bl (t : ByteArray) : List Nat := t.data.toList.map UInt8.toNat
theorem bl_length (t : ByteArray) : (bl t).length = t.size := by unfold bl; rw [List.length_map]; rfl
theorem bl_lt (t : ByteArray) : ∀ b ∈ bl t, b < 256 := by
  intro b hb
  simp only [bl, List.mem_map] at hb
  obtain ⟨u, _, rfl⟩ := hb
  exact u.toNat_lt
def sumTo (s : Nat) (t : ByteArray) (k : Nat) : Nat := sumL s ((bl t).take k)
theorem sumTo_zero (s : Nat) (t : ByteArray) : sumTo s t 0 = s := rfl
theorem sumTo_step {s : Nat} {t : ByteArray} {k : Nat} (h : k < t.size) : sumTo s t (k + 1) = more (sumTo s t k) t[k].toNat := by
  unfold sumTo
  have hk : k < (bl t).length := by rw [bl_length]; exact h
  rw [List.take_add_one, List.getElem?_eq_getElem hk, sumL_append]
  simp [bl, sumL]
  rfl
theorem sumTo_lt {s : Nat} (t : ByteArray) (k : Nat) (h : s < 4294967296) : sumTo s t k < 4294967296 := sumL_lt h (fun b hb => bl_lt t b (List.mem_of_mem_take hb))
def sumT (s : Nat) (t : ByteArray) : Nat := sumL s (bl t)
theorem sumTo_all (s : Nat) (t : ByteArray) : sumTo s t t.size = sumT s t := by unfold sumTo sumT; rw [← bl_length, List.take_length]
theorem sumT_lt {s : Nat} (t : ByteArray) (h : s < 4294967296) : sumT s t < 4294967296 := sumL_lt h (bl_lt t)

set_option maxHeartbeats 400000 in
theorem sumMore_any (s : Nat) (t : ByteArray) (w : World) (hs : s < 4294967296) (hsz : t.size ≤ maxLen) (ht : TableIs w) :
    Calls Tryz.prog 85 #[.int .u32 s, .string t] w fun e w' => e = .returned (.int .u32 (sumT s t)) ∧ w' = w := by
  unfold maxLen at hsz
  go_enter Tryz.func85, Tryz.ntmps85
  go_wp2
  go_loopw [5, 6] (fun c i wr => ∃ k : Nat, k ≤ t.size ∧ i = .int .i64 k ∧ c = .int .u32 (sumTo s t k) ∧ wr = w) (fun _ i _ => t.size - (intOf i).toNat)
  case atStart => exact ⟨0, Nat.zero_le _, rfl, rfl, rfl⟩
  case round =>
    obtain ⟨k, hk, rfl, rfl, rfl⟩ := hrel
    by_cases hlt : k < t.size
    · have h256 := t[k].toNat_lt
      go_wp2_with (go_at_call 89; refine (more_any _ _ _ (sumTo_lt t k hs) (by omega) ht).mono ?_; rintro e w' ⟨rfl, hw⟩; have hw2 := hw.symm; subst hw2)
      go_roundw
      case rel => exact ⟨k + 1, by omega, by go_num, by rw [sumTo_step hlt], trivial⟩
      case measure => simp [intOf]; omega
    · have hks : k = t.size := by omega
      subst hks
      go_wp2
      go_ret
      exact ⟨by rw [sumTo_all]; rfl, rfl⟩

def halfN : Nat → Nat → Nat
  | 0, s => s
  | k + 1, s => half (halfN k s)
theorem halfN_lt {s : Nat} (h : s < 4294967296) : ∀ k, halfN k s < 4294967296
  | 0 => h
  | k + 1 => half_lt (halfN_lt h k)

set_option maxHeartbeats 1000000 in
theorem specSumMore_any (s : Nat) (t : ByteArray) (w : World) (hs : s < 4294967296) (hsz : t.size ≤ maxLen) :
    Calls Tryz.prog 75 #[.int .u32 s, .string t] w fun e w' => e = .returned (.int .u32 (sumT s t)) ∧ w' = w := by
  unfold maxLen at hsz
  go_enter Tryz.func75, Tryz.ntmps75
  go_wp2
  go_loopw [0, 5, 6, 7] (fun c i _ _ wr => ∃ k : Nat, k ≤ t.size ∧ i = .int .i64 k ∧ c = .int .u32 (sumTo s t k) ∧ wr = w) (fun _ i _ _ _ => t.size - (intOf i).toNat)
  case atStart => exact ⟨0, Nat.zero_le _, rfl, rfl, rfl⟩
  case round =>
    obtain ⟨k, hk, rfl, rfl, rfl⟩ := hrel
    have hl := sumTo_lt t k hs
    by_cases hlt : k < t.size
    · have h256 := t[k].toNat_lt
      have hx : bits .xor .u32 ((sumTo s t k : Nat) : Int) (t[k].toNat : Int) = ((sumTo s t k ^^^ t[k].toNat : Nat) : Int) := u32_xor_nat _ _ (by omega) (by omega)
      have hl2 : sumTo s t k ^^^ t[k].toNat < 4294967296 := Nat.xor_lt_two_pow (n := 32) (by omega) (by omega)
      go_wp2
      go_loopw [0, 6, 7] (fun c i _ wx => ∃ j : Nat, j ≤ 8 ∧ i = .int .i64 j ∧ c = .int .u32 (halfN j (sumTo s t k ^^^ t[k].toNat)) ∧ wx = wr) (fun _ i _ _ => 8 - (intOf i).toNat)
      case atStart => exact ⟨0, Nat.zero_le _, rfl, rfl, rfl⟩
      case round =>
        obtain ⟨j, hj, rfl, rfl, rfl⟩ := hrel
        have hl3 := halfN_lt hl2 j
        by_cases hj8 : j < 8
        · by_cases hodd : halfN j (sumTo s t k ^^^ t[k].toNat) % 2 = 1
          · have ho : (((halfN j (sumTo s t k ^^^ t[k].toNat) : Nat) : Int) % 2 == 1) = true := by rw [beq_iff_eq]; omega
            have hh : bits .xor .u32 (((halfN j (sumTo s t k ^^^ t[k].toNat) : Nat) : Int) / 2) 3558460437 = ((halfN (j + 1) (sumTo s t k ^^^ t[k].toNat) : Nat) : Int) := by
              rw [show ∀ n : Nat, (n : Int) / 2 = ((n / 2 : Nat) : Int) by intro n; omega, show (3558460437 : Int) = ((3558460437 : Nat) : Int) from rfl, u32_xor_nat _ _ (by omega) (by omega)]
              rw [halfN, half, msk, if_pos hodd]
            go_wp2
            go_roundw
            case rel => exact ⟨j + 1, by omega, by go_num, rfl, trivial⟩
            case measure => simp [intOf]; omega
          · have ho : (((halfN j (sumTo s t k ^^^ t[k].toNat) : Nat) : Int) % 2 == 1) = false := by rw [beq_eq_false_iff_ne]; omega
            have hh : ((halfN j (sumTo s t k ^^^ t[k].toNat) : Nat) : Int) / 2 = ((halfN (j + 1) (sumTo s t k ^^^ t[k].toNat) : Nat) : Int) := by
              rw [halfN, half, msk, if_neg hodd, Nat.xor_zero]; omega
            go_wp2
            go_roundw
            case rel => exact ⟨j + 1, by omega, by go_num, rfl, trivial⟩
            case measure => simp [intOf]; omega
        · have hj9 : j = 8 := by omega
          subst hj9
          go_wp2
          go_roundw
          case rel => exact ⟨k + 1, by omega, by go_num, by rw [sumTo_step hlt]; rfl, trivial⟩
          case measure => simp [intOf]; omega
    · have hks : k = t.size := by omega
      subst hks
      go_wp2
      go_ret
      exact ⟨by rw [sumTo_all]; rfl, rfl⟩

set_option maxHeartbeats 400000 in
theorem sumOf_any (t : ByteArray) (w : World) (hsz : t.size ≤ maxLen) (ht : TableIs w) :
    Calls Tryz.prog 78 #[.string t] w fun e w' => e = .returned (.int .u32 (sumT 4294967295 t)) ∧ w' = w := by
  go_enter Tryz.func78, Tryz.ntmps78
  go_wp2_with (go_at_call 85; refine (sumMore_any 4294967295 t _ (by decide) hsz ht).mono ?_; rintro e w' ⟨rfl, hw⟩; have hw2 := hw.symm; subst hw2)
  go_ret
  exact ⟨rfl, rfl⟩
set_option maxHeartbeats 400000 in
theorem specSumOf_any (t : ByteArray) (w : World) (hsz : t.size ≤ maxLen) :
    Calls Tryz.prog 56 #[.string t] w fun e w' => e = .returned (.int .u32 (sumT 4294967295 t)) ∧ w' = w := by
  go_enter Tryz.func56, Tryz.ntmps56
  go_wp2_with (go_at_call 75; refine (specSumMore_any 4294967295 t _ (by decide) hsz).mono ?_; rintro e w' ⟨rfl, hw⟩; have hw2 := hw.symm; subst hw2)
  go_ret
  exact ⟨rfl, rfl⟩

theorem wf_u32 {n : Int} (h : (Lit.int .u32 n).wf = true) : 0 ≤ n ∧ n < 4294967296 := by
  have : 0 ≤ n ∧ n ≤ 4294967295 := by simpa [Lit.wf, IntKind.min, IntKind.max, IntKind.signed, IntKind.bits] using h
  omega

end Go.Proofs.YtingfgbcinlflaaGreatDoor
