/-
  Texts unsealed: the walks.
-/
import Derived.Test.YtingfgbcinlflaaGreatDoorSeal
import Derived.Test.YtingfgbcinlflaaGreatDoorNl
import Derived.Test.YtingfgbcinlflaaGreatDoorCln
import Derived.Deep.QuietTactic
import Derived.BigQuiet
import Derived.Deep.RegionWith
namespace Go.Proofs.YtingfgbcinlflaaGreatDoor
open Go.RowKit

def headT (t : ByteArray) : ByteArray := t.extract 0 (t.size - 4)
def lastT (t : ByteArray) : ByteArray := t.extract (t.size - 4) t.size
theorem parted (t : ByteArray) : headT t ++ lastT t = t := by
  unfold headT lastT
  rw [ByteArray.extract_append_extract]
  simp
theorem headT_size (t : ByteArray) : (headT t).size = t.size - 4 := by unfold headT; simp
theorem sealT_iff (t : ByteArray) : sealT (headT t) = t ↔ lastT t = tail4 (headT t) := by
  constructor
  · intro h
    have h2 : headT t ++ tail4 (headT t) = headT t ++ lastT t := by rw [parted]; exact h
    exact ((ByteArray.append_right_inj _).1 h2).symm
  · intro h
    unfold sealT
    rw [← h]
    exact parted t

set_option maxHeartbeats 400000 in
theorem specUnsealed_short (t : ByteArray) (w : World) (hs : t.size < 4) :
    Calls Tryz.prog 41 #[.string t] w fun e w' => e = .returned (.tuple #[.string ByteArray.empty, .bool false]) ∧ Below w.heap.size w w' := by
  have hn : (t.size : Int) - 4 < 0 := by omega
  go_enter Tryz.func41, Tryz.ntmps41
  go_wp2
  go_quiet (fail)
  go_wp2
  go_ret2
  exact ⟨rfl, below_drewN (Below.refl _ _) _⟩
set_option maxHeartbeats 400000 in
theorem specUnsealed_long (t : ByteArray) (w : World) (hs0 : t.size ≤ 9223372036854775807) (hs : 20004 < t.size) :
    Calls Tryz.prog 41 #[.string t] w fun e w' => e = .returned (.tuple #[.string ByteArray.empty, .bool false]) ∧ Below w.heap.size w w' := by
  have hn : decide ((t.size : Int) - 4 < 0) = false := by simp; omega
  have hm : decide (20000 < (t.size : Int) - 4) = true := by simp; omega
  go_enter Tryz.func41, Tryz.ntmps41
  go_wp2
  go_quiet (fail)
  go_wp2
  go_ret2
  exact ⟨rfl, below_drewN (Below.refl _ _) _⟩
theorem headslice (t : ByteArray) (h0 : 4 ≤ t.size) (wx : World) : (Instr.slice 9 (.string t) none (some (.int .i64 ((t.size : Int) - 4))) none).run Tryz.prog wx = .ok (.string (headT t)) wx := by
  rw [run_slice_string_h (P := Tryz.prog) wx 9 t Tryz.underlying9 .i64 ((t.size : Int) - 4) (by omega) (by omega), show ((t.size : Int) - 4).toNat = t.size - 4 by omega]; rfl
theorem lastslice (t : ByteArray) (h0 : 4 ≤ t.size) (wx : World) : (Instr.slice 9 (.string t) (some (.int .i64 ((t.size : Int) - 4))) none none).run Tryz.prog wx = .ok (.string (lastT t)) wx := by
  rw [run_slice_string_l (P := Tryz.prog) wx 9 t Tryz.underlying9 .i64 ((t.size : Int) - 4) (by omega) (by omega), show ((t.size : Int) - 4).toNat = t.size - 4 by omega]; rfl

theorem below_of_drew {w w1 : World} (h : Below w.drew.heap.size w.drew w1) : Below w.heap.size w w1 := ((Below.refl w.heap.size w).drew).trans h

set_option maxHeartbeats 1000000 in
theorem specUnsealed_no (t : ByteArray) (w : World) (h0 : 4 ≤ t.size) (h1 : t.size ≤ 20004) (hne : lastT t ≠ tail4 (headT t)) :
    Calls Tryz.prog 41 #[.string t] w fun e w' => e = .returned (.tuple #[.string ByteArray.empty, .bool false]) ∧ Below w.heap.size w w' := by
  have hn : decide ((t.size : Int) - 4 < 0) = false := by simp; omega
  have hm : decide (20000 < (t.size : Int) - 4) = false := by simp; omega
  have hs1 := headslice t h0
  have hs2 := lastslice t h0
  have hsz := headT_size t
  have hl := sumT_lt (headT t) (show 4294967295 < 4294967296 by decide)
  have hnb : ((lastT t).toList == (bstr (four (sumT 4294967295 (headT t)))).toList) = false := ne_list hne
  go_enter Tryz.func41, Tryz.ntmps41
  go_wp2
  go_region_held (fun _ => True) (trivial) ((first | (go_at_call 56; refine (specSumOf_any _ _ (by unfold maxLen; omega)).mono ?_; rintro e w' ⟨rfl, rfl⟩) | (go_at_call 55; refine (four_any _ _ hl).mono ?_; rintro e w1 ⟨rfl, hb1⟩)))
  all_goals
    go_wp2
    go_ret2
    exact ⟨rfl, below_of_drew hb1⟩
set_option maxHeartbeats 1000000 in
theorem specUnsealed_yes (t : ByteArray) (w : World) (h0 : 4 ≤ t.size) (h1 : t.size ≤ 20004) (he : lastT t = tail4 (headT t)) :
    Calls Tryz.prog 41 #[.string t] w fun e w' => e = .returned (.tuple #[.string (headT t), .bool true]) ∧ Below w.heap.size w w' := by
  have hn : decide ((t.size : Int) - 4 < 0) = false := by simp; omega
  have hm : decide (20000 < (t.size : Int) - 4) = false := by simp; omega
  have hs1 := headslice t h0
  have hs2 := lastslice t h0
  have hsz := headT_size t
  have hl := sumT_lt (headT t) (show 4294967295 < 4294967296 by decide)
  have hnb : ((lastT t).toList == (bstr (four (sumT 4294967295 (headT t)))).toList) = true := eq_list he
  clear he
  go_enter Tryz.func41, Tryz.ntmps41
  go_wp2
  go_region_held (fun _ => True) (trivial) ((first | (go_at_call 56; refine (specSumOf_any _ _ (by unfold maxLen; omega)).mono ?_; rintro e w' ⟨rfl, rfl⟩) | (go_at_call 55; refine (four_any _ _ hl).mono ?_; rintro e w1 ⟨rfl, hb1⟩)))
  all_goals
    go_wp2
    go_ret2
    exact ⟨rfl, below_of_drew hb1⟩


set_option maxHeartbeats 400000 in
theorem unsealed_short (t : ByteArray) (w : World) (hs : t.size < 4) :
    Calls Tryz.prog 49 #[.string t] w fun e w' => e = .returned (.tuple #[.string ByteArray.empty, .bool false]) ∧ Below w.heap.size w w' := by
  go_enter Tryz.func49, Tryz.ntmps49
  go_wp2
  go_ret2
  exact ⟨rfl, Below.refl _ _⟩
set_option maxHeartbeats 400000 in
theorem unsealed_long (t : ByteArray) (w : World) (hs0 : t.size ≤ 9223372036854775807) (hs : 20004 < t.size) :
    Calls Tryz.prog 49 #[.string t] w fun e w' => e = .returned (.tuple #[.string ByteArray.empty, .bool false]) ∧ Below w.heap.size w w' := by
  have hs1 := headslice t (by omega)
  have hsz := headT_size t
  go_enter Tryz.func49, Tryz.ntmps49
  go_wp2_with (go_at_call 66; refine (sealed_bad _ _ (by omega) (by omega)).mono ?_; rintro e w1 ⟨rfl, hb1⟩)
  go_ret2
  exact ⟨rfl, hb1⟩
set_option maxHeartbeats 400000 in
theorem unsealed_no (t : ByteArray) (w : World) (h0 : 4 ≤ t.size) (h1 : t.size ≤ 20004) (hne : lastT t ≠ tail4 (headT t)) (ht : TableIs w) :
    Calls Tryz.prog 49 #[.string t] w fun e w' => e = .returned (.tuple #[.string ByteArray.empty, .bool false]) ∧ Below w.heap.size w w' := by
  have hs1 := headslice t (by omega)
  have hsz := headT_size t
  have hnb : ((sealT (headT t)).toList == t.toList) = false := ne_list fun e => hne ((sealT_iff t).1 e)
  go_enter Tryz.func49, Tryz.ntmps49
  go_wp2_with (go_at_call 66; refine (sealed_ok _ _ (by omega) ht).mono ?_; rintro e w1 ⟨rfl, hb1⟩)
  go_ret2
  exact ⟨rfl, hb1⟩
set_option maxHeartbeats 400000 in
theorem unsealed_yes (t : ByteArray) (w : World) (h0 : 4 ≤ t.size) (h1 : t.size ≤ 20004) (he : lastT t = tail4 (headT t)) (ht : TableIs w) :
    Calls Tryz.prog 49 #[.string t] w fun e w' => e = .returned (.tuple #[.string (headT t), .bool true]) ∧ Below w.heap.size w w' := by
  have hs1 := headslice t (by omega)
  have hsz := headT_size t
  have hnb : ((sealT (headT t)).toList == t.toList) = true := eq_list ((sealT_iff t).2 he)
  clear he
  go_enter Tryz.func49, Tryz.ntmps49
  go_wp2_with (first | (go_at_call 66; refine (sealed_ok _ _ (by omega) ht).mono ?_; rintro e w1 ⟨rfl, hb1⟩) | (go_at_call 52; refine (clone_any _ _ (by omega)).mono ?_; rintro e w2 ⟨rfl, hb2⟩))
  go_ret2
  exact ⟨rfl, hb1.trans (hb2.mono hb1.size)⟩

end Go.Proofs.YtingfgbcinlflaaGreatDoor
