/-
  Logs: the law's helpers on them (sizes, copies, held against each other, marked): the walks.
-/
import Derived.Test.YtgjamikmjknlfaaDoorEns
import Derived.Test.YtgjamikmjknlfaaDoorWd
namespace Go.Proofs.YtgjamikmjknlfaaDoor
open Go Go.RowKit

theorem marksEn_at {x : Int} {n j : Nat} (h : j < n) : (marksEn x n)[j]? = some (mkEn (x + 3 * (j : Int))) := marksR_at h
theorem marksEn_length (x : Int) (n : Nat) : (marksEn x n).length = n := marksR_length x n
set_option maxHeartbeats 2000000 in
theorem heldEntryS_any (ao : Option Addr) (n c : Nat) (x : Int) (w : World) (hr : Reads w (.slice ao n c) (marksEn x n)) (hn : n ≤ 1048577) (hx0 : 0 < x) (hx : x ≤ 100000000) :
    Calls Tryd.prog 43 #[.slice ao n c, .int .i64 x] w fun e w' => e = .returned (.int .i64 (x + 3 * (n : Int))) ∧ Below w.heap.size w w' := by
  have HR : Hid (Reads w (.slice ao n c) (marksEn x n)) := hr
  clear hr
  go_enter Tryd.func43, Tryd.ntmps43
  go_wp2
  go_loopw [1, 5] (fun q i wr => ∃ k : Nat, k ≤ n ∧ i = .int .i64 k ∧ q = .int .i64 (x + 3 * (k : Int)) ∧ Below w.heap.size w wr) (fun _ i _ => n - (intOf i).toNat)
  case atStart => exact ⟨0, Nat.zero_le _, rfl, by simp, Below.refl _ _⟩
  case round =>
    obtain ⟨k, hk, rfl, rfl, hbel⟩ := hrel
    have hsz := hbel.size
    by_cases hlt : k < n
    · obtain ⟨b, o, rfl, hb, c0, c1, c2⟩ := en_at (HR.out.below hbel) (marksEn_at (x := x) hlt)
      replace c0 : wr.cell? ⟨b, o + k * 3, none⟩ = some (.int .i64 (x + 3 * (k : Int))) := c0
      replace c1 : wr.cell? ⟨b, o + k * 3 + 1, none⟩ = some (.int .i64 (x + 3 * (k : Int) + 1)) := c1
      replace c2 : wr.cell? ⟨b, o + k * 3 + 2, none⟩ = some (.string (mkT (x + 3 * (k : Int) + 1 + 1))) := c2
      have q0 := Wd.cell c2
      go_wp2
      refine wp_region_wd (by kernel_rfl) (by kernel_rfl) ?_
      repeat (go_big_quiet_step ((go_at_call 70; refine calls_wd (v := .string (mkT (x + 3 * (k : Int) + 1 + 1))) ?_; exact markText_int (x + 3 * (k : Int) + 1 + 1) _ (by omega) (by omega))))
      refine wpQuiet_nil ?_
      rintro _ ⟨x1, rfl⟩
      go_wp2
      go_roundw
      case rel => exact ⟨k + 1, by omega, by go_num, by go_num, hbel.trans (x1.ok.mono hsz)⟩
      case measure => simp [intOf]; omega
    · have hkn : k = n := by omega
      subst hkn
      go_wp2
      go_ret
      exact ⟨rfl, hbel⟩

theorem ret_log {fn : Func} {p : Tmp} {w : World} {g : Nat} {a b c : Value} {tmps : Array Value} (h : fn.results = #[.cell p 93]) (hp : tmps.getD p undef = .pointer (some ⟨g, 0, none⟩)) (h0 : w.cell? ⟨g, 0, none⟩ = some a) (h1 : w.cell? ⟨g, 1, none⟩ = some b) (h2 : w.cell? ⟨g, 2, none⟩ = some c) :
    (results fn tmps).run Tryd.prog w = .ok (.agg #[a, b, c]) w := by
  have hp' : tmps[p]?.getD undef = .pointer (some ⟨g, 0, none⟩) := by simpa using hp
  simp [results, h, hp', h0, h1, h2, asAddr, go_sem]
theorem ret_log2 {fn : Func} {p u : Tmp} {w : World} {g : Nat} {a b c x : Value} {tmps : Array Value} (h : fn.results = #[.cell p 93, .tmp u]) (hp : tmps.getD p undef = .pointer (some ⟨g, 0, none⟩)) (hu : tmps.getD u undef = x) (h0 : w.cell? ⟨g, 0, none⟩ = some a) (h1 : w.cell? ⟨g, 1, none⟩ = some b) (h2 : w.cell? ⟨g, 2, none⟩ = some c) :
    (results fn tmps).run Tryd.prog w = .ok (.tuple #[.agg #[a, b, c], x]) w := by
  have hp' : tmps[p]?.getD undef = .pointer (some ⟨g, 0, none⟩) := by simpa using hp
  have hu' : tmps[u]?.getD undef = x := by simpa using hu
  simp [results, h, hp', hu', h0, h1, h2, asAddr, go_sem]
end Go.Proofs.YtgjamikmjknlfaaDoor
