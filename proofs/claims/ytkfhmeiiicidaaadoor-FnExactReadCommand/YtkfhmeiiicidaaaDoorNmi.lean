/-
  Names and pools, as the program tells them: the walks.
-/
import Derived.Test.YtkfhmeiiicidaaaDoorPoo
import Derived.Lib.OthersKept
import Derived.Laws.RangeAny
namespace Go.Proofs.YtkfhmeiiicidaaaDoor
open Go Go.RowKit

theorem decode_step {s : ByteArray} {k : Nat} (h : k < s.size) (ha : s[k].toNat < 128) : Utf8.decode s k = (s[k].toNat, 1) := decode_ascii s k h ha
theorem iter_below (w : World) (s : ByteArray) (k : Nat) : Below w.heap.size w (w.iter s k) := (Below.refl _ _).alloc (Nat.le_refl _) _
theorem char_no {n : Nat} (h1 : ¬ (97 ≤ n ∧ n ≤ 122)) (h2 : ¬ (48 ≤ n ∧ n ≤ 57)) : charB n = false := by unfold charB; rw [decide_eq_false h1, decide_eq_false h2]; rfl
theorem char_letter {n : Nat} (h1 : 97 ≤ n) (h2 : n ≤ 122) : charB n = true := by unfold charB; rw [decide_eq_true (p := 97 ≤ n ∧ n ≤ 122) ⟨h1, h2⟩]; rfl
theorem char_figure {n : Nat} (h1 : 48 ≤ n) (h2 : n ≤ 57) : charB n = true := by unfold charB; rw [decide_eq_true (p := 48 ≤ n ∧ n ≤ 57) ⟨h1, h2⟩, Bool.or_true]
theorem name_first {s : ByteArray} (hn : 0 < s.size) (h : ¬ (97 ≤ s[0].toNat ∧ s[0].toNat ≤ 122)) : nameB s = false := name_head hn h
set_option maxRecDepth 10000 in
set_option maxHeartbeats 2000000 in
theorem implName_any (s : ByteArray) (w : World) (hs : s.size ≤ 9223372036854775807) :
    Calls Tryd.prog 32 #[.string s] w fun e w' => e = .returned (.bool (nameB s)) ∧ Below w.heap.size w w' := by
  by_cases hz : 1 ≤ s.size ∧ s.size ≤ 8
  · have h0 : 0 < s.size := hz.1
    have h8 : s.size ≤ 8 := hz.2
    clear hz
    have HG : Hid ((∀ j (h : j < s.size), charB s[j].toNat = true) → (97 ≤ s[0].toNat ∧ s[0].toNat ≤ 122) → nameB s = true) := fun ha hc => name_good h0 h8 hc ha
    have HH : Hid (¬ (97 ≤ s[0].toNat ∧ s[0].toNat ≤ 122) → nameB s = false) := fun hc => name_first h0 hc
    go_enter Tryd.func32, Tryd.ntmps32
    go_wp2
    go_loopw [] (fun wr => ∃ k : Nat, k ≤ s.size ∧ Hid ((∀ j (h : j < s.size), j < k → charB s[j].toNat = true) ∧ (0 < k → 97 ≤ s[0].toNat ∧ s[0].toNat ≤ 122)) ∧ wr = w.iter s k) (fun wr => s.size - wr.iterPos w.heap.size)
    case atStart => exact ⟨0, Nat.zero_le _, ⟨fun j _ hj => by omega, fun h => by omega⟩, rfl⟩
    case round =>
      obtain ⟨k, hk, HE, rfl⟩ := hrel
      have HB : Hid (∀ j, Below w.heap.size w (w.iter s j)) := fun j => iter_below w s j
      by_cases hlt : k < s.size
      · have next (hq : charB s[k].toNat = true) (h0' : k = 0 → 97 ≤ s[k].toNat ∧ s[k].toNat ≤ 122) : Hid ((∀ j (h : j < s.size), j < k + 1 → charB s[j].toNat = true) ∧ (0 < k + 1 → 97 ≤ s[0].toNat ∧ s[0].toNat ≤ 122)) := by
          refine ⟨fun j h hj => ?_, fun _ => ?_⟩
          · by_cases e : j = k
            · subst e; exact hq
            · exact HE.out.1 j h (by omega)
          · by_cases e : k = 0
            · subst e; exact h0' rfl
            · exact HE.out.2 (by omega)
        by_cases hasc : s[k].toNat < 128
        · have hnx : ∀ ty, (Instr.next (.pointer (some ⟨w.heap.size, 0, none⟩)) true ty).run Tryd.prog (w.iter s k) = .ok (.tuple #[.bool true, .int .i64 k, .int .i32 s[k].toNat]) (w.iter s (k + 1)) := fun ty => run_next_ascii w s k ty hlt hasc
          by_cases a1 : 97 ≤ s[k].toNat
          · by_cases a2 : s[k].toNat ≤ 122
            · have HN := next (char_letter a1 a2) (fun _ => ⟨a1, a2⟩)
              clear next
              go_wp2
              go_roundw
              case rel => exact ⟨k + 1, by omega, HN, rfl⟩
              case measure => simp only [World.iterPos_iter]; omega
            · have HF : Hid (nameB s = false) := name_bad hlt (char_no (by omega) (by omega))
              have b1 : ¬ s[k].toNat ≤ 57 := by omega
              have b2 : 48 ≤ s[k].toNat := by omega
              have b5 : decide ((s[k].toNat : Int) ≤ 122) = false := decide_eq_false (by omega)
              clear next
              go_wp2
              go_ret
              exact ⟨by rw [HF.out]; rfl, HB.out _⟩
          · by_cases a3 : 48 ≤ s[k].toNat
            · by_cases a4 : s[k].toNat ≤ 57
              · by_cases e : 0 < k
                · have HN := next (char_figure a3 a4) (fun h => by omega)
                  clear next
                  go_wp2
                  go_roundw
                  case rel => exact ⟨k + 1, by omega, HN, rfl⟩
                  case measure => simp only [World.iterPos_iter]; omega
                · have e0 : k = 0 := by omega
                  subst e0
                  have HF : Hid (nameB s = false) := HH.out (by omega)
                  clear next
                  go_wp2
                  go_ret
                  exact ⟨by rw [HF.out]; rfl, HB.out _⟩
              · have HF : Hid (nameB s = false) := name_bad hlt (char_no (by omega) (by omega))
                clear next
                go_wp2
                go_ret
                exact ⟨by rw [HF.out]; rfl, HB.out _⟩
            · have HF : Hid (nameB s = false) := name_bad hlt (char_no (by omega) (by omega))
              clear next
              go_wp2
              go_ret
              exact ⟨by rw [HF.out]; rfl, HB.out _⟩
        · have HF : Hid (nameB s = false) := name_bad hlt (char_no (by omega) (by omega))
          have hhi := (decode_high s k hlt (by omega)).1
          have hle := decode_le s k
          obtain ⟨r, wd, hrw⟩ : ∃ r wd, Utf8.decode s k = (r, wd) := ⟨_, _, rfl⟩
          rw [hrw] at hhi hle
          have hnx : ∀ ty, (Instr.next (.pointer (some ⟨w.heap.size, 0, none⟩)) true ty).run Tryd.prog (w.iter s k) = .ok (.tuple #[.bool true, .int .i64 k, .int .i32 r]) (w.iter s (k + wd)) := fun ty => by
            have := run_next_any (P := Tryd.prog) w s k ty hlt
            rw [hrw] at this
            exact this
          dsimp only at hhi hle
          have b1 : ¬ r ≤ 57 := by omega
          have b2 : 48 ≤ r := by omega
          have b3 : ¬ r ≤ 122 := by omega
          have b4 : 97 ≤ r := by omega
          have b5 : decide ((r : Int) ≤ 122) = false := decide_eq_false (by omega)
          clear next
          go_wp2
          go_ret
          exact ⟨by rw [HF.out]; rfl, HB.out _⟩
      · have hnx : ∀ ty, (Instr.next (.pointer (some ⟨w.heap.size, 0, none⟩)) true ty).run Tryd.prog (w.iter s k) = _ := fun ty => run_next_end w s k ty hlt
        have HF : Hid (nameB s = true) := HG.out (fun j h => HE.out.1 j h (by omega)) (HE.out.2 (by omega))
        go_wp2
        go_ret
        exact ⟨by rw [HF.out]; rfl, HB.out _⟩
  · have HF : Hid (nameB s = false) := name_size hz
    by_cases hs0 : s.size < 1
    · clear hz
      go_enter Tryd.func32, Tryd.ntmps32
      go_wp2
      go_ret
      exact ⟨by rw [HF.out]; rfl, Below.refl _ _⟩
    · have hs1 : 8 < s.size := by omega
      clear hz
      go_enter Tryd.func32, Tryd.ntmps32
      go_wp2
      go_ret
      exact ⟨by rw [HF.out]; rfl, Below.refl _ _⟩
end Go.Proofs.YtkfhmeiiicidaaaDoor
