/-
  The law on whether a conf is right: the walk.
-/
import Derived.Test.YtfdidmbjllplhaaCo
namespace Go.Proofs.Ytfdidmbjllplhaa
open Go Go.RowKit

/-- Two rows that read as one list are told the same. -/
theorem eqIntS_val {w : World} {v u : Value} {l : List Int} (ha : Reads w v l) (hb : Reads w u l) (hn : l.length ≤ 1048577) :
    Calls Try.prog 13 #[v, u] w fun e w' => e = .returned (.bool true) ∧ Below w.heap.size w w' := by
  obtain ⟨ao, c, rfl, _⟩ := id ha
  obtain ⟨bo, d, rfl, _⟩ := id hb
  exact eqIntS_any ao bo _ c d l w ha hb hn

set_option maxHeartbeats 2000000 in
theorem law_ConfOk (ao : Option Addr) (n cap : Nat) (l : List Int) (w : World) (hr : Reads w (.slice ao n cap) l) (hn : n ≤ 9223372036854775807) :
    Calls Try.prog 3 #[.slice ao n cap] w fun e w' => e = .returned (.bool true) ∧ Below w.heap.size w w' := by
  have HR : Hid (Reads w (.slice ao n cap) l) := hr
  have HN : Hid (n = l.length) := hr.len
  clear hr
  by_cases hbig : (1048576 : Int) < (n : Int)
  · go_enter Try.func3, Try.ntmps3
    go_wp2
    go_ret
    exact ⟨rfl, Below.refl _ _⟩
  · have hn1 : n ≤ 1048576 := by omega
    have HL : Hid (l.length ≤ 1048577) := by show l.length ≤ 1048577; rw [← HN.out]; omega
    go_enter Try.func3, Try.ntmps3
    go_wp2_with fail
    refine (toIntS_any ao n cap l _ HR.out hn1).mono ?_
    rintro e w1 ⟨v1, rfl, ho1, hb1⟩
    have R1 : Hid (Reads w1 (.slice ao n cap) l) := HR.out.below hb1
    have O1 : Hid (Reads w1 v1 l) := ho1.reads
    clear ho1
    go_wp2_with fail
    refine (specConfOk_any O1.out HL.out).mono ?_
    rintro e w2 ⟨rfl, hb2⟩
    have B2 := Below.on hb1 hb2
    have R2 : Hid (Reads w2 (.slice ao n cap) l) := R1.out.below hb2
    clear hb1 hb2 R1 O1
    go_wp2_with fail
    refine (toIntS_any ao n cap l _ R2.out hn1).mono ?_
    rintro e w3 ⟨v3, rfl, ho3, hb3⟩
    have B3 := Below.on B2 hb3
    have R3 : Hid (Reads w3 (.slice ao n cap) l) := R2.out.below hb3
    have O3 : Hid (Reads w3 v3 l) := ho3.reads
    clear hb3 ho3 B2 R2
    go_wp2_with fail
    refine (confOk_any O3.out HL.out).mono ?_
    rintro e w4 ⟨rfl, hb4⟩
    have B4 := Below.on B3 hb4
    have R4 : Hid (Reads w4 (.slice ao n cap) l) := R3.out.below hb4
    have O4 : Hid (Reads w4 v3 l) := O3.out.below hb4
    clear hb4 B3 R3 O3
    generalize okC l = q
    go_wp2_with fail
    refine (toIntS_any ao n cap l _ R4.out hn1).mono ?_
    rintro e w5 ⟨v5, rfl, ho5, hb5⟩
    have B5 := Below.on B4 hb5
    have O5 : Hid (Reads w5 v3 l) := O4.out.below hb5
    have P5 : Hid (Reads w5 v5 l) := ho5.reads
    clear hb5 ho5 B4 R4 O4
    go_wp2_with fail
    refine (eqIntS_val O5.out P5.out HL.out).mono ?_
    rintro e w6 ⟨rfl, hb6⟩
    have B6 := Below.on B5 hb6
    clear hb6 B5 O5 P5
    go_wp2
    go_ret
    exact ⟨rfl, B6⟩
end Go.Proofs.Ytfdidmbjllplhaa
