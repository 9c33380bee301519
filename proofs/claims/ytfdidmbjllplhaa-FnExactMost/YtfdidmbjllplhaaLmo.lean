/-
  The law on most of a conf: the walk.
-/
import Derived.Test.YtfdidmbjllplhaaMo
namespace Go.Proofs.Ytfdidmbjllplhaa
open Go Go.RowKit

set_option maxHeartbeats 2000000 in
theorem law_Most (ao bo : Option Addr) (n cap n2 cap2 : Nat) (l m : List Int) (w : World) (hr : Reads w (.slice ao n cap) l) (hm : Reads w (.slice bo n2 cap2) m) (hn : n ≤ 9223372036854775807) (hn2 : n2 ≤ 9223372036854775807) :
    Calls Try.prog 9 #[.slice ao n cap, .slice bo n2 cap2] w fun e w' => e = .returned (.bool true) ∧ Below w.heap.size w w' := by
  have HR : Hid (Reads w (.slice ao n cap) l) := hr
  have HM : Hid (Reads w (.slice bo n2 cap2) m) := hm
  have HN : Hid (n = l.length) := hr.len
  have HN2 : Hid (n2 = m.length) := hm.len
  clear hr hm
  by_cases hbig : (1048576 : Int) < (n : Int)
  · go_enter Try.func9, Try.ntmps9
    go_wp2
    go_ret
    exact ⟨rfl, Below.refl _ _⟩
  · by_cases hbig2 : (1048576 : Int) < (n2 : Int)
    · go_enter Try.func9, Try.ntmps9
      go_wp2
      go_ret
      exact ⟨rfl, Below.refl _ _⟩
    · have hl1 : n ≤ 1048576 := by omega
      have hl2 : n2 ≤ 1048576 := by omega
      have HL : Hid (l.length ≤ 1048577) := by show l.length ≤ 1048577; rw [← HN.out]; omega
      have HL2 : Hid (m.length ≤ 1048577) := by show m.length ≤ 1048577; rw [← HN2.out]; omega
      obtain ⟨q, HQ⟩ : ∃ q, Hid (mostB l m = q) := ⟨_, rfl⟩
      go_enter Try.func9, Try.ntmps9
      go_wp2_with fail
      refine (toIntS_any ao n cap l _ HR.out hl1).mono ?_
      rintro e w1 ⟨v1, rfl, ho1, B1⟩
      have R1 : Hid (Reads w1 (.slice ao n cap) l) := HR.out.below B1
      have M1 : Hid (Reads w1 (.slice bo n2 cap2) m) := HM.out.below B1
      have O1 : Hid (Reads w1 v1 l) := ho1.reads
      clear ho1 HR HM
      go_wp2_with fail
      refine (toIntS_any bo n2 cap2 m _ M1.out hl2).mono ?_
      rintro e w2 ⟨v2, rfl, ho2, hb2⟩
      have B2 := Below.on B1 hb2
      have R2 : Hid (Reads w2 (.slice ao n cap) l) := R1.out.below hb2
      have M2 : Hid (Reads w2 (.slice bo n2 cap2) m) := M1.out.below hb2
      have O2 : Hid (Reads w2 v1 l) := O1.out.below hb2
      have P2 : Hid (Reads w2 v2 m) := ho2.reads
      clear hb2 ho2 B1 R1 M1 O1
      go_wp2_with fail
      refine (specMost_any O2.out P2.out HL.out HL2.out).mono ?_
      rintro e w3 ⟨rfl, hb3⟩
      have B3 := Below.on B2 hb3
      have R3 : Hid (Reads w3 (.slice ao n cap) l) := R2.out.below hb3
      have M3 : Hid (Reads w3 (.slice bo n2 cap2) m) := M2.out.below hb3
      clear hb3 B2 R2 M2 O2 P2
      rw [HQ.out]
      go_wp2_with fail
      refine (toIntS_any ao n cap l _ R3.out hl1).mono ?_
      rintro e w4 ⟨v4, rfl, ho4, hb4⟩
      have B4 := Below.on B3 hb4
      have R4 : Hid (Reads w4 (.slice ao n cap) l) := R3.out.below hb4
      have M4 : Hid (Reads w4 (.slice bo n2 cap2) m) := M3.out.below hb4
      have O4 : Hid (Reads w4 v4 l) := ho4.reads
      clear hb4 ho4 B3 R3 M3
      go_wp2_with fail
      refine (toIntS_any bo n2 cap2 m _ M4.out hl2).mono ?_
      rintro e w5 ⟨v5, rfl, ho5, hb5⟩
      have B5 := Below.on B4 hb5
      have R5 : Hid (Reads w5 (.slice ao n cap) l) := R4.out.below hb5
      have M5 : Hid (Reads w5 (.slice bo n2 cap2) m) := M4.out.below hb5
      have O5 : Hid (Reads w5 v4 l) := O4.out.below hb5
      have P5 : Hid (Reads w5 v5 m) := ho5.reads
      clear hb5 ho5 B4 R4 M4 O4
      go_wp2_with fail
      refine (most_any O5.out P5.out HL.out HL2.out).mono ?_
      rintro e w6 ⟨rfl, hb6⟩
      have B6 := Below.on B5 hb6
      have R6 : Hid (Reads w6 (.slice ao n cap) l) := R5.out.below hb6
      have M6 : Hid (Reads w6 (.slice bo n2 cap2) m) := M5.out.below hb6
      have O6 : Hid (Reads w6 v4 l) := O5.out.below hb6
      have P6 : Hid (Reads w6 v5 m) := P5.out.below hb6
      clear hb6 B5 R5 M5 O5 P5
      rw [HQ.out]
      go_wp2_with fail
      refine (toIntS_any ao n cap l _ R6.out hl1).mono ?_
      rintro e w7 ⟨v7, rfl, ho7, hb7⟩
      have B7 := Below.on B6 hb7
      have M7 : Hid (Reads w7 (.slice bo n2 cap2) m) := M6.out.below hb7
      have O7 : Hid (Reads w7 v4 l) := O6.out.below hb7
      have P7 : Hid (Reads w7 v5 m) := P6.out.below hb7
      have S7 : Hid (Reads w7 v7 l) := ho7.reads
      clear hb7 ho7 B6 R6 M6 O6 P6
      go_wp2_with fail
      refine (eqIntS_val O7.out S7.out HL.out).mono ?_
      rintro e w8 ⟨rfl, hb8⟩
      have B8 := Below.on B7 hb8
      have M8 : Hid (Reads w8 (.slice bo n2 cap2) m) := M7.out.below hb8
      have P8 : Hid (Reads w8 v5 m) := P7.out.below hb8
      clear hb8 B7 M7 O7 P7 S7
      go_wp2_with fail
      refine (toIntS_any bo n2 cap2 m _ M8.out hl2).mono ?_
      rintro e w9 ⟨v9, rfl, ho9, hb9⟩
      have B9 := Below.on B8 hb9
      have P9 : Hid (Reads w9 v5 m) := P8.out.below hb9
      have S9 : Hid (Reads w9 v9 m) := ho9.reads
      clear hb9 ho9 B8 M8 P8
      go_wp2_with fail
      refine (eqIntS_val P9.out S9.out HL2.out).mono ?_
      rintro e w10 ⟨rfl, hb10⟩
      have B10 := Below.on B9 hb10
      clear hb10 B9 P9 S9
      go_wp2
      go_ret
      exact ⟨rfl, B10⟩
end Go.Proofs.Ytfdidmbjllplhaa
