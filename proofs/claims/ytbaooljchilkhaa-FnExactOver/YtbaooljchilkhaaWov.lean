/-
  The law on Over: the walk.
-/
import Derived.Test.YtbaooljchilkhaaRov
import Derived.Test.YtbaooljchilkhaaRlh
import Derived.Test.YtbaooljchilkhaaRlh
namespace Go.Proofs.Ytbaooljchilkhaa
open Go Go.RowKit
set_option linter.unusedVariables false

set_option maxRecDepth 10000 in
set_option maxHeartbeats 8000000 in
theorem law_Over (ro : Option Addr) (rl rc : Nat) (rn : ByteArray) (rf ru re : Int) (st : List Sa) (w : World) (rr : Reads w (.slice ro rl rc) st) (rfit : rl ≤ 9223372036854775807 ∧ rn.size ≤ 9223372036854775807) :
    Calls Try.prog 3 #[.agg #[.string rn, .int .i64 rf, .int .i64 ru, .int .i64 re, .slice ro rl rc]] w fun x w' => x = .returned (.bool true) ∧ Below w.heap.size w w' := by
  have HRN : Hid (st.length = rl) := rr.len.symm
  have HZR : Hid (∀ (W : World) (L : Int), 0 ≤ L → L ≤ 1048576 → Calls Try.prog 6 #[.agg #[.string rn, .int .i64 rf, .int .i64 ru, .int .i64 re, .slice ro rl rc], .int .i64 L] W fun e w' => ∃ r : Int, e = .returned (.int .i64 r) ∧ r ≤ 1048576 ∧ -1 ≤ r ∧ (0 ≤ r → (rn.size : Int) ≤ 1048576 ∧ (rl : Int) ≤ 1048576) ∧ Below W.heap.size W w') := fun W L h0 h1 => szRun_any ro rl rc rn rf ru re L W h1 h0 rfit.1 rfit.2
  have HRD : Hid (∀ W, Below w.heap.size w W → Reads W (.slice ro rl rc) st) := fun W hb => rr.below hb
  clear rr rfit
  obtain ⟨q, HQ⟩ : ∃ q, Hid (overB st = q) := ⟨_, rfl⟩
  obtain ⟨W0, hV0⟩ : ∃ V, w.alloc (.cells #[.string rn, .int .i64 rf, .int .i64 ru, .int .i64 re, .slice ro rl rc] 26) = V := ⟨_, rfl⟩
  have K0 : K5 W0 (w.heap.size) rn rf ru re (.slice ro rl rc) := by rw [← hV0]; exact K5.new _ _ _ _ _ _
  have B0 : Below w.heap.size w W0 := by rw [← hV0]; exact ba (Below.refl _ _) _
  have s0 : w.heap.size < W0.heap.size := K0.lt
  go_enter Try.func3, Try.ntmps3
  have Kc0 := K0.c0
  have Kc1 := K0.c1
  have Kc2 := K0.c2
  have Kc3 := K0.c3
  have Kc4 := K0.c4
  go_wp2_with fail
  refine (HZR.out _ 1048576 (by decide) (by decide)).mono ?_
  rintro x W1 ⟨r1, rfl, hq1, hq2, hq3, hb⟩
  clear hV0
  clear Kc0 Kc1 Kc2 Kc3 Kc4
  have K1 := K0.on hb
  have B1 := Below.on B0 hb
  have s1 : W0.heap.size ≤ W1.heap.size := hb.size
  clear K0 B0 hb
  have HQ3 : Hid (0 ≤ r1 → (rn.size : Int) ≤ 1048576 ∧ (rl : Int) ≤ 1048576) := hq3
  clear hq3 HZR
  by_cases hneg1 : r1 < 0
  · go_wp2
    go_ret
    exact ⟨rfl, B1⟩
  have hrl : rl ≤ 1048576 := by have := (HQ3.out (by omega)).2; omega
  have hrz : rn.size ≤ 1048576 := by have := (HQ3.out (by omega)).1; omega
  clear HQ3
  have HTR : Hid (∀ W, Below w.heap.size w W → Calls Try.prog 8 #[.agg #[.string rn, .int .i64 rf, .int .i64 ru, .int .i64 re, .slice ro rl rc]] W fun e w' => ∃ (va : Option Addr) (vc : Nat), e = .returned (.agg #[.string rn, .int .i64 rf, .int .i64 ru, .int .i64 re, .slice va rl vc]) ∧ ownsR w' W.heap.size 44 (.slice va rl vc) st ∧ Below W.heap.size W w') := fun W hb => (toRun_any ro rl rc rn rf ru re st W (HRD.out W hb) hrl).mono fun e w' ⟨v, he, ho, hb⟩ => by
    obtain ⟨va, vc, ev⟩ := ho.slice
    rw [HRN.out] at ev
    subst ev
    exact ⟨va, vc, he, ho, hb⟩
  have HS : Hid (∀ (vo : Option Addr) (vc : Nat) W, Below w.heap.size w W → Reads W (.slice vo rl vc) st → Calls Try.prog 7 #[.agg #[.string rn, .int .i64 rf, .int .i64 ru, .int .i64 re, .slice vo rl vc]] W fun x w' => x = .returned (.bool q) ∧ Below W.heap.size W w') := fun vo vc W hb tr => by
    have := specOver_any vo rl vc rn rf ru re st W tr (Nat.le_succ_of_le hrl)
    rw [HQ.out] at this
    exact this
  have HA : Hid (∀ (vo : Option Addr) (vc : Nat) W, Below w.heap.size w W → Reads W (.slice vo rl vc) st → Calls Try.prog 9 #[.agg #[.string rn, .int .i64 rf, .int .i64 ru, .int .i64 re, .slice vo rl vc]] W fun x w' => x = .returned (.bool q) ∧ Below W.heap.size W w') := fun vo vc W hb tr => by
    have := implOver_any vo rl vc rn rf ru re st W tr (Nat.le_succ_of_le hrl)
    rw [HQ.out] at this
    exact this
  have Kc0 := K1.c0
  have Kc1 := K1.c1
  have Kc2 := K1.c2
  have Kc3 := K1.c3
  have Kc4 := K1.c4
  go_wp2_with fail
  refine (HTR.out _ B1).mono ?_
  rintro x W2 ⟨ta, tc, rfl, ho, hb⟩
  clear Kc0 Kc1 Kc2 Kc3 Kc4
  have HT1 : Hid (Reads W2 (.slice ta rl tc) st) := ho.reads
  clear ho
  have K2 := K1.on hb
  have B2 := Below.on B1 hb
  have s2 : W1.heap.size ≤ W2.heap.size := hb.size
  clear K1 B1 hb
  go_wp2_with fail
  refine (HS.out ta tc W2 B2 HT1.out).mono ?_
  rintro x W3 ⟨rfl, hb⟩
  have K3 := K2.on hb
  have B3 := Below.on B2 hb
  have s3 : W2.heap.size ≤ W3.heap.size := hb.size
  clear K2 B2 hb
  clear HT1
  have Kc0 := K3.c0
  have Kc1 := K3.c1
  have Kc2 := K3.c2
  have Kc3 := K3.c3
  have Kc4 := K3.c4
  go_wp2_with fail
  refine (HTR.out _ B3).mono ?_
  rintro x W4 ⟨xa, xc, rfl, ho, hb⟩
  clear Kc0 Kc1 Kc2 Kc3 Kc4
  have HBx : Hid (∀ k, (Value.slice xa rl xc).ownBlock = some k → W3.heap.size ≤ k ∧ k < W4.heap.size) := fun k hk => ho.lt k hk
  have Vx4 : Hid (ownsR W4 w.heap.size 44 (.slice xa rl xc) st) := ho.mono B3.size
  clear ho
  have K4 := K3.on hb
  have B4 := Below.on B3 hb
  have s4 : W3.heap.size ≤ W4.heap.size := hb.size
  clear K3 B3 hb
  obtain ⟨W5, hal5⟩ : ∃ V, W4.alloc (.cells #[.string rn, .int .i64 rf, .int .i64 ru, .int .i64 re, .slice xa rl xc] 32) = V := ⟨_, rfl⟩
  have hb : Below W4.heap.size W4 W5 := by rw [← hal5]; exact ba (Below.refl _ _) _
  have Xn : R5 W5 W4.heap.size rn rf ru re (.slice xa rl xc) := by rw [← hal5]; exact R5.new _ _ _ _ _ _
  have K5 := K4.on hb
  have Vx5 : Hid (ownsR W5 w.heap.size 44 (.slice xa rl xc) st) := Vx4.out.all hb
  have B5 := Below.on B4 hb
  have s5 : W4.heap.size ≤ W5.heap.size := hb.size
  clear K4 Vx4 B4 hb
  have Xx5 := Xn
  clear Xn
  have Xxc0 := Xx5.c0
  have Xxc1 := Xx5.c1
  have Xxc2 := Xx5.c2
  have Xxc3 := Xx5.c3
  have Xxc4 := Xx5.c4
  go_wp2_with fail
  refine (HA.out xa xc W5 B5 Vx5.out.reads).mono ?_
  rintro x W6 ⟨rfl, hb⟩
  clear hal5
  clear Xxc0 Xxc1 Xxc2 Xxc3 Xxc4
  have K6 := K5.on hb
  have Vx6 : Hid (ownsR W6 w.heap.size 44 (.slice xa rl xc) st) := Vx5.out.all hb
  have Xx6 := Xx5.on hb
  have B6 := Below.on B5 hb
  have s6 : W5.heap.size ≤ W6.heap.size := hb.size
  clear K5 Vx5 Xx5 B5 hb
  have Kk0 := Below.cellOf (B := W6.heap.size) (W := W6) (p := ⟨w.heap.size, 0, none⟩) K6.lt K6.c0
  have Kk1 := Below.cellOf (B := W6.heap.size) (W := W6) (p := ⟨w.heap.size, 1, none⟩) K6.lt K6.c1
  have Kk2 := Below.cellOf (B := W6.heap.size) (W := W6) (p := ⟨w.heap.size, 2, none⟩) K6.lt K6.c2
  have Kk3 := Below.cellOf (B := W6.heap.size) (W := W6) (p := ⟨w.heap.size, 3, none⟩) K6.lt K6.c3
  have Kk4 := Below.cellOf (B := W6.heap.size) (W := W6) (p := ⟨w.heap.size, 4, none⟩) K6.lt K6.c4
  have Xxk0 := Below.cellOf (B := W6.heap.size) (W := W6) (p := ⟨W4.heap.size, 0, none⟩) Xx6.lt Xx6.c0
  have Xxk1 := Below.cellOf (B := W6.heap.size) (W := W6) (p := ⟨W4.heap.size, 1, none⟩) Xx6.lt Xx6.c1
  have Xxk2 := Below.cellOf (B := W6.heap.size) (W := W6) (p := ⟨W4.heap.size, 2, none⟩) Xx6.lt Xx6.c2
  have Xxk3 := Below.cellOf (B := W6.heap.size) (W := W6) (p := ⟨W4.heap.size, 3, none⟩) Xx6.lt Xx6.c3
  have Xxk4 := Below.cellOf (B := W6.heap.size) (W := W6) (p := ⟨W4.heap.size, 4, none⟩) Xx6.lt Xx6.c4
  go_wp2_with fail
  go_region_held3 (fun w' => Below W6.heap.size W6 w') ((first | exact (Below.refl _ _).drew | exact hS6 | exact hS7)) ((first | (go_at_call 8; refine (HTR.out _ (Below.on B6 (by assumption))).mono ?_; rintro x wq ⟨ya, yc, rfl, ho6, hb6⟩; have hS6 := keep_on (B := W6.heap.size) (W := W6) hb6 (by assumption) (Nat.le_refl _)) | (go_at_call 10; refine (eqRun_any _ _ _ _ _ _ _ _ _ st _ (Vx6.out.reads.below hS6) ho6.reads (Nat.le_succ_of_le hrl)).mono ?_; rintro x W7 ⟨rfl, hb7⟩; have hS7 := keep_on (B := W6.heap.size) (W := W6) hb7 hS6 (Nat.le_refl _))))
  have hb := hS7
  clear ho6 hb6 hb7 hS6 hS7 Kk0 Kk1 Kk2 Kk3 Kk4 Xxk0 Xxk1 Xxk2 Xxk3 Xxk4
  have K7 := K6.on hb
  have Vx7 : Hid (ownsR W7 w.heap.size 44 (.slice xa rl xc) st) := Vx6.out.all hb
  have Xx7 := Xx6.on hb
  have B7 := Below.on B6 hb
  have s7 : W6.heap.size ≤ W7.heap.size := hb.size
  clear K6 Vx6 Xx6 B6 hb
  go_wp2
  go_ret
  exact ⟨rfl, B7⟩
end Go.Proofs.Ytbaooljchilkhaa
