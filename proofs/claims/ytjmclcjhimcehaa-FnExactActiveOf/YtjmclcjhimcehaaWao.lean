/-
  The law on ActiveOf: the walk.
-/
import Derived.Test.YtjmclcjhimcehaaAcs15
import Derived.Test.YtjmclcjhimcehaaAcu15
import Derived.Test.YtjmclcjhimcehaaAci15
namespace Go.Proofs.Ytjmclcjhimcehaa
open Go Go.RowKit
set_option linter.unusedVariables false

set_option maxRecDepth 10000 in
set_option maxHeartbeats 8000000 in
theorem law_ActiveOf (so po ro : Option Addr) (sn sc pn pc rn rc : Nat) (ck tk : Int) (b : Bo) (s : ByteArray) (w : World) (hr : BdA w (.slice so sn sc) (.slice po pn pc) (.slice ro rn rc) b) (hf : FitB b) (hs : s.size ≤ 9223372036854775807) :
    Calls Try.prog 7 #[bdV (.slice so sn sc) (.slice po pn pc) (.slice ro rn rc) ck tk, .string s] w fun x w' => x = .returned (.bool true) ∧ Below w.heap.size w w' := by
  have HZ : Hid (∀ W, Below w.heap.size w W → Calls Try.prog 13 #[bdV (.slice so sn sc) (.slice po pn pc) (.slice ro rn rc) ck tk, .int .i64 1048576] W fun e w' => ∃ r : Int, e = .returned (.int .i64 r) ∧ -1 ≤ r ∧ (0 ≤ r → WeiB b 1048576) ∧ Below W.heap.size W w') := fun W hb => szBoard_any so po ro sn sc pn pc rn rc ck tk b 1048576 W (hr.below hb) hf (by decide) (by decide)
  have HA : Hid (∀ W, Below w.heap.size w W → BdA W (.slice so sn sc) (.slice po pn pc) (.slice ro rn rc) b) := fun W hb => hr.below hb
  have HL : Hid (sn = b.ses.length ∧ b.plans.length = pn ∧ b.runs.length = rn) := ⟨hr.ses.len, hr.plans.len, hr.runs.len⟩
  have HF : Hid (FitB b) := hf
  clear hr hf
  obtain ⟨R, HR⟩ : ∃ R, Hid (actN b.runs s = R) := ⟨_, rfl⟩
  obtain ⟨W0, hV0⟩ : ∃ V, w.alloc (.cells #[.slice so sn sc, .slice po pn pc, .slice ro rn rc, .int .i64 ck, .int .i64 tk] 35) = V := ⟨_, rfl⟩
  have K0 : B5 35 W0 w.heap.size (.slice so sn sc) (.slice po pn pc) (.slice ro rn rc) (.int .i64 ck) (.int .i64 tk) := by rw [← hV0]; exact B5.new _ _ _ _ _ _ _
  have B0 : Below w.heap.size w W0 := by rw [← hV0]; exact ba (Below.refl _ _) _
  by_cases hbig : (1048576 : Int) < s.size
  · go_enter Try.func7, Try.ntmps7
    go_wp2
    go_ret
    exact ⟨rfl, B0⟩
  have hsm : s.size ≤ 1048576 := by omega
  obtain ⟨sz, HSZ⟩ : ∃ z, Hid (s.size = z) := ⟨_, rfl⟩
  go_enter Try.func7, Try.ntmps7
  have c0 := K0.c0
  have c1 := K0.c1
  have c2 := K0.c2
  have c3 := K0.c3
  have c4 := K0.c4
  go_wp2_with fail
  refine (HZ.out _ B0).mono ?_
  rintro x W1 ⟨r1, rfl, hq1, hq2, hb⟩
  have HQ : Hid (0 ≤ r1 → WeiB b 1048576) := hq2
  have K1 := K0.up hb
  have B1 := Below.on B0 hb
  clear K0 B0 hb hV0 hq2 HZ c0 c1 c2 c3 c4
  by_cases hneg : r1 < 0
  · go_wp2
    go_ret
    exact ⟨rfl, B1⟩
  have HSI : Hid (SizB b) := (HQ.out (by omega)).siz
  have HWB : Hid (WeiB b 1048576) := HQ.out (by omega)
  have hlen : sn ≤ 1048576 ∧ pn ≤ 1048576 ∧ rn ≤ 1048576 := by
    have h1 := HL.out
    have h2 := HSI.out
    exact ⟨by have := h2.sn; omega, by have := h2.pn; omega, by have := h2.rn; omega⟩
  obtain ⟨lsn, lpn, lrn⟩ := hlen
  clear HQ HL
  have HT : Hid (∀ W, Below w.heap.size w W → Calls Try.prog 15 #[bdV (.slice so sn sc) (.slice po pn pc) (.slice ro rn rc) ck tk] W fun e w' => ∃ (sa : Option Addr) (sx : Nat) (pa ra : Addr), e = .returned (bdV (.slice sa sn sx) (.slice (some pa) pn pn) (.slice (some ra) rn rn) ck tk) ∧ BdB W.heap.size w' (.slice sa sn sx) (.slice (some pa) pn pn) (.slice (some ra) rn rn) b ∧ Below W.heap.size W w') := fun W hb => toBoard_any so po ro sn sc pn pc rn rc ck tk b W (HA.out W hb) HSI.out
  have HS : Hid (∀ (so' po' ro' : Option Addr) (sc' pc' rc' : Nat) (W : World), BdA W (.slice so' sn sc') (.slice po' pn pc') (.slice ro' rn rc') b → Calls Try.prog 21 #[bdV (.slice so' sn sc') (.slice po' pn pc') (.slice ro' rn rc') ck tk, .string s] W fun x w' => x = .returned (.int .i64 R) ∧ Below W.heap.size W w') := fun so' po' ro' sc' pc' rc' W hd => by
    have hsz := HSI.out
    have := specActive_any so' po' ro' sn sc' pn pc' rn rc' ck tk b.runs s W hd.runs (by omega) hsz.runs
    rw [HR.out] at this
    exact this
  have HI : Hid (∀ (so' po' ro' : Option Addr) (sc' pc' rc' C : Nat) (W : World), BdB C W (.slice so' sn sc') (.slice po' pn pc') (.slice ro' rn rc') b → Calls Try.prog 22 #[bdV (.slice so' sn sc') (.slice po' pn pc') (.slice ro' rn rc') ck tk, .string s] W fun x w' => x = .returned (.int .i64 R) ∧ Below W.heap.size W w') := fun so' po' ro' sc' pc' rc' C W hd => by
    have hsz := HSI.out
    have := implActive_any so' po' ro' sn sc' pn pc' rn rc' ck tk b.plans b.runs s W hd.all.plans (by omega) hd.all.runs (by omega) (fun r h => ⟨hsz.runs r h, by have := (HWB.out.runs r h).1; omega⟩) (fun p h => ⟨(hsz.plans p h).1, by have := (HWB.out.plans p h).1; omega, fun t ht => ((HF.out.plans p h).small t ht).pool⟩) (by omega)
    rw [HR.out] at this
    exact this
  clear HA
  have c0 := K1.c0
  have c1 := K1.c1
  have c2 := K1.c2
  have c3 := K1.c3
  have c4 := K1.c4
  go_wp2_with fail
  refine (HT.out _ B1).mono ?_
  rintro x W2 ⟨ta, tx, tp, tr, rfl, ht2, hb⟩
  clear c0 c1 c2 c3 c4
  have HT2 : Hid (BdA W2 (.slice ta sn tx) (.slice (some tp) pn pn) (.slice (some tr) rn rn) b) := ht2.all
  have K2 := K1.up hb
  have B2 := Below.on B1 hb
  clear K1 B1 hb ht2
  go_wp2_with fail
  refine (HS.out _ _ _ _ _ _ W2 HT2.out).mono ?_
  rintro x W3 ⟨rfl, hb⟩
  have K3 := K2.up hb
  have B3 := Below.on B2 hb
  clear K2 B2 hb HT2 HS
  have c0 := K3.c0
  have c1 := K3.c1
  have c2 := K3.c2
  have c3 := K3.c3
  have c4 := K3.c4
  go_wp2_with fail
  refine (HT.out _ B3).mono ?_
  rintro x W4 ⟨xa, xx, xp, xr, rfl, ht4, hb⟩
  clear c0 c1 c2 c3 c4
  have X4 : Hid (BdB W3.heap.size W4 (.slice xa sn xx) (.slice (some xp) pn pn) (.slice (some xr) rn rn) b) := ht4
  have K4 := K3.up hb
  have B4 := Below.on B3 hb
  clear K3 B3 hb ht4
  obtain ⟨W5, hal5⟩ : ∃ V, W4.alloc (.cells #[.slice xa sn xx, .slice (some xp) pn pn, .slice (some xr) rn rn, .int .i64 ck, .int .i64 tk] 26) = V := ⟨_, rfl⟩
  have hb : Below W4.heap.size W4 W5 := by rw [← hal5]; exact ba (Below.refl _ _) _
  have J5 : B5 26 W5 W4.heap.size (.slice xa sn xx) (.slice (some xp) pn pn) (.slice (some xr) rn rn) (.int .i64 ck) (.int .i64 tk) := by rw [← hal5]; exact B5.new _ _ _ _ _ _ _
  have K5 := K4.up hb
  have X5 : Hid (BdB W3.heap.size W5 (.slice xa sn xx) (.slice (some xp) pn pn) (.slice (some xr) rn rn) b) := X4.out.up hb
  have B5' := Below.on B4 hb
  clear K4 X4 B4 hb
  have c0 := J5.c0
  have c1 := J5.c1
  have c2 := J5.c2
  have c3 := J5.c3
  have c4 := J5.c4
  go_wp2_with fail
  refine (HI.out _ _ _ _ _ _ _ W5 X5.out).mono ?_
  rintro x W6 ⟨rfl, hb⟩
  clear hal5 c0 c1 c2 c3 c4
  have K6 := K5.up hb
  have J6 := J5.up hb
  have X6 : Hid (BdA W6 (.slice xa sn xx) (.slice (some xp) pn pn) (.slice (some xr) rn rn) b) := (X5.out.up hb).all
  have B6 := Below.on B5' hb
  clear K5 J5 X5 B5' hb HI
  have K6k0 := Below.cellOf (B := W6.heap.size) (W := W6) (p := ⟨w.heap.size, 0, none⟩) K6.lt K6.c0
  have K6k1 := Below.cellOf (B := W6.heap.size) (W := W6) (p := ⟨w.heap.size, 1, none⟩) K6.lt K6.c1
  have K6k2 := Below.cellOf (B := W6.heap.size) (W := W6) (p := ⟨w.heap.size, 2, none⟩) K6.lt K6.c2
  have K6k3 := Below.cellOf (B := W6.heap.size) (W := W6) (p := ⟨w.heap.size, 3, none⟩) K6.lt K6.c3
  have K6k4 := Below.cellOf (B := W6.heap.size) (W := W6) (p := ⟨w.heap.size, 4, none⟩) K6.lt K6.c4
  have J6k0 := Below.cellOf (B := W6.heap.size) (W := W6) (p := ⟨W4.heap.size, 0, none⟩) J6.lt J6.c0
  have J6k1 := Below.cellOf (B := W6.heap.size) (W := W6) (p := ⟨W4.heap.size, 1, none⟩) J6.lt J6.c1
  have J6k2 := Below.cellOf (B := W6.heap.size) (W := W6) (p := ⟨W4.heap.size, 2, none⟩) J6.lt J6.c2
  have J6k3 := Below.cellOf (B := W6.heap.size) (W := W6) (p := ⟨W4.heap.size, 3, none⟩) J6.lt J6.c3
  have J6k4 := Below.cellOf (B := W6.heap.size) (W := W6) (p := ⟨W4.heap.size, 4, none⟩) J6.lt J6.c4
  go_wp2_with fail
  go_region_held3 (fun w' => Below W6.heap.size W6 w') ((first | exact (Below.refl _ _).drew | exact hS6 | exact hS7)) ((first | (go_at_call 15; refine (HT.out _ (Below.on B6 (by assumption))).mono ?_; rintro x wq ⟨ya, yx, yp, yr, rfl, ho6, hb6⟩; have hS6 := keep_on (B := W6.heap.size) (W := W6) hb6 (by assumption) (Nat.le_refl _)) | (go_at_call 10; refine (eqBoard_any _ _ _ _ _ _ sn _ pn _ rn _ _ _ _ ck tk b _ (X6.out.below hS6) ho6.all HSI.out).mono ?_; rintro x W7 ⟨rfl, hb7⟩; have hS7 := keep_on (B := W6.heap.size) (W := W6) hb7 hS6 (Nat.le_refl _))))
  have B7 := Below.on B6 hS7
  go_wp2
  go_ret
  exact ⟨rfl, B7⟩
end Go.Proofs.Ytjmclcjhimcehaa
