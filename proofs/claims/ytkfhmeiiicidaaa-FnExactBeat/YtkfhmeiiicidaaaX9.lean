/-
  What the laws that answer a board hold while they go on. The law on Beat: the walk. Arguments that are rows of records, opened. Over any program. Numbers that came in as an argument, opened.
-/
import Derived.Test.YtkfhmeiiicidaaaX3
import Derived.Test.YtkfhmeiiicidaaaX5
import Derived.Test.YtkfhmeiiicidaaaX7
import Derived.Test.YtkfhmeiiicidaaaX8
import Derived.Test.YtkfhmeiiicidaaaRec
import Derived.Deep.Slices
import Derived.Deep.Strs
import Derived.ProofKit
import Derived.OpenShut
import Derived.Test.YtkfhmeiiicidaaaRi
namespace Go.Proofs.Ytkfhmeiiicidaaa
open Go Go.RowKit
set_option linter.unusedVariables false
theorem BdI.twi {lo hi a c : Nat} {w W : World} {sv pv rv : Value} {b : Bo} {s0 s1 p0 p1 r0 r1 : Nat} (h : BdI lo hi w sv pv rv b s0 s1 p0 p1 r0 r1) (t : Twi a c w W) (hd : hi ≤ a ∨ c ≤ lo) : BdI lo hi W sv pv rv b s0 s1 p0 p1 r0 r1 := h.keep fun q q1 q2 q3 => t.block q q3 (by omega)
theorem B5.twi {T : TypeId} {w W : World} {p a c : Nat} {x0 x1 x2 x3 x4 : Value} (h : B5 T w p x0 x1 x2 x3 x4) (t : Twi a c w W) (hd : p < a ∨ c ≤ p) : B5 T W p x0 x1 x2 x3 x4 := (t.block p h.lt hd).trans h
theorem below_twi {a c : Nat} {v w W : World} (h : Below v.heap.size v w) (t : Twi a c w W) (hd : v.heap.size ≤ a) : Below v.heap.size v W :=
  ⟨t.os.trans h.os, t.tape.trans h.tape, t.output.trans h.output, Nat.le_trans h.size t.size, fun k hk => (t.block k (Nat.lt_of_lt_of_le hk h.size) (.inl (by omega))).trans (h.block k hk)⟩
theorem BdI.forms2 {lo hi : Nat} {w : World} {sv pv rv : Value} {b : Bo} {s0 s1 p0 p1 r0 r1 m1 m2 m3 : Nat} (h : BdI lo hi w sv pv rv b s0 s1 p0 p1 r0 r1) (h1 : b.ses.length = m1) (h2 : b.plans.length = m2) (h3 : b.runs.length = m3) : ∃ (a1 a2 a3 : Option Addr) (c1 c2 c3 : Nat), sv = .slice a1 m1 c1 ∧ pv = .slice a2 m2 c2 ∧ rv = .slice a3 m3 c3 := by
  obtain ⟨⟨a1, n1, c1, rfl⟩, ⟨a2, n2, c2, rfl⟩, a3, c3, rfl⟩ := h.forms
  have e1 := h.all.ses.len
  have e2 := h.all.plans.len
  subst h3
  have e1 : n1 = m1 := by omega
  have e2 : n2 = m2 := by omega
  subst e1 e2
  exact ⟨a1, a2, a3, c1, c2, c3, rfl, rfl, rfl⟩
theorem cnBo_pos {b : Bo} (h : SizB b) : 1 ≤ cnBo b := by
  have h1 := cnP_le h.pn h.plans
  have h2 := cnR_le h.rn fun p hp => by have := h.runs p hp; omega
  unfold cnBo
  omega
theorem tilR_st {rs : List Rr} {k i : Nat} {u : Int} {C : Nat} (h : ∀ r ∈ rs, r.st.length ≤ C) : ∀ r ∈ tilR rs k i u, r.st.length ≤ C := by
  intro r hr
  unfold tilR at hr
  split at hr
  · rename_i r0 e0
    split at hr
    · rcases List.mem_or_eq_of_mem_set hr with hm | rfl
      · exact h r hm
      · simpa using h r0 (List.mem_of_getElem? e0)
    · exact h r hr
  · exact h r hr
theorem beat_siz {b : Bo} {ck tok : Int} (h : SizB b) : SizB ⟨b.ses, b.plans, beatR b.runs ck tok⟩ := by
  refine ⟨h.sn, h.pn, h.plans, ?_, ?_⟩
  · show (beatR b.runs ck tok).length ≤ _
    unfold beatR
    split
    · rw [tilR_length]; exact h.rn
    · exact h.rn
  · show ∀ r ∈ beatR b.runs ck tok, _
    unfold beatR
    split
    · exact tilR_st h.runs
    · exact h.runs
end Go.Proofs.Ytkfhmeiiicidaaa

namespace Go.Proofs.Ytkfhmeiiicidaaa
open Go Go.RowKit
set_option linter.unusedVariables false

set_option maxRecDepth 10000 in
set_option maxHeartbeats 8000000 in
theorem law_Beat (so po ro : Option Addr) (sn sc pn pc rn rc : Nat) (ck tk : Int) (b : Bo) (tok : Int) (w : World) (hr : BdA w (.slice so sn sc) (.slice po pn pc) (.slice ro rn rc) b) (hf : FitB b) :
    Calls Try.prog 3 #[bdV (.slice so sn sc) (.slice po pn pc) (.slice ro rn rc) ck tk, .int .i64 tok] w fun x w' => x = .returned (.bool true) ∧ Below w.heap.size w w' := by
  have HZ : Hid (∀ W, Below w.heap.size w W → Calls Try.prog 5 #[bdV (.slice so sn sc) (.slice po pn pc) (.slice ro rn rc) ck tk, .int .i64 1048576] W fun e w' => ∃ r : Int, e = .returned (.int .i64 r) ∧ -1 ≤ r ∧ (0 ≤ r → WeiB b 1048576) ∧ Below W.heap.size W w') := fun W hb => szBoard_any so po ro sn sc pn pc rn rc ck tk b 1048576 W (hr.below hb) hf (by decide) (by decide)
  have HA : Hid (∀ W, Below w.heap.size w W → BdA W (.slice so sn sc) (.slice po pn pc) (.slice ro rn rc) b) := fun W hb => hr.below hb
  have HF : Hid (FitB b) := hf
  clear hr hf
  obtain ⟨b2, HB2⟩ : ∃ b2 : Bo, Hid ((⟨b.ses, b.plans, beatR b.runs ck tok⟩ : Bo) = b2) := ⟨_, rfl⟩
  obtain ⟨ck2, HCK⟩ : ∃ x : Int, Hid (ck = x) := ⟨_, rfl⟩
  obtain ⟨tk2, HTK⟩ : ∃ x : Int, Hid (tk = x) := ⟨_, rfl⟩
  obtain ⟨T, HTX⟩ : ∃ x : ByteArray, Hid (beatT b.runs tok = x) := ⟨_, rfl⟩
  obtain ⟨m1, HM1⟩ : ∃ x : Nat, Hid (b2.ses.length = x) := ⟨_, rfl⟩
  obtain ⟨m2, HM2⟩ : ∃ x : Nat, Hid (b2.plans.length = x) := ⟨_, rfl⟩
  obtain ⟨m3, HM3⟩ : ∃ x : Nat, Hid (b2.runs.length = x) := ⟨_, rfl⟩
  obtain ⟨n1, HN1⟩ : ∃ x : Int, Hid (cnBo b = x) := ⟨_, rfl⟩
  obtain ⟨n2, HN2⟩ : ∃ x : Int, Hid (cnBo b2 = x) := ⟨_, rfl⟩
  obtain ⟨W0, hV0⟩ : ∃ V, w.alloc (.cells #[.slice so sn sc, .slice po pn pc, .slice ro rn rc, .int .i64 ck, .int .i64 tk] 26) = V := ⟨_, rfl⟩
  have K0 : B5 26 W0 w.heap.size (.slice so sn sc) (.slice po pn pc) (.slice ro rn rc) (.int .i64 ck) (.int .i64 tk) := by rw [← hV0]; exact B5.new _ _ _ _ _ _ _
  have B0 : Below w.heap.size w W0 := by rw [← hV0]; exact ba (Below.refl _ _) _
  go_enter Try.func3, Try.ntmps3
  have c0 := K0.c0
  have c1 := K0.c1
  have c2 := K0.c2
  have c3 := K0.c3
  have c4 := K0.c4
  go_wp2_with fail
  refine (HZ.out _ B0).mono ?_
  rintro x W1 ⟨r1, rfl, hq1, hq2, hb⟩
  have HQ : Hid (0 ≤ r1 → WeiB b 1048576) := hq2
  have K1 := K0.up hb
  have B1 := Below.on B0 hb
  clear K0 B0 hb hV0 hq2 HZ c0 c1 c2 c3 c4
  by_cases hneg : r1 < 0
  · go_wp2
    go_ret
    exact ⟨rfl, B1⟩
  have HWB : Hid (WeiB b 1048576) := HQ.out (by omega)
  have HSI : Hid (SizB b) := HWB.out.siz
  have HS2 : Hid (SizB b2) := by
    have hsz := HSI.out
    rw [← HB2.out]
    exact beat_siz hsz
  have hn1 : 1 ≤ n1 := by rw [← HN1.out]; exact cnBo_pos HSI.out
  have hn2 : 1 ≤ n2 := by rw [← HN2.out]; exact cnBo_pos HS2.out
  clear HQ
  have HT : Hid (∀ W, Below w.heap.size w W → Calls Try.prog 7 #[bdV (.slice so sn sc) (.slice po pn pc) (.slice ro rn rc) ck tk] W fun e w' => ∃ (ta : Option Addr) (tx : Nat) (pa ra : Addr) (s0 s1 p0 p1 r0 r1 : Nat), e = .returned (bdV (.slice ta sn tx) (.slice (some pa) pn pn) (.slice (some ra) rn rn) ck tk) ∧ BdI W.heap.size w'.heap.size w' (.slice ta sn tx) (.slice (some pa) pn pn) (.slice (some ra) rn rn) b s0 s1 p0 p1 r0 r1 ∧ Below W.heap.size W w') := fun W hb => toBoardI_any so po ro sn sc pn pc rn rc ck tk b W (HA.out W hb) HSI.out
  have HS : Hid (∀ (so' po' ro' : Option Addr) (sc' pc' rc' : Nat) (W : World), BdA W (.slice so' sn sc') (.slice po' pn pc') (.slice ro' rn rc') b → Calls Try.prog 6 #[bdV (.slice so' sn sc') (.slice po' pn pc') (.slice ro' rn rc') ck tk, .int .i64 tok] W fun x w' => ∃ (a1 a2 a3 : Option Addr) (c1 c2 c3 : Nat) (s0 s1 p0 p1 r0 r1 : Nat), x = .returned (.tuple #[bdV (.slice a1 m1 c1) (.slice a2 m2 c2) (.slice a3 m3 c3) ck2 tk2, .string T]) ∧ BdI W.heap.size w'.heap.size w' (.slice a1 m1 c1) (.slice a2 m2 c2) (.slice a3 m3 c3) b2 s0 s1 p0 p1 r0 r1 ∧ Below W.heap.size W w') := fun so' po' ro' sc' pc' rc' W hd => by
    have hsz := HSI.out
    have hwb := HWB.out
    refine (specBeat_any so' po' ro' sn sc' pn pc' rn rc' ck tk tok b W hd hsz).mono ?_
    rintro x w' ⟨sv, pv, rv, s0, s1, p0, p1, r0, r1, rfl, hd2, hb⟩
    rw [HB2.out] at hd2
    rw [HCK.out, HTK.out, HTX.out]
    obtain ⟨a1, a2, a3, c1, c2, c3, rfl, rfl, rfl⟩ := hd2.forms2 HM1.out HM2.out HM3.out
    exact ⟨a1, a2, a3, c1, c2, c3, s0, s1, p0, p1, r0, r1, rfl, hd2, hb⟩
  have HI : Hid (∀ (so' po' ro' : Option Addr) (sc' pc' rc' : Nat) (W : World), BdA W (.slice so' sn sc') (.slice po' pn pc') (.slice ro' rn rc') b → Calls Try.prog 8 #[bdV (.slice so' sn sc') (.slice po' pn pc') (.slice ro' rn rc') ck tk, .int .i64 tok] W fun x w' => ∃ (a1 a2 a3 : Option Addr) (c1 c2 c3 : Nat) (s0 s1 p0 p1 r0 r1 : Nat), x = .returned (.tuple #[bdV (.slice a1 m1 c1) (.slice a2 m2 c2) (.slice a3 m3 c3) ck2 tk2, .string T]) ∧ BdI W.heap.size w'.heap.size w' (.slice a1 m1 c1) (.slice a2 m2 c2) (.slice a3 m3 c3) b2 s0 s1 p0 p1 r0 r1 ∧ Below W.heap.size W w') := fun so' po' ro' sc' pc' rc' W hd => by
    have hsz := HSI.out
    have hwb := HWB.out
    refine (implBeat_any so' po' ro' sn sc' pn pc' rn rc' ck tk tok b W hd hsz hwb).mono ?_
    rintro x w' ⟨sv, pv, rv, s0, s1, p0, p1, r0, r1, rfl, hd2, hb⟩
    rw [HB2.out] at hd2
    rw [HCK.out, HTK.out, HTX.out]
    obtain ⟨a1, a2, a3, c1, c2, c3, rfl, rfl, rfl⟩ := hd2.forms2 HM1.out HM2.out HM3.out
    exact ⟨a1, a2, a3, c1, c2, c3, s0, s1, p0, p1, r0, r1, rfl, hd2, hb⟩
  clear HA
  have c0 := K1.c0
  have c1 := K1.c1
  have c2 := K1.c2
  have c3 := K1.c3
  have c4 := K1.c4
  go_wp2_with fail
  refine (HT.out _ B1).mono ?_
  rintro x W2 ⟨ta, tx, tp, tr, q0, q1, q2, q3, q4, q5, rfl, ht2, hb⟩
  clear c0 c1 c2 c3 c4
  have HT2 : Hid (BdA W2 (.slice ta sn tx) (.slice (some tp) pn pn) (.slice (some tr) rn rn) b) := ht2.all
  have K2 := K1.up hb
  have B2 := Below.on B1 hb
  clear K1 B1 hb ht2
  go_wp2_with fail
  refine (HS.out _ _ _ _ _ _ W2 HT2.out).mono ?_
  rintro x W3 ⟨a1w, a2w, a3w, c1w, c2w, c3w, z0, z1, z2, z3, z4, z5, rfl, hdw, hb⟩
  have HDW3 : Hid (BdI W2.heap.size W3.heap.size W3 (.slice a1w m1 c1w) (.slice a2w m2 c2w) (.slice a3w m3 c3w) b2 z0 z1 z2 z3 z4 z5) := hdw
  have K3 := K2.up hb
  have B3 := Below.on B2 hb
  have l23 := hb.size
  clear K2 B2 hb HT2 HS hdw
  obtain ⟨W4, hal4⟩ : ∃ V, W3.alloc (.cells #[.slice a1w m1 c1w, .slice a2w m2 c2w, .slice a3w m3 c3w, .int .i64 ck2, .int .i64 tk2] 32) = V := ⟨_, rfl⟩
  have hb : Below W3.heap.size W3 W4 := by rw [← hal4]; exact ba (Below.refl _ _) _
  have G4 : B5 32 W4 W3.heap.size (.slice a1w m1 c1w) (.slice a2w m2 c2w) (.slice a3w m3 c3w) (.int .i64 ck2) (.int .i64 tk2) := by rw [← hal4]; exact B5.new _ _ _ _ _ _ _
  have l34 : W3.heap.size < W4.heap.size := G4.lt
  have K4 := K3.up hb
  have HDW4 : Hid (BdI W2.heap.size W3.heap.size W4 (.slice a1w m1 c1w) (.slice a2w m2 c2w) (.slice a3w m3 c3w) b2 z0 z1 z2 z3 z4 z5) := HDW3.out.up hb
  have B4 := Below.on B3 hb
  have lK4 : w.heap.size < W4.heap.size := K4.lt
  clear K3 B3 hb HDW3
  have c0 := K4.c0
  have c1 := K4.c1
  have c2 := K4.c2
  have c3 := K4.c3
  have c4 := K4.c4
  go_wp2_with fail
  refine (HT.out _ B4).mono ?_
  clear hal4
  rintro x W5 ⟨xa, xx, xp, xr, x0, x1, x2, x3, x4, x5, rfl, hdx, hb⟩
  have HDX5 : Hid (BdI W4.heap.size W5.heap.size W5 (.slice xa sn xx) (.slice (some xp) pn pn) (.slice (some xr) rn rn) b x0 x1 x2 x3 x4 x5) := hdx
  have K5 := K4.up hb
  have G5 := G4.up hb
  have HDW5 : Hid (BdI W2.heap.size W3.heap.size W5 (.slice a1w m1 c1w) (.slice a2w m2 c2w) (.slice a3w m3 c3w) b2 z0 z1 z2 z3 z4 z5) := HDW4.out.up hb
  have B5' := Below.on B4 hb
  have l45 := hb.size
  clear K4 G4 B4 hb HDW4 hdx c0 c1 c2 c3 c4
  obtain ⟨W6, hal6⟩ : ∃ V, W5.alloc (.cells #[.slice xa sn xx, .slice (some xp) pn pn, .slice (some xr) rn rn, .int .i64 ck, .int .i64 tk] 32) = V := ⟨_, rfl⟩
  have hb : Below W5.heap.size W5 W6 := by rw [← hal6]; exact ba (Below.refl _ _) _
  have J6 : B5 32 W6 W5.heap.size (.slice xa sn xx) (.slice (some xp) pn pn) (.slice (some xr) rn rn) (.int .i64 ck) (.int .i64 tk) := by rw [← hal6]; exact B5.new _ _ _ _ _ _ _
  have l56 : W5.heap.size < W6.heap.size := J6.lt
  have K6 := K5.up hb
  have G6 := G5.up hb
  have HDX6 : Hid (BdI W4.heap.size W5.heap.size W6 (.slice xa sn xx) (.slice (some xp) pn pn) (.slice (some xr) rn rn) b x0 x1 x2 x3 x4 x5) := HDX5.out.up hb
  have HDW6 : Hid (BdI W2.heap.size W3.heap.size W6 (.slice a1w m1 c1w) (.slice a2w m2 c2w) (.slice a3w m3 c3w) b2 z0 z1 z2 z3 z4 z5) := HDW5.out.up hb
  have B6 := Below.on B5' hb
  clear K5 G5 B5' hb HDW5 HDX5
  have d0 := J6.c0
  have d1 := J6.c1
  have d2 := J6.c2
  have d3 := J6.c3
  have d4 := J6.c4
  go_wp2_with fail
  refine (HI.out _ _ _ _ _ _ W6 HDX6.out.all).mono ?_
  clear hal6 d0 d1 d2 d3 d4
  rintro x W7 ⟨a1g, a2g, a3g, c1g, c2g, c3g, y0, y1, y2, y3, y4, y5, rfl, hdg, hb⟩
  have HDG7 : Hid (BdI W6.heap.size W7.heap.size W7 (.slice a1g m1 c1g) (.slice a2g m2 c2g) (.slice a3g m3 c3g) b2 y0 y1 y2 y3 y4 y5) := hdg
  have K7 := K6.up hb
  have G7 := G6.up hb
  have J7 := J6.up hb
  have HDX7 : Hid (BdI W4.heap.size W5.heap.size W7 (.slice xa sn xx) (.slice (some xp) pn pn) (.slice (some xr) rn rn) b x0 x1 x2 x3 x4 x5) := HDX6.out.up hb
  have HDW7 : Hid (BdI W2.heap.size W3.heap.size W7 (.slice a1w m1 c1w) (.slice a2w m2 c2w) (.slice a3w m3 c3w) b2 z0 z1 z2 z3 z4 z5) := HDW6.out.up hb
  have B7 := Below.on B6 hb
  have l67 := hb.size
  clear K6 G6 J6 B6 hb HDW6 HDX6 hdg
  obtain ⟨W8, hal8⟩ : ∃ V, W7.alloc (.cells #[.slice a1g m1 c1g, .slice a2g m2 c2g, .slice a3g m3 c3g, .int .i64 ck2, .int .i64 tk2] 32) = V := ⟨_, rfl⟩
  have hb : Below W7.heap.size W7 W8 := by rw [← hal8]; exact ba (Below.refl _ _) _
  have M8 : B5 32 W8 W7.heap.size (.slice a1g m1 c1g) (.slice a2g m2 c2g) (.slice a3g m3 c3g) (.int .i64 ck2) (.int .i64 tk2) := by rw [← hal8]; exact B5.new _ _ _ _ _ _ _
  have l78 : W7.heap.size < W8.heap.size := M8.lt
  have K8 := K7.up hb
  have G8 := G7.up hb
  have J8 := J7.up hb
  have HDG8 : Hid (BdI W6.heap.size W7.heap.size W8 (.slice a1g m1 c1g) (.slice a2g m2 c2g) (.slice a3g m3 c3g) b2 y0 y1 y2 y3 y4 y5) := HDG7.out.up hb
  have HDX8 : Hid (BdI W4.heap.size W5.heap.size W8 (.slice xa sn xx) (.slice (some xp) pn pn) (.slice (some xr) rn rn) b x0 x1 x2 x3 x4 x5) := HDX7.out.up hb
  have HDW8 : Hid (BdI W2.heap.size W3.heap.size W8 (.slice a1w m1 c1w) (.slice a2w m2 c2w) (.slice a3w m3 c3w) b2 z0 z1 z2 z3 z4 z5) := HDW7.out.up hb
  have B8 := Below.on B7 hb
  clear K7 G7 J7 B7 hb HDW7 HDX7 HDG7
  have og0 := G8.c0
  have og1 := G8.c1
  have og2 := G8.c2
  have og3 := G8.c3
  have og4 := G8.c4
  have om0 := M8.c0
  have om1 := M8.c1
  have om2 := M8.c2
  have om3 := M8.c3
  have om4 := M8.c4
  go_wp2_with fail
  refine (eqBoard_any _ _ _ _ _ _ m1 _ m2 _ m3 _ _ _ _ ck2 tk2 b2 _ HDG8.out.all HDW8.out.all HS2.out).mono ?_
  clear hal8 og0 og1 og2 og3 og4 om0 om1 om2 om3 om4
  rintro x W9 ⟨rfl, hb⟩
  have K9 := K8.up hb
  have G9 := G8.up hb
  have J9 := J8.up hb
  have M9 := M8.up hb
  have HDG9 : Hid (BdI W6.heap.size W7.heap.size W9 (.slice a1g m1 c1g) (.slice a2g m2 c2g) (.slice a3g m3 c3g) b2 y0 y1 y2 y3 y4 y5) := HDG8.out.up hb
  have HDX9 : Hid (BdI W4.heap.size W5.heap.size W9 (.slice xa sn xx) (.slice (some xp) pn pn) (.slice (some xr) rn rn) b x0 x1 x2 x3 x4 x5) := HDX8.out.up hb
  have HDW9 : Hid (BdI W2.heap.size W3.heap.size W9 (.slice a1w m1 c1w) (.slice a2w m2 c2w) (.slice a3w m3 c3w) b2 z0 z1 z2 z3 z4 z5) := HDW8.out.up hb
  have B9 := Below.on B8 hb
  have s9 := hb.size
  clear K8 G8 J8 M8 B8 hb HDW8 HDX8 HDG8
  have K9k0 := Below.cellOf (B := W9.heap.size) (W := W9) (p := ⟨w.heap.size, 0, none⟩) K9.lt K9.c0
  have K9k1 := Below.cellOf (B := W9.heap.size) (W := W9) (p := ⟨w.heap.size, 1, none⟩) K9.lt K9.c1
  have K9k2 := Below.cellOf (B := W9.heap.size) (W := W9) (p := ⟨w.heap.size, 2, none⟩) K9.lt K9.c2
  have K9k3 := Below.cellOf (B := W9.heap.size) (W := W9) (p := ⟨w.heap.size, 3, none⟩) K9.lt K9.c3
  have K9k4 := Below.cellOf (B := W9.heap.size) (W := W9) (p := ⟨w.heap.size, 4, none⟩) K9.lt K9.c4
  have J9k0 := Below.cellOf (B := W9.heap.size) (W := W9) (p := ⟨W5.heap.size, 0, none⟩) J9.lt J9.c0
  have J9k1 := Below.cellOf (B := W9.heap.size) (W := W9) (p := ⟨W5.heap.size, 1, none⟩) J9.lt J9.c1
  have J9k2 := Below.cellOf (B := W9.heap.size) (W := W9) (p := ⟨W5.heap.size, 2, none⟩) J9.lt J9.c2
  have J9k3 := Below.cellOf (B := W9.heap.size) (W := W9) (p := ⟨W5.heap.size, 3, none⟩) J9.lt J9.c3
  have J9k4 := Below.cellOf (B := W9.heap.size) (W := W9) (p := ⟨W5.heap.size, 4, none⟩) J9.lt J9.c4
  go_wp2_with fail
  go_region_held3 (fun w' => Below W9.heap.size W9 w') ((first | exact (Below.refl _ _).drew | exact hS6 | exact hS7)) ((first | (go_at_call 7; refine (HT.out _ (Below.on B9 (by assumption))).mono ?_; rintro x wq ⟨ya, yx, yp, yr, v0, v1, v2, v3, v4, v5, rfl, ho6, hb6⟩; have hS6 := keep_on (B := W9.heap.size) (W := W9) hb6 (by assumption) (Nat.le_refl _)) | (go_at_call 9; refine (eqBoard_any _ _ _ _ _ _ sn _ pn _ rn _ _ _ _ ck tk b _ (HDX9.out.all.below hS6) ho6.all HSI.out).mono ?_; rintro x W10 ⟨rfl, hb7⟩; have hS7 := keep_on (B := W9.heap.size) (W := W9) hb7 hS6 (Nat.le_refl _))))
  clear K9k0 J9k0 K9k1 J9k1 K9k2 J9k2 K9k3 J9k3 K9k4 J9k4
  rename_i W10 hjunk
  clear hjunk
  have hb := hS7
  have K10 := K9.up hb
  have G10 := G9.up hb
  have J10 := J9.up hb
  have M10 := M9.up hb
  have HDG10 : Hid (BdI W6.heap.size W7.heap.size W10 (.slice a1g m1 c1g) (.slice a2g m2 c2g) (.slice a3g m3 c3g) b2 y0 y1 y2 y3 y4 y5) := HDG9.out.up hb
  have HDX10 : Hid (BdI W4.heap.size W5.heap.size W10 (.slice xa sn xx) (.slice (some xp) pn pn) (.slice (some xr) rn rn) b x0 x1 x2 x3 x4 x5) := HDX9.out.up hb
  have HDW10 : Hid (BdI W2.heap.size W3.heap.size W10 (.slice a1w m1 c1w) (.slice a2w m2 c2w) (.slice a3w m3 c3w) b2 z0 z1 z2 z3 z4 z5) := HDW9.out.up hb
  have B10 := Below.on B9 hb
  have s10 := hb.size
  clear K9 G9 J9 M9 B9 hb HDW9 HDX9 HDG9
  have d0 := J10.c0
  have d1 := J10.c1
  have d2 := J10.c2
  have d3 := J10.c3
  have d4 := J10.c4
  go_wp2_with fail
  refine (markBoard_any ck tk HDX10.out HSI.out (by omega)).mono ?_
  rw [HN1.out]
  rintro x W11 ⟨rfl, hdx, ht⟩
  clear d0 d1 d2 d3 d4
  have K11 := K10.twi ht (.inl lK4)
  have G11 := G10.twi ht (.inl (by omega))
  have J11 := J10.twi ht (.inr (by omega))
  have M11 := M10.twi ht (.inr (by omega))
  have HDX11 : Hid (BdI W4.heap.size W5.heap.size W11 (.slice xa sn xx) (.slice (some xp) pn pn) (.slice (some xr) rn rn) (mkBo b) x0 x1 x2 x3 x4 x5) := hdx
  have HDG11 : Hid (BdI W6.heap.size W7.heap.size W11 (.slice a1g m1 c1g) (.slice a2g m2 c2g) (.slice a3g m3 c3g) b2 y0 y1 y2 y3 y4 y5) := HDG10.out.twi ht (.inr (by omega))
  have HDW11 : Hid (BdI W2.heap.size W3.heap.size W11 (.slice a1w m1 c1w) (.slice a2w m2 c2w) (.slice a3w m3 c3w) b2 z0 z1 z2 z3 z4 z5) := HDW10.out.twi ht (.inl (by omega))
  have B11 : Below w.heap.size w W11 := below_twi B10 ht (by omega)
  have s11 := ht.size
  clear K10 G10 J10 M10 B10 HDW10 HDX10 HDG10 hdx ht
  have og0 := G11.c0
  have og1 := G11.c1
  have og2 := G11.c2
  have og3 := G11.c3
  have og4 := G11.c4
  have om0 := M11.c0
  have om1 := M11.c1
  have om2 := M11.c2
  have om3 := M11.c3
  have om4 := M11.c4
  have hk0 : ¬ n1 < 0 := by omega
  go_wp2_with fail
  refine (eqBoard_any _ _ _ _ _ _ m1 _ m2 _ m3 _ _ _ _ ck2 tk2 b2 _ HDG11.out.all HDW11.out.all HS2.out).mono ?_
  clear og0 og1 og2 og3 og4 om0 om1 om2 om3 om4
  rintro x W12 ⟨rfl, hb⟩
  have K12 := K11.up hb
  have G12 := G11.up hb
  have J12 := J11.up hb
  have M12 := M11.up hb
  have HDG12 : Hid (BdI W6.heap.size W7.heap.size W12 (.slice a1g m1 c1g) (.slice a2g m2 c2g) (.slice a3g m3 c3g) b2 y0 y1 y2 y3 y4 y5) := HDG11.out.up hb
  have HDX12 : Hid (BdI W4.heap.size W5.heap.size W12 (.slice xa sn xx) (.slice (some xp) pn pn) (.slice (some xr) rn rn) (mkBo b) x0 x1 x2 x3 x4 x5) := HDX11.out.up hb
  have HDW12 : Hid (BdI W2.heap.size W3.heap.size W12 (.slice a1w m1 c1w) (.slice a2w m2 c2w) (.slice a3w m3 c3w) b2 z0 z1 z2 z3 z4 z5) := HDW11.out.up hb
  have B12 := Below.on B11 hb
  have s12 := hb.size
  clear K11 G11 J11 M11 B11 hb HDW11 HDX11 HDG11
  have om0 := M12.c0
  have om1 := M12.c1
  have om2 := M12.c2
  have om3 := M12.c3
  have om4 := M12.c4
  go_wp2_with fail
  refine (markBoard_any ck2 tk2 HDG12.out HS2.out (by omega)).mono ?_
  rw [HN2.out]
  rintro x W13 ⟨rfl, hdg, ht⟩
  clear om0 om1 om2 om3 om4
  have K13 := K12.twi ht (.inl (by omega))
  have G13 := G12.twi ht (.inl (by omega))
  have J13 := J12.twi ht (.inl (by omega))
  have M13 := M12.twi ht (.inr (by omega))
  have HDX13 : Hid (BdI W4.heap.size W5.heap.size W13 (.slice xa sn xx) (.slice (some xp) pn pn) (.slice (some xr) rn rn) (mkBo b) x0 x1 x2 x3 x4 x5) := HDX12.out.twi ht (.inl (by omega))
  have HDG13 : Hid (BdI W6.heap.size W7.heap.size W13 (.slice a1g m1 c1g) (.slice a2g m2 c2g) (.slice a3g m3 c3g) (mkBo b2) y0 y1 y2 y3 y4 y5) := hdg
  have HDW13 : Hid (BdI W2.heap.size W3.heap.size W13 (.slice a1w m1 c1w) (.slice a2w m2 c2w) (.slice a3w m3 c3w) b2 z0 z1 z2 z3 z4 z5) := HDW12.out.twi ht (.inl (by omega))
  have B13 : Below w.heap.size w W13 := below_twi B12 ht (by omega)
  have s13 := ht.size
  clear K12 G12 J12 M12 B12 HDW12 HDX12 HDG12 hdg ht
  have om0 := M13.c0
  have om1 := M13.c1
  have om2 := M13.c2
  have om3 := M13.c3
  have om4 := M13.c4
  go_wp2_with fail
  refine (heldBoard_any _ _ _ m1 _ m2 _ m3 _ ck2 tk2 b2 _ HDG13.out.all HS2.out).mono ?_
  rw [HN2.out]
  rintro x W14 ⟨rfl, hb⟩
  clear om0 om1 om2 om3 om4
  have hk2 : ¬ n2 < 0 := by omega
  have K14 := K13.up hb
  have G14 := G13.up hb
  have J14 := J13.up hb
  have M14 := M13.up hb
  have HDG14 : Hid (BdI W6.heap.size W7.heap.size W14 (.slice a1g m1 c1g) (.slice a2g m2 c2g) (.slice a3g m3 c3g) (mkBo b2) y0 y1 y2 y3 y4 y5) := HDG13.out.up hb
  have HDX14 : Hid (BdI W4.heap.size W5.heap.size W14 (.slice xa sn xx) (.slice (some xp) pn pn) (.slice (some xr) rn rn) (mkBo b) x0 x1 x2 x3 x4 x5) := HDX13.out.up hb
  have HDW14 : Hid (BdI W2.heap.size W3.heap.size W14 (.slice a1w m1 c1w) (.slice a2w m2 c2w) (.slice a3w m3 c3w) b2 z0 z1 z2 z3 z4 z5) := HDW13.out.up hb
  have B14 := Below.on B13 hb
  have s14 := hb.size
  clear K13 G13 J13 M13 B13 hb HDW13 HDX13 HDG13
  have c0 := K14.c0
  have c1 := K14.c1
  have c2 := K14.c2
  have c3 := K14.c3
  have c4 := K14.c4
  go_wp2_with fail
  refine (HT.out _ B14).mono ?_
  rintro x W15 ⟨ta2, tx2, tp2, tr2, q0, q1, q2, q3, q4, q5, rfl, ht2, hb⟩
  clear c0 c1 c2 c3 c4
  have HT3 : Hid (BdA W15 (.slice ta2 sn tx2) (.slice (some tp2) pn pn) (.slice (some tr2) rn rn) b) := ht2.all
  have K15 := K14.up hb
  have G15 := G14.up hb
  have J15 := J14.up hb
  have M15 := M14.up hb
  have HDG15 : Hid (BdI W6.heap.size W7.heap.size W15 (.slice a1g m1 c1g) (.slice a2g m2 c2g) (.slice a3g m3 c3g) (mkBo b2) y0 y1 y2 y3 y4 y5) := HDG14.out.up hb
  have HDX15 : Hid (BdI W4.heap.size W5.heap.size W15 (.slice xa sn xx) (.slice (some xp) pn pn) (.slice (some xr) rn rn) (mkBo b) x0 x1 x2 x3 x4 x5) := HDX14.out.up hb
  have HDW15 : Hid (BdI W2.heap.size W3.heap.size W15 (.slice a1w m1 c1w) (.slice a2w m2 c2w) (.slice a3w m3 c3w) b2 z0 z1 z2 z3 z4 z5) := HDW14.out.up hb
  have B15 := Below.on B14 hb
  have s15 := hb.size
  clear K14 G14 J14 M14 B14 hb HDW14 HDX14 HDG14
  clear ht2
  go_wp2_with fail
  refine (HI.out _ _ _ _ _ _ W15 HT3.out).mono ?_
  rintro x W16 ⟨a1h, a2h, a3h, c1h, c2h, c3h, u0, u1, u2, u3, u4, u5, rfl, hdh, hb⟩
  have HDH16 : Hid (BdA W16 (.slice a1h m1 c1h) (.slice a2h m2 c2h) (.slice a3h m3 c3h) b2) := hdh.all
  clear HT3 hdh
  have K16 := K15.up hb
  have G16 := G15.up hb
  have J16 := J15.up hb
  have M16 := M15.up hb
  have HDG16 : Hid (BdI W6.heap.size W7.heap.size W16 (.slice a1g m1 c1g) (.slice a2g m2 c2g) (.slice a3g m3 c3g) (mkBo b2) y0 y1 y2 y3 y4 y5) := HDG15.out.up hb
  have HDX16 : Hid (BdI W4.heap.size W5.heap.size W16 (.slice xa sn xx) (.slice (some xp) pn pn) (.slice (some xr) rn rn) (mkBo b) x0 x1 x2 x3 x4 x5) := HDX15.out.up hb
  have HDW16 : Hid (BdI W2.heap.size W3.heap.size W16 (.slice a1w m1 c1w) (.slice a2w m2 c2w) (.slice a3w m3 c3w) b2 z0 z1 z2 z3 z4 z5) := HDW15.out.up hb
  have B16 := Below.on B15 hb
  have s16 := hb.size
  clear K15 G15 J15 M15 B15 hb HDW15 HDX15 HDG15
  obtain ⟨W17, hal17⟩ : ∃ V, W16.alloc (.cells #[.slice a1h m1 c1h, .slice a2h m2 c2h, .slice a3h m3 c3h, .int .i64 ck2, .int .i64 tk2] 32) = V := ⟨_, rfl⟩
  have hb : Below W16.heap.size W16 W17 := by rw [← hal17]; exact ba (Below.refl _ _) _
  have U17 : B5 32 W17 W16.heap.size (.slice a1h m1 c1h) (.slice a2h m2 c2h) (.slice a3h m3 c3h) (.int .i64 ck2) (.int .i64 tk2) := by rw [← hal17]; exact B5.new _ _ _ _ _ _ _
  have HDH17 : Hid (BdA W17 (.slice a1h m1 c1h) (.slice a2h m2 c2h) (.slice a3h m3 c3h) b2) := HDH16.out.below hb
  clear HDH16
  have K17 := K16.up hb
  have G17 := G16.up hb
  have J17 := J16.up hb
  have M17 := M16.up hb
  have HDG17 : Hid (BdI W6.heap.size W7.heap.size W17 (.slice a1g m1 c1g) (.slice a2g m2 c2g) (.slice a3g m3 c3g) (mkBo b2) y0 y1 y2 y3 y4 y5) := HDG16.out.up hb
  have HDX17 : Hid (BdI W4.heap.size W5.heap.size W17 (.slice xa sn xx) (.slice (some xp) pn pn) (.slice (some xr) rn rn) (mkBo b) x0 x1 x2 x3 x4 x5) := HDX16.out.up hb
  have HDW17 : Hid (BdI W2.heap.size W3.heap.size W17 (.slice a1w m1 c1w) (.slice a2w m2 c2w) (.slice a3w m3 c3w) b2 z0 z1 z2 z3 z4 z5) := HDW16.out.up hb
  have B17 := Below.on B16 hb
  have s17 := hb.size
  clear K16 G16 J16 M16 B16 hb HDW16 HDX16 HDG16
  have og0 := G17.c0
  have og1 := G17.c1
  have og2 := G17.c2
  have og3 := G17.c3
  have og4 := G17.c4
  have om0 := U17.c0
  have om1 := U17.c1
  have om2 := U17.c2
  have om3 := U17.c3
  have om4 := U17.c4
  go_wp2_with fail
  refine (eqBoard_any _ _ _ _ _ _ m1 _ m2 _ m3 _ _ _ _ ck2 tk2 b2 _ HDH17.out HDW17.out.all HS2.out).mono ?_
  clear hal17 og0 og1 og2 og3 og4 om0 om1 om2 om3 om4 U17 HDH17
  rintro x W18 ⟨rfl, hb⟩
  have K18 := K17.up hb
  have G18 := G17.up hb
  have J18 := J17.up hb
  have M18 := M17.up hb
  have HDG18 : Hid (BdI W6.heap.size W7.heap.size W18 (.slice a1g m1 c1g) (.slice a2g m2 c2g) (.slice a3g m3 c3g) (mkBo b2) y0 y1 y2 y3 y4 y5) := HDG17.out.up hb
  have HDX18 : Hid (BdI W4.heap.size W5.heap.size W18 (.slice xa sn xx) (.slice (some xp) pn pn) (.slice (some xr) rn rn) (mkBo b) x0 x1 x2 x3 x4 x5) := HDX17.out.up hb
  have HDW18 : Hid (BdI W2.heap.size W3.heap.size W18 (.slice a1w m1 c1w) (.slice a2w m2 c2w) (.slice a3w m3 c3w) b2 z0 z1 z2 z3 z4 z5) := HDW17.out.up hb
  have B18 := Below.on B17 hb
  have s18 := hb.size
  clear K17 G17 J17 M17 B17 hb HDW17 HDX17 HDG17
  have om0 := M18.c0
  have om1 := M18.c1
  have om2 := M18.c2
  have om3 := M18.c3
  have om4 := M18.c4
  go_wp2_with fail
  refine (heldBoard_any _ _ _ m1 _ m2 _ m3 _ ck2 tk2 b2 _ HDG18.out.all HS2.out).mono ?_
  rw [HN2.out]
  rintro x W19 ⟨rfl, hb⟩
  clear om0 om1 om2 om3 om4
  have B19 := Below.on B18 hb
  go_wp2
  go_ret
  exact ⟨rfl, B19⟩
end Go.Proofs.Ytkfhmeiiicidaaa

namespace Go.Proofs.Ytkfhmeiiicidaaa
open Go Go.RowKit Go.ChangeShapes Go.WideShapes

theorem len1 {α : Type} {l : List α} (h : l.length = 1) : ∃ a, l = [a] := by
  match l, h with
  | [a], _ => exact ⟨a, rfl⟩
theorem len3 {α : Type} {l : List α} (h : l.length = 3) : ∃ a b c, l = [a, b, c] := by
  match l, h with
  | [a, b, c], _ => exact ⟨a, b, c, rfl⟩
theorem len4 {α : Type} {l : List α} (h : l.length = 4) : ∃ a b c d, l = [a, b, c, d] := by
  match l, h with
  | [a, b, c, d], _ => exact ⟨a, b, c, d, rfl⟩
theorem arr1 {α : Type} {l : Array α} (h : l.toList.length = 1) : ∃ a, l = #[a] := by
  obtain ⟨l⟩ := l
  obtain ⟨a, rfl⟩ := len1 h
  exact ⟨a, rfl⟩
theorem arr4 {α : Type} {l : Array α} (h : l.toList.length = 4) : ∃ a b c d, l = #[a, b, c, d] := by
  obtain ⟨l⟩ := l
  obtain ⟨a, b, c, d, rfl⟩ := len4 h
  exact ⟨a, b, c, d, rfl⟩

section
variable {α : Type} [Rec α] [Inhabited α] {H : Type} {enc : TypeId × Value → H} {P : Program} {w : World} {held : Bool}

/-- A slice of records that came in: the records that it reads as. -/
theorem open_rows {t e : TypeId} {fuel : Nat} {a : Option Addr} {len cap : Nat} {x : DataW H × List MemPlace} (G : α → Prop) (ht : P.underlying t = some (.slice e)) (hc : P.cellsOf e = Rec.width α)
    (each : ∀ n cs y, DataW.trod enc P w 0 (fun _ => true) held n e cs = some y → ∃ r : α, cs = Rec.cells r ∧ G r)
    (h : DataW.trod enc P w 0 (fun _ => true) held fuel t [.slice a len cap] = some x) : ∃ l : List α, Reads w (.slice a len cap) l ∧ (∀ r ∈ l, G r) ∧ len ≤ maxLen := by
  rcases Deep.open_slice ht h with ⟨hcs, _⟩ | ⟨b, len', cap', m, n, D, Pl, hcs, _, hl, hm, hmm, _, hx⟩
  · simp only [List.cons.injEq, Value.slice.injEq, and_true] at hcs
    obtain ⟨rfl, rfl, rfl⟩ := hcs
    exact ⟨[], reads_none w none 0, fun r hr => by simp at hr, Nat.zero_le _⟩
  · simp only [List.cons.injEq, Value.slice.injEq, and_true] at hcs
    obtain ⟨rfl, rfl, rfl⟩ := hcs
    simp only [if_true] at hmm
    subst hmm
    have hex : ∀ i, i < len → ∃ r : α, G r ∧ ∀ j u, (Rec.cells r)[j]? = some u → w.cell? (b.add (i * Rec.width α + j)) = some u := by
      intro i hi
      obtain ⟨cs', h1, h2⟩ := hx i (by omega)
      obtain ⟨r, rfl, hG⟩ := each _ _ _ h2
      rw [hc] at h1
      obtain ⟨_, hlen, hcell⟩ := World.cells?_some h1
      refine ⟨r, hG, fun j u hu => ?_⟩
      have hj := (List.getElem?_eq_some_iff.1 hu).1
      have := hcell j (by rw [← Rec.len r]; exact hj)
      rw [Deep.add_add] at this
      rw [this, hu]
    obtain ⟨f, hf⟩ := Deep.choose_lt hex
    refine ⟨(List.range len).map f, ⟨some b, _, by simp; rfl, fun hne => ?_⟩, ?_, by omega⟩
    · have hpos : 0 < len := by
        rcases Nat.eq_zero_or_pos len with h0 | h0
        · subst h0; simp at hne
        · exact h0
      have hw : 0 < Rec.width α := Rec.pos
      obtain ⟨u, hu⟩ : ∃ u, (Rec.cells (f 0))[0]? = some u := ⟨_, List.getElem?_eq_getElem (by rw [Rec.len]; exact hw)⟩
      have h0 := (hf 0 hpos).2 0 u hu
      obtain ⟨bb, oo, sp⟩ := b
      have hsp : sp = none := by
        simp only [Nat.zero_mul, Nat.add_zero, Addr.add, if_true, World.cell?] at h0
        cases sp with
        | none => rfl
        | some s => split at h0 <;> simp at h0
      subst hsp
      have hlt : bb < w.heap.size := by
        have := World.block_lt_of_cell? w _ h0
        simpa [Addr.add] using this
      refine ⟨bb, oo, rfl, hlt, fun i r hr j u hu => ?_⟩
      rw [List.getElem?_map] at hr
      by_cases hi : i < len
      · rw [List.getElem?_range hi] at hr
        simp only [Option.map_some, Option.some.injEq] at hr
        subst hr
        have := (hf i hi).2 j u hu
        have hadd : (⟨bb, oo, none⟩ : Addr).add (i * Rec.width α + j) = ⟨bb, oo + (i * Rec.width α + j), none⟩ := by unfold Addr.add; split <;> simp_all
        rw [hadd, ← Nat.add_assoc] at this
        exact this
      · rw [List.getElem?_eq_none (by simp; omega)] at hr
        simp at hr
    · intro r hr
      obtain ⟨i, hi, rfl⟩ := List.mem_map.1 hr
      exact (hf i (List.mem_range.1 hi)).1
end
end Go.Proofs.Ytkfhmeiiicidaaa

namespace Go.Proofs.Ytkfhmeiiicidaaa
open Go Go.RowKit Go.ChangeShapes Go.WideShapes

theorem cells3' : Try.prog.cellsOf 3 = 1 := by kernel_rfl
end Go.Proofs.Ytkfhmeiiicidaaa
