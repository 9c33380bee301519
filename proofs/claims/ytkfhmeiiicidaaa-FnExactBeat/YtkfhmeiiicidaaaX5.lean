/-
  A board that came in, made anew for the program by the law's copy, each row between blocks of its own: the walk. A plan copied by the specification, its rows new, each between blocks of its own: the walk. A board copied by the program, its rows new, each between blocks of its own: the walk. A board copied by the specification, its rows new, each between blocks of its own: the walk.
-/
import Derived.Test.YtkfhmeiiicidaaaX3
import Derived.Test.YtkfhmeiiicidaaaX4
namespace Go.Proofs.Ytkfhmeiiicidaaa
open Go Go.RowKit
set_option linter.unusedVariables false

/-- Sessions whose row lies between two blocks. -/
def SesI (lo hi : Nat) (w : World) (v : Value) (l : List Se) : Prop := ownsR w lo 65 v l ∧ ∀ q, v.ownBlock = some q → q < hi
theorem SesI.up {lo hi : Nat} {w W : World} {v : Value} {l : List Se} (h : SesI lo hi w v l) (hb : Below w.heap.size w W) : SesI lo hi W v l := ⟨h.1.all hb, h.2⟩
theorem SesI.low {lo hi : Nat} {w : World} {v : Value} {l : List Se} (h : SesI lo hi w v l) {a : Addr} (ha : a.block < lo) (u : Value) : SesI lo hi (w.setCell a u) v l := ⟨h.1.setBelow ha u, h.2⟩
theorem PlansI.low {lo hi : Nat} {w : World} {v : Value} {ps : List Po} (h : PlansI lo hi w v ps) {a : Addr} (ha : a.block < lo) (u : Value) : PlansI lo hi (w.setCell a u) v ps := h.keep fun q hq _ _ => heap_setCell_other w a q u (by omega)
theorem RunsI.low {lo hi : Nat} {w : World} {v : Value} {ps : List Rr} (h : RunsI lo hi w v ps) {a : Addr} (ha : a.block < lo) (u : Value) : RunsI lo hi (w.setCell a u) v ps := h.keep fun q hq _ _ => heap_setCell_other w a q u (by omega)
theorem BdI.low' {lo hi : Nat} {w : World} {sv pv rv : Value} {b : Bo} {s0 s1 p0 p1 r0 r1 : Nat} (h : BdI lo hi w sv pv rv b s0 s1 p0 p1 r0 r1) {a : Addr} (h0 : a.block < s0) (h1 : s0 ≤ p0) (h2 : s0 ≤ r0) (u : Value) : BdI lo hi (w.setCell a u) sv pv rv b s0 s1 p0 p1 r0 r1 :=
  ⟨h.ses.setBelow h0 u, h.stop, h.plans.keep fun q hq _ _ => heap_setCell_other w a q u (by omega), h.runs.keep fun q hq _ _ => heap_setCell_other w a q u (by omega), h.ls, h.hs, h.lp, h.hp, h.lr, h.hr, h.sp, h.sr, h.pr⟩
theorem BdI.hiUp {lo hi hi' : Nat} {w : World} {sv pv rv : Value} {b : Bo} {s0 s1 p0 p1 r0 r1 : Nat} (h : BdI lo hi w sv pv rv b s0 s1 p0 p1 r0 r1) (hh : hi ≤ hi') : BdI lo hi' w sv pv rv b s0 s1 p0 p1 r0 r1 := ⟨h.ses, h.stop, h.plans, h.runs, h.ls, Nat.le_trans h.hs hh, h.lp, Nat.le_trans h.hp hh, h.lr, Nat.le_trans h.hr hh, h.sp, h.sr, h.pr⟩
set_option maxRecDepth 10000 in
set_option maxHeartbeats 4000000 in
theorem toBoardI_any (so po ro : Option Addr) (sn sc pn pc rn rc : Nat) (ck tk : Int) (b : Bo) (w : World) (hr : BdA w (.slice so sn sc) (.slice po pn pc) (.slice ro rn rc) b) (hz : SizB b) :
    Calls Try.prog 7 #[bdV (.slice so sn sc) (.slice po pn pc) (.slice ro rn rc) ck tk] w fun e w' => ∃ (sa : Option Addr) (sx : Nat) (pa ra : Addr) (s0 s1 p0 p1 r0 r1 : Nat), e = .returned (bdV (.slice sa sn sx) (.slice (some pa) pn pn) (.slice (some ra) rn rn) ck tk) ∧ BdI w.heap.size w'.heap.size w' (.slice sa sn sx) (.slice (some pa) pn pn) (.slice (some ra) rn rn) b s0 s1 p0 p1 r0 r1 ∧ Below w.heap.size w w' := by
  have hsn : sn = b.ses.length := hr.ses.len
  have hpn := hr.plans.len
  have hrn := hr.runs.len
  have HS : Hid (∀ W, Below w.heap.size w W → Calls Try.prog 19 #[.slice so sn sc] W fun e w' => ∃ (sa : Option Addr) (sx : Nat), e = .returned (.slice sa sn sx) ∧ sn ≤ sx ∧ ownsR w' W.heap.size 65 (.slice sa sn sx) b.ses ∧ Below W.heap.size W w') := fun W hb =>
    (toSessionS_any so sn sc b.ses W (hr.ses.below hb) (by rw [hsn]; exact hz.sn)).mono fun e w' ⟨v, he, ho, hb⟩ => by
      obtain ⟨va, vc, ev, hc⟩ := ho.cap
      rw [← hsn] at ev hc
      subst ev
      exact ⟨va, vc, he, hc, ho, hb⟩
  have HP : Hid (∀ W, Below w.heap.size w W → Calls Try.prog 20 #[.slice po pn pc] W fun e w' => e = .returned (.slice (some ⟨W.heap.size, 0, none⟩) pn pn) ∧ PlansI W.heap.size w'.heap.size w' (.slice (some ⟨W.heap.size, 0, none⟩) pn pn) b.plans ∧ Below W.heap.size W w') := fun W hb => toPlanSI_any po pn pc b.plans W (hr.plans.below onePl_below hb) (by rw [← hpn]; exact hz.pn) hz.plans
  have HRR : Hid (∀ W, Below w.heap.size w W → Calls Try.prog 21 #[.slice ro rn rc] W fun e w' => e = .returned (.slice (some ⟨W.heap.size, 0, none⟩) rn rn) ∧ RunsI W.heap.size w'.heap.size w' (.slice (some ⟨W.heap.size, 0, none⟩) rn rn) b.runs ∧ Below W.heap.size W w') := fun W hb => toRunSI_any ro rn rc b.runs W (hr.runs.below oneRk_below hb) (by rw [← hrn]; exact hz.rn) hz.runs
  clear hr hz hsn hpn hrn
  obtain ⟨W0, HV0⟩ : ∃ V, Hid (((w.alloc (.cells #[.slice so sn sc, .slice po pn pc, .slice ro rn rc, .int .i64 ck, .int .i64 tk] 26)).alloc (.cells #[.slice none 0 0, .slice none 0 0, .slice none 0 0, .int .i64 0, .int .i64 0] 32)).alloc (.cells #[.slice none 0 0, .slice none 0 0, .slice none 0 0, .int .i64 0, .int .i64 0] 32) = V) := ⟨_, rfl⟩
  have K0 : B5 26 W0 w.heap.size (.slice so sn sc) (.slice po pn pc) (.slice ro rn rc) (.int .i64 ck) (.int .i64 tk) := by rw [← HV0.out]; exact ((B5.new _ _ _ _ _ _ _).alloc _).alloc _
  have R0 : B5 32 W0 (w.heap.size + 1) (.slice none 0 0) (.slice none 0 0) (.slice none 0 0) (.int .i64 0) (.int .i64 0) := by
    rw [← HV0.out]
    have := (B5.new 32 (w.alloc (.cells #[.slice so sn sc, .slice po pn pc, .slice ro rn rc, .int .i64 ck, .int .i64 tk] 26)) (.slice none 0 0) (.slice none 0 0) (.slice none 0 0) (.int .i64 0) (.int .i64 0)).alloc (.cells #[.slice none 0 0, .slice none 0 0, .slice none 0 0, .int .i64 0, .int .i64 0] 32)
    simpa using this
  have O0 : B5 32 W0 (w.heap.size + 1 + 1) (.slice none 0 0) (.slice none 0 0) (.slice none 0 0) (.int .i64 0) (.int .i64 0) := by
    rw [← HV0.out]
    have := B5.new 32 ((w.alloc (.cells #[.slice so sn sc, .slice po pn pc, .slice ro rn rc, .int .i64 ck, .int .i64 tk] 26)).alloc (.cells #[.slice none 0 0, .slice none 0 0, .slice none 0 0, .int .i64 0, .int .i64 0] 32)) (.slice none 0 0) (.slice none 0 0) (.slice none 0 0) (.int .i64 0) (.int .i64 0)
    simpa using this
  have B0 : Below w.heap.size w W0 := by rw [← HV0.out]; exact ba (ba (ba (Below.refl _ _) _) _) _
  have n10 : w.heap.size + 1 + 1 ≠ w.heap.size := by omega
  have n11 : w.heap.size + 1 + 1 ≠ w.heap.size + 1 := by omega
  have lw : w.heap.size ≤ w.heap.size + 1 + 1 := by omega
  have k0 := K0.c0
  go_enter Try.func7, Try.ntmps7
  go_wp2_with fail
  rw [HV0.out]
  refine (HS.out _ B0).mono ?_
  rintro e W1 ⟨sa, sx, rfl, hsx, ho1, hb1⟩
  have hl1 : w.heap.size + 1 + 1 < W0.heap.size := O0.lt
  have K1 := K0.up hb1
  have R1 := R0.up hb1
  have O1 := O0.up hb1
  have B1 := Below.on B0 hb1
  obtain ⟨s0, HS0⟩ : ∃ s0, Hid (W0.heap.size = s0) := ⟨_, rfl⟩
  obtain ⟨s1, HS1⟩ : ∃ s1, Hid (W1.heap.size = s1) := ⟨_, rfl⟩
  have hs0 : w.heap.size + 1 + 1 < s0 := by rw [← HS0.out]; exact hl1
  have hs01 : s0 ≤ s1 := by rw [← HS0.out, ← HS1.out]; exact Nat.le_of_lt_succ (Nat.lt_succ_of_le hb1.size)
  have S1 : Hid (SesI s0 s1 W1 (.slice sa sn sx) b.ses) := by
    rw [HS0.out] at ho1
    exact ⟨ho1, fun q hq => by rw [← HS1.out]; exact (ho1.lt q hq).2⟩
  clear K0 R0 O0 B0 hb1 k0 HV0 HS ho1 HS0 hl1
  obtain ⟨W2, HW2⟩ : ∃ V, Hid (W1.setCell ⟨w.heap.size + 1 + 1, 0, none⟩ (.slice sa sn sx) = V) := ⟨_, rfl⟩
  have K2 : B5 26 W2 w.heap.size (.slice so sn sc) (.slice po pn pc) (.slice ro rn rc) (.int .i64 ck) (.int .i64 tk) := by rw [← HW2.out]; exact K1.far (by exact n10) _
  have R2 : B5 32 W2 (w.heap.size + 1) (.slice none 0 0) (.slice none 0 0) (.slice none 0 0) (.int .i64 0) (.int .i64 0) := by rw [← HW2.out]; exact R1.far (by exact n11) _
  have O2 : B5 32 W2 (w.heap.size + 1 + 1) (.slice sa sn sx) (.slice none 0 0) (.slice none 0 0) (.int .i64 0) (.int .i64 0) := by rw [← HW2.out]; exact O1.s0 _
  have B2 : Below w.heap.size w W2 := by rw [← HW2.out]; exact B1.setCell lw _
  have S2 : Hid (SesI s0 s1 W2 (.slice sa sn sx) b.ses) := by
    rw [← HW2.out]
    exact S1.out.low hs0 _
  have o0 := O1.c0
  have f0 := O1.fr 0
  have k1 := K1.c1
  have k1' := K2.c1
  clear K1 R1 O1 B1 S1
  go_wp2_with fail
  rw [HW2.out]
  refine (HP.out _ B2).mono ?_
  rintro e W3 ⟨rfl, hp3, hb3⟩
  have hl2 : w.heap.size + 1 + 1 < W2.heap.size := O2.lt
  have K3 := K2.up hb3
  have R3 := R2.up hb3
  have O3 := O2.up hb3
  have B3 := Below.on B2 hb3
  have S3 : Hid (SesI s0 s1 W3 (.slice sa sn sx) b.ses) := S2.out.up hb3
  obtain ⟨P2, HP2⟩ : ∃ P, Hid (W2.heap.size = P) := ⟨_, rfl⟩
  obtain ⟨p1, HP1⟩ : ∃ P, Hid (W3.heap.size = P) := ⟨_, rfl⟩
  have hsp : s1 ≤ P2 := by rw [← HS1.out, ← HP2.out, ← HW2.out]; simp
  have hpp : P2 ≤ p1 := by rw [← HP1.out, ← HP2.out]; exact hb3.size
  rw [HP2.out, HP1.out] at hp3
  rw [HP2.out] at hl2
  rw [HP2.out]
  have P3 : Hid (PlansI P2 p1 W3 (.slice (some ⟨P2, 0, none⟩) pn pn) b.plans) := hp3
  clear K2 R2 O2 B2 S2 hb3 hp3 HW2 HP o0 f0 k1 k1' HP2 HS1
  obtain ⟨W4, HW4⟩ : ∃ V, Hid (W3.setCell ⟨w.heap.size + 1 + 1, 1, none⟩ (.slice (some ⟨P2, 0, none⟩) pn pn) = V) := ⟨_, rfl⟩
  have K4 : B5 26 W4 w.heap.size (.slice so sn sc) (.slice po pn pc) (.slice ro rn rc) (.int .i64 ck) (.int .i64 tk) := by rw [← HW4.out]; exact K3.far (by exact n10) _
  have R4 : B5 32 W4 (w.heap.size + 1) (.slice none 0 0) (.slice none 0 0) (.slice none 0 0) (.int .i64 0) (.int .i64 0) := by rw [← HW4.out]; exact R3.far (by exact n11) _
  have O4 : B5 32 W4 (w.heap.size + 1 + 1) (.slice sa sn sx) (.slice (some ⟨P2, 0, none⟩) pn pn) (.slice none 0 0) (.int .i64 0) (.int .i64 0) := by rw [← HW4.out]; exact O3.s1 _
  have B4 : Below w.heap.size w W4 := by rw [← HW4.out]; exact B3.setCell lw _
  have S4 : Hid (SesI s0 s1 W4 (.slice sa sn sx) b.ses) := by
    rw [← HW4.out]
    exact S3.out.low hs0 _
  have P4 : Hid (PlansI P2 p1 W4 (.slice (some ⟨P2, 0, none⟩) pn pn) b.plans) := by
    rw [← HW4.out]
    exact P3.out.low hl2 _
  have o1 := O3.c1
  have f1 := O3.fr 1
  have k2 := K3.c2
  have k2' := K4.c2
  clear K3 R3 O3 B3 S3 P3
  go_wp2_with fail
  rw [HW4.out]
  refine (HRR.out _ B4).mono ?_
  rintro e W5 ⟨rfl, hp5, hb5⟩
  have hl4 : w.heap.size + 1 + 1 < W4.heap.size := O4.lt
  have K5 := K4.up hb5
  have R5 := R4.up hb5
  have O5 := O4.up hb5
  have B5' := Below.on B4 hb5
  have S5 : Hid (SesI s0 s1 W5 (.slice sa sn sx) b.ses) := S4.out.up hb5
  have P5 : Hid (PlansI P2 p1 W5 (.slice (some ⟨P2, 0, none⟩) pn pn) b.plans) := P4.out.up hb5
  obtain ⟨Q2, HQ2⟩ : ∃ P, Hid (W4.heap.size = P) := ⟨_, rfl⟩
  obtain ⟨rr1, HR1⟩ : ∃ P, Hid (W5.heap.size = P) := ⟨_, rfl⟩
  have hpr : p1 ≤ Q2 := by rw [← HP1.out, ← HQ2.out, ← HW4.out]; simp
  rw [HQ2.out, HR1.out] at hp5
  rw [HQ2.out] at hl4
  rw [HQ2.out]
  have Q5 : Hid (RunsI Q2 rr1 W5 (.slice (some ⟨Q2, 0, none⟩) rn rn) b.runs) := hp5
  clear K4 R4 O4 B4 S4 P4 hb5 hp5 HW4 HRR o1 f1 k2 k2' HQ2 HP1
  obtain ⟨W6, hW6⟩ : ∃ V, ((W5.setCell ⟨w.heap.size + 1 + 1, 2, none⟩ (.slice (some ⟨Q2, 0, none⟩) rn rn)).setCell ⟨w.heap.size + 1 + 1, 3, none⟩ (.int .i64 ck)).setCell ⟨w.heap.size + 1 + 1, 4, none⟩ (.int .i64 tk) = V := ⟨_, rfl⟩
  have R6 : B5 32 W6 (w.heap.size + 1) (.slice none 0 0) (.slice none 0 0) (.slice none 0 0) (.int .i64 0) (.int .i64 0) := by rw [← hW6]; exact ((R5.far (by exact n11) _).far (by exact n11) _).far (by exact n11) _
  have O6 : B5 32 W6 (w.heap.size + 1 + 1) (.slice sa sn sx) (.slice (some ⟨P2, 0, none⟩) pn pn) (.slice (some ⟨Q2, 0, none⟩) rn rn) (.int .i64 ck) (.int .i64 tk) := by rw [← hW6]; exact ((O5.s2 _).s3 _).s4 _
  have B6 : Below w.heap.size w W6 := by rw [← hW6]; exact ((B5'.setCell lw _).setCell lw _).setCell lw _
  have hr1 : Q2 ≤ rr1 := by
    obtain ⟨ks, x, y, hd⟩ := Q5.out
    exact Nat.le_of_lt (hd.top Q2 rfl)
  have D6 : Hid (∀ (o : Addr) (u : Value) (W : World), o.block < s0 → BdI w.heap.size rr1 W (.slice sa sn sx) (.slice (some ⟨P2, 0, none⟩) pn pn) (.slice (some ⟨Q2, 0, none⟩) rn rn) b s0 s1 P2 p1 Q2 rr1 → BdI w.heap.size rr1 (W.setCell o u) (.slice sa sn sx) (.slice (some ⟨P2, 0, none⟩) pn pn) (.slice (some ⟨Q2, 0, none⟩) rn rn) b s0 s1 P2 p1 Q2 rr1) := fun o u W ho h => h.low' ho (by omega) (by omega) u
  have D5 : Hid (BdI w.heap.size rr1 W5 (.slice sa sn sx) (.slice (some ⟨P2, 0, none⟩) pn pn) (.slice (some ⟨Q2, 0, none⟩) rn rn) b s0 s1 P2 p1 Q2 rr1) := ⟨S5.out.1, S5.out.2, P5.out, Q5.out, by omega, by omega, by omega, by omega, by omega, Nat.le_refl _, .inl hsp, .inl (by omega), .inl hpr⟩
  have D7 : Hid (BdI w.heap.size rr1 W6 (.slice sa sn sx) (.slice (some ⟨P2, 0, none⟩) pn pn) (.slice (some ⟨Q2, 0, none⟩) rn rn) b s0 s1 P2 p1 Q2 rr1) := by
    rw [← hW6]
    exact D6.out _ _ _ hs0 (D6.out _ _ _ hs0 (D6.out _ _ _ hs0 D5.out))
  have HSZ : Hid (W6.heap.size = rr1) := by
    show _ = _
    rw [← hW6, ← HR1.out]
    simp
  have g2 := O5.c2
  have g3 := O5.c3
  have g4 := O5.c4
  have h2 := O5.fr 2
  have h3 := O5.fr 3
  have h4 := O5.fr 4
  have a3 := K5.c3
  have a4 := K5.c4
  clear K5 R5 O5 B5' S5 P5 Q5 D5 HR1
  have q0 := O6.c0
  have q1 := O6.c1
  have q2 := O6.c2
  have q3 := O6.c3
  have q4 := O6.c4
  have r0 := R6.c0
  have r1 := R6.c1
  have r2 := R6.c2
  have r3 := R6.c3
  have r4 := R6.c4
  have t0 := R6.fr 0
  have t1 := R6.fr 1
  have t2 := R6.fr 2
  have t3 := R6.fr 3
  have t4 := R6.fr 4
  go_wp2
  have HE := R6.set (.slice sa sn sx) (.slice (some ⟨P2, 0, none⟩) pn pn) (.slice (some ⟨Q2, 0, none⟩) rn rn) (.int .i64 ck) (.int .i64 tk)
  refine bodyPost_ret (ret_board rfl rfl HE) rfl ?_
  have l1 : w.heap.size + 1 < s0 := by omega
  refine ⟨sa, sx, _, _, s0, s1, P2, p1, Q2, rr1, rfl, ?_, below_set5 B6 (Nat.le_succ _) _ _ _ _ _⟩
  have hd := D6.out ⟨w.heap.size + 1, 4, none⟩ (.int .i64 tk) _ l1 (D6.out ⟨w.heap.size + 1, 3, none⟩ (.int .i64 ck) _ l1 (D6.out ⟨w.heap.size + 1, 2, none⟩ (.slice (some ⟨Q2, 0, none⟩) rn rn) _ l1 (D6.out ⟨w.heap.size + 1, 1, none⟩ (.slice (some ⟨P2, 0, none⟩) pn pn) _ l1 (D6.out ⟨w.heap.size + 1, 0, none⟩ (.slice sa sn sx) _ l1 D7.out))))
  exact hd.hiUp (by rw [← HSZ.out]; simp)
end Go.Proofs.Ytkfhmeiiicidaaa

namespace Go.Proofs.Ytkfhmeiiicidaaa
open Go Go.RowKit
set_option linter.unusedVariables false

theorem dk_made {κ τ : Type} [Rec κ] (One : Nat → Nat → World → κ → τ → Prop) (ty : TypeId) {lo hi : Nat} (w : World) (hlo : lo ≤ w.heap.size) (hhi : w.heap.size < hi) : DK One ty lo hi (w.alloc (.cells #[] ty)) (.slice (some ⟨w.heap.size, 0, none⟩) 0 0) ([] : List κ) (fun _ => 0) (fun _ => 0) ([] : List τ) :=
  ⟨ownsR_made0 (α := κ) w lo ty hlo, fun q hq => (by cases hq; exact hhi), rfl, fun i k t hk => (by simp at hk), fun i hi => (by simp at hi), fun i j hi => (by simp at hi)⟩
/-- What lies there while a plan is copied. -/
structure ScS (w : World) (nm cr : ByteArray) (fr up : Int) (cu : Bool) (iv : Value) (l : List Ta) (v : Value) (W : World) : Prop where
  x : P6 W w.heap.size nm cr fr up cu iv
  z : P6 W (w.heap.size + 1) ⟨#[]⟩ ⟨#[]⟩ 0 0 false (.slice none 0 0)
  dk : ∃ ks a b, DK OneTkI 109 (w.heap.size + 2) W.heap.size W v ks a b l
  bel : Below w.heap.size w W
theorem ScS.up {w : World} {nm cr : ByteArray} {fr up : Int} {cu : Bool} {iv : Value} {l : List Ta} {v : Value} {W W' : World} (h : ScS w nm cr fr up cu iv l v W) (hb : Below W.heap.size W W') : ScS w nm cr fr up cu iv l v W' := by
  obtain ⟨ks, a, b, hd⟩ := h.dk
  exact ⟨h.x.on hb, h.z.on hb, ⟨ks, a, b, (hd.up keepTk hb).top' hb.size⟩, h.bel.trans (hb.mono h.bel.size)⟩
set_option maxRecDepth 10000 in
set_option maxHeartbeats 4000000 in
theorem dagCopy_any (nm cr : ByteArray) (fr up : Int) (cu : Bool) (ao : Option Addr) (n cap : Nat) (ts : List Ta) (w : World) (hr : Tasks w (.slice ao n cap) ts) (hn : n ≤ 1048576) (h3 : ∀ t ∈ ts, t.after.length ≤ 1048576) :
    Calls Try.prog 43 #[.agg #[.string nm, .string cr, .int .i64 fr, .int .i64 up, .bool cu, .slice ao n cap]] w fun e w' => ∃ v, e = .returned (.agg #[.string nm, .string cr, .int .i64 fr, .int .i64 up, .bool cu, v]) ∧ TasksI w.heap.size w'.heap.size w' v ts ∧ Below w.heap.size w w' := by
  have HN : Hid (ts.length = n) := by
    obtain ⟨ao', cap', e⟩ := hr.slice
    injection e with _ e2 _
    exact e2.symm
  have HR : Hid (∀ W, Below w.heap.size w W → Tasks W (.slice ao n cap) ts) := fun W hb => hr.below hb
  have H3 : Hid (∀ t ∈ ts, t.after.length ≤ 1048576) := h3
  clear hr h3
  obtain ⟨V0, HV0⟩ : ∃ W, Hid ((w.alloc (.cells #[.string nm, .string cr, .int .i64 fr, .int .i64 up, .bool cu, .slice ao n cap] 68)).alloc (.cells #[.string ⟨#[]⟩, .string ⟨#[]⟩, .int .i64 0, .int .i64 0, .bool false, .slice none 0 0] 68) = W) := ⟨_, rfl⟩
  have X0 : P6 V0 w.heap.size nm cr fr up cu (.slice ao n cap) := by rw [← HV0.out]; exact (P6.new _ _ _ _ _ _ _).on (ba (Below.refl _ _) _)
  have Z0 : P6 V0 (w.heap.size + 1) ⟨#[]⟩ ⟨#[]⟩ 0 0 false (.slice none 0 0) := by
    rw [← HV0.out]
    have := P6.new (w.alloc (.cells #[.string nm, .string cr, .int .i64 fr, .int .i64 up, .bool cu, .slice ao n cap] 68)) ⟨#[]⟩ ⟨#[]⟩ 0 0 false (.slice none 0 0)
    simpa using this
  have B0 : Below w.heap.size w V0 := by rw [← HV0.out]; exact ba (ba (Below.refl _ _) _) _
  obtain ⟨W0, HW0⟩ : ∃ W, Hid (V0.alloc (.cells #[] 109) = W) := ⟨_, rfl⟩
  have hV0 : w.heap.size + 2 ≤ V0.heap.size := Z0.lt
  have BW0 : Below V0.heap.size V0 W0 := by rw [← HW0.out]; exact ba (Below.refl _ _) _
  have HSZ : Hid (V0.heap.size = w.heap.size + 1 + 1) := by show _ = _; rw [← HV0.out]; simp
  have HS : Hid (ScS w nm cr fr up cu (.slice ao n cap) (ts.take 0) (.slice (some ⟨w.heap.size + 1 + 1, 0, none⟩) 0 0) W0) := by
    refine ⟨X0.on BW0, Z0.on BW0, ⟨[], fun _ => 0, fun _ => 0, ?_⟩, Below.on B0 BW0⟩
    have h := dk_made (κ := Tk) (τ := Ta) OneTkI 109 (lo := w.heap.size + 2) (hi := W0.heap.size) V0 hV0 (by rw [← HW0.out]; simp)
    rw [HW0.out, HSZ.out] at h
    exact h
  go_enter Try.func43, Try.ntmps43
  go_wp2
  rw [HV0.out, HW0.out]
  clear X0 Z0 B0 HV0 HW0 BW0 hV0 HSZ
  go_loopw [3, 4] (fun lv i wr => ∃ (k : Nat) (v : Value), k ≤ n ∧ i = .int .i64 k ∧ lv = v ∧ Hid (ScS w nm cr fr up cu (.slice ao n cap) (ts.take k) v wr)) (fun _ i _ => n - (intOf i).toNat)
  case atStart => exact ⟨0, _, Nat.zero_le _, rfl, rfl, HS⟩
  case round =>
    clear HS
    obtain ⟨k, v, hk, rfl, rfl, HS⟩ := hrel
    have x5 := HS.out.x.c5
    by_cases hlt : k < n
    · obtain ⟨t, ht⟩ : ∃ t, ts[k]? = some t := ⟨_, List.getElem?_eq_getElem (by rw [HN.out]; exact hlt)⟩
      obtain ⟨b', o, av, rfl, hb, c0, c1, c2, c3, c4, hav⟩ := (HR.out wr HS.out.bel).at ht
      have h3 := H3.out t (List.mem_of_getElem? ht)
      obtain ⟨fo, fc, rfl⟩ := reads_slice hav
      have HAV : Hid (∀ W, Below wr.heap.size wr W → Reads W (.slice fo t.after.length fc) t.after) := fun W hb => hav.below hb
      have HTK : Hid (ts.take (k + 1) = ts.take k ++ [t]) := by show _ = _; rw [List.take_add_one, ht]; rfl
      have HLN : Hid (k + 1 ≤ 1048577 ∧ (ts.take k).length = k) := by refine ⟨by omega, ?_⟩; rw [List.length_take, HN.out]; omega
      have HLA : Hid (([] : List ByteArray).length + t.after.length ≤ 1048577) := by show _ ≤ _; simp; omega
      clear ht hav h3
      obtain ⟨ks, a, b, hd⟩ := HS.out.dk
      obtain ⟨va, vn, vc, rfl⟩ := hd.own.slice3
      have HD : Hid (DK OneTkI 109 (w.heap.size + 2) wr.heap.size wr (.slice va vn vc) ks a b (ts.take k)) := hd
      clear hd
      obtain ⟨W1, HW1⟩ : ∃ W1, Hid (wr.alloc (.cells #[.string t.name, .string t.pool, .int .i64 t.ret, .bool t.past, .slice fo t.after.length fc] 109) = W1) := ⟨_, rfl⟩
      have BB1 : Below wr.heap.size wr W1 := by rw [← HW1.out]; exact ba (Below.refl _ _) _
      have bx : B5 109 W1 wr.heap.size (.string t.name) (.string t.pool) (.int .i64 t.ret) (.bool t.past) (.slice fo t.after.length fc) := by rw [← HW1.out]; exact B5.new _ _ _ _ _ _ _
      have HZ1 : Hid (W1.heap.size = wr.heap.size + 1) := by show _ = _; rw [← HW1.out]; simp
      obtain ⟨W2, HW2⟩ : ∃ W2, Hid (W1.alloc (.cells #[] 9) = W2) := ⟨_, rfl⟩
      have BB2 : Below W1.heap.size W1 W2 := by rw [← HW2.out]; exact ba (Below.refl _ _) _
      have O2 : Hid (ownsR W2 (wr.heap.size + 1) 9 (.slice (some ⟨wr.heap.size + 1, 0, none⟩) 0 0) ([] : List ByteArray)) := by
        rw [← HW2.out, ← HZ1.out]
        exact ownsR_made0 (α := ByteArray) W1 W1.heap.size 9 (Nat.le_refl _)
      have bx2 := bx.up BB2
      have hz0 : w.heap.size + 2 ≤ wr.heap.size := HS.out.z.lt
      have hz1 := HZ1.out
      have hz2 : W1.heap.size < W2.heap.size := by rw [← HW2.out]; simp
      have e4 := bx2.c4
      have hW1 : wr.alloc (.cells #[.string t.name, .string t.pool, .int .i64 t.ret, .bool t.past, .slice fo t.after.length fc] 109) = W1 := HW1.out
      have hW2 : W1.alloc (.cells #[] 9) = W2 := HW2.out
      go_wp2_with (at_builtin; refine wpList_append_recs rfl (.tmp 19) (.tmp 21) 107 rfl (wr.heap.size + 1) 9 _ 16 Try.underlying107 info9 rfl (.slice (some ⟨wr.heap.size + 1, 0, none⟩) 0 0) (.slice fo t.after.length fc) [] t.after rfl rfl O2.out (HAV.out _ (Below.on BB1 BB2)) (tx_one _) HLA.out (by decide) (by omega) ?_)
      intro v3 w3 ho3 hg3
      have HO3 : Hid (ownsR w3 (wr.heap.size + 1) 9 v3 t.after) := ho3
      have HO3t : Hid (∀ q, v3.ownBlock = some q → q < w3.heap.size) := fun q hq => (ho3.lt q hq).2
      have ne3 : some wr.heap.size ≠ (Value.slice (some ⟨wr.heap.size + 1, 0, none⟩) 0 0).ownBlock := fun e => by
        have e : some wr.heap.size = some (wr.heap.size + 1) := e
        injection e with e
        omega
      have bx3 := bx2.grown hg3 ne3
      have B12 : Below wr.heap.size wr W2 := Below.on BB1 BB2
      have B3 : Below wr.heap.size wr w3 := B12.trans ⟨hg3.os, hg3.tape, hg3.output, hg3.size, fun q hq => hg3.block q (Nat.lt_of_lt_of_le hq B12.size) fun e => by
        have e : some q = some (wr.heap.size + 1) := e
        injection e with e
        omega⟩
      obtain ⟨a3, n3, c3', rfl⟩ := ho3.slice3
      clear ho3 hg3 bx2 bx O2 HW2 hW2 HW1 hW1 e4 BB1 BB2 B12 ne3 HAV HLA
      have HS3 : Hid (ScS w nm cr fr up cu (.slice (some ⟨b', o, none⟩) n cap) (ts.take k) (.slice va vn vc) w3) := HS.out.up B3
      have HD3 : Hid (DK OneTkI 109 (w.heap.size + 2) wr.heap.size w3 (.slice va vn vc) ks a b (ts.take k)) := HD.out.up keepTk B3
      clear HS HD x5
      obtain ⟨w4, HW4⟩ : ∃ W, Hid (w3.setCell ⟨wr.heap.size, 4, none⟩ (.slice a3 n3 c3') = W) := ⟨_, rfl⟩
      have hq4 : ∀ q, q ≠ wr.heap.size → w4.heap[q]? = w3.heap[q]? := fun q hq => by rw [← HW4.out]; exact heap_setCell_other w3 ⟨wr.heap.size, 4, none⟩ q _ hq
      have hz4 : w4.heap.size = w3.heap.size := by rw [← HW4.out]; simp
      have bx4 : B5 109 w4 wr.heap.size (.string t.name) (.string t.pool) (.int .i64 t.ret) (.bool t.past) (.slice a3 n3 c3') := by rw [← HW4.out]; exact bx3.s4 _
      have HO4 : Hid (ownsR w4 (wr.heap.size + 1) 9 (.slice a3 n3 c3') t.after) := HO3.out.hold fun q hq => hq4 q (by have := (HO3.out.lt q hq).1; omega)
      have HD4 : Hid (DK OneTkI 109 (w.heap.size + 2) wr.heap.size w4 (.slice va vn vc) ks a b (ts.take k)) := HD3.out.keep keepTk fun q _ q2 _ => hq4 q (by omega)
      have X4 : P6 w4 w.heap.size nm cr fr up cu (.slice (some ⟨b', o, none⟩) n cap) := (hq4 _ (by omega)).trans HS3.out.x
      have Z4 : P6 w4 (w.heap.size + 1) ⟨#[]⟩ ⟨#[]⟩ 0 0 false (.slice none 0 0) := (hq4 _ (by omega)).trans HS3.out.z
      have BW4 : Below w.heap.size w w4 := by rw [← HW4.out]; exact HS3.out.bel.setCell (p := ⟨wr.heap.size, 4, none⟩) (by show w.heap.size ≤ wr.heap.size; omega) _
      have hz3 : wr.heap.size + 1 < w3.heap.size + 1 := by have := bx3.lt; omega
      have g4 := bx3.c4
      have f4 := bx3.fr 4
      have m0 := bx4.c0
      have m1 := bx4.c1
      have m2 := bx4.c2
      have m3 := bx4.c3
      have m4 := bx4.c4
      obtain ⟨W5, HW5⟩ : ∃ W, Hid (w4.alloc (.cells #[.string t.name, .string t.pool, .int .i64 t.ret, .bool t.past, .slice a3 n3 c3'] 109) = W) := ⟨_, rfl⟩
      have C5 : Below w4.heap.size w4 W5 := by rw [← HW5.out]; exact ba (Below.refl _ _) _
      obtain ⟨x, HX⟩ : ∃ x : Tk, Hid (x = ⟨t.name, t.pool, t.ret, t.past, .slice a3 n3 c3'⟩) := ⟨_, rfl⟩
      have RD : Hid (Reads W5 (.slice (some ⟨w3.heap.size, 0, none⟩) 1 1) [x]) := by rw [← hz4, ← HW5.out, HX.out]; exact reads_oneR w4 109 (⟨t.name, t.pool, t.ret, t.past, .slice a3 n3 c3'⟩ : Tk)
      have HD5 : Hid (DK OneTkI 109 (w.heap.size + 2) wr.heap.size W5 (.slice va vn vc) ks a b (ts.take k)) := HD4.out.up keepTk C5
      have HO5 : Hid (ownsR W5 (wr.heap.size + 1) 9 (.slice a3 n3 c3') t.after) := HO4.out.all C5
      have X5 := X4.on C5
      have Z5 := Z4.on C5
      have BW5 := Below.on BW4 C5
      have hz5 : w4.heap.size ≤ W5.heap.size := C5.size
      have hW4 : w3.setCell ⟨wr.heap.size, 4, none⟩ (.slice a3 n3 c3') = w4 := HW4.out
      have hW5 : w4.alloc (.cells #[.string t.name, .string t.pool, .int .i64 t.ret, .bool t.past, .slice a3 n3 c3'] 109) = W5 := HW5.out
      clear HS3 HD3 HO3 bx3 bx4 HO4 HD4 X4 Z4 BW4 HW4 HW5 B3
      go_wp2_with (at_builtin; refine wpList_append_at rfl (.tmp 24) (.tmp 26) 66 rfl (w.heap.size + 2) 109 _ 72 Try.underlying66 infoTk rfl (.slice va vn vc) (.slice (some ⟨w3.heap.size, 0, none⟩) 1 1) ks [x] rfl rfl HD5.out.own RD.out (by simp) (tk_ones (by rw [HX.out])) (by rw [HD5.out.len, HLN.out.2]; exact HLN.out.1) (by decide) (by omega) ?_)
      intro v6 w6 ho6 hg6 hat6
      have HS6 : Hid (ScS w nm cr fr up cu (.slice (some ⟨b', o, none⟩) n cap) (ts.take (k + 1)) v6 w6) := by
        have ne : ∀ q, q < w.heap.size + 2 → some q ≠ (Value.slice va vn vc).ownBlock := fun q hq e => by have := (HD5.out.own.lt q e.symm).1; omega
        have hO : OneTkI (wr.heap.size + 1) w3.heap.size w6 x t := by
          have h0 : OneTkI (wr.heap.size + 1) W5.heap.size W5 x t := by rw [HX.out]; exact ⟨rfl, rfl, rfl, rfl, HO5.out, fun q hq => (HO5.out.lt q hq).2⟩
          have h1 : OneTkI (wr.heap.size + 1) w3.heap.size W5 x t := ⟨h0.name, h0.pool, h0.ret, h0.past, h0.own, by rw [HX.out]; exact HO3t.out⟩
          refine keepTk _ _ _ _ _ _ h1 fun q q1 q2 q3 => hg6.block q q3 fun e => ?_
          have := HD5.out.top q e.symm
          omega
        have hd6 := HD5.out.more keepTk (W := w6) (v' := v6) (a' := wr.heap.size + 1) (b' := w3.heap.size) (hi' := w6.heap.size) (x' := x) (t' := t) (by omega) (by omega) (by omega) (by omega) (by have := hg6.size; omega) ho6 hO (fun q hq hne => hg6.block q hq fun e => hne e.symm) (fun q hq => by
          rcases hat6 with e | e
          · exact .inl (by rw [← e]; exact hq)
          · have e' : q = W5.heap.size := by rw [e] at hq; exact (Option.some.inj hq).symm
            exact .inr ⟨by omega, (ho6.lt q hq).2⟩)
        rw [← HTK.out] at hd6
        exact ⟨X5.grown hg6 (ne _ (by omega)), Z5.grown hg6 (ne _ (by omega)), ⟨_, _, _, hd6⟩, BW5.trans ⟨hg6.os, hg6.tape, hg6.output, hg6.size, fun q hq => hg6.block q (Nat.lt_of_lt_of_le hq BW5.size) (ne q (by omega))⟩⟩
      clear ho6 hg6 hat6 HD5 HO5 RD X5 Z5 BW5 C5 hW4 hW5 m0 m1 m2 m3 m4 g4 f4 HX hq4 HTK HLN c0 c1 c2 c3 c4
      go_wp2
      go_roundw
      case rel => exact ⟨k + 1, _, by omega, by go_num, rfl, HS6⟩
      case measure => simp [intOf]; omega
    · have hkn : k = ts.length := by rw [HN.out]; omega
      rw [hkn, List.take_length] at HS
      obtain ⟨ks, a, b, hd⟩ := HS.out.dk
      obtain ⟨va, vn, vc, rfl⟩ := hd.own.slice3
      have HD : Hid (DK OneTkI 109 (w.heap.size + 2) wr.heap.size wr (.slice va vn vc) ks a b ts) := hd
      obtain ⟨W2, HW2⟩ : ∃ W, Hid (wr.setCell ⟨w.heap.size, 5, none⟩ (.slice va vn vc) = W) := ⟨_, rfl⟩
      have X2 : P6 W2 w.heap.size nm cr fr up cu (.slice va vn vc) := by rw [← HW2.out]; exact HS.out.x.s5 _
      have Z2 : P6 W2 (w.heap.size + 1) ⟨#[]⟩ ⟨#[]⟩ 0 0 false (.slice none 0 0) := by rw [← HW2.out]; exact HS.out.z.far (a := ⟨w.heap.size, 5, none⟩) (by show w.heap.size ≠ w.heap.size + 1; omega) _
      have B2 : Below w.heap.size w W2 := by rw [← HW2.out]; exact HS.out.bel.setCell (p := ⟨w.heap.size, 5, none⟩) (Nat.le_refl _) _
      have HD2 : Hid (DK OneTkI 109 (w.heap.size + 2) wr.heap.size W2 (.slice va vn vc) ks a b ts) := by
        rw [← HW2.out]
        exact HD.out.keep keepTk fun q q1 _ _ => heap_setCell_other wr ⟨w.heap.size, 5, none⟩ q _ fun e => by
          have e : q = w.heap.size := e
          omega
      have hz : W2.heap.size = wr.heap.size := by rw [← HW2.out]; simp
      have hW2 : wr.setCell ⟨w.heap.size, 5, none⟩ (.slice va vn vc) = W2 := HW2.out
      have p5 := HS.out.x.c5
      have pf := HS.out.x.fz 5
      have c0 := X2.c0
      have c1 := X2.c1
      have c2 := X2.c2
      have c3 := X2.c3
      have c4 := X2.c4
      have c5 := X2.c5
      have d0 := Z2.c0
      have d1 := Z2.c1
      have d2 := Z2.c2
      have d3 := Z2.c3
      have d4 := Z2.c4
      have d5 := Z2.c5
      have f0 := Z2.fz 0
      have f1 := Z2.fz 1
      have f2 := Z2.fz 2
      have f3 := Z2.fz 3
      have f4 := Z2.fz 4
      have f5 := Z2.fz 5
      clear hkn hd HW2
      go_wp2
      have HE := ((((((Z2.s0 nm).s1 cr).s2 fr).s3 up).s4 cu).s5 (.slice va vn vc))
      refine bodyPost_ret (ret_g1 rfl rfl HE) rfl ?_
      have low : w.heap.size ≤ w.heap.size + 1 := Nat.le_succ _
      refine ⟨_, rfl, ⟨ks, a, b, ?_⟩, (((((B2.setCell (p := ⟨w.heap.size + 1, 0, none⟩) low _).setCell (p := ⟨w.heap.size + 1, 1, none⟩) low _).setCell (p := ⟨w.heap.size + 1, 2, none⟩) low _).setCell (p := ⟨w.heap.size + 1, 3, none⟩) low _).setCell (p := ⟨w.heap.size + 1, 4, none⟩) low _).setCell (p := ⟨w.heap.size + 1, 5, none⟩) low _⟩
      refine ((HD2.out.keep keepTk fun q q1 _ _ => ?_).low' (by omega)).top' (by simp; omega)
      have hne : q ≠ w.heap.size + 1 := by omega
      rw [heap_setCell_other _ ⟨w.heap.size + 1, 5, none⟩ q _ hne, heap_setCell_other _ ⟨w.heap.size + 1, 4, none⟩ q _ hne, heap_setCell_other _ ⟨w.heap.size + 1, 3, none⟩ q _ hne, heap_setCell_other _ ⟨w.heap.size + 1, 2, none⟩ q _ hne, heap_setCell_other _ ⟨w.heap.size + 1, 1, none⟩ q _ hne, heap_setCell_other _ ⟨w.heap.size + 1, 0, none⟩ q _ hne]
end Go.Proofs.Ytkfhmeiiicidaaa

namespace Go.Proofs.Ytkfhmeiiicidaaa
open Go Go.RowKit
set_option linter.unusedVariables false

/-- A block of 3 cells. -/
def Kc3 (t : TypeId) (W : World) (b : Nat) (x0 x1 x2 : Value) : Prop := W.heap[b]? = some (.cells #[x0, x1, x2] t)
section
variable {t : TypeId} {W W' : World} {b : Nat} {x0 x1 x2 : Value}
theorem Kc3.lt (h : Kc3 t W b x0 x1 x2) : b < W.heap.size := (Array.getElem?_eq_some_iff.1 h).1
theorem Kc3.on {B : Nat} (h : Kc3 t W b x0 x1 x2) (hb : Below B W W') (hB : b < B) : Kc3 t W' b x0 x1 x2 := (hb.block _ hB).trans h
theorem Kc3.up (h : Kc3 t W b x0 x1 x2) (hb : Below W.heap.size W W') : Kc3 t W' b x0 x1 x2 := h.on hb h.lt
theorem Kc3.grown {r : Option Nat} (h : Kc3 t W b x0 x1 x2) (hg : W.grownBy W' r) (hr : some b ≠ r) : Kc3 t W' b x0 x1 x2 := (hg.block b h.lt hr).trans h
theorem Kc3.alloc (h : Kc3 t W b x0 x1 x2) (o : Obj) : Kc3 t (W.alloc o) b x0 x1 x2 := h.up (ba (Below.refl _ _) _)
theorem Kc3.fz (h : Kc3 t W b x0 x1 x2) (k : Nat) : W.frozen? ⟨b, k, none⟩ = false := by simp [World.frozen?, show W.heap[b]? = _ from h]
theorem Kc3.new (t : TypeId) (W : World) (x0 x1 x2 : Value) : Kc3 t (W.alloc (.cells #[x0, x1, x2] t)) W.heap.size x0 x1 x2 := by
  show (W.heap.push _)[W.heap.size]? = _
  rw [Array.getElem?_push, if_pos rfl]
theorem Kc3.far {p : Addr} (h : Kc3 t W b x0 x1 x2) (hp : p.block ≠ b) (u : Value) : Kc3 t (W.setCell p u) b x0 x1 x2 := by
  have := h
  unfold Kc3 at this ⊢
  rw [← this]
  exact heap_setCell_other W p b u (Ne.symm hp)
theorem Kc3.c0 (h : Kc3 t W b x0 x1 x2) : W.cell? ⟨b, 0, none⟩ = some x0 := by simp [World.cell?, show W.heap[b]? = _ from h]
theorem Kc3.s0 (h : Kc3 t W b x0 x1 x2) (u : Value) : Kc3 t (W.setCell ⟨b, 0, none⟩ u) b u x1 x2 := by simp [Kc3, World.setCell, Array.getElem?_modify, show W.heap[b]? = _ from h]
theorem Kc3.c1 (h : Kc3 t W b x0 x1 x2) : W.cell? ⟨b, 1, none⟩ = some x1 := by simp [World.cell?, show W.heap[b]? = _ from h]
theorem Kc3.s1 (h : Kc3 t W b x0 x1 x2) (u : Value) : Kc3 t (W.setCell ⟨b, 1, none⟩ u) b x0 u x2 := by simp [Kc3, World.setCell, Array.getElem?_modify, show W.heap[b]? = _ from h]
theorem Kc3.c2 (h : Kc3 t W b x0 x1 x2) : W.cell? ⟨b, 2, none⟩ = some x2 := by simp [World.cell?, show W.heap[b]? = _ from h]
theorem Kc3.s2 (h : Kc3 t W b x0 x1 x2) (u : Value) : Kc3 t (W.setCell ⟨b, 2, none⟩ u) b x0 x1 u := by simp [Kc3, World.setCell, Array.getElem?_modify, show W.heap[b]? = _ from h]
end

/-- What lies there while a board is copied, but for its rows. -/
structure BcS (w : World) (i0 i1 i2 sv pv rv : Value) (ck tk : Int) (W : World) : Prop where
  x : B5 32 W w.heap.size i0 i1 i2 (.int .i64 ck) (.int .i64 tk)
  z : B5 32 W (w.heap.size + 1) (.slice none 0 0) (.slice none 0 0) (.slice none 0 0) (.int .i64 0) (.int .i64 0)
  o : B5 32 W (w.heap.size + 1 + 1) sv pv rv (.int .i64 ck) (.int .i64 tk)
  bel : Below w.heap.size w W
section
variable {w : World} {i0 i1 i2 sv pv rv : Value} {ck tk : Int} {W W' : World}
theorem BcS.up (h : BcS w i0 i1 i2 sv pv rv ck tk W) (hb : Below W.heap.size W W') : BcS w i0 i1 i2 sv pv rv ck tk W' := ⟨h.x.up hb, h.z.up hb, h.o.up hb, h.bel.trans (hb.mono h.bel.size)⟩
theorem BcS.grown {r : Option Nat} (h : BcS w i0 i1 i2 sv pv rv ck tk W) (hg : W.grownBy W' r) (hr : ∀ q, r = some q → w.heap.size + 3 ≤ q) : BcS w i0 i1 i2 sv pv rv ck tk W' := by
  have ne : ∀ b, b < w.heap.size + 3 → some b ≠ r := fun b hb e => by have := hr b e.symm; omega
  exact ⟨h.x.grown hg (ne _ (by omega)), h.z.grown hg (ne _ (by omega)), h.o.grown hg (ne _ (by omega)), h.bel.trans ⟨hg.os, hg.tape, hg.output, hg.size, fun k hk => hg.block k (Nat.lt_of_lt_of_le hk h.bel.size) (ne _ (by omega))⟩⟩
theorem BcS.far (h : BcS w i0 i1 i2 sv pv rv ck tk W) {p : Addr} (hp : w.heap.size + 3 ≤ p.block) (u : Value) : BcS w i0 i1 i2 sv pv rv ck tk (W.setCell p u) := ⟨h.x.far (by omega) u, h.z.far (by omega) u, h.o.far (by omega) u, h.bel.setCell (by omega) u⟩
theorem BcS.s0 (h : BcS w i0 i1 i2 sv pv rv ck tk W) (u : Value) : BcS w i0 i1 i2 u pv rv ck tk (W.setCell ⟨w.heap.size + 1 + 1, 0, none⟩ u) := ⟨h.x.far (by show w.heap.size + 1 + 1 ≠ w.heap.size; omega) u, h.z.far (by show w.heap.size + 1 + 1 ≠ w.heap.size + 1; omega) u, h.o.s0 u, h.bel.setCell (by show w.heap.size ≤ w.heap.size + 1 + 1; omega) u⟩
theorem BcS.s1 (h : BcS w i0 i1 i2 sv pv rv ck tk W) (u : Value) : BcS w i0 i1 i2 sv u rv ck tk (W.setCell ⟨w.heap.size + 1 + 1, 1, none⟩ u) := ⟨h.x.far (by show w.heap.size + 1 + 1 ≠ w.heap.size; omega) u, h.z.far (by show w.heap.size + 1 + 1 ≠ w.heap.size + 1; omega) u, h.o.s1 u, h.bel.setCell (by show w.heap.size ≤ w.heap.size + 1 + 1; omega) u⟩
theorem BcS.s2 (h : BcS w i0 i1 i2 sv pv rv ck tk W) (u : Value) : BcS w i0 i1 i2 sv pv u ck tk (W.setCell ⟨w.heap.size + 1 + 1, 2, none⟩ u) := ⟨h.x.far (by show w.heap.size + 1 + 1 ≠ w.heap.size; omega) u, h.z.far (by show w.heap.size + 1 + 1 ≠ w.heap.size + 1; omega) u, h.o.s2 u, h.bel.setCell (by show w.heap.size ≤ w.heap.size + 1 + 1; omega) u⟩
end
theorem se_ones (x : Se) : ∀ y ∈ [x], ∀ u ∈ Rec.cells y, u.oneCell' = true := by
  intro y hy u hu
  simp only [List.mem_singleton] at hy
  subst hy
  simp only [Rec.cells, List.mem_cons, List.not_mem_nil, or_false] at hu
  rcases hu with rfl | rfl | rfl <;> rfl
theorem pl_ones {x : Pl} {a : Option Addr} {n c : Nat} (h : x.tasks = .slice a n c) : ∀ y ∈ [x], ∀ u ∈ Rec.cells y, u.oneCell' = true := by
  intro y hy u hu
  simp only [List.mem_singleton] at hy
  subst hy
  simp only [Rec.cells, List.mem_cons, List.not_mem_nil, or_false] at hu
  rcases hu with rfl | rfl | rfl | rfl | rfl | rfl | rfl | rfl | rfl
  all_goals first | rfl | (rw [h]; rfl)
theorem rk_ones {x : Rk} {a : Option Addr} {n c : Nat} (h : x.tv = .slice a n c) : ∀ y ∈ [x], ∀ u ∈ Rec.cells y, u.oneCell' = true := by
  intro y hy u hu
  simp only [List.mem_singleton] at hy
  subst hy
  simp only [Rec.cells, List.mem_cons, List.not_mem_nil, or_false] at hu
  rcases hu with rfl | rfl | rfl | rfl | rfl
  all_goals first | rfl | (rw [h]; rfl)
theorem SesI.grown {lo hi : Nat} {w W : World} {v : Value} {l : List Se} {r : Option Nat} (h : SesI lo hi w v l) (hg : w.grownBy W r) (hr : ∀ q, r = some q → hi ≤ q) : SesI lo hi W v l := ⟨h.1.hold fun q hq => hg.block q (h.1.lt q hq).2 fun e => by have := h.2 q hq; have := hr q e.symm; omega, h.2⟩
theorem PlansI.grown {lo hi : Nat} {w W : World} {v : Value} {l : List Po} {r : Option Nat} (h : PlansI lo hi w v l) (hg : w.grownBy W r) (hr : ∀ q, r = some q → hi ≤ q) : PlansI lo hi W v l := h.keep fun q q1 q2 q3 => hg.block q q3 fun e => by have := hr q e.symm; omega
set_option maxRecDepth 10000 in
set_option maxHeartbeats 8000000 in
theorem boardCloned_any (so po ro : Option Addr) (sn sc pn pc rn rc : Nat) (ck tk : Int) (b : Bo) (w : World) (hr : BdA w (.slice so sn sc) (.slice po pn pc) (.slice ro rn rc) b) (hz : WeiB b 1048576) :
    Calls Try.prog 22 #[bdV (.slice so sn sc) (.slice po pn pc) (.slice ro rn rc) ck tk] w fun e w' => ∃ (sv pv rv : Value) (s0 s1 p0 p1 r0 r1 : Nat), e = .returned (bdV sv pv rv ck tk) ∧ BdI w.heap.size w'.heap.size w' sv pv rv b s0 s1 p0 p1 r0 r1 ∧ Below w.heap.size w w' := by
  have hsn : b.ses.length = sn := hr.ses.len.symm
  have hpn : b.plans.length = pn := hr.plans.len
  have hrn : b.runs.length = rn := hr.runs.len
  have hs1 : sn ≤ 1048576 := by have := hz.sn; omega
  have hp1 : pn ≤ 1048576 := by have := hz.pn; omega
  have hr1 : rn ≤ 1048576 := by have := hz.rn; omega
  have HZS : Hid (∀ s ∈ b.ses, s.reply.size ≤ 1048576) := fun s hs => by have := hz.ses s hs; omega
  have HRS : Hid (∀ W, Below w.heap.size w W → Reads W (.slice so sn sc) b.ses) := fun W hb => hr.ses.below hb
  have HRP : Hid (∀ W, Below w.heap.size w W → DRow OnePl W (.slice po pn pc) b.plans) := fun W hb => hr.plans.below onePl_below hb
  have HRR : Hid (∀ W, Below w.heap.size w W → DRow OneRk W (.slice ro rn rc) b.runs) := fun W hb => hr.runs.below oneRk_below hb
  have HZ : Hid (WeiB b 1048576) := hz
  have HL : Hid (b.ses.length = sn ∧ b.plans.length = pn ∧ b.runs.length = rn) := ⟨hsn, hpn, hrn⟩
  clear hr hz hsn hpn hrn
  obtain ⟨i0, HI0⟩ : ∃ v, Hid (Value.slice so sn sc = v) := ⟨_, rfl⟩
  obtain ⟨W0, HW0⟩ : ∃ W, Hid (((w.alloc (.cells #[.slice so sn sc, .slice po pn pc, .slice ro rn rc, .int .i64 ck, .int .i64 tk] 32)).alloc (.cells #[.slice none 0 0, .slice none 0 0, .slice none 0 0, .int .i64 0, .int .i64 0] 32)).alloc (.cells #[.slice none 0 0, .slice none 0 0, .slice none 0 0, .int .i64 ck, .int .i64 tk] 32) = W) := ⟨_, rfl⟩
  have HS0 : Hid (BcS w (.slice so sn sc) (.slice po pn pc) (.slice ro rn rc) (.slice none 0 0) (.slice none 0 0) (.slice none 0 0) ck tk W0) := by
    rw [← HW0.out]
    refine ⟨((B5.new _ _ _ _ _ _ _).alloc _).alloc _, ?_, ?_, ba (ba (ba (Below.refl _ _) _) _) _⟩
    · have := (B5.new 32 (w.alloc (.cells #[.slice so sn sc, .slice po pn pc, .slice ro rn rc, .int .i64 ck, .int .i64 tk] 32)) (.slice none 0 0) (.slice none 0 0) (.slice none 0 0) (.int .i64 0) (.int .i64 0)).alloc (.cells #[.slice none 0 0, .slice none 0 0, .slice none 0 0, .int .i64 ck, .int .i64 tk] 32)
      simpa using this
    · have := B5.new 32 ((w.alloc (.cells #[.slice so sn sc, .slice po pn pc, .slice ro rn rc, .int .i64 ck, .int .i64 tk] 32)).alloc (.cells #[.slice none 0 0, .slice none 0 0, .slice none 0 0, .int .i64 0, .int .i64 0] 32)) (.slice none 0 0) (.slice none 0 0) (.slice none 0 0) (.int .i64 ck) (.int .i64 tk)
      simpa using this
  have x0 := HS0.out.x.c0
  go_enter Try.func22, Try.ntmps22
  go_wp2
  rw [HW0.out]
  have HI1 : Hid (SesI (w.heap.size + 3) W0.heap.size W0 (.slice none 0 0) (b.ses.take 0)) := ⟨ownsR_nil _ _ _, fun q hq => by cases hq⟩
  clear x0 HW0
  go_loopw [18] (fun i wr => ∃ (k : Nat) (v : Value), k ≤ sn ∧ i = .int .i64 k ∧ Hid (BcS w (.slice so sn sc) (.slice po pn pc) (.slice ro rn rc) v (.slice none 0 0) (.slice none 0 0) ck tk wr) ∧ Hid (SesI (w.heap.size + 3) wr.heap.size wr v (b.ses.take k))) (fun i _ => sn - (intOf i).toNat)
  case atStart => exact ⟨0, _, Nat.zero_le _, rfl, HS0, HI1⟩
  case round =>
    clear HS0 HI1
    obtain ⟨k, v, hk, rfl, HS, HI⟩ := hrel
    by_cases hlt : k < sn
    · obtain ⟨t, ht⟩ : ∃ t, b.ses[k]? = some t := ⟨_, List.getElem?_eq_getElem (by rw [HL.out.1]; exact hlt)⟩
      obtain ⟨b', o, rfl, hb, c0, c1, c2⟩ := se_at (HRS.out wr HS.out.bel) ht
      have HC : Hid (∀ W, Calls Try.prog 48 #[.string t.reply] W fun e w' => e = .returned (.string t.reply) ∧ Below W.heap.size W w') := fun W => clone_any t.reply W (HZS.out t (List.mem_of_getElem? ht))
      have HTK : Hid (b.ses.take (k + 1) = b.ses.take k ++ [t]) := by show _ = _; rw [List.take_add_one, ht]; rfl
      have HLN : Hid ((b.ses.take k).length + [t].length ≤ 1048577) := by show _ ≤ _; rw [List.length_take]; simp; omega
      clear ht
      obtain ⟨va, vn, vc, rfl⟩ := HI.out.1.slice3
      obtain ⟨W1, HW1⟩ : ∃ W1, Hid (wr.alloc (.cells #[.int .i64 t.tok, .int .i64 t.last, .string t.reply] 65) = W1) := ⟨_, rfl⟩
      have BB1 : Below wr.heap.size wr W1 := by rw [← HW1.out]; exact ba (Below.refl _ _) _
      have bx : Kc3 65 W1 wr.heap.size (.int .i64 t.tok) (.int .i64 t.last) (.string t.reply) := by rw [← HW1.out]; exact Kc3.new _ _ _ _ _
      have hz0 : w.heap.size + 3 ≤ wr.heap.size := HS.out.o.lt
      have b2 := bx.c2
      go_wp2_with fail
      rw [HW1.out]
      refine (HC.out _).mono ?_
      rintro e w2 ⟨rfl, hb2⟩
      have by2 := bx.up hb2
      have B2 : Below wr.heap.size wr w2 := Below.on BB1 hb2
      have HS2 : Hid (BcS w (.slice (some ⟨b', o, none⟩) sn sc) (.slice po pn pc) (.slice ro rn rc) (.slice va vn vc) (.slice none 0 0) (.slice none 0 0) ck tk w2) := HS.out.up B2
      have HI2 : Hid (SesI (w.heap.size + 3) wr.heap.size w2 (.slice va vn vc) (b.ses.take k)) := HI.out.up B2
      clear HS HI bx HW1 BB1 b2 hb2
      obtain ⟨w3, HW3⟩ : ∃ W, Hid (w2.setCell ⟨wr.heap.size, 2, none⟩ (.string t.reply) = W) := ⟨_, rfl⟩
      have hne : ∀ q, (Value.slice va vn vc).ownBlock = some q → q ≠ wr.heap.size := fun q hq e => by have := HI2.out.2 q hq; omega
      have by3 : Kc3 65 w3 wr.heap.size (.int .i64 t.tok) (.int .i64 t.last) (.string t.reply) := by rw [← HW3.out]; exact by2.s2 _
      have HS3 : Hid (BcS w (.slice (some ⟨b', o, none⟩) sn sc) (.slice po pn pc) (.slice ro rn rc) (.slice va vn vc) (.slice none 0 0) (.slice none 0 0) ck tk w3) := by rw [← HW3.out]; exact HS2.out.far hz0 _
      have HI3 : Hid (SesI (w.heap.size + 3) wr.heap.size w3 (.slice va vn vc) (b.ses.take k)) := by rw [← HW3.out]; exact ⟨HI2.out.1.hold fun q hq => heap_setCell_other w2 ⟨wr.heap.size, 2, none⟩ q _ (hne q hq), HI2.out.2⟩
      have g2 := by2.c2
      have f2 := by2.fz 2
      have y0 := HS3.out.o.c0
      have e0 := by3.c0
      have e1 := by3.c1
      have e2 := by3.c2
      have hw3 : wr.heap.size < w3.heap.size := by3.lt
      obtain ⟨W4, HW4⟩ : ∃ W, Hid (w3.alloc (.cells #[.int .i64 t.tok, .int .i64 t.last, .string t.reply] 65) = W) := ⟨_, rfl⟩
      have C4 : Below w3.heap.size w3 W4 := by rw [← HW4.out]; exact ba (Below.refl _ _) _
      have RD : Hid (Reads W4 (.slice (some ⟨w3.heap.size, 0, none⟩) 1 1) [t]) := by rw [← HW4.out]; exact reads_oneR w3 65 t
      have HS4 : Hid (BcS w (.slice (some ⟨b', o, none⟩) sn sc) (.slice po pn pc) (.slice ro rn rc) (.slice va vn vc) (.slice none 0 0) (.slice none 0 0) ck tk W4) := HS3.out.up C4
      have HI4 : Hid (SesI (w.heap.size + 3) wr.heap.size W4 (.slice va vn vc) (b.ses.take k)) := HI3.out.up C4
      have hW3 : w2.setCell ⟨wr.heap.size, 2, none⟩ (.string t.reply) = w3 := HW3.out
      have hW4 : w3.alloc (.cells #[.int .i64 t.tok, .int .i64 t.last, .string t.reply] 65) = W4 := HW4.out
      go_wp2_with (at_builtin; refine wpList_append_at rfl (.tmp 27) (.tmp 29) 28 rfl (w.heap.size + 3) 65 _ 32 underSe infoSe rfl (.slice va vn vc) (.slice (some ⟨w3.heap.size, 0, none⟩) 1 1) (b.ses.take k) [t] rfl rfl HI4.out.1 RD.out (by simp) (se_ones t) HLN.out (by decide) (by have := C4.size; omega) ?_)
      intro v5 w5 ho5 hg5 hat5
      have hr5 : ∀ q, (Value.slice va vn vc).ownBlock = some q → w.heap.size + 3 ≤ q := fun q hq => (HI4.out.1.lt q hq).1
      have HS5 := HS4.out.grown hg5 hr5
      have c5 := HS5.o.c0
      have f5 := HS5.o.fr 0
      have HS6 : Hid (BcS w (.slice (some ⟨b', o, none⟩) sn sc) (.slice po pn pc) (.slice ro rn rc) v5 (.slice none 0 0) (.slice none 0 0) ck tk (w5.setCell ⟨w.heap.size + 1 + 1, 0, none⟩ v5)) := HS5.s0 v5
      have HI6 : Hid (SesI (w.heap.size + 3) (w5.setCell ⟨w.heap.size + 1 + 1, 0, none⟩ v5).heap.size (w5.setCell ⟨w.heap.size + 1 + 1, 0, none⟩ v5) v5 (b.ses.take (k + 1))) := by
        rw [HTK.out]
        exact ⟨ho5.setB (by show w.heap.size + 1 + 1 < w.heap.size + 3; omega) v5, fun q hq => by have := (ho5.lt q hq).2; simpa using this⟩
      obtain ⟨a5, k5, n5, rfl⟩ := ho5.slice3
      clear ho5 hg5 hat5 hr5 HS5 HS4 HI4 RD C4 HW4 hW4 HS3 HI3 HS2 HI2 by2 by3 HW3 hW3 y0 e0 e1 e2 g2 f2 HC HTK HLN c0 c1 c2 B2 hne
      go_wp2
      go_roundw
      case rel => exact ⟨k + 1, _, by omega, by go_num, HS6, HI6⟩
      case measure => simp [intOf]; omega
    · have hkn : k = b.ses.length := by rw [HL.out.1]; omega
      rw [hkn, List.take_length] at HI
      obtain ⟨s1, Hs1⟩ : ∃ s1, Hid (wr.heap.size = s1) := ⟨_, rfl⟩
      rw [Hs1.out] at HI
      clear hkn HRS HZS
      have x1 := HS.out.x.c1
      go_wp2
      have HP0 : Hid (PlansI s1 wr.heap.size wr (.slice none 0 0) (b.plans.take 0)) := ⟨[], fun _ => 0, fun _ => 0, dk_none _ _ _ _ _⟩
      have HSW : Hid (s1 ≤ wr.heap.size) := Nat.le_of_eq Hs1.out.symm
      have hs3 : w.heap.size + 3 ≤ s1 := by rw [← Hs1.out]; exact HS.out.o.lt
      clear x1 hlt
      go_loopw [36] (fun i wx => ∃ (j : Nat) (pv : Value), j ≤ pn ∧ i = .int .i64 j ∧ Hid (BcS w (.slice so sn sc) (.slice po pn pc) (.slice ro rn rc) v pv (.slice none 0 0) ck tk wx) ∧ Hid (SesI (w.heap.size + 3) s1 wx v b.ses) ∧ Hid (s1 ≤ wx.heap.size) ∧ Hid (PlansI s1 wx.heap.size wx pv (b.plans.take j))) (fun i _ => pn - (intOf i).toNat)
      case atStart => exact ⟨0, _, Nat.zero_le _, rfl, HS, HI, HSW, HP0⟩
      case round =>
        clear HS HI HP0 HSW Hs1
        obtain ⟨j, pv, hj, rfl, HS, HI, HSW, HP⟩ := hrel
        by_cases hlt : j < pn
        · obtain ⟨t, ht⟩ : ∃ t, b.plans[j]? = some t := ⟨_, List.getElem?_eq_getElem (by rw [HL.out.2.1]; exact hlt)⟩
          obtain ⟨b', o, av, rfl, hb, c0, c1, c2, c3, c4, c5, c6, c7, c8, hav⟩ := pl_at (C := 0) (HRP.out wr HS.out.bel) ht
          have hw := HZ.out.plans t (List.mem_of_getElem? ht)
          obtain ⟨fo, fc, rfl⟩ := hav.slice
          have HC : Hid (∀ W, Below wr.heap.size wr W → Calls Try.prog 49 #[.agg #[.string t.name, .string t.cron, .int .i64 t.fr, .int .i64 t.up, .bool t.cu, .slice fo t.tasks.length fc]] W fun e w' => ∃ v, e = .returned (.agg #[.string t.name, .string t.cron, .int .i64 t.fr, .int .i64 t.up, .bool t.cu, v]) ∧ TasksI W.heap.size w'.heap.size w' v t.tasks ∧ Below W.heap.size W w') := fun W hb => dagCloned_any t.name t.cron t.fr t.up t.cu fo t.tasks.length fc t.tasks W (hav.below hb) (by have := hw.2.2.1; omega) (by have := hw.1; omega) (by have := hw.2.1; omega) (fun u hu => by
            have h := hw.2.2.2 u hu
            have h1 := h.1
            have h2 := h.2.1
            have h4 := h.2.2.2
            exact ⟨by omega, by omega, by omega, fun s hs => by have := h.2.2.1 s hs; omega⟩)
          have HTK : Hid (b.plans.take (j + 1) = b.plans.take j ++ [t]) := by show _ = _; rw [List.take_add_one, ht]; rfl
          have HLN : Hid (j + 1 ≤ 1048577 ∧ (b.plans.take j).length = j) := by refine ⟨by omega, ?_⟩; rw [List.length_take, HL.out.2.1]; omega
          clear ht hav hw
          obtain ⟨ks, a, bb, hd⟩ := HP.out
          obtain ⟨va, vn, vc, rfl⟩ := hd.own.slice3
          have HD : Hid (DK OnePlI 70 s1 wr.heap.size wr (.slice va vn vc) ks a bb (b.plans.take j)) := hd
          clear hd HP
          obtain ⟨W1, HW1⟩ : ∃ W1, Hid (wr.alloc (.cells #[.string t.name, .string t.cron, .int .i64 t.fr, .int .i64 t.up, .bool t.cu, .slice fo t.tasks.length fc, .bool t.paused, .int .i64 t.cursor, .int .i64 t.floor] 70) = W1) := ⟨_, rfl⟩
          have BB1 : Below wr.heap.size wr W1 := by rw [← HW1.out]; exact ba (Below.refl _ _) _
          have bx : B9 70 W1 wr.heap.size (.string t.name) (.string t.cron) (.int .i64 t.fr) (.int .i64 t.up) (.bool t.cu) (.slice fo t.tasks.length fc) (.bool t.paused) (.int .i64 t.cursor) (.int .i64 t.floor) := by rw [← HW1.out]; exact B9.new _ _ _ _ _ _ _ _ _ _ _
          have hz0 : w.heap.size + 3 ≤ wr.heap.size := HS.out.o.lt
          have e0 := bx.c0
          have e1 := bx.c1
          have e2 := bx.c2
          have e3 := bx.c3
          have e4 := bx.c4
          have e5 := bx.c5
          go_wp2_with fail
          rw [HW1.out]
          refine (HC.out _ BB1).mono ?_
          rintro e w2 ⟨tv, rfl, htv, hb2⟩
          obtain ⟨ks2, a2', b2', hd2⟩ := htv
          obtain ⟨a2, n2, c2', rfl⟩ := hd2.own.slice3
          have HTV : Hid (TasksI W1.heap.size w2.heap.size w2 (.slice a2 n2 c2') t.tasks) := ⟨ks2, a2', b2', hd2⟩
          have by2 := bx.up hb2
          have B2 : Below wr.heap.size wr w2 := Below.on BB1 hb2
          have hz1 : wr.heap.size < W1.heap.size := bx.lt
          have hz2 : W1.heap.size ≤ w2.heap.size := hb2.size
          have HS2 : Hid (BcS w (.slice so sn sc) (.slice (some ⟨b', o, none⟩) pn pc) (.slice ro rn rc) v (.slice va vn vc) (.slice none 0 0) ck tk w2) := HS.out.up B2
          have HI2 : Hid (SesI (w.heap.size + 3) s1 w2 v b.ses) := HI.out.up B2
          have HD2 : Hid (DK OnePlI 70 s1 wr.heap.size w2 (.slice va vn vc) ks a bb (b.plans.take j)) := HD.out.up keepPl B2
          clear HS HI HD bx HW1 BB1 e0 e1 e2 e3 e4 e5 hb2 hd2 HC
          obtain ⟨w3, HW3⟩ : ∃ W, Hid (((((((w2.setCell ⟨wr.heap.size, 0, none⟩ (.string t.name)).setCell ⟨wr.heap.size, 1, none⟩ (.string t.cron)).setCell ⟨wr.heap.size, 2, none⟩ (.int .i64 t.fr)).setCell ⟨wr.heap.size, 3, none⟩ (.int .i64 t.up)).setCell ⟨wr.heap.size, 4, none⟩ (.bool t.cu)).setCell ⟨wr.heap.size, 5, none⟩ (.slice a2 n2 c2')) = W) := ⟨_, rfl⟩
          have hq3 : ∀ q, q ≠ wr.heap.size → w3.heap[q]? = w2.heap[q]? := fun q hq => by
            rw [← HW3.out]
            rw [heap_setCell_other _ ⟨wr.heap.size, 5, none⟩ q _ hq, heap_setCell_other _ ⟨wr.heap.size, 4, none⟩ q _ hq, heap_setCell_other _ ⟨wr.heap.size, 3, none⟩ q _ hq, heap_setCell_other _ ⟨wr.heap.size, 2, none⟩ q _ hq, heap_setCell_other _ ⟨wr.heap.size, 1, none⟩ q _ hq, heap_setCell_other _ ⟨wr.heap.size, 0, none⟩ q _ hq]
          have hq3z : w3.heap.size = w2.heap.size := by rw [← HW3.out]; simp
          have by3 : B9 70 w3 wr.heap.size (.string t.name) (.string t.cron) (.int .i64 t.fr) (.int .i64 t.up) (.bool t.cu) (.slice a2 n2 c2') (.bool t.paused) (.int .i64 t.cursor) (.int .i64 t.floor) := by rw [← HW3.out]; exact (((((by2.s0 _).s1 _).s2 _).s3 _).s4 _).s5 _
          have HS3 : Hid (BcS w (.slice so sn sc) (.slice (some ⟨b', o, none⟩) pn pc) (.slice ro rn rc) v (.slice va vn vc) (.slice none 0 0) ck tk w3) := by rw [← HW3.out]; exact (((((HS2.out.far (p := ⟨wr.heap.size, 0, none⟩) hz0 _).far (p := ⟨wr.heap.size, 1, none⟩) hz0 _).far (p := ⟨wr.heap.size, 2, none⟩) hz0 _).far (p := ⟨wr.heap.size, 3, none⟩) hz0 _).far (p := ⟨wr.heap.size, 4, none⟩) hz0 _).far (p := ⟨wr.heap.size, 5, none⟩) hz0 _
          have HI3 : Hid (SesI (w.heap.size + 3) s1 w3 v b.ses) := ⟨HI2.out.1.hold fun q hq => hq3 q (by have := HI2.out.2 q hq; have := HSW.out; omega), HI2.out.2⟩
          have HD3 : Hid (DK OnePlI 70 s1 wr.heap.size w3 (.slice va vn vc) ks a bb (b.plans.take j)) := HD2.out.keep keepPl fun q _ q2 _ => hq3 q (by omega)
          have HTV3 : Hid (TasksI W1.heap.size w2.heap.size w3 (.slice a2 n2 c2') t.tasks) := HTV.out.keep fun q q1 _ _ => hq3 q (by omega)
          have g0 := by2.c0
          have g1 := by2.c1
          have g2 := by2.c2
          have g3 := by2.c3
          have g4 := by2.c4
          have g5 := by2.c5
          have f0 := by2.fr 0
          have f1 := by2.fr 1
          have f2 := by2.fr 2
          have f3 := by2.fr 3
          have f4 := by2.fr 4
          have f5 := by2.fr 5
          have y1 := HS3.out.o.c1
          have m0 := by3.c0
          have m1 := by3.c1
          have m2 := by3.c2
          have m3 := by3.c3
          have m4 := by3.c4
          have m5 := by3.c5
          have m6 := by3.c6
          have m7 := by3.c7
          have m8 := by3.c8
          obtain ⟨W4, HW4⟩ : ∃ W, Hid (w3.alloc (.cells #[.string t.name, .string t.cron, .int .i64 t.fr, .int .i64 t.up, .bool t.cu, .slice a2 n2 c2', .bool t.paused, .int .i64 t.cursor, .int .i64 t.floor] 70) = W) := ⟨_, rfl⟩
          have C4 : Below w3.heap.size w3 W4 := by rw [← HW4.out]; exact ba (Below.refl _ _) _
          obtain ⟨x, HX⟩ : ∃ x : Pl, Hid (x = ⟨t.name, t.cron, t.fr, t.up, t.cu, .slice a2 n2 c2', t.paused, t.cursor, t.floor⟩) := ⟨_, rfl⟩
          have RD : Hid (Reads W4 (.slice (some ⟨w2.heap.size, 0, none⟩) 1 1) [x]) := by rw [← hq3z, ← HW4.out, HX.out]; exact reads_oneR w3 70 (⟨t.name, t.cron, t.fr, t.up, t.cu, .slice a2 n2 c2', t.paused, t.cursor, t.floor⟩ : Pl)
          have HS4 : Hid (BcS w (.slice so sn sc) (.slice (some ⟨b', o, none⟩) pn pc) (.slice ro rn rc) v (.slice va vn vc) (.slice none 0 0) ck tk W4) := HS3.out.up C4
          have HI4 : Hid (SesI (w.heap.size + 3) s1 W4 v b.ses) := HI3.out.up C4
          have HD4 : Hid (DK OnePlI 70 s1 wr.heap.size W4 (.slice va vn vc) ks a bb (b.plans.take j)) := HD3.out.up keepPl C4
          have HTV4 : Hid (TasksI W1.heap.size w2.heap.size W4 (.slice a2 n2 c2') t.tasks) := HTV3.out.up C4
          have hW3 : ((((((w2.setCell ⟨wr.heap.size, 0, none⟩ (.string t.name)).setCell ⟨wr.heap.size, 1, none⟩ (.string t.cron)).setCell ⟨wr.heap.size, 2, none⟩ (.int .i64 t.fr)).setCell ⟨wr.heap.size, 3, none⟩ (.int .i64 t.up)).setCell ⟨wr.heap.size, 4, none⟩ (.bool t.cu)).setCell ⟨wr.heap.size, 5, none⟩ (.slice a2 n2 c2')) = w3 := HW3.out
          have hW4 : w3.alloc (.cells #[.string t.name, .string t.cron, .int .i64 t.fr, .int .i64 t.up, .bool t.cu, .slice a2 n2 c2', .bool t.paused, .int .i64 t.cursor, .int .i64 t.floor] 70) = W4 := HW4.out
          have hz3 : w3.heap.size ≤ W4.heap.size := C4.size
          clear HS3 HI3 HD3 HTV3 HS2 HI2 HD2 HTV by2 by3
          go_wp2_with (at_builtin; refine wpList_append_at rfl (.tmp 45) (.tmp 47) 29 rfl s1 70 _ 104 underPl infoPl rfl (.slice va vn vc) (.slice (some ⟨w2.heap.size, 0, none⟩) 1 1) ks [x] rfl rfl HD4.out.own RD.out (by simp) (pl_ones (by rw [HX.out])) (by rw [HD4.out.len, HLN.out.2]; exact HLN.out.1) (by decide) (by have := HSW.out; omega) ?_)
          intro v5 w5 ho5 hg5 hat5
          have hr5 : ∀ q, (Value.slice va vn vc).ownBlock = some q → s1 ≤ q := fun q hq => (HD4.out.own.lt q hq).1
          have HS5 := HS4.out.grown hg5 (fun q hq => by have := hr5 q hq; omega)
          have HI5 := HI4.out.grown hg5 hr5
          have c5' := HS5.o.c1
          have f5' := HS5.o.fr 1
          have HS6 : Hid (BcS w (.slice so sn sc) (.slice (some ⟨b', o, none⟩) pn pc) (.slice ro rn rc) v v5 (.slice none 0 0) ck tk (w5.setCell ⟨w.heap.size + 1 + 1, 1, none⟩ v5)) := HS5.s1 v5
          have HI6 : Hid (SesI (w.heap.size + 3) s1 (w5.setCell ⟨w.heap.size + 1 + 1, 1, none⟩ v5) v b.ses) := HI5.low (by show w.heap.size + 1 + 1 < w.heap.size + 3; omega) v5
          have HW6 : Hid (s1 ≤ (w5.setCell ⟨w.heap.size + 1 + 1, 1, none⟩ v5).heap.size) := by
            show s1 ≤ _
            have h1 := hg5.size
            have h2 := HSW.out
            simp
            omega
          have HP6 : Hid (PlansI s1 (w5.setCell ⟨w.heap.size + 1 + 1, 1, none⟩ v5).heap.size (w5.setCell ⟨w.heap.size + 1 + 1, 1, none⟩ v5) v5 (b.plans.take (j + 1))) := by
            have hO : OnePlI W1.heap.size w2.heap.size w5 x t := by
              rw [HX.out]
              refine ⟨rfl, rfl, rfl, rfl, rfl, HTV4.out.keep fun q q1 q2 q3 => hg5.block q q3 fun e => ?_, rfl, rfl, rfl⟩
              have := HD4.out.top q e.symm
              omega
            have hd5 := HD4.out.more keepPl (W := w5) (v' := v5) (a' := W1.heap.size) (b' := w2.heap.size) (hi' := w5.heap.size) (x' := x) (t' := t) (by omega) (by have := HSW.out; omega) (by omega) hz2 (by have := hg5.size; omega) ho5 hO (fun q hq hne => hg5.block q hq fun e => hne e.symm) (fun q hq => by
              rcases hat5 with e | e
              · exact .inl (by rw [← e]; exact hq)
              · have e' : q = W4.heap.size := by rw [e] at hq; exact (Option.some.inj hq).symm
                exact .inr ⟨by omega, (ho5.lt q hq).2⟩)
            rw [← HTK.out] at hd5
            exact ⟨_, _, _, (hd5.keep keepPl (W := w5.setCell ⟨w.heap.size + 1 + 1, 1, none⟩ v5) fun q q1 _ _ => heap_setCell_other w5 ⟨w.heap.size + 1 + 1, 1, none⟩ q v5 fun e => by
              have e : q = w.heap.size + 1 + 1 := e
              omega).top' (by simp)⟩
          obtain ⟨a5, k5, n5, rfl⟩ := ho5.slice3
          clear ho5 hg5 hat5 hr5 HS5 HI5 HS4 HI4 HD4 HTV4 RD C4 HW4 hW4 HW3 hW3 y1 m0 m1 m2 m3 m4 m5 m6 m7 m8 g0 g1 g2 g3 g4 g5 f0 f1 f2 f3 f4 f5 HTK HLN c0 c1 c2 c3 c4 c5 c6 c7 c8 B2 HX hq3
          go_wp2
          go_roundw
          case rel => exact ⟨j + 1, _, by omega, by go_num, HS6, HI6, HW6, HP6⟩
          case measure => simp [intOf]; omega
        · have hkn : j = b.plans.length := by rw [HL.out.2.1]; omega
          rw [hkn, List.take_length] at HP
          obtain ⟨p1, Hp1⟩ : ∃ p1, Hid (wr.heap.size = p1) := ⟨_, rfl⟩
          rw [Hp1.out] at HP
          have hsp : s1 ≤ p1 := by rw [← Hp1.out]; exact HSW.out
          clear hkn HRP HSW
          have x2 := HS.out.x.c2
          go_wp2
          have HQ0 : Hid (RunsI p1 wr.heap.size wr (.slice none 0 0) (b.runs.take 0)) := ⟨[], fun _ => 0, fun _ => 0, dk_none _ _ _ _ _⟩
          have HPW : Hid (p1 ≤ wr.heap.size) := Nat.le_of_eq Hp1.out.symm
          clear x2 hlt
          go_loopw [54] (fun i wy => ∃ (m : Nat) (rv : Value), m ≤ rn ∧ i = .int .i64 m ∧ Hid (BcS w (.slice so sn sc) (.slice po pn pc) (.slice ro rn rc) v pv rv ck tk wy) ∧ Hid (SesI (w.heap.size + 3) s1 wy v b.ses) ∧ Hid (PlansI s1 p1 wy pv b.plans) ∧ Hid (p1 ≤ wy.heap.size) ∧ Hid (RunsI p1 wy.heap.size wy rv (b.runs.take m))) (fun i _ => rn - (intOf i).toNat)
          case atStart => exact ⟨0, _, Nat.zero_le _, rfl, HS, HI, HP, HPW, HQ0⟩
          case round =>
            clear HS HI HP HQ0 HPW Hp1
            obtain ⟨m, rv, hm, rfl, HS, HI, HP, HPW, HQ⟩ := hrel
            by_cases hlt : m < rn
            · obtain ⟨t, ht⟩ : ∃ t, b.runs[m]? = some t := ⟨_, List.getElem?_eq_getElem (by rw [HL.out.2.2]; exact hlt)⟩
              obtain ⟨b', o, av, rfl, hb, c0, c1, c2, c3, c4, hav⟩ := rk_at (C := 0) (HRR.out wr HS.out.bel) ht
              have hw := HZ.out.runs t (List.mem_of_getElem? ht)
              obtain ⟨fo, fc, rfl⟩ := reads_slice hav
              have HC : Hid (∀ W, Below wr.heap.size wr W → Calls Try.prog 50 #[.agg #[.string t.nm, .int .i64 t.fr, .int .i64 t.up, .int .i64 t.ep, .slice fo t.st.length fc]] W fun e w' => ∃ v, e = .returned (.agg #[.string t.nm, .int .i64 t.fr, .int .i64 t.up, .int .i64 t.ep, v]) ∧ ownsR w' W.heap.size 47 v t.st ∧ Below W.heap.size W w') := fun W hb => cloned_any fo t.st.length fc t.nm t.fr t.up t.ep t.st W (hav.below hb) (by have := hw.2; omega) (by have := hw.1; omega)
              have HTK : Hid (b.runs.take (m + 1) = b.runs.take m ++ [t]) := by show _ = _; rw [List.take_add_one, ht]; rfl
              have HLN : Hid (m + 1 ≤ 1048577 ∧ (b.runs.take m).length = m) := by refine ⟨by omega, ?_⟩; rw [List.length_take, HL.out.2.2]; omega
              clear ht hav hw
              obtain ⟨ks, a, bb, hd⟩ := HQ.out
              obtain ⟨va, vn, vc, rfl⟩ := hd.own.slice3
              have HD : Hid (DK OneRkI 52 p1 wr.heap.size wr (.slice va vn vc) ks a bb (b.runs.take m)) := hd
              clear hd HQ
              obtain ⟨W1, HW1⟩ : ∃ W1, Hid (wr.alloc (.cells #[.string t.nm, .int .i64 t.fr, .int .i64 t.up, .int .i64 t.ep, .slice fo t.st.length fc] 52) = W1) := ⟨_, rfl⟩
              have BB1 : Below wr.heap.size wr W1 := by rw [← HW1.out]; exact ba (Below.refl _ _) _
              have bx : R5 W1 wr.heap.size t.nm t.fr t.up t.ep (.slice fo t.st.length fc) := by rw [← HW1.out]; exact R5.new _ _ _ _ _ _
              have hneb : some wr.heap.size ≠ (Value.slice va vn vc).ownBlock := fun e => by have := (HD.out.own.lt _ e.symm).2; omega
              have hr0 : ∀ q, (Value.slice va vn vc).ownBlock = some q → p1 ≤ q := fun q hq => (HD.out.own.lt q hq).1
              have hne5 : some (w.heap.size + 1 + 1) ≠ (Value.slice va vn vc).ownBlock := fun e => by have := hr0 _ e.symm; omega
              have q5 := Wg.cell (r := (Value.slice va vn vc).ownBlock) (HS.out.o.up BB1).c2 hne5
              have e0 := Wg.cell (r := (Value.slice va vn vc).ownBlock) bx.c0 hneb
              have e1 := Wg.cell (r := (Value.slice va vn vc).ownBlock) bx.c1 hneb
              have e2 := Wg.cell (r := (Value.slice va vn vc).ownBlock) bx.c2 hneb
              have e3 := Wg.cell (r := (Value.slice va vn vc).ownBlock) bx.c3 hneb
              have e4 := Wg.cell (r := (Value.slice va vn vc).ownBlock) bx.c4 hneb
              have hdr : W1.grownBy W1.drew (Value.slice va vn vc).ownBlock := grown_of_below (Below.refl _ _).drew _
              have hz1 : wr.heap.size < W1.heap.size := bx.lt
              have hzo : w.heap.size + 3 ≤ wr.heap.size := HS.out.o.lt
              go_wp2_with fail
              rw [HW1.out]
              refine wp_region_pick (fun w' => ∃ x : Wg W1 (Value.slice va vn vc).ownBlock, w' = x.at') [0, 1, 2] 6 3 (by kernel_rfl) (by decide) (by decide) (by kernel_rfl) (fun _ _ d _ _ h => by cases d <;> exact h) ⟨⟨W1.drew, hdr⟩, rfl⟩ ?_
              (repeat (refine wpTakes_l rfl (by first | (intro x h; cases h; done) | (intro x h; cases h; exact ⟨_, rfl⟩)) ?_; go_big_quiet_step (fail); refine wpQuiet_nil ?_)); refine takes_nil ?_
              refine pk_oneW (fuel := 2) (i := 3) (by kernel_rfl) rfl (by kernel_rfl) ?_
              intro K hK
              go_wp2_with fail
              have D0 : Below W1.heap.size W1 W1.drew := (Below.refl _ _).drew
              refine (HC.out _ (Below.on BB1 D0)).mono ?_
              rintro e w2 ⟨av, rfl, hav, hb2⟩
              have B2 : Below W1.heap.size W1 w2 := Below.on D0 hb2
              have hdz : W1.drew.heap.size = W1.heap.size := rfl
              rw [hdz] at hav
              obtain ⟨a2, n2, c2', rfl⟩ := hav.slice3
              have HAV : Hid (ownsR w2 W1.heap.size 47 (.slice a2 n2 c2') t.st) := hav
              clear hb2 D0 hdz hav
              go_wp2
              refine hK.out _ _ ⟨⟨w2, grown_of_below B2 _⟩, rfl⟩ ?_
              clear hK K
              refine pk_oneW (fuel := 1) (i := 4) (by kernel_rfl) rfl (by kernel_rfl) ?_
              intro K hK
              go_wp2
              obtain ⟨x, HX⟩ : ∃ x : Rk, Hid (x = ⟨t.nm, t.fr, t.up, t.ep, .slice a2 n2 c2'⟩) := ⟨_, rfl⟩
              have RD : Hid (Reads (w2.alloc (.cells #[.string t.nm, .int .i64 t.fr, .int .i64 t.up, .int .i64 t.ep, .slice a2 n2 c2'] 52)) (.slice (some ⟨w2.heap.size, 0, none⟩) 1 1) [x]) := by rw [HX.out]; exact reads_oneR w2 52 (⟨t.nm, t.fr, t.up, t.ep, .slice a2 n2 c2'⟩ : Rk)
              have C3 : Below w2.heap.size w2 (w2.alloc (.cells #[.string t.nm, .int .i64 t.fr, .int .i64 t.up, .int .i64 t.ep, .slice a2 n2 c2'] 52)) := ba (Below.refl _ _) _
              obtain ⟨g1, HG1⟩ : ∃ g1, Hid (w2.heap.size = g1) := ⟨_, rfl⟩
              obtain ⟨W3, HW3⟩ : ∃ W3, Hid (w2.alloc (.cells #[.string t.nm, .int .i64 t.fr, .int .i64 t.up, .int .i64 t.ep, .slice a2 n2 c2'] 52) = W3) := ⟨_, rfl⟩
              rw [HW3.out] at C3 RD
              rw [HG1.out] at RD
              have B3 : Below W1.heap.size W1 W3 := Below.on B2 C3
              rw [HW3.out, HG1.out]
              refine hK.out _ _ ⟨⟨W3, grown_of_below B3 _⟩, rfl⟩ ?_
              clear hK K
              have B13 : Below wr.heap.size wr W3 := Below.on BB1 B3
              have HD3 : Hid (DK OneRkI 52 p1 wr.heap.size W3 (.slice va vn vc) ks a bb (b.runs.take m)) := HD.out.up keepRk B13
              have HS3 : Hid (BcS w (.slice so sn sc) (.slice po pn pc) (.slice (some ⟨b', o, none⟩) rn rc) v pv (.slice va vn vc) ck tk W3) := HS.out.up B13
              have HI3 : Hid (SesI (w.heap.size + 3) s1 W3 v b.ses) := HI.out.up B13
              have HP3 : Hid (PlansI s1 p1 W3 pv b.plans) := HP.out.up B13
              have hz2 : W1.heap.size ≤ w2.heap.size := B2.size
              have hz3 : w2.heap.size ≤ W3.heap.size := C3.size
              have hz4 := HPW.out
              refine pk_oneW (fuel := 0) (i := 5) (by kernel_rfl) rfl (by kernel_rfl) ?_
              intro K hK
              refine wpList_append_at rfl (.tmp 59) (.tmp 62) 30 rfl p1 52 _ 64 underRk infoRk rfl (.slice va vn vc) (.slice (some ⟨g1, 0, none⟩) 1 1) ks [x] rfl rfl HD3.out.own RD.out (by simp) (rk_ones (by rw [HX.out])) (by rw [HD3.out.len, HLN.out.2]; exact HLN.out.1) (by decide) (by omega) ?_
              intro v5 w5 ho5 hg5 hat5
              have HS5 := HS3.out.grown hg5 (fun q hq => by have := hr0 q hq; omega)
              have HI5 := HI3.out.grown hg5 (fun q hq => by have := hr0 q hq; omega)
              have HP5 := HP3.out.grown hg5 hr0
              have c5' := HS5.o.c2
              have f5' := HS5.o.fr 2
              have HS6 : Hid (BcS w (.slice so sn sc) (.slice po pn pc) (.slice (some ⟨b', o, none⟩) rn rc) v pv v5 ck tk (w5.setCell ⟨w.heap.size + 1 + 1, 2, none⟩ v5)) := HS5.s2 v5
              have HI6 : Hid (SesI (w.heap.size + 3) s1 (w5.setCell ⟨w.heap.size + 1 + 1, 2, none⟩ v5) v b.ses) := HI5.low (by show w.heap.size + 1 + 1 < w.heap.size + 3; omega) v5
              have HP6 : Hid (PlansI s1 p1 (w5.setCell ⟨w.heap.size + 1 + 1, 2, none⟩ v5) pv b.plans) := HP5.low (by show w.heap.size + 1 + 1 < s1; omega) v5
              have HW6 : Hid (p1 ≤ (w5.setCell ⟨w.heap.size + 1 + 1, 2, none⟩ v5).heap.size) := by
                show p1 ≤ _
                have h1 := hg5.size
                simp
                omega
              have HQ6 : Hid (RunsI p1 (w5.setCell ⟨w.heap.size + 1 + 1, 2, none⟩ v5).heap.size (w5.setCell ⟨w.heap.size + 1 + 1, 2, none⟩ v5) v5 (b.runs.take (m + 1))) := by
                have hO : OneRkI W1.heap.size w2.heap.size w5 x t := by
                  have h0 : OneRkI W1.heap.size w2.heap.size w2 x t := by rw [HX.out]; exact ⟨rfl, rfl, rfl, rfl, HAV.out, fun q hq => (HAV.out.lt q hq).2⟩
                  refine keepRk _ _ _ _ _ _ (keepRk _ _ _ _ _ _ h0 fun q _ _ hq => C3.block q hq) fun q q1 q2 q3 => hg5.block q q3 fun e => ?_
                  have := HD3.out.top q e.symm
                  omega
                have hd5 := HD3.out.more keepRk (W := w5) (v' := v5) (a' := W1.heap.size) (b' := w2.heap.size) (hi' := w5.heap.size) (x' := x) (t' := t) (by omega) (by omega) (by omega) (by omega) (Nat.le_trans hz3 hg5.size) ho5 hO (fun q hq hne => hg5.block q hq fun e => hne e.symm) (fun q hq => by
                  rcases hat5 with e | e
                  · exact .inl (by rw [← e]; exact hq)
                  · have e' : q = W3.heap.size := by rw [e] at hq; exact (Option.some.inj hq).symm
                    exact .inr ⟨by omega, (ho5.lt q hq).2⟩)
                rw [← HTK.out] at hd5
                exact ⟨_, _, _, (hd5.keep keepRk (W := w5.setCell ⟨w.heap.size + 1 + 1, 2, none⟩ v5) fun q q1 _ _ => heap_setCell_other w5 ⟨w.heap.size + 1 + 1, 2, none⟩ q v5 fun e => by
                  have e : q = w.heap.size + 1 + 1 := e
                  omega).top' (by simp)⟩
              have G5 : W1.grownBy w5 (Value.slice va vn vc).ownBlock := grown_trans (grown_of_below B3 _) hg5
              obtain ⟨a5, k5, n5, rfl⟩ := ho5.slice3
              clear ho5 hg5 hat5 HS5 HI5 HP5 HS3 HI3 HP3 HD3 RD B3 B13 C3 HAV HX
              go_wp2
              refine hK.out _ _ ⟨⟨w5, G5⟩, rfl⟩ ?_
              clear hK K
              refine any_done (by kernel_rfl) ?_
              simp only [List.drop_succ_cons, List.drop_zero]
              clear q5 e0 e1 e2 e3 e4 hdr B2 HS HI HP HC HTK HLN HW3 HG1 G5 HD HW1 bx BB1 c0 c1 c2 c3 c4
              go_wp2
              go_roundw
              case rel => exact ⟨m + 1, _, by omega, by go_num, HS6, HI6, HP6, HW6, HQ6⟩
              case measure => simp [intOf]; omega
            · have hkn : m = b.runs.length := by rw [HL.out.2.2]; omega
              rw [hkn, List.take_length] at HQ
              obtain ⟨va, vn, vc, rfl⟩ := HI.out.1.slice3
              obtain ⟨pk, pa, pb, hpd⟩ := id HP.out
              obtain ⟨pa1, pn1, pc1, rfl⟩ := hpd.own.slice3
              obtain ⟨rk, ra, rb, hrd⟩ := id HQ.out
              obtain ⟨ra1, rn1, rc1, rfl⟩ := hrd.own.slice3
              have c0 := HS.out.o.c0
              have c1 := HS.out.o.c1
              have c2 := HS.out.o.c2
              have c3 := HS.out.o.c3
              have c4 := HS.out.o.c4
              have d0 := HS.out.z.c0
              have d1 := HS.out.z.c1
              have d2 := HS.out.z.c2
              have d3 := HS.out.z.c3
              have d4 := HS.out.z.c4
              have f0 := HS.out.z.fr 0
              have f1 := HS.out.z.fr 1
              have f2 := HS.out.z.fr 2
              have f3 := HS.out.z.fr 3
              have f4 := HS.out.z.fr 4
              clear hkn hpd hrd
              go_wp2
              have HE := HS.out.z.set (.slice va vn vc) (.slice pa1 pn1 pc1) (.slice ra1 rn1 rc1) (.int .i64 ck) (.int .i64 tk)
              refine bodyPost_ret (ret_board rfl rfl HE) rfl ?_
              have hz4 := HPW.out
              refine ⟨_, _, _, w.heap.size + 3, s1, s1, p1, p1, wr.heap.size, rfl, ?_, below_set5 HS.out.bel (by omega) _ _ _ _ _⟩
              have hd : BdI w.heap.size wr.heap.size wr (.slice va vn vc) (.slice pa1 pn1 pc1) (.slice ra1 rn1 rc1) b (w.heap.size + 3) s1 s1 p1 p1 wr.heap.size := ⟨HI.out.1, HI.out.2, HP.out, HQ.out, by omega, by omega, by omega, by omega, by omega, Nat.le_refl _, .inl (Nat.le_refl _), .inl hsp, .inl (Nat.le_refl _)⟩
              have l1 : w.heap.size + 1 < w.heap.size + 3 := by omega
              have hd5 := (((((hd.low' (a := ⟨w.heap.size + 1, 0, none⟩) l1 (by omega) (by omega) (.slice va vn vc)).low' (a := ⟨w.heap.size + 1, 1, none⟩) l1 (by omega) (by omega) (.slice pa1 pn1 pc1)).low' (a := ⟨w.heap.size + 1, 2, none⟩) l1 (by omega) (by omega) (.slice ra1 rn1 rc1)).low' (a := ⟨w.heap.size + 1, 3, none⟩) l1 (by omega) (by omega) (.int .i64 ck)).low' (a := ⟨w.heap.size + 1, 4, none⟩) l1 (by omega) (by omega) (.int .i64 tk))
              exact hd5.hiUp (by simp)
end Go.Proofs.Ytkfhmeiiicidaaa

namespace Go.Proofs.Ytkfhmeiiicidaaa
open Go Go.RowKit
set_option linter.unusedVariables false

/-- What lies there while a board is copied, but for its rows. -/
structure LcS (w : World) (i0 i1 i2 : Value) (ck tk : Int) (W : World) : Prop where
  x : B5 32 W w.heap.size i0 i1 i2 (.int .i64 ck) (.int .i64 tk)
  z : B5 32 W (w.heap.size + 1) (.slice none 0 0) (.slice none 0 0) (.slice none 0 0) (.int .i64 0) (.int .i64 0)
  bel : Below w.heap.size w W
section
variable {w : World} {i0 i1 i2 : Value} {ck tk : Int} {W W' : World}
theorem LcS.up (h : LcS w i0 i1 i2 ck tk W) (hb : Below W.heap.size W W') : LcS w i0 i1 i2 ck tk W' := ⟨h.x.up hb, h.z.up hb, h.bel.trans (hb.mono h.bel.size)⟩
theorem LcS.grown {r : Option Nat} (h : LcS w i0 i1 i2 ck tk W) (hg : W.grownBy W' r) (hr : ∀ q, r = some q → w.heap.size + 2 ≤ q) : LcS w i0 i1 i2 ck tk W' := by
  have ne : ∀ b, b < w.heap.size + 2 → some b ≠ r := fun b hb e => by have := hr b e.symm; omega
  exact ⟨h.x.grown hg (ne _ (by omega)), h.z.grown hg (ne _ (by omega)), h.bel.trans ⟨hg.os, hg.tape, hg.output, hg.size, fun k hk => hg.block k (Nat.lt_of_lt_of_le hk h.bel.size) (ne _ (by omega))⟩⟩
theorem LcS.far (h : LcS w i0 i1 i2 ck tk W) {p : Addr} (hp : w.heap.size + 2 ≤ p.block) (u : Value) : LcS w i0 i1 i2 ck tk (W.setCell p u) := ⟨h.x.far (by omega) u, h.z.far (by omega) u, h.bel.setCell (by omega) u⟩
theorem LcS.s0 (h : LcS w i0 i1 i2 ck tk W) (u : Value) : LcS w u i1 i2 ck tk (W.setCell ⟨w.heap.size, 0, none⟩ u) := ⟨h.x.s0 u, h.z.far (by show w.heap.size ≠ w.heap.size + 1; omega) u, h.bel.setCell (Nat.le_refl _) u⟩
theorem LcS.s1 (h : LcS w i0 i1 i2 ck tk W) (u : Value) : LcS w i0 u i2 ck tk (W.setCell ⟨w.heap.size, 1, none⟩ u) := ⟨h.x.s1 u, h.z.far (by show w.heap.size ≠ w.heap.size + 1; omega) u, h.bel.setCell (Nat.le_refl _) u⟩
theorem LcS.s2 (h : LcS w i0 i1 i2 ck tk W) (u : Value) : LcS w i0 i1 u ck tk (W.setCell ⟨w.heap.size, 2, none⟩ u) := ⟨h.x.s2 u, h.z.far (by show w.heap.size ≠ w.heap.size + 1; omega) u, h.bel.setCell (Nat.le_refl _) u⟩
end
theorem se_onesL (l : List Se) : ∀ y ∈ l, ∀ u ∈ Rec.cells y, u.oneCell' = true := by
  intro y hy u hu
  simp only [Rec.cells, List.mem_cons, List.not_mem_nil, or_false] at hu
  rcases hu with rfl | rfl | rfl <;> rfl
set_option maxRecDepth 10000 in
set_option maxHeartbeats 8000000 in
theorem boardCopy_any (so po ro : Option Addr) (sn sc pn pc rn rc : Nat) (ck tk : Int) (b : Bo) (w : World) (hr : BdA w (.slice so sn sc) (.slice po pn pc) (.slice ro rn rc) b) (hz : SizB b) :
    Calls Try.prog 17 #[bdV (.slice so sn sc) (.slice po pn pc) (.slice ro rn rc) ck tk] w fun e w' => ∃ (sv pv rv : Value) (s0 s1 p0 p1 r0 r1 : Nat), e = .returned (bdV sv pv rv ck tk) ∧ BdI w.heap.size w'.heap.size w' sv pv rv b s0 s1 p0 p1 r0 r1 ∧ Below w.heap.size w w' := by
  have hsn : b.ses.length = sn := hr.ses.len.symm
  have hpn : b.plans.length = pn := hr.plans.len
  have hrn : b.runs.length = rn := hr.runs.len
  have hs1 : sn ≤ 1048576 := by rw [← hsn]; exact hz.sn
  have hp1 : pn ≤ 1048576 := by rw [← hpn]; exact hz.pn
  have hr1 : rn ≤ 1048576 := by rw [← hrn]; exact hz.rn
  have HRS : Hid (∀ W, Below w.heap.size w W → Reads W (.slice so sn sc) b.ses) := fun W hb => hr.ses.below hb
  have HRP : Hid (∀ W, Below w.heap.size w W → DRow OnePl W (.slice po pn pc) b.plans) := fun W hb => hr.plans.below onePl_below hb
  have HRR : Hid (∀ W, Below w.heap.size w W → DRow OneRk W (.slice ro rn rc) b.runs) := fun W hb => hr.runs.below oneRk_below hb
  have HZ : Hid (SizB b) := hz
  have HL : Hid (b.ses.length = sn ∧ b.plans.length = pn ∧ b.runs.length = rn) := ⟨hsn, hpn, hrn⟩
  have HLS : Hid (([] : List Se).length + b.ses.length ≤ 1048577) := by show _ ≤ _; rw [hsn]; simp; omega
  clear hr hz hsn hpn hrn
  obtain ⟨V0, HV0⟩ : ∃ W, Hid ((w.alloc (.cells #[.slice so sn sc, .slice po pn pc, .slice ro rn rc, .int .i64 ck, .int .i64 tk] 32)).alloc (.cells #[.slice none 0 0, .slice none 0 0, .slice none 0 0, .int .i64 0, .int .i64 0] 32) = W) := ⟨_, rfl⟩
  have HS0 : Hid (LcS w (.slice so sn sc) (.slice po pn pc) (.slice ro rn rc) ck tk V0) := by
    rw [← HV0.out]
    refine ⟨(B5.new _ _ _ _ _ _ _).alloc _, ?_, ba (ba (Below.refl _ _) _) _⟩
    have := B5.new 32 (w.alloc (.cells #[.slice so sn sc, .slice po pn pc, .slice ro rn rc, .int .i64 ck, .int .i64 tk] 32)) (.slice none 0 0) (.slice none 0 0) (.slice none 0 0) (.int .i64 0) (.int .i64 0)
    simpa using this
  have hv0 : V0.heap.size = w.heap.size + 1 + 1 := by rw [← HV0.out]; simp
  obtain ⟨V1, HV1⟩ : ∃ W, Hid (V0.alloc (.cells #[] 65) = W) := ⟨_, rfl⟩
  have B1 : Below V0.heap.size V0 V1 := by rw [← HV1.out]; exact ba (Below.refl _ _) _
  have HS1 : Hid (LcS w (.slice so sn sc) (.slice po pn pc) (.slice ro rn rc) ck tk V1) := HS0.out.up B1
  have O1 : Hid (ownsR V1 (w.heap.size + 2) 65 (.slice (some ⟨w.heap.size + 1 + 1, 0, none⟩) 0 0) ([] : List Se)) := by
    have h := ownsR_made0 (α := Se) V0 (w.heap.size + 2) 65 (by omega)
    rw [HV1.out, hv0] at h
    exact h
  have hv1 : w.heap.size + 2 ≤ V1.heap.size := by have := B1.size; omega
  have RD0 := HRS.out V1 HS1.out.bel
  clear hv0
  go_enter Try.func17, Try.ntmps17
  go_wp2_with (at_builtin; (try rw [HV0.out]); (try rw [HV1.out]); refine wpList_append_recs rfl (.tmp 8) (.tmp 10) 28 rfl (w.heap.size + 2) 65 _ 32 underSe infoSe rfl (.slice (some ⟨w.heap.size + 1 + 1, 0, none⟩) 0 0) (.slice so sn sc) [] b.ses rfl rfl O1.out RD0 (se_onesL _) HLS.out (by decide) hv1 ?_)
  intro v2 w2 ho2 hg2
  have HS2 := HS1.out.grown hg2 (fun q hq => by
    have e : some (w.heap.size + 1 + 1) = some q := hq
    injection e with e
    omega)
  obtain ⟨sa, sl, sx, rfl⟩ := ho2.slice3
  have c0 := HS2.x.c0
  have f0 := HS2.x.fr 0
  obtain ⟨w3, HW3⟩ : ∃ W, Hid (w2.setCell ⟨w.heap.size, 0, none⟩ (.slice sa sl sx) = W) := ⟨_, rfl⟩
  have HS3 : Hid (LcS w (.slice sa sl sx) (.slice po pn pc) (.slice ro rn rc) ck tk w3) := by rw [← HW3.out]; exact HS2.s0 _
  obtain ⟨s1, Hs1⟩ : ∃ s1, Hid (w3.heap.size = s1) := ⟨_, rfl⟩
  have HI3 : Hid (SesI (w.heap.size + 2) s1 w3 (.slice sa sl sx) b.ses) := by
    rw [← Hs1.out, ← HW3.out]
    exact ⟨ho2.setB (by show w.heap.size < w.heap.size + 2; omega) _, fun q hq => by have := (ho2.lt q hq).2; simpa using this⟩
  have hs3 : w.heap.size + 2 ≤ s1 := by rw [← Hs1.out]; exact HS3.out.z.lt
  obtain ⟨w4, HW4⟩ : ∃ W, Hid (w3.alloc (.cells #[] 70) = W) := ⟨_, rfl⟩
  have C4 : Below w3.heap.size w3 w4 := by rw [← HW4.out]; exact ba (Below.refl _ _) _
  have HS4 : Hid (LcS w (.slice sa sl sx) (.slice po pn pc) (.slice ro rn rc) ck tk w4) := HS3.out.up C4
  have HI4 : Hid (SesI (w.heap.size + 2) s1 w4 (.slice sa sl sx) b.ses) := HI3.out.up C4
  have HSW4 : Hid (s1 ≤ w4.heap.size) := by rw [← Hs1.out]; exact C4.size
  have HP4 : Hid (PlansI s1 w4.heap.size w4 (.slice (some ⟨w2.heap.size, 0, none⟩) 0 0) (b.plans.take 0)) := by
    have h := dk_made (κ := Pl) (τ := Po) OnePlI 70 (lo := s1) (hi := w4.heap.size) w3 (Nat.le_of_eq Hs1.out.symm) (by rw [← HW4.out]; simp)
    rw [HW4.out, show w3.heap.size = w2.heap.size by rw [← HW3.out]; simp] at h
    exact ⟨[], fun _ => 0, fun _ => 0, h⟩
  clear ho2 hg2 HS2 HS1 O1 RD0 HV0 HV1 B1 HS0 hv1
  go_wp2
  (try rw [HW3.out])
  (try rw [HW4.out])
  clear c0 f0 HW3 HW4 C4 HS3 HI3 Hs1
  go_loopw [3, 4] (fun lv i wr => ∃ (j : Nat) (pv : Value), j ≤ pn ∧ i = .int .i64 j ∧ lv = pv ∧ Hid (LcS w (.slice sa sl sx) (.slice po pn pc) (.slice ro rn rc) ck tk wr) ∧ Hid (SesI (w.heap.size + 2) s1 wr (.slice sa sl sx) b.ses) ∧ Hid (s1 ≤ wr.heap.size) ∧ Hid (PlansI s1 wr.heap.size wr pv (b.plans.take j))) (fun _ i _ => pn - (intOf i).toNat)
  case atStart => exact ⟨0, _, Nat.zero_le _, rfl, rfl, HS4, HI4, HSW4, HP4⟩
  case round =>
    clear HS4 HI4 HSW4 HP4
    obtain ⟨j, pv, hj, rfl, rfl, HS, HI, HSW, HP⟩ := hrel
    have x1 := HS.out.x.c1
    by_cases hlt : j < pn
    · obtain ⟨t, ht⟩ : ∃ t, b.plans[j]? = some t := ⟨_, List.getElem?_eq_getElem (by rw [HL.out.2.1]; exact hlt)⟩
      obtain ⟨b', o, av, rfl, hb, c0, c1, c2, c3, c4, c5, c6, c7, c8, hav⟩ := pl_at (C := 0) (HRP.out wr HS.out.bel) ht
      have hw := HZ.out.plans t (List.mem_of_getElem? ht)
      obtain ⟨fo, fc, rfl⟩ := hav.slice
      have HC : Hid (∀ W, Below wr.heap.size wr W → Calls Try.prog 43 #[.agg #[.string t.name, .string t.cron, .int .i64 t.fr, .int .i64 t.up, .bool t.cu, .slice fo t.tasks.length fc]] W fun e w' => ∃ v, e = .returned (.agg #[.string t.name, .string t.cron, .int .i64 t.fr, .int .i64 t.up, .bool t.cu, v]) ∧ TasksI W.heap.size w'.heap.size w' v t.tasks ∧ Below W.heap.size W w') := fun W hb => dagCopy_any t.name t.cron t.fr t.up t.cu fo t.tasks.length fc t.tasks W (hav.below hb) hw.1 hw.2
      have HTK : Hid (b.plans.take (j + 1) = b.plans.take j ++ [t]) := by show _ = _; rw [List.take_add_one, ht]; rfl
      have HLN : Hid (j + 1 ≤ 1048577 ∧ (b.plans.take j).length = j) := by refine ⟨by omega, ?_⟩; rw [List.length_take, HL.out.2.1]; omega
      clear ht hav hw
      obtain ⟨ks, a, bb, hd⟩ := HP.out
      obtain ⟨va, vn, vc, rfl⟩ := hd.own.slice3
      have HD : Hid (DK OnePlI 70 s1 wr.heap.size wr (.slice va vn vc) ks a bb (b.plans.take j)) := hd
      clear hd HP
      obtain ⟨W1, HW1⟩ : ∃ W1, Hid (wr.alloc (.cells #[.string t.name, .string t.cron, .int .i64 t.fr, .int .i64 t.up, .bool t.cu, .slice fo t.tasks.length fc, .bool t.paused, .int .i64 t.cursor, .int .i64 t.floor] 70) = W1) := ⟨_, rfl⟩
      have BB1 : Below wr.heap.size wr W1 := by rw [← HW1.out]; exact ba (Below.refl _ _) _
      have bx : B9 70 W1 wr.heap.size (.string t.name) (.string t.cron) (.int .i64 t.fr) (.int .i64 t.up) (.bool t.cu) (.slice fo t.tasks.length fc) (.bool t.paused) (.int .i64 t.cursor) (.int .i64 t.floor) := by rw [← HW1.out]; exact B9.new _ _ _ _ _ _ _ _ _ _ _
      have hz0 : w.heap.size + 2 ≤ wr.heap.size := HS.out.z.lt
      have e0 := bx.c0
      have e1 := bx.c1
      have e2 := bx.c2
      have e3 := bx.c3
      have e4 := bx.c4
      have e5 := bx.c5
      go_wp2_with fail
      rw [HW1.out]
      refine (HC.out _ BB1).mono ?_
      rintro e w2 ⟨tv, rfl, htv, hb2⟩
      obtain ⟨ks2, a2', b2', hd2⟩ := htv
      obtain ⟨a2, n2, c2', rfl⟩ := hd2.own.slice3
      have HTV : Hid (TasksI W1.heap.size w2.heap.size w2 (.slice a2 n2 c2') t.tasks) := ⟨ks2, a2', b2', hd2⟩
      have by2 := bx.up hb2
      have B2 : Below wr.heap.size wr w2 := Below.on BB1 hb2
      have hz1 : wr.heap.size < W1.heap.size := bx.lt
      have hz2 : W1.heap.size ≤ w2.heap.size := hb2.size
      have HS2 : Hid (LcS w (.slice sa sl sx) (.slice (some ⟨b', o, none⟩) pn pc) (.slice ro rn rc) ck tk w2) := HS.out.up B2
      have HI2 : Hid (SesI (w.heap.size + 2) s1 w2 (.slice sa sl sx) b.ses) := HI.out.up B2
      have HD2 : Hid (DK OnePlI 70 s1 wr.heap.size w2 (.slice va vn vc) ks a bb (b.plans.take j)) := HD.out.up keepPl B2
      clear HS HI HD bx HW1 BB1 e0 e1 e2 e3 e4 e5 hb2 hd2 HC x1
      obtain ⟨w3, HW3⟩ : ∃ W, Hid (((((((w2.setCell ⟨wr.heap.size, 0, none⟩ (.string t.name)).setCell ⟨wr.heap.size, 1, none⟩ (.string t.cron)).setCell ⟨wr.heap.size, 2, none⟩ (.int .i64 t.fr)).setCell ⟨wr.heap.size, 3, none⟩ (.int .i64 t.up)).setCell ⟨wr.heap.size, 4, none⟩ (.bool t.cu)).setCell ⟨wr.heap.size, 5, none⟩ (.slice a2 n2 c2')) = W) := ⟨_, rfl⟩
      have hq3 : ∀ q, q ≠ wr.heap.size → w3.heap[q]? = w2.heap[q]? := fun q hq => by
        rw [← HW3.out]
        rw [heap_setCell_other _ ⟨wr.heap.size, 5, none⟩ q _ hq, heap_setCell_other _ ⟨wr.heap.size, 4, none⟩ q _ hq, heap_setCell_other _ ⟨wr.heap.size, 3, none⟩ q _ hq, heap_setCell_other _ ⟨wr.heap.size, 2, none⟩ q _ hq, heap_setCell_other _ ⟨wr.heap.size, 1, none⟩ q _ hq, heap_setCell_other _ ⟨wr.heap.size, 0, none⟩ q _ hq]
      have hq3z : w3.heap.size = w2.heap.size := by rw [← HW3.out]; simp
      have by3 : B9 70 w3 wr.heap.size (.string t.name) (.string t.cron) (.int .i64 t.fr) (.int .i64 t.up) (.bool t.cu) (.slice a2 n2 c2') (.bool t.paused) (.int .i64 t.cursor) (.int .i64 t.floor) := by rw [← HW3.out]; exact (((((by2.s0 _).s1 _).s2 _).s3 _).s4 _).s5 _
      have HS3 : Hid (LcS w (.slice sa sl sx) (.slice (some ⟨b', o, none⟩) pn pc) (.slice ro rn rc) ck tk w3) := by rw [← HW3.out]; exact (((((HS2.out.far (p := ⟨wr.heap.size, 0, none⟩) hz0 _).far (p := ⟨wr.heap.size, 1, none⟩) hz0 _).far (p := ⟨wr.heap.size, 2, none⟩) hz0 _).far (p := ⟨wr.heap.size, 3, none⟩) hz0 _).far (p := ⟨wr.heap.size, 4, none⟩) hz0 _).far (p := ⟨wr.heap.size, 5, none⟩) hz0 _
      have HI3 : Hid (SesI (w.heap.size + 2) s1 w3 (.slice sa sl sx) b.ses) := ⟨HI2.out.1.hold fun q hq => hq3 q (by have := HI2.out.2 q hq; have := HSW.out; omega), HI2.out.2⟩
      have HD3 : Hid (DK OnePlI 70 s1 wr.heap.size w3 (.slice va vn vc) ks a bb (b.plans.take j)) := HD2.out.keep keepPl fun q _ q2 _ => hq3 q (by omega)
      have HTV3 : Hid (TasksI W1.heap.size w2.heap.size w3 (.slice a2 n2 c2') t.tasks) := HTV.out.keep fun q q1 _ _ => hq3 q (by omega)
      have g0 := by2.c0
      have g1 := by2.c1
      have g2 := by2.c2
      have g3 := by2.c3
      have g4 := by2.c4
      have g5 := by2.c5
      have f0 := by2.fr 0
      have f1 := by2.fr 1
      have f2 := by2.fr 2
      have f3 := by2.fr 3
      have f4 := by2.fr 4
      have f5 := by2.fr 5
      have m0 := by3.c0
      have m1 := by3.c1
      have m2 := by3.c2
      have m3 := by3.c3
      have m4 := by3.c4
      have m5 := by3.c5
      have m6 := by3.c6
      have m7 := by3.c7
      have m8 := by3.c8
      obtain ⟨W4, HW4⟩ : ∃ W, Hid (w3.alloc (.cells #[.string t.name, .string t.cron, .int .i64 t.fr, .int .i64 t.up, .bool t.cu, .slice a2 n2 c2', .bool t.paused, .int .i64 t.cursor, .int .i64 t.floor] 70) = W) := ⟨_, rfl⟩
      have C4 : Below w3.heap.size w3 W4 := by rw [← HW4.out]; exact ba (Below.refl _ _) _
      obtain ⟨x, HX⟩ : ∃ x : Pl, Hid (x = ⟨t.name, t.cron, t.fr, t.up, t.cu, .slice a2 n2 c2', t.paused, t.cursor, t.floor⟩) := ⟨_, rfl⟩
      have RD : Hid (Reads W4 (.slice (some ⟨w2.heap.size, 0, none⟩) 1 1) [x]) := by rw [← hq3z, ← HW4.out, HX.out]; exact reads_oneR w3 70 (⟨t.name, t.cron, t.fr, t.up, t.cu, .slice a2 n2 c2', t.paused, t.cursor, t.floor⟩ : Pl)
      have HS4 : Hid (LcS w (.slice sa sl sx) (.slice (some ⟨b', o, none⟩) pn pc) (.slice ro rn rc) ck tk W4) := HS3.out.up C4
      have HI4 : Hid (SesI (w.heap.size + 2) s1 W4 (.slice sa sl sx) b.ses) := HI3.out.up C4
      have HD4 : Hid (DK OnePlI 70 s1 wr.heap.size W4 (.slice va vn vc) ks a bb (b.plans.take j)) := HD3.out.up keepPl C4
      have HTV4 : Hid (TasksI W1.heap.size w2.heap.size W4 (.slice a2 n2 c2') t.tasks) := HTV3.out.up C4
      have hW3 : ((((((w2.setCell ⟨wr.heap.size, 0, none⟩ (.string t.name)).setCell ⟨wr.heap.size, 1, none⟩ (.string t.cron)).setCell ⟨wr.heap.size, 2, none⟩ (.int .i64 t.fr)).setCell ⟨wr.heap.size, 3, none⟩ (.int .i64 t.up)).setCell ⟨wr.heap.size, 4, none⟩ (.bool t.cu)).setCell ⟨wr.heap.size, 5, none⟩ (.slice a2 n2 c2')) = w3 := HW3.out
      have hW4 : w3.alloc (.cells #[.string t.name, .string t.cron, .int .i64 t.fr, .int .i64 t.up, .bool t.cu, .slice a2 n2 c2', .bool t.paused, .int .i64 t.cursor, .int .i64 t.floor] 70) = W4 := HW4.out
      have hz3 : w3.heap.size ≤ W4.heap.size := C4.size
      clear HS3 HI3 HD3 HTV3 HS2 HI2 HD2 HTV by2 by3
      go_wp2_with (at_builtin; refine wpList_append_at rfl (.tmp 30) (.tmp 32) 29 rfl s1 70 _ 104 underPl infoPl rfl (.slice va vn vc) (.slice (some ⟨w2.heap.size, 0, none⟩) 1 1) ks [x] rfl rfl HD4.out.own RD.out (by simp) (pl_ones (by rw [HX.out])) (by rw [HD4.out.len, HLN.out.2]; exact HLN.out.1) (by decide) (by have := HSW.out; omega) ?_)
      intro v5 w5 ho5 hg5 hat5
      have hr5 : ∀ q, (Value.slice va vn vc).ownBlock = some q → s1 ≤ q := fun q hq => (HD4.out.own.lt q hq).1
      have HS6 : Hid (LcS w (.slice sa sl sx) (.slice (some ⟨b', o, none⟩) pn pc) (.slice ro rn rc) ck tk w5) := HS4.out.grown hg5 (fun q hq => by have := hr5 q hq; omega)
      have HI6 : Hid (SesI (w.heap.size + 2) s1 w5 (.slice sa sl sx) b.ses) := HI4.out.grown hg5 hr5
      have HW6 : Hid (s1 ≤ w5.heap.size) := by
        show s1 ≤ _
        have h1 := hg5.size
        have h2 := HSW.out
        omega
      have HP6 : Hid (PlansI s1 w5.heap.size w5 v5 (b.plans.take (j + 1))) := by
        have hO : OnePlI W1.heap.size w2.heap.size w5 x t := by
          rw [HX.out]
          refine ⟨rfl, rfl, rfl, rfl, rfl, HTV4.out.keep fun q q1 q2 q3 => hg5.block q q3 fun e => ?_, rfl, rfl, rfl⟩
          have := HD4.out.top q e.symm
          omega
        have hd5 := HD4.out.more keepPl (W := w5) (v' := v5) (a' := W1.heap.size) (b' := w2.heap.size) (hi' := w5.heap.size) (x' := x) (t' := t) (by omega) (by have := HSW.out; omega) (by omega) hz2 (by have := hg5.size; omega) ho5 hO (fun q hq hne => hg5.block q hq fun e => hne e.symm) (fun q hq => by
          rcases hat5 with e | e
          · exact .inl (by rw [← e]; exact hq)
          · have e' : q = W4.heap.size := by rw [e] at hq; exact (Option.some.inj hq).symm
            exact .inr ⟨by omega, (ho5.lt q hq).2⟩)
        rw [← HTK.out] at hd5
        exact ⟨_, _, _, hd5⟩
      clear ho5 hg5 hat5 hr5 HS4 HI4 HD4 HTV4 RD C4 HW4 hW4 HW3 hW3 m0 m1 m2 m3 m4 m5 m6 m7 m8 g0 g1 g2 g3 g4 g5 f0 f1 f2 f3 f4 f5 HTK HLN c0 c1 c2 c3 c4 c5 c6 c7 c8 B2 HX hq3
      go_wp2
      go_roundw
      case rel => exact ⟨j + 1, _, by omega, by go_num, rfl, HS6, HI6, HW6, HP6⟩
      case measure => simp [intOf]; omega
    · have hkn : j = b.plans.length := by rw [HL.out.2.1]; omega
      rw [hkn, List.take_length] at HP
      obtain ⟨pk, pa, pb, hpd⟩ := id HP.out
      obtain ⟨qa, ql, qc, rfl⟩ := hpd.own.slice3
      obtain ⟨w3, HW3⟩ : ∃ W, Hid (wr.setCell ⟨w.heap.size, 1, none⟩ (.slice qa ql qc) = W) := ⟨_, rfl⟩
      have HS3 : Hid (LcS w (.slice sa sl sx) (.slice qa ql qc) (.slice ro rn rc) ck tk w3) := by rw [← HW3.out]; exact HS.out.s1 _
      have HI3 : Hid (SesI (w.heap.size + 2) s1 w3 (.slice sa sl sx) b.ses) := by rw [← HW3.out]; exact HI.out.low (by show w.heap.size < w.heap.size + 2; omega) _
      have hz3 : w3.heap.size = wr.heap.size := by rw [← HW3.out]; simp
      obtain ⟨p1, Hp1⟩ : ∃ p1, Hid (wr.heap.size = p1) := ⟨_, rfl⟩
      have HP3 : Hid (PlansI s1 p1 w3 (.slice qa ql qc) b.plans) := by rw [← HW3.out, ← Hp1.out]; exact HP.out.low (by show w.heap.size < s1; omega) _
      have hsp : s1 ≤ p1 := by rw [← Hp1.out]; exact HSW.out
      obtain ⟨w4, HW4⟩ : ∃ W, Hid (w3.alloc (.cells #[] 52) = W) := ⟨_, rfl⟩
      have C4 : Below w3.heap.size w3 w4 := by rw [← HW4.out]; exact ba (Below.refl _ _) _
      have HS4 : Hid (LcS w (.slice sa sl sx) (.slice qa ql qc) (.slice ro rn rc) ck tk w4) := HS3.out.up C4
      have HI4 : Hid (SesI (w.heap.size + 2) s1 w4 (.slice sa sl sx) b.ses) := HI3.out.up C4
      have HP4 : Hid (PlansI s1 p1 w4 (.slice qa ql qc) b.plans) := HP3.out.up C4
      have HPW4 : Hid (p1 ≤ w4.heap.size) := by rw [← Hp1.out, ← hz3]; exact C4.size
      have HQ4 : Hid (RunsI p1 w4.heap.size w4 (.slice (some ⟨wr.heap.size, 0, none⟩) 0 0) (b.runs.take 0)) := by
        have h := dk_made (κ := Rk) (τ := Rr) OneRkI 52 (lo := p1) (hi := w4.heap.size) w3 (by rw [hz3]; exact Nat.le_of_eq Hp1.out.symm) (by rw [← HW4.out]; simp)
        rw [HW4.out, hz3] at h
        exact ⟨[], fun _ => 0, fun _ => 0, h⟩
      have z1 := HS.out.x.c1
      have zf := HS.out.x.fr 1
      clear hkn HRP HSW hpd
      go_wp2
      (try rw [HW3.out])
      (try rw [HW4.out])
      clear x1 hlt z1 zf HW3 HW4 C4 HS3 HI3 HP3 HS HI HP Hp1 hz3
      go_loopw [6, 7] (fun lv i wr => ∃ (m : Nat) (rv : Value), m ≤ rn ∧ i = .int .i64 m ∧ lv = rv ∧ Hid (LcS w (.slice sa sl sx) (.slice qa ql qc) (.slice ro rn rc) ck tk wr) ∧ Hid (SesI (w.heap.size + 2) s1 wr (.slice sa sl sx) b.ses) ∧ Hid (PlansI s1 p1 wr (.slice qa ql qc) b.plans) ∧ Hid (p1 ≤ wr.heap.size) ∧ Hid (RunsI p1 wr.heap.size wr rv (b.runs.take m))) (fun _ i _ => rn - (intOf i).toNat)
      case atStart => exact ⟨0, _, Nat.zero_le _, rfl, rfl, HS4, HI4, HP4, HPW4, HQ4⟩
      case round =>
        clear HS4 HI4 HP4 HPW4 HQ4
        obtain ⟨m, rv, hm, rfl, rfl, HS, HI, HP, HPW, HQ⟩ := hrel
        have x2 := HS.out.x.c2
        by_cases hlt : m < rn
        · obtain ⟨t, ht⟩ : ∃ t, b.runs[m]? = some t := ⟨_, List.getElem?_eq_getElem (by rw [HL.out.2.2]; exact hlt)⟩
          obtain ⟨b', o, av, rfl, hb, c0, c1, c2, c3, c4, hav⟩ := rk_at (C := 0) (HRR.out wr HS.out.bel) ht
          have hw := HZ.out.runs t (List.mem_of_getElem? ht)
          obtain ⟨fo, fc, rfl⟩ := reads_slice hav
          have HC : Hid (Calls Try.prog 44 #[.agg #[.string t.nm, .int .i64 t.fr, .int .i64 t.up, .int .i64 t.ep, .slice fo t.st.length fc]] wr fun e w' => ∃ v, e = .returned (.agg #[.string t.nm, .int .i64 t.fr, .int .i64 t.up, .int .i64 t.ep, v]) ∧ ownsR w' wr.heap.size 47 v t.st ∧ Below wr.heap.size wr w') := l14Copy_any fo t.st.length fc t.nm t.fr t.up t.ep t.st wr hav (by omega)
          have HTK : Hid (b.runs.take (m + 1) = b.runs.take m ++ [t]) := by show _ = _; rw [List.take_add_one, ht]; rfl
          have HLN : Hid (m + 1 ≤ 1048577 ∧ (b.runs.take m).length = m) := by refine ⟨by omega, ?_⟩; rw [List.length_take, HL.out.2.2]; omega
          clear ht hav hw
          obtain ⟨ks, a, bb, hd⟩ := HQ.out
          obtain ⟨va, vn, vc, rfl⟩ := hd.own.slice3
          have HD : Hid (DK OneRkI 52 p1 wr.heap.size wr (.slice va vn vc) ks a bb (b.runs.take m)) := hd
          clear hd HQ
          have hr0 : ∀ q, (Value.slice va vn vc).ownBlock = some q → p1 ≤ q := fun q hq => (HD.out.own.lt q hq).1
          go_wp2_with fail
          refine HC.out.mono ?_
          rintro e w2 ⟨av, rfl, hav, B2⟩
          obtain ⟨a2, n2, c2', rfl⟩ := hav.slice3
          have HAV : Hid (ownsR w2 wr.heap.size 47 (.slice a2 n2 c2') t.st) := hav
          clear hav
          obtain ⟨x, HX⟩ : ∃ x : Rk, Hid (x = ⟨t.nm, t.fr, t.up, t.ep, .slice a2 n2 c2'⟩) := ⟨_, rfl⟩
          obtain ⟨W3, HW3⟩ : ∃ W3, Hid (w2.alloc (.cells #[.string t.nm, .int .i64 t.fr, .int .i64 t.up, .int .i64 t.ep, .slice a2 n2 c2'] 52) = W3) := ⟨_, rfl⟩
          have RD : Hid (Reads W3 (.slice (some ⟨w2.heap.size, 0, none⟩) 1 1) [x]) := by rw [← HW3.out, HX.out]; exact reads_oneR w2 52 (⟨t.nm, t.fr, t.up, t.ep, .slice a2 n2 c2'⟩ : Rk)
          have C3 : Below w2.heap.size w2 W3 := by rw [← HW3.out]; exact ba (Below.refl _ _) _
          have B13 : Below wr.heap.size wr W3 := Below.on B2 C3
          have HD3 : Hid (DK OneRkI 52 p1 wr.heap.size W3 (.slice va vn vc) ks a bb (b.runs.take m)) := HD.out.up keepRk B13
          have HS3 : Hid (LcS w (.slice sa sl sx) (.slice qa ql qc) (.slice (some ⟨b', o, none⟩) rn rc) ck tk W3) := HS.out.up B13
          have HI3 : Hid (SesI (w.heap.size + 2) s1 W3 (.slice sa sl sx) b.ses) := HI.out.up B13
          have HP3 : Hid (PlansI s1 p1 W3 (.slice qa ql qc) b.plans) := HP.out.up B13
          have hz2 : wr.heap.size ≤ w2.heap.size := B2.size
          have hz3 : w2.heap.size ≤ W3.heap.size := C3.size
          have hz4 := HPW.out
          have hW3 : w2.alloc (.cells #[.string t.nm, .int .i64 t.fr, .int .i64 t.up, .int .i64 t.ep, .slice a2 n2 c2'] 52) = W3 := HW3.out
          clear HS HI HP HD B13 HC
          go_wp2_with (at_builtin; refine wpList_append_at rfl (.tmp 44) (.tmp 51) 30 rfl p1 52 _ 64 underRk infoRk rfl (.slice va vn vc) (.slice (some ⟨w2.heap.size, 0, none⟩) 1 1) ks [x] rfl rfl HD3.out.own RD.out (by simp) (rk_ones (by rw [HX.out])) (by rw [HD3.out.len, HLN.out.2]; exact HLN.out.1) (by decide) (by omega) ?_)
          intro v5 w5 ho5 hg5 hat5
          have HS6 : Hid (LcS w (.slice sa sl sx) (.slice qa ql qc) (.slice (some ⟨b', o, none⟩) rn rc) ck tk w5) := HS3.out.grown hg5 (fun q hq => by have := hr0 q hq; omega)
          have HI6 : Hid (SesI (w.heap.size + 2) s1 w5 (.slice sa sl sx) b.ses) := HI3.out.grown hg5 (fun q hq => by have := hr0 q hq; omega)
          have HP6 : Hid (PlansI s1 p1 w5 (.slice qa ql qc) b.plans) := HP3.out.grown hg5 hr0
          have HW6 : Hid (p1 ≤ w5.heap.size) := by
            show p1 ≤ _
            have h1 := hg5.size
            omega
          have HQ6 : Hid (RunsI p1 w5.heap.size w5 v5 (b.runs.take (m + 1))) := by
            have hO : OneRkI wr.heap.size w2.heap.size w5 x t := by
              have h0 : OneRkI wr.heap.size w2.heap.size w2 x t := by rw [HX.out]; exact ⟨rfl, rfl, rfl, rfl, HAV.out, fun q hq => (HAV.out.lt q hq).2⟩
              refine keepRk _ _ _ _ _ _ (keepRk _ _ _ _ _ _ h0 fun q _ _ hq => C3.block q hq) fun q q1 q2 q3 => hg5.block q q3 fun e => ?_
              have := HD3.out.top q e.symm
              omega
            have hd5 := HD3.out.more keepRk (W := w5) (v' := v5) (a' := wr.heap.size) (b' := w2.heap.size) (hi' := w5.heap.size) (x' := x) (t' := t) (by omega) (by omega) (by omega) (by omega) (Nat.le_trans hz3 hg5.size) ho5 hO (fun q hq hne => hg5.block q hq fun e => hne e.symm) (fun q hq => by
              rcases hat5 with e | e
              · exact .inl (by rw [← e]; exact hq)
              · have e' : q = W3.heap.size := by rw [e] at hq; exact (Option.some.inj hq).symm
                exact .inr ⟨by omega, (ho5.lt q hq).2⟩)
            rw [← HTK.out] at hd5
            exact ⟨_, _, _, hd5⟩
          clear ho5 hg5 hat5 HS3 HI3 HP3 HD3 RD C3 HAV HX HW3 hW3 B2 HTK HLN c0 c1 c2 c3 c4 x2
          go_wp2
          go_roundw
          case rel => exact ⟨m + 1, _, by omega, by go_num, rfl, HS6, HI6, HP6, HW6, HQ6⟩
          case measure => simp [intOf]; omega
        · have hkn : m = b.runs.length := by rw [HL.out.2.2]; omega
          rw [hkn, List.take_length] at HQ
          obtain ⟨rk, ra, rb, hrd⟩ := id HQ.out
          obtain ⟨ra1, rn1, rc1, rfl⟩ := hrd.own.slice3
          have hd : BdI w.heap.size wr.heap.size wr (.slice sa sl sx) (.slice qa ql qc) (.slice ra1 rn1 rc1) b (w.heap.size + 2) s1 s1 p1 p1 wr.heap.size := ⟨HI.out.1, HI.out.2, HP.out, HQ.out, by omega, by have := HPW.out; omega, by omega, HPW.out, by omega, Nat.le_refl _, .inl (Nat.le_refl _), .inl hsp, .inl (Nat.le_refl _)⟩
          obtain ⟨w3, HW3⟩ : ∃ W, Hid (wr.setCell ⟨w.heap.size, 2, none⟩ (.slice ra1 rn1 rc1) = W) := ⟨_, rfl⟩
          have HS3 : Hid (LcS w (.slice sa sl sx) (.slice qa ql qc) (.slice ra1 rn1 rc1) ck tk w3) := by rw [← HW3.out]; exact HS.out.s2 _
          have HB3 : Hid (BdI w.heap.size wr.heap.size w3 (.slice sa sl sx) (.slice qa ql qc) (.slice ra1 rn1 rc1) b (w.heap.size + 2) s1 s1 p1 p1 wr.heap.size) := by rw [← HW3.out]; exact hd.low' (by show w.heap.size < w.heap.size + 2; omega) (by omega) (by omega) _
          have hz3 : w3.heap.size = wr.heap.size := by rw [← HW3.out]; simp
          have z1 := HS.out.x.c2
          have zf := HS.out.x.fr 2
          have hW3 : wr.setCell ⟨w.heap.size, 2, none⟩ (.slice ra1 rn1 rc1) = w3 := HW3.out
          have c0 := HS3.out.x.c0
          have d0 := HS3.out.z.c0
          have f0 := HS3.out.z.fr 0
          have c1 := HS3.out.x.c1
          have d1 := HS3.out.z.c1
          have f1 := HS3.out.z.fr 1
          have c2 := HS3.out.x.c2
          have d2 := HS3.out.z.c2
          have f2 := HS3.out.z.fr 2
          have c3 := HS3.out.x.c3
          have d3 := HS3.out.z.c3
          have f3 := HS3.out.z.fr 3
          have c4 := HS3.out.x.c4
          have d4 := HS3.out.z.c4
          have f4 := HS3.out.z.fr 4
          clear hkn hrd HW3 hd
          go_wp2
          have HE := HS3.out.z.set (.slice sa sl sx) (.slice qa ql qc) (.slice ra1 rn1 rc1) (.int .i64 ck) (.int .i64 tk)
          refine bodyPost_ret (ret_board rfl rfl HE) rfl ?_
          refine ⟨_, _, _, w.heap.size + 2, s1, s1, p1, p1, wr.heap.size, rfl, ?_, below_set5 HS3.out.bel (by omega) _ _ _ _ _⟩
          have l1 : w.heap.size + 1 < w.heap.size + 2 := by omega
          have hd5 := (((((HB3.out.low' (a := ⟨w.heap.size + 1, 0, none⟩) l1 (by omega) (by omega) (.slice sa sl sx)).low' (a := ⟨w.heap.size + 1, 1, none⟩) l1 (by omega) (by omega) (.slice qa ql qc)).low' (a := ⟨w.heap.size + 1, 2, none⟩) l1 (by omega) (by omega) (.slice ra1 rn1 rc1)).low' (a := ⟨w.heap.size + 1, 3, none⟩) l1 (by omega) (by omega) (.int .i64 ck)).low' (a := ⟨w.heap.size + 1, 4, none⟩) l1 (by omega) (by omega) (.int .i64 tk))
          exact hd5.hiUp (by simp; omega)
end Go.Proofs.Ytkfhmeiiicidaaa
