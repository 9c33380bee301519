/-
  The law's helpers on boards: sizes, copies, held against each other: the walks.
-/
import Derived.Test.YtjmclcjhimcehaaSes
import Derived.Test.YtjmclcjhimcehaaPls
import Derived.Test.YtjmclcjhimcehaaRns
namespace Go.Proofs.Ytjmclcjhimcehaa
open Go Go.RowKit
set_option linter.unusedVariables false

/-- A board, plain, but for its two numbers. -/
structure Bo where
  ses : List Se
  plans : List Po
  runs : List Rr
/-- A board's rows as they came in. -/
structure BdA (w : World) (sv pv rv : Value) (b : Bo) : Prop where
  ses : Reads w sv b.ses
  plans : DRow OnePl w pv b.plans
  runs : DRow OneRk w rv b.runs
theorem BdA.below {w w' : World} {sv pv rv : Value} {b : Bo} (h : BdA w sv pv rv b) (hb : Below w.heap.size w w') : BdA w' sv pv rv b := ⟨h.ses.below hb, h.plans.below onePl_below hb, h.runs.below oneRk_below hb⟩
/-- A board's rows made anew, from a block on. -/
structure BdB (B : Nat) (w : World) (sv pv rv : Value) (b : Bo) : Prop where
  ses : Reads w sv b.ses
  sfar : ∀ b o n c, sv = .slice (some ⟨b, o, none⟩) n c → B ≤ b
  plans : DRowB OnePlB B w pv b.plans
  runs : DRowB OneRkB B w rv b.runs
  sroom : Roomy sv
  proom : Roomy pv
  rroom : Roomy rv
theorem BdB.up {B : Nat} {w w' : World} {sv pv rv : Value} {b : Bo} (h : BdB B w sv pv rv b) (hb : Below w.heap.size w w') : BdB B w' sv pv rv b := ⟨h.ses.below hb, h.sfar, h.plans.up keepsPl hb, h.runs.up keepsRk hb, h.sroom, h.proom, h.rroom⟩
theorem BdB.all {B : Nat} {w : World} {sv pv rv : Value} {b : Bo} (h : BdB B w sv pv rv b) : BdA w sv pv rv b := ⟨h.ses, h.plans.2.imp fun _ _ o => o.one, h.runs.2.imp fun _ _ o => o.one⟩
theorem BdB.mono {B B' : Nat} {w : World} {sv pv rv : Value} {b : Bo} (h : BdB B w sv pv rv b) (hB : B' ≤ B) : BdB B' w sv pv rv b := ⟨h.ses, fun b o n c e => Nat.le_trans hB (h.sfar b o n c e), h.plans.mono keepsPl hB, h.runs.mono keepsRk hB, h.sroom, h.proom, h.rroom⟩
theorem BdB.setLow {B : Nat} {w : World} {sv pv rv : Value} {b : Bo} (h : BdB B w sv pv rv b) {a : Addr} (ha : a.block < B) (u : Value) : BdB B (w.setCell a u) sv pv rv b :=
  ⟨reads_hi h.ses (by simp) (fun k hk => heap_setCell_other w a k u (fun e => by omega)) h.sfar, h.sfar, h.plans.setLow keepsPl ha u, h.runs.setLow keepsRk ha u, h.sroom, h.proom, h.rroom⟩
/-- A board that came in. -/
structure FitB (b : Bo) : Prop where
  sn : b.ses.length ≤ maxLen
  ses : SmallSe b.ses
  pn : b.plans.length ≤ maxLen
  plans : ∀ p ∈ b.plans, FitP p
  rn : b.runs.length ≤ maxLen
  runs : ∀ r ∈ b.runs, FitR r
/-- What a board weighs at most. -/
structure WeiB (b : Bo) (L : Int) : Prop where
  sn : (b.ses.length : Int) ≤ L
  ses : ∀ s ∈ b.ses, (s.reply.size : Int) ≤ L
  pn : (b.plans.length : Int) ≤ L
  plans : ∀ p ∈ b.plans, WeiP p L
  rn : (b.runs.length : Int) ≤ L
  runs : ∀ r ∈ b.runs, WeiR r L
abbrev bdV (sv pv rv : Value) (ck tk : Int) : Value := .agg #[sv, pv, rv, .int .i64 ck, .int .i64 tk]
set_option maxRecDepth 10000 in
set_option maxHeartbeats 2000000 in
theorem szBoard_any (so po ro : Option Addr) (sn sc pn pc rn rc : Nat) (ck tk : Int) (b : Bo) (L : Int) (w : World) (hr : BdA w (.slice so sn sc) (.slice po pn pc) (.slice ro rn rc) b) (hf : FitB b) (h0 : 0 ≤ L) (h1 : L ≤ 1048576) :
    Calls Try.prog 13 #[bdV (.slice so sn sc) (.slice po pn pc) (.slice ro rn rc) ck tk, .int .i64 L] w fun e w' => ∃ r : Int, e = .returned (.int .i64 r) ∧ -1 ≤ r ∧ (0 ≤ r → WeiB b L) ∧ Below w.heap.size w w' := by
  have hsn : sn = b.ses.length := hr.ses.len
  have hpn := hr.plans.len
  have hrn := hr.runs.len
  have HS : Hid (∀ W, Below w.heap.size w W → Calls Try.prog 32 #[.slice so sn sc, .int .i64 L] W fun e w' => ∃ r : Int, e = .returned (.int .i64 r) ∧ (r = -1 ∨ 0 ≤ r ∧ r = L - sn - sizeSe b.ses) ∧ Below W.heap.size W w') := fun W hb => szSessionS_any so sn sc b.ses L W (hr.ses.below hb) hf.ses h1 h0 (by rw [hsn]; exact hf.sn)
  have HP : Hid (∀ W C, Below w.heap.size w W → 0 ≤ C → C ≤ L → Calls Try.prog 33 #[.slice po pn pc, .int .i64 C] W fun e w' => ∃ r : Int, e = .returned (.int .i64 r) ∧ r ≤ C ∧ -1 ≤ r ∧ (0 ≤ r → (b.plans.length : Int) ≤ C ∧ ∀ x ∈ b.plans, WeiP x C) ∧ Below W.heap.size W w') := fun W C hb c0 c1 => szPlanS_any po pn pc b.plans C W (hr.plans.below onePl_below hb) (by rw [← hpn]; exact hf.pn) hf.plans c0 (by omega)
  have HRR : Hid (∀ W C, Below w.heap.size w W → 0 ≤ C → C ≤ L → Calls Try.prog 34 #[.slice ro rn rc, .int .i64 C] W fun e w' => ∃ r : Int, e = .returned (.int .i64 r) ∧ r ≤ C ∧ -1 ≤ r ∧ (0 ≤ r → (b.runs.length : Int) ≤ C ∧ ∀ x ∈ b.runs, WeiR x C) ∧ Below W.heap.size W w') := fun W C hb c0 c1 => szRunS_any ro rn rc b.runs C W (hr.runs.below oneRk_below hb) (by rw [← hrn]; exact hf.rn) hf.runs c0 (by omega)
  have HSN : Hid (sn = b.ses.length) := hsn
  clear hr hf hsn hpn hrn
  obtain ⟨W0, hV0⟩ : ∃ V, w.alloc (.cells #[.slice so sn sc, .slice po pn pc, .slice ro rn rc, .int .i64 ck, .int .i64 tk] 35) = V := ⟨_, rfl⟩
  have K0 : B5 35 W0 w.heap.size (.slice so sn sc) (.slice po pn pc) (.slice ro rn rc) (.int .i64 ck) (.int .i64 tk) := by rw [← hV0]; exact B5.new _ _ _ _ _ _ _
  have B0 : Below w.heap.size w W0 := by rw [← hV0]; exact ba (Below.refl _ _) _
  have c0 := K0.c0
  go_enter Try.func13, Try.ntmps13
  go_wp2_with fail
  refine (HS.out _ B0).mono ?_
  rintro e W1 ⟨r1, rfl, hr1, hb1⟩
  have HR1 : Hid (r1 = -1 ∨ 0 ≤ r1 ∧ r1 = L - sn - sizeSe b.ses) := hr1
  have K1 := K0.up hb1
  have B1 := Below.on B0 hb1
  clear hr1 K0 B0 hb1 c0 hV0 HS
  by_cases n1 : r1 < 0
  · go_wp2
    go_ret
    exact ⟨_, rfl, by omega, fun h => by omega, B1⟩
  have l1 : 0 ≤ r1 := by omega
  have u1 : r1 ≤ L := by have := HR1.out; omega
  have c1 := K1.c1
  go_wp2_with fail
  refine (HP.out _ _ B1 l1 u1).mono ?_
  rintro e W2 ⟨r2, rfl, u2, m2, hr2, hb2⟩
  have HR2 : Hid (0 ≤ r2 → (b.plans.length : Int) ≤ r1 ∧ ∀ x ∈ b.plans, WeiP x r1) := hr2
  have K2 := K1.up hb2
  have B2 := Below.on B1 hb2
  clear hr2 K1 B1 hb2 c1 HP
  by_cases n2 : r2 < 0
  · go_wp2
    go_ret
    exact ⟨_, rfl, by omega, fun h => by omega, B2⟩
  have l2 : 0 ≤ r2 := by omega
  have c2 := K2.c2
  go_wp2_with fail
  refine (HRR.out _ _ B2 l2 (by omega)).mono ?_
  rintro e W3 ⟨r3, rfl, u3, m3, hr3, hb3⟩
  have HR3 : Hid (0 ≤ r3 → (b.runs.length : Int) ≤ r2 ∧ ∀ x ∈ b.runs, WeiR x r2) := hr3
  have B3 := Below.on B2 hb3
  clear hr3 K2 B2 hb3 c2 HRR
  by_cases n3 : r3 < 0
  · go_wp2
    go_ret
    exact ⟨_, rfl, by omega, fun h => by omega, B3⟩
  go_wp2
  go_ret
  refine ⟨_, rfl, by omega, fun _ => ?_, B3⟩
  obtain ⟨p1, p2⟩ := HR2.out l2
  obtain ⟨q1, q2⟩ := HR3.out (by omega)
  have s1 := HR1.out
  have s2 := HSN.out
  refine ⟨by omega, fun s hs => ?_, by omega, fun p hp => (p2 p hp).more (by omega), by omega, fun r hr => (q2 r hr).more (by omega)⟩
  have := sizeSe_mem hs
  omega
theorem ret_board {W : World} {b : Nat} {x0 x1 x2 x3 x4 : Value} {fn : Func} {p : Tmp} {tmps : Array Value} (h : fn.results = #[.cell p 26]) (hp : tmps.getD p undef = .pointer (some ⟨b, 0, none⟩)) (hb : B5 26 W b x0 x1 x2 x3 x4) :
    (results fn tmps).run Try.prog W = .ok (.agg #[x0, x1, x2, x3, x4]) W := by
  have hp' : tmps[p]?.getD undef = .pointer (some ⟨b, 0, none⟩) := by simpa using hp
  simp [results, h, hp', hb.c0, hb.c1, hb.c2, hb.c3, hb.c4, asAddr, go_sem]
/-- What a copy asks of a board's size. -/
structure SizB (b : Bo) : Prop where
  sn : b.ses.length ≤ 1048576
  pn : b.plans.length ≤ 1048576
  plans : ∀ p ∈ b.plans, p.tasks.length ≤ 1048576 ∧ ∀ t ∈ p.tasks, t.after.length ≤ 1048576
  rn : b.runs.length ≤ 1048576
  runs : ∀ r ∈ b.runs, r.st.length ≤ 1048576
theorem WeiB.siz {b : Bo} (h : WeiB b 1048576) : SizB b :=
  ⟨by have := h.sn; omega, by have := h.pn; omega, fun p hp => ⟨by have := (h.plans p hp).2.2.1; omega, fun t ht => by have := ((h.plans p hp).2.2.2 t ht).2.1; omega⟩, by have := h.rn; omega, fun r hr => by have := (h.runs r hr).2; omega⟩
set_option maxRecDepth 10000 in
set_option maxHeartbeats 4000000 in
theorem toBoard_any (so po ro : Option Addr) (sn sc pn pc rn rc : Nat) (ck tk : Int) (b : Bo) (w : World) (hr : BdA w (.slice so sn sc) (.slice po pn pc) (.slice ro rn rc) b) (hz : SizB b) :
    Calls Try.prog 15 #[bdV (.slice so sn sc) (.slice po pn pc) (.slice ro rn rc) ck tk] w fun e w' => ∃ (sa : Option Addr) (sx : Nat) (pa ra : Addr), e = .returned (bdV (.slice sa sn sx) (.slice (some pa) pn pn) (.slice (some ra) rn rn) ck tk) ∧ BdB w.heap.size w' (.slice sa sn sx) (.slice (some pa) pn pn) (.slice (some ra) rn rn) b ∧ Below w.heap.size w w' := by
  have hsn : sn = b.ses.length := hr.ses.len
  have hpn := hr.plans.len
  have hrn := hr.runs.len
  have HS : Hid (∀ W, Below w.heap.size w W → Calls Try.prog 35 #[.slice so sn sc] W fun e w' => ∃ (sa : Option Addr) (sx : Nat), e = .returned (.slice sa sn sx) ∧ sn ≤ sx ∧ ownsR w' W.heap.size 79 (.slice sa sn sx) b.ses ∧ Below W.heap.size W w') := fun W hb =>
    (toSessionS_any so sn sc b.ses W (hr.ses.below hb) (by rw [hsn]; exact hz.sn)).mono fun e w' ⟨v, he, ho, hb⟩ => by
      obtain ⟨va, vc, ev, hc⟩ := ho.cap
      rw [← hsn] at ev hc
      subst ev
      exact ⟨va, vc, he, hc, ho, hb⟩
  have HP : Hid (∀ W, Below w.heap.size w W → Calls Try.prog 36 #[.slice po pn pc] W fun e w' => e = .returned (.slice (some ⟨W.heap.size, 0, none⟩) pn pn) ∧ DRowB OnePlB W.heap.size w' (.slice (some ⟨W.heap.size, 0, none⟩) pn pn) b.plans ∧ Below W.heap.size W w') := fun W hb => toPlanS_any po pn pc b.plans W (hr.plans.below onePl_below hb) (by rw [← hpn]; exact hz.pn) hz.plans
  have HRR : Hid (∀ W, Below w.heap.size w W → Calls Try.prog 37 #[.slice ro rn rc] W fun e w' => e = .returned (.slice (some ⟨W.heap.size, 0, none⟩) rn rn) ∧ DRowB OneRkB W.heap.size w' (.slice (some ⟨W.heap.size, 0, none⟩) rn rn) b.runs ∧ Below W.heap.size W w') := fun W hb => toRunS_any ro rn rc b.runs W (hr.runs.below oneRk_below hb) (by rw [← hrn]; exact hz.rn) hz.runs
  clear hr hz hsn hpn hrn
  obtain ⟨W0, HV0⟩ : ∃ V, Hid (((w.alloc (.cells #[.slice so sn sc, .slice po pn pc, .slice ro rn rc, .int .i64 ck, .int .i64 tk] 35)).alloc (.cells #[.slice none 0 0, .slice none 0 0, .slice none 0 0, .int .i64 0, .int .i64 0] 26)).alloc (.cells #[.slice none 0 0, .slice none 0 0, .slice none 0 0, .int .i64 0, .int .i64 0] 26) = V) := ⟨_, rfl⟩
  have K0 : B5 35 W0 w.heap.size (.slice so sn sc) (.slice po pn pc) (.slice ro rn rc) (.int .i64 ck) (.int .i64 tk) := by rw [← HV0.out]; exact ((B5.new _ _ _ _ _ _ _).alloc _).alloc _
  have R0 : B5 26 W0 (w.heap.size + 1) (.slice none 0 0) (.slice none 0 0) (.slice none 0 0) (.int .i64 0) (.int .i64 0) := by
    rw [← HV0.out]
    have := (B5.new 26 (w.alloc (.cells #[.slice so sn sc, .slice po pn pc, .slice ro rn rc, .int .i64 ck, .int .i64 tk] 35)) (.slice none 0 0) (.slice none 0 0) (.slice none 0 0) (.int .i64 0) (.int .i64 0)).alloc (.cells #[.slice none 0 0, .slice none 0 0, .slice none 0 0, .int .i64 0, .int .i64 0] 26)
    simpa using this
  have O0 : B5 26 W0 (w.heap.size + 1 + 1) (.slice none 0 0) (.slice none 0 0) (.slice none 0 0) (.int .i64 0) (.int .i64 0) := by
    rw [← HV0.out]
    have := B5.new 26 ((w.alloc (.cells #[.slice so sn sc, .slice po pn pc, .slice ro rn rc, .int .i64 ck, .int .i64 tk] 35)).alloc (.cells #[.slice none 0 0, .slice none 0 0, .slice none 0 0, .int .i64 0, .int .i64 0] 26)) (.slice none 0 0) (.slice none 0 0) (.slice none 0 0) (.int .i64 0) (.int .i64 0)
    simpa using this
  have B0 : Below w.heap.size w W0 := by rw [← HV0.out]; exact ba (ba (ba (Below.refl _ _) _) _) _
  have n10 : w.heap.size + 1 + 1 ≠ w.heap.size := by omega
  have n11 : w.heap.size + 1 + 1 ≠ w.heap.size + 1 := by omega
  have lw : w.heap.size ≤ w.heap.size + 1 + 1 := by omega
  have k0 := K0.c0
  go_enter Try.func15, Try.ntmps15
  go_wp2_with fail
  rw [HV0.out]
  refine (HS.out _ B0).mono ?_
  rintro e W1 ⟨sa, sx, rfl, hsx, ho1, hb1⟩
  have hl1 : w.heap.size + 1 + 1 < W0.heap.size := O0.lt
  have K1 := K0.up hb1
  have R1 := R0.up hb1
  have O1 := O0.up hb1
  have B1 := Below.on B0 hb1
  have S1 : Hid (Reads W1 (.slice sa sn sx) b.ses ∧ ∀ b o n c, Value.slice sa sn sx = .slice (some ⟨b, o, none⟩) n c → w.heap.size + 1 + 1 < b) := ⟨ho1.reads, fun b o n c e => by
    rcases ho1.2 with ⟨h1, _⟩ | ⟨g, cap, cur, h1, hg, _⟩
    · rw [e] at h1; cases h1
    · rw [e] at h1; injection h1 with h1 _ _; injection h1 with h1; injection h1 with h1 _ _; omega⟩
  clear K0 R0 O0 B0 hb1 k0 HV0 HS ho1
  obtain ⟨W2, HW2⟩ : ∃ V, Hid (W1.setCell ⟨w.heap.size + 1 + 1, 0, none⟩ (.slice sa sn sx) = V) := ⟨_, rfl⟩
  have K2 : B5 35 W2 w.heap.size (.slice so sn sc) (.slice po pn pc) (.slice ro rn rc) (.int .i64 ck) (.int .i64 tk) := by rw [← HW2.out]; exact K1.far (by exact n10) _
  have R2 : B5 26 W2 (w.heap.size + 1) (.slice none 0 0) (.slice none 0 0) (.slice none 0 0) (.int .i64 0) (.int .i64 0) := by rw [← HW2.out]; exact R1.far (by exact n11) _
  have O2 : B5 26 W2 (w.heap.size + 1 + 1) (.slice sa sn sx) (.slice none 0 0) (.slice none 0 0) (.int .i64 0) (.int .i64 0) := by rw [← HW2.out]; exact O1.s0 _
  have B2 : Below w.heap.size w W2 := by rw [← HW2.out]; exact B1.setCell lw _
  have S2 : Hid (Reads W2 (.slice sa sn sx) b.ses ∧ ∀ b o n c, Value.slice sa sn sx = .slice (some ⟨b, o, none⟩) n c → w.heap.size + 1 + 1 < b) := by
    rw [← HW2.out]
    exact ⟨reads_hi (B := w.heap.size + 1 + 1 + 1) S1.out.1 (by simp) (fun k hk => heap_setCell_other W1 ⟨w.heap.size + 1 + 1, 0, none⟩ k _ (fun e => by have e' : k = w.heap.size + 1 + 1 := e; omega)) S1.out.2, S1.out.2⟩
  have o0 := O1.c0
  have f0 := O1.fr 0
  have k1 := K1.c1
  have k1' := K2.c1
  clear K1 R1 O1 B1 S1
  go_wp2_with fail
  rw [HW2.out]
  refine (HP.out _ B2).mono ?_
  rintro e W3 ⟨rfl, hp3, hb3⟩
  have hl2 : w.heap.size + 1 + 1 < W2.heap.size := O2.lt
  have K3 := K2.up hb3
  have R3 := R2.up hb3
  have O3 := O2.up hb3
  have B3 := Below.on B2 hb3
  have S3 : Hid (Reads W3 (.slice sa sn sx) b.ses ∧ ∀ b o n c, Value.slice sa sn sx = .slice (some ⟨b, o, none⟩) n c → w.heap.size + 1 + 1 < b) := ⟨S2.out.1.below hb3, S2.out.2⟩
  obtain ⟨P2, HP2⟩ : ∃ P, Hid (W2.heap.size = P) := ⟨_, rfl⟩
  rw [HP2.out] at hp3 hl2
  rw [HP2.out]
  have P3 : Hid (DRowB OnePlB (w.heap.size + 1 + 1 + 1) W3 (.slice (some ⟨P2, 0, none⟩) pn pn) b.plans) := hp3.mono keepsPl hl2
  clear K2 R2 O2 B2 S2 hb3 hp3 HW2 HP o0 f0 k1 k1' HP2
  obtain ⟨W4, HW4⟩ : ∃ V, Hid (W3.setCell ⟨w.heap.size + 1 + 1, 1, none⟩ (.slice (some ⟨P2, 0, none⟩) pn pn) = V) := ⟨_, rfl⟩
  have K4 : B5 35 W4 w.heap.size (.slice so sn sc) (.slice po pn pc) (.slice ro rn rc) (.int .i64 ck) (.int .i64 tk) := by rw [← HW4.out]; exact K3.far (by exact n10) _
  have R4 : B5 26 W4 (w.heap.size + 1) (.slice none 0 0) (.slice none 0 0) (.slice none 0 0) (.int .i64 0) (.int .i64 0) := by rw [← HW4.out]; exact R3.far (by exact n11) _
  have O4 : B5 26 W4 (w.heap.size + 1 + 1) (.slice sa sn sx) (.slice (some ⟨P2, 0, none⟩) pn pn) (.slice none 0 0) (.int .i64 0) (.int .i64 0) := by rw [← HW4.out]; exact O3.s1 _
  have B4 : Below w.heap.size w W4 := by rw [← HW4.out]; exact B3.setCell lw _
  have S4 : Hid (Reads W4 (.slice sa sn sx) b.ses ∧ ∀ b o n c, Value.slice sa sn sx = .slice (some ⟨b, o, none⟩) n c → w.heap.size + 1 + 1 < b) := by
    rw [← HW4.out]
    exact ⟨reads_hi (B := w.heap.size + 1 + 1 + 1) S3.out.1 (by simp) (fun k hk => heap_setCell_other W3 ⟨w.heap.size + 1 + 1, 1, none⟩ k _ (fun e => by have e' : k = w.heap.size + 1 + 1 := e; omega)) S3.out.2, S3.out.2⟩
  have P4 : Hid (DRowB OnePlB (w.heap.size + 1 + 1 + 1) W4 (.slice (some ⟨P2, 0, none⟩) pn pn) b.plans) := by
    rw [← HW4.out]
    exact P3.out.setLow keepsPl (Nat.lt_succ_self _) _
  have o1 := O3.c1
  have f1 := O3.fr 1
  have k2 := K3.c2
  have k2' := K4.c2
  clear K3 R3 O3 B3 S3 P3
  go_wp2_with fail
  rw [HW4.out]
  refine (HRR.out _ B4).mono ?_
  rintro e W5 ⟨rfl, hp5, hb5⟩
  have hl4 : w.heap.size + 1 + 1 < W4.heap.size := O4.lt
  have K5 := K4.up hb5
  have R5 := R4.up hb5
  have O5 := O4.up hb5
  have B5' := Below.on B4 hb5
  have S5 : Hid (Reads W5 (.slice sa sn sx) b.ses ∧ ∀ b o n c, Value.slice sa sn sx = .slice (some ⟨b, o, none⟩) n c → w.heap.size + 1 + 1 < b) := ⟨S4.out.1.below hb5, S4.out.2⟩
  have P5 : Hid (DRowB OnePlB (w.heap.size + 1 + 1 + 1) W5 (.slice (some ⟨P2, 0, none⟩) pn pn) b.plans) := P4.out.up keepsPl hb5
  obtain ⟨Q2, HQ2⟩ : ∃ P, Hid (W4.heap.size = P) := ⟨_, rfl⟩
  rw [HQ2.out] at hp5 hl4
  rw [HQ2.out]
  have Q5 : Hid (DRowB OneRkB (w.heap.size + 1 + 1 + 1) W5 (.slice (some ⟨Q2, 0, none⟩) rn rn) b.runs) := hp5.mono keepsRk hl4
  clear K4 R4 O4 B4 S4 P4 hb5 hp5 HW4 HRR o1 f1 k2 k2' HQ2
  obtain ⟨W6, hW6⟩ : ∃ V, ((W5.setCell ⟨w.heap.size + 1 + 1, 2, none⟩ (.slice (some ⟨Q2, 0, none⟩) rn rn)).setCell ⟨w.heap.size + 1 + 1, 3, none⟩ (.int .i64 ck)).setCell ⟨w.heap.size + 1 + 1, 4, none⟩ (.int .i64 tk) = V := ⟨_, rfl⟩
  have R6 : B5 26 W6 (w.heap.size + 1) (.slice none 0 0) (.slice none 0 0) (.slice none 0 0) (.int .i64 0) (.int .i64 0) := by rw [← hW6]; exact ((R5.far (by exact n11) _).far (by exact n11) _).far (by exact n11) _
  have O6 : B5 26 W6 (w.heap.size + 1 + 1) (.slice sa sn sx) (.slice (some ⟨P2, 0, none⟩) pn pn) (.slice (some ⟨Q2, 0, none⟩) rn rn) (.int .i64 ck) (.int .i64 tk) := by rw [← hW6]; exact ((O5.s2 _).s3 _).s4 _
  have B6 : Below w.heap.size w W6 := by rw [← hW6]; exact ((B5'.setCell lw _).setCell lw _).setCell lw _
  have D6 : Hid (BdB (w.heap.size + 1 + 1 + 1) W6 (.slice sa sn sx) (.slice (some ⟨P2, 0, none⟩) pn pn) (.slice (some ⟨Q2, 0, none⟩) rn rn) b) := by
    rw [← hW6]
    have D5 : BdB (w.heap.size + 1 + 1 + 1) W5 (.slice sa sn sx) (.slice (some ⟨P2, 0, none⟩) pn pn) (.slice (some ⟨Q2, 0, none⟩) rn rn) b := ⟨S5.out.1, S5.out.2, P5.out, Q5.out, fun a n c e => by injection e with _ e2 e3; omega, roomy_full _ _, roomy_full _ _⟩
    exact ((D5.setLow (Nat.lt_succ_self _) _).setLow (Nat.lt_succ_self _) _).setLow (Nat.lt_succ_self _) _
  have g2 := O5.c2
  have g3 := O5.c3
  have g4 := O5.c4
  have h2 := O5.fr 2
  have h3 := O5.fr 3
  have h4 := O5.fr 4
  have a3 := K5.c3
  have a4 := K5.c4
  clear K5 R5 O5 B5' S5 P5 Q5
  have q0 := O6.c0
  have q1 := O6.c1
  have q2 := O6.c2
  have q3 := O6.c3
  have q4 := O6.c4
  have r0 := R6.c0
  have r1 := R6.c1
  have r2 := R6.c2
  have r3 := R6.c3
  have r4 := R6.c4
  have t0 := R6.fr 0
  have t1 := R6.fr 1
  have t2 := R6.fr 2
  have t3 := R6.fr 3
  have t4 := R6.fr 4
  go_wp2
  have HE := R6.set (.slice sa sn sx) (.slice (some ⟨P2, 0, none⟩) pn pn) (.slice (some ⟨Q2, 0, none⟩) rn rn) (.int .i64 ck) (.int .i64 tk)
  refine bodyPost_ret (ret_board rfl rfl HE) rfl ?_
  have l1 : w.heap.size + 1 < w.heap.size + 1 + 1 + 1 := by omega
  exact ⟨sa, sx, _, _, rfl, (((((D6.out.setLow l1 _).setLow l1 _).setLow l1 _).setLow l1 _).setLow l1 _).mono (by omega), below_set5 B6 (Nat.le_succ _) _ _ _ _ _⟩
set_option maxRecDepth 10000 in
set_option maxHeartbeats 2000000 in
theorem eqBoard_any (so po ro so' po' ro' : Option Addr) (sn sc pn pc rn rc sc' pc' rc' : Nat) (ck tk : Int) (b : Bo) (w : World) (ha : BdA w (.slice so sn sc) (.slice po pn pc) (.slice ro rn rc) b) (hb : BdA w (.slice so' sn sc') (.slice po' pn pc') (.slice ro' rn rc') b) (hz : SizB b) :
    Calls Try.prog 10 #[bdV (.slice so sn sc) (.slice po pn pc) (.slice ro rn rc) ck tk, bdV (.slice so' sn sc') (.slice po' pn pc') (.slice ro' rn rc') ck tk] w fun e w' => e = .returned (.bool true) ∧ Below w.heap.size w w' := by
  have hsn : sn = b.ses.length := ha.ses.len
  have hpn := ha.plans.len
  have hrn := ha.runs.len
  have zs := hz.sn
  have zp := hz.pn
  have zr := hz.rn
  have HS : Hid (∀ W, Below w.heap.size w W → Calls Try.prog 23 #[.slice so sn sc, .slice so' sn sc'] W fun e w' => e = .returned (.bool true) ∧ Below W.heap.size W w') := fun W h => eqSessionS_any so so' sn sc sc' b.ses W (ha.ses.below h) (hb.ses.below h) (by omega)
  have HP : Hid (∀ W, Below w.heap.size w W → Calls Try.prog 24 #[.slice po pn pc, .slice po' pn pc'] W fun e w' => e = .returned (.bool true) ∧ Below W.heap.size W w') := fun W h => eqPlanS_any po po' pn pc pc' b.plans W (ha.plans.below onePl_below h) (hb.plans.below onePl_below h) (by omega) (fun x hx => ⟨Nat.le_succ_of_le (hz.plans x hx).1, fun t ht => Nat.le_succ_of_le ((hz.plans x hx).2 t ht)⟩)
  have HRR : Hid (∀ W, Below w.heap.size w W → Calls Try.prog 25 #[.slice ro rn rc, .slice ro' rn rc'] W fun e w' => e = .returned (.bool true) ∧ Below W.heap.size W w') := fun W h => eqRunS_any ro ro' rn rc rc' b.runs W (ha.runs.below oneRk_below h) (hb.runs.below oneRk_below h) (by omega) (fun x hx => Nat.le_succ_of_le (hz.runs x hx))
  clear ha hb hz hsn hpn hrn zs zp zr
  obtain ⟨W0, hV0⟩ : ∃ V, (w.alloc (.cells #[.slice so sn sc, .slice po pn pc, .slice ro rn rc, .int .i64 ck, .int .i64 tk] 26)).alloc (.cells #[.slice so' sn sc', .slice po' pn pc', .slice ro' rn rc', .int .i64 ck, .int .i64 tk] 26) = V := ⟨_, rfl⟩
  have K0 : B5 26 W0 w.heap.size (.slice so sn sc) (.slice po pn pc) (.slice ro rn rc) (.int .i64 ck) (.int .i64 tk) := by rw [← hV0]; exact (B5.new _ _ _ _ _ _ _).alloc _
  have J0 : B5 26 W0 (w.heap.size + 1) (.slice so' sn sc') (.slice po' pn pc') (.slice ro' rn rc') (.int .i64 ck) (.int .i64 tk) := by
    rw [← hV0]
    have := B5.new 26 (w.alloc (.cells #[.slice so sn sc, .slice po pn pc, .slice ro rn rc, .int .i64 ck, .int .i64 tk] 26)) (.slice so' sn sc') (.slice po' pn pc') (.slice ro' rn rc') (.int .i64 ck) (.int .i64 tk)
    simpa using this
  have B0 : Below w.heap.size w W0 := by rw [← hV0]; exact ba (ba (Below.refl _ _) _) _
  have c0 := K0.c0
  have d0 := J0.c0
  go_enter Try.func10, Try.ntmps10
  go_wp2_with fail
  refine (HS.out _ B0).mono ?_
  rintro e W1 ⟨rfl, hb1⟩
  have K1 := K0.up hb1
  have J1 := J0.up hb1
  have B1 := Below.on B0 hb1
  clear K0 J0 B0 hb1 c0 d0 hV0 HS
  have c1 := K1.c1
  have d1 := J1.c1
  go_wp2_with fail
  refine (HP.out _ B1).mono ?_
  rintro e W2 ⟨rfl, hb2⟩
  have K2 := K1.up hb2
  have J2 := J1.up hb2
  have B2 := Below.on B1 hb2
  clear K1 J1 B1 hb2 c1 d1 HP
  have c2 := K2.c2
  have d2 := J2.c2
  go_wp2_with fail
  refine (HRR.out _ B2).mono ?_
  rintro e W3 ⟨rfl, hb3⟩
  have K3 := K2.up hb3
  have J3 := J2.up hb3
  have B3 := Below.on B2 hb3
  clear K2 J2 B2 hb3 c2 d2 HRR
  have c3 := K3.c3
  have d3 := J3.c3
  have c4 := K3.c4
  have d4 := J3.c4
  go_wp2
  go_ret
  exact ⟨rfl, B3⟩
end Go.Proofs.Ytjmclcjhimcehaa
