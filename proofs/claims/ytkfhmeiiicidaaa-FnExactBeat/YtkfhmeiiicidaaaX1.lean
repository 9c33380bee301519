/-
  The law's helpers on boards: sizes, copies, held against each other: the walks. Rows of records that hold rows themselves, each within blocks of its own: what keeps them, and what a store or a change within one of them leaves. Over any program. Marks on rows, one behind the other, each of as many numbers as it has cells: plain facts. And marks of any number, and rows of texts that are marked: the walks. Tasks whose rows are owned, each between blocks of its own, marked from any number on, and held against the marks: the walks.
-/
import Derived.Test.YtkfhmeiiicidaaaSes
import Derived.Test.YtkfhmeiiicidaaaPls
import Derived.Test.YtkfhmeiiicidaaaRns
import Derived.Test.YtkfhmeiiicidaaaDpr
import Derived.Test.YtkfhmeiiicidaaaTot
import Derived.Test.YtkfhmeiiicidaaaMt
import Derived.Test.YtkfhmeiiicidaaaMs
namespace Go.Proofs.Ytkfhmeiiicidaaa
open Go Go.RowKit
set_option linter.unusedVariables false

/-- A board, plain, but for its two numbers. -/
structure Bo where
  ses : List Se
  plans : List Po
  runs : List Rr
/-- A board's rows as they came in. -/
structure BdA (w : World) (sv pv rv : Value) (b : Bo) : Prop where
  ses : Reads w sv b.ses
  plans : DRow OnePl w pv b.plans
  runs : DRow OneRk w rv b.runs
theorem BdA.below {w w' : World} {sv pv rv : Value} {b : Bo} (h : BdA w sv pv rv b) (hb : Below w.heap.size w w') : BdA w' sv pv rv b := ⟨h.ses.below hb, h.plans.below onePl_below hb, h.runs.below oneRk_below hb⟩
/-- A board's rows made anew, from a block on. -/
structure BdB (B : Nat) (w : World) (sv pv rv : Value) (b : Bo) : Prop where
  ses : Reads w sv b.ses
  sfar : ∀ b o n c, sv = .slice (some ⟨b, o, none⟩) n c → B ≤ b
  plans : DRowB OnePlB B w pv b.plans
  runs : DRowB OneRkB B w rv b.runs
  sroom : Roomy sv
  proom : Roomy pv
  rroom : Roomy rv
theorem BdB.up {B : Nat} {w w' : World} {sv pv rv : Value} {b : Bo} (h : BdB B w sv pv rv b) (hb : Below w.heap.size w w') : BdB B w' sv pv rv b := ⟨h.ses.below hb, h.sfar, h.plans.up keepsPl hb, h.runs.up keepsRk hb, h.sroom, h.proom, h.rroom⟩
theorem BdB.all {B : Nat} {w : World} {sv pv rv : Value} {b : Bo} (h : BdB B w sv pv rv b) : BdA w sv pv rv b := ⟨h.ses, h.plans.2.imp fun _ _ o => o.one, h.runs.2.imp fun _ _ o => o.one⟩
theorem BdB.mono {B B' : Nat} {w : World} {sv pv rv : Value} {b : Bo} (h : BdB B w sv pv rv b) (hB : B' ≤ B) : BdB B' w sv pv rv b := ⟨h.ses, fun b o n c e => Nat.le_trans hB (h.sfar b o n c e), h.plans.mono keepsPl hB, h.runs.mono keepsRk hB, h.sroom, h.proom, h.rroom⟩
theorem BdB.setLow {B : Nat} {w : World} {sv pv rv : Value} {b : Bo} (h : BdB B w sv pv rv b) {a : Addr} (ha : a.block < B) (u : Value) : BdB B (w.setCell a u) sv pv rv b :=
  ⟨reads_hi h.ses (by simp) (fun k hk => heap_setCell_other w a k u (fun e => by omega)) h.sfar, h.sfar, h.plans.setLow keepsPl ha u, h.runs.setLow keepsRk ha u, h.sroom, h.proom, h.rroom⟩
/-- A board that came in. -/
structure FitB (b : Bo) : Prop where
  sn : b.ses.length ≤ maxLen
  ses : SmallSe b.ses
  pn : b.plans.length ≤ maxLen
  plans : ∀ p ∈ b.plans, FitP p
  rn : b.runs.length ≤ maxLen
  runs : ∀ r ∈ b.runs, FitR r
/-- What a board weighs at most. -/
structure WeiB (b : Bo) (L : Int) : Prop where
  sn : (b.ses.length : Int) ≤ L
  ses : ∀ s ∈ b.ses, (s.reply.size : Int) ≤ L
  pn : (b.plans.length : Int) ≤ L
  plans : ∀ p ∈ b.plans, WeiP p L
  rn : (b.runs.length : Int) ≤ L
  runs : ∀ r ∈ b.runs, WeiR r L
abbrev bdV (sv pv rv : Value) (ck tk : Int) : Value := .agg #[sv, pv, rv, .int .i64 ck, .int .i64 tk]
set_option maxRecDepth 10000 in
set_option maxHeartbeats 2000000 in
theorem szBoard_any (so po ro : Option Addr) (sn sc pn pc rn rc : Nat) (ck tk : Int) (b : Bo) (L : Int) (w : World) (hr : BdA w (.slice so sn sc) (.slice po pn pc) (.slice ro rn rc) b) (hf : FitB b) (h0 : 0 ≤ L) (h1 : L ≤ 1048576) :
    Calls Try.prog 5 #[bdV (.slice so sn sc) (.slice po pn pc) (.slice ro rn rc) ck tk, .int .i64 L] w fun e w' => ∃ r : Int, e = .returned (.int .i64 r) ∧ -1 ≤ r ∧ (0 ≤ r → WeiB b L) ∧ Below w.heap.size w w' := by
  have hsn : sn = b.ses.length := hr.ses.len
  have hpn := hr.plans.len
  have hrn := hr.runs.len
  have HS : Hid (∀ W, Below w.heap.size w W → Calls Try.prog 14 #[.slice so sn sc, .int .i64 L] W fun e w' => ∃ r : Int, e = .returned (.int .i64 r) ∧ (r = -1 ∨ 0 ≤ r ∧ r = L - sn - sizeSe b.ses) ∧ Below W.heap.size W w') := fun W hb => szSessionS_any so sn sc b.ses L W (hr.ses.below hb) hf.ses h1 h0 (by rw [hsn]; exact hf.sn)
  have HP : Hid (∀ W C, Below w.heap.size w W → 0 ≤ C → C ≤ L → Calls Try.prog 15 #[.slice po pn pc, .int .i64 C] W fun e w' => ∃ r : Int, e = .returned (.int .i64 r) ∧ r ≤ C ∧ -1 ≤ r ∧ (0 ≤ r → (b.plans.length : Int) ≤ C ∧ ∀ x ∈ b.plans, WeiP x C) ∧ Below W.heap.size W w') := fun W C hb c0 c1 => szPlanS_any po pn pc b.plans C W (hr.plans.below onePl_below hb) (by rw [← hpn]; exact hf.pn) hf.plans c0 (by omega)
  have HRR : Hid (∀ W C, Below w.heap.size w W → 0 ≤ C → C ≤ L → Calls Try.prog 16 #[.slice ro rn rc, .int .i64 C] W fun e w' => ∃ r : Int, e = .returned (.int .i64 r) ∧ r ≤ C ∧ -1 ≤ r ∧ (0 ≤ r → (b.runs.length : Int) ≤ C ∧ ∀ x ∈ b.runs, WeiR x C) ∧ Below W.heap.size W w') := fun W C hb c0 c1 => szRunS_any ro rn rc b.runs C W (hr.runs.below oneRk_below hb) (by rw [← hrn]; exact hf.rn) hf.runs c0 (by omega)
  have HSN : Hid (sn = b.ses.length) := hsn
  clear hr hf hsn hpn hrn
  obtain ⟨W0, hV0⟩ : ∃ V, w.alloc (.cells #[.slice so sn sc, .slice po pn pc, .slice ro rn rc, .int .i64 ck, .int .i64 tk] 26) = V := ⟨_, rfl⟩
  have K0 : B5 26 W0 w.heap.size (.slice so sn sc) (.slice po pn pc) (.slice ro rn rc) (.int .i64 ck) (.int .i64 tk) := by rw [← hV0]; exact B5.new _ _ _ _ _ _ _
  have B0 : Below w.heap.size w W0 := by rw [← hV0]; exact ba (Below.refl _ _) _
  have c0 := K0.c0
  go_enter Try.func5, Try.ntmps5
  go_wp2_with fail
  refine (HS.out _ B0).mono ?_
  rintro e W1 ⟨r1, rfl, hr1, hb1⟩
  have HR1 : Hid (r1 = -1 ∨ 0 ≤ r1 ∧ r1 = L - sn - sizeSe b.ses) := hr1
  have K1 := K0.up hb1
  have B1 := Below.on B0 hb1
  clear hr1 K0 B0 hb1 c0 hV0 HS
  by_cases n1 : r1 < 0
  · go_wp2
    go_ret
    exact ⟨_, rfl, by omega, fun h => by omega, B1⟩
  have l1 : 0 ≤ r1 := by omega
  have u1 : r1 ≤ L := by have := HR1.out; omega
  have c1 := K1.c1
  go_wp2_with fail
  refine (HP.out _ _ B1 l1 u1).mono ?_
  rintro e W2 ⟨r2, rfl, u2, m2, hr2, hb2⟩
  have HR2 : Hid (0 ≤ r2 → (b.plans.length : Int) ≤ r1 ∧ ∀ x ∈ b.plans, WeiP x r1) := hr2
  have K2 := K1.up hb2
  have B2 := Below.on B1 hb2
  clear hr2 K1 B1 hb2 c1 HP
  by_cases n2 : r2 < 0
  · go_wp2
    go_ret
    exact ⟨_, rfl, by omega, fun h => by omega, B2⟩
  have l2 : 0 ≤ r2 := by omega
  have c2 := K2.c2
  go_wp2_with fail
  refine (HRR.out _ _ B2 l2 (by omega)).mono ?_
  rintro e W3 ⟨r3, rfl, u3, m3, hr3, hb3⟩
  have HR3 : Hid (0 ≤ r3 → (b.runs.length : Int) ≤ r2 ∧ ∀ x ∈ b.runs, WeiR x r2) := hr3
  have B3 := Below.on B2 hb3
  clear hr3 K2 B2 hb3 c2 HRR
  by_cases n3 : r3 < 0
  · go_wp2
    go_ret
    exact ⟨_, rfl, by omega, fun h => by omega, B3⟩
  go_wp2
  go_ret
  refine ⟨_, rfl, by omega, fun _ => ?_, B3⟩
  obtain ⟨p1, p2⟩ := HR2.out l2
  obtain ⟨q1, q2⟩ := HR3.out (by omega)
  have s1 := HR1.out
  have s2 := HSN.out
  refine ⟨by omega, fun s hs => ?_, by omega, fun p hp => (p2 p hp).more (by omega), by omega, fun r hr => (q2 r hr).more (by omega)⟩
  have := sizeSe_mem hs
  omega
theorem ret_board {W : World} {b : Nat} {x0 x1 x2 x3 x4 : Value} {fn : Func} {p : Tmp} {tmps : Array Value} (h : fn.results = #[.cell p 32]) (hp : tmps.getD p undef = .pointer (some ⟨b, 0, none⟩)) (hb : B5 32 W b x0 x1 x2 x3 x4) :
    (results fn tmps).run Try.prog W = .ok (.agg #[x0, x1, x2, x3, x4]) W := by
  have hp' : tmps[p]?.getD undef = .pointer (some ⟨b, 0, none⟩) := by simpa using hp
  simp [results, h, hp', hb.c0, hb.c1, hb.c2, hb.c3, hb.c4, asAddr, go_sem]
/-- What a copy asks of a board's size. -/
structure SizB (b : Bo) : Prop where
  sn : b.ses.length ≤ 1048576
  pn : b.plans.length ≤ 1048576
  plans : ∀ p ∈ b.plans, p.tasks.length ≤ 1048576 ∧ ∀ t ∈ p.tasks, t.after.length ≤ 1048576
  rn : b.runs.length ≤ 1048576
  runs : ∀ r ∈ b.runs, r.st.length ≤ 1048576
theorem WeiB.siz {b : Bo} (h : WeiB b 1048576) : SizB b :=
  ⟨by have := h.sn; omega, by have := h.pn; omega, fun p hp => ⟨by have := (h.plans p hp).2.2.1; omega, fun t ht => by have := ((h.plans p hp).2.2.2 t ht).2.1; omega⟩, by have := h.rn; omega, fun r hr => by have := (h.runs r hr).2; omega⟩
set_option maxRecDepth 10000 in
set_option maxHeartbeats 4000000 in
theorem toBoard_any (so po ro : Option Addr) (sn sc pn pc rn rc : Nat) (ck tk : Int) (b : Bo) (w : World) (hr : BdA w (.slice so sn sc) (.slice po pn pc) (.slice ro rn rc) b) (hz : SizB b) :
    Calls Try.prog 7 #[bdV (.slice so sn sc) (.slice po pn pc) (.slice ro rn rc) ck tk] w fun e w' => ∃ (sa : Option Addr) (sx : Nat) (pa ra : Addr), e = .returned (bdV (.slice sa sn sx) (.slice (some pa) pn pn) (.slice (some ra) rn rn) ck tk) ∧ BdB w.heap.size w' (.slice sa sn sx) (.slice (some pa) pn pn) (.slice (some ra) rn rn) b ∧ Below w.heap.size w w' := by
  have hsn : sn = b.ses.length := hr.ses.len
  have hpn := hr.plans.len
  have hrn := hr.runs.len
  have HS : Hid (∀ W, Below w.heap.size w W → Calls Try.prog 19 #[.slice so sn sc] W fun e w' => ∃ (sa : Option Addr) (sx : Nat), e = .returned (.slice sa sn sx) ∧ sn ≤ sx ∧ ownsR w' W.heap.size 65 (.slice sa sn sx) b.ses ∧ Below W.heap.size W w') := fun W hb =>
    (toSessionS_any so sn sc b.ses W (hr.ses.below hb) (by rw [hsn]; exact hz.sn)).mono fun e w' ⟨v, he, ho, hb⟩ => by
      obtain ⟨va, vc, ev, hc⟩ := ho.cap
      rw [← hsn] at ev hc
      subst ev
      exact ⟨va, vc, he, hc, ho, hb⟩
  have HP : Hid (∀ W, Below w.heap.size w W → Calls Try.prog 20 #[.slice po pn pc] W fun e w' => e = .returned (.slice (some ⟨W.heap.size, 0, none⟩) pn pn) ∧ DRowB OnePlB W.heap.size w' (.slice (some ⟨W.heap.size, 0, none⟩) pn pn) b.plans ∧ Below W.heap.size W w') := fun W hb => toPlanS_any po pn pc b.plans W (hr.plans.below onePl_below hb) (by rw [← hpn]; exact hz.pn) hz.plans
  have HRR : Hid (∀ W, Below w.heap.size w W → Calls Try.prog 21 #[.slice ro rn rc] W fun e w' => e = .returned (.slice (some ⟨W.heap.size, 0, none⟩) rn rn) ∧ DRowB OneRkB W.heap.size w' (.slice (some ⟨W.heap.size, 0, none⟩) rn rn) b.runs ∧ Below W.heap.size W w') := fun W hb => toRunS_any ro rn rc b.runs W (hr.runs.below oneRk_below hb) (by rw [← hrn]; exact hz.rn) hz.runs
  clear hr hz hsn hpn hrn
  obtain ⟨W0, HV0⟩ : ∃ V, Hid (((w.alloc (.cells #[.slice so sn sc, .slice po pn pc, .slice ro rn rc, .int .i64 ck, .int .i64 tk] 26)).alloc (.cells #[.slice none 0 0, .slice none 0 0, .slice none 0 0, .int .i64 0, .int .i64 0] 32)).alloc (.cells #[.slice none 0 0, .slice none 0 0, .slice none 0 0, .int .i64 0, .int .i64 0] 32) = V) := ⟨_, rfl⟩
  have K0 : B5 26 W0 w.heap.size (.slice so sn sc) (.slice po pn pc) (.slice ro rn rc) (.int .i64 ck) (.int .i64 tk) := by rw [← HV0.out]; exact ((B5.new _ _ _ _ _ _ _).alloc _).alloc _
  have R0 : B5 32 W0 (w.heap.size + 1) (.slice none 0 0) (.slice none 0 0) (.slice none 0 0) (.int .i64 0) (.int .i64 0) := by
    rw [← HV0.out]
    have := (B5.new 32 (w.alloc (.cells #[.slice so sn sc, .slice po pn pc, .slice ro rn rc, .int .i64 ck, .int .i64 tk] 26)) (.slice none 0 0) (.slice none 0 0) (.slice none 0 0) (.int .i64 0) (.int .i64 0)).alloc (.cells #[.slice none 0 0, .slice none 0 0, .slice none 0 0, .int .i64 0, .int .i64 0] 32)
    simpa using this
  have O0 : B5 32 W0 (w.heap.size + 1 + 1) (.slice none 0 0) (.slice none 0 0) (.slice none 0 0) (.int .i64 0) (.int .i64 0) := by
    rw [← HV0.out]
    have := B5.new 32 ((w.alloc (.cells #[.slice so sn sc, .slice po pn pc, .slice ro rn rc, .int .i64 ck, .int .i64 tk] 26)).alloc (.cells #[.slice none 0 0, .slice none 0 0, .slice none 0 0, .int .i64 0, .int .i64 0] 32)) (.slice none 0 0) (.slice none 0 0) (.slice none 0 0) (.int .i64 0) (.int .i64 0)
    simpa using this
  have B0 : Below w.heap.size w W0 := by rw [← HV0.out]; exact ba (ba (ba (Below.refl _ _) _) _) _
  have n10 : w.heap.size + 1 + 1 ≠ w.heap.size := by omega
  have n11 : w.heap.size + 1 + 1 ≠ w.heap.size + 1 := by omega
  have lw : w.heap.size ≤ w.heap.size + 1 + 1 := by omega
  have k0 := K0.c0
  go_enter Try.func7, Try.ntmps7
  go_wp2_with fail
  rw [HV0.out]
  refine (HS.out _ B0).mono ?_
  rintro e W1 ⟨sa, sx, rfl, hsx, ho1, hb1⟩
  have hl1 : w.heap.size + 1 + 1 < W0.heap.size := O0.lt
  have K1 := K0.up hb1
  have R1 := R0.up hb1
  have O1 := O0.up hb1
  have B1 := Below.on B0 hb1
  have S1 : Hid (Reads W1 (.slice sa sn sx) b.ses ∧ ∀ b o n c, Value.slice sa sn sx = .slice (some ⟨b, o, none⟩) n c → w.heap.size + 1 + 1 < b) := ⟨ho1.reads, fun b o n c e => by
    rcases ho1.2 with ⟨h1, _⟩ | ⟨g, cap, cur, h1, hg, _⟩
    · rw [e] at h1; cases h1
    · rw [e] at h1; injection h1 with h1 _ _; injection h1 with h1; injection h1 with h1 _ _; omega⟩
  clear K0 R0 O0 B0 hb1 k0 HV0 HS ho1
  obtain ⟨W2, HW2⟩ : ∃ V, Hid (W1.setCell ⟨w.heap.size + 1 + 1, 0, none⟩ (.slice sa sn sx) = V) := ⟨_, rfl⟩
  have K2 : B5 26 W2 w.heap.size (.slice so sn sc) (.slice po pn pc) (.slice ro rn rc) (.int .i64 ck) (.int .i64 tk) := by rw [← HW2.out]; exact K1.far (by exact n10) _
  have R2 : B5 32 W2 (w.heap.size + 1) (.slice none 0 0) (.slice none 0 0) (.slice none 0 0) (.int .i64 0) (.int .i64 0) := by rw [← HW2.out]; exact R1.far (by exact n11) _
  have O2 : B5 32 W2 (w.heap.size + 1 + 1) (.slice sa sn sx) (.slice none 0 0) (.slice none 0 0) (.int .i64 0) (.int .i64 0) := by rw [← HW2.out]; exact O1.s0 _
  have B2 : Below w.heap.size w W2 := by rw [← HW2.out]; exact B1.setCell lw _
  have S2 : Hid (Reads W2 (.slice sa sn sx) b.ses ∧ ∀ b o n c, Value.slice sa sn sx = .slice (some ⟨b, o, none⟩) n c → w.heap.size + 1 + 1 < b) := by
    rw [← HW2.out]
    exact ⟨reads_hi (B := w.heap.size + 1 + 1 + 1) S1.out.1 (by simp) (fun k hk => heap_setCell_other W1 ⟨w.heap.size + 1 + 1, 0, none⟩ k _ (fun e => by have e' : k = w.heap.size + 1 + 1 := e; omega)) S1.out.2, S1.out.2⟩
  have o0 := O1.c0
  have f0 := O1.fr 0
  have k1 := K1.c1
  have k1' := K2.c1
  clear K1 R1 O1 B1 S1
  go_wp2_with fail
  rw [HW2.out]
  refine (HP.out _ B2).mono ?_
  rintro e W3 ⟨rfl, hp3, hb3⟩
  have hl2 : w.heap.size + 1 + 1 < W2.heap.size := O2.lt
  have K3 := K2.up hb3
  have R3 := R2.up hb3
  have O3 := O2.up hb3
  have B3 := Below.on B2 hb3
  have S3 : Hid (Reads W3 (.slice sa sn sx) b.ses ∧ ∀ b o n c, Value.slice sa sn sx = .slice (some ⟨b, o, none⟩) n c → w.heap.size + 1 + 1 < b) := ⟨S2.out.1.below hb3, S2.out.2⟩
  obtain ⟨P2, HP2⟩ : ∃ P, Hid (W2.heap.size = P) := ⟨_, rfl⟩
  rw [HP2.out] at hp3 hl2
  rw [HP2.out]
  have P3 : Hid (DRowB OnePlB (w.heap.size + 1 + 1 + 1) W3 (.slice (some ⟨P2, 0, none⟩) pn pn) b.plans) := hp3.mono keepsPl hl2
  clear K2 R2 O2 B2 S2 hb3 hp3 HW2 HP o0 f0 k1 k1' HP2
  obtain ⟨W4, HW4⟩ : ∃ V, Hid (W3.setCell ⟨w.heap.size + 1 + 1, 1, none⟩ (.slice (some ⟨P2, 0, none⟩) pn pn) = V) := ⟨_, rfl⟩
  have K4 : B5 26 W4 w.heap.size (.slice so sn sc) (.slice po pn pc) (.slice ro rn rc) (.int .i64 ck) (.int .i64 tk) := by rw [← HW4.out]; exact K3.far (by exact n10) _
  have R4 : B5 32 W4 (w.heap.size + 1) (.slice none 0 0) (.slice none 0 0) (.slice none 0 0) (.int .i64 0) (.int .i64 0) := by rw [← HW4.out]; exact R3.far (by exact n11) _
  have O4 : B5 32 W4 (w.heap.size + 1 + 1) (.slice sa sn sx) (.slice (some ⟨P2, 0, none⟩) pn pn) (.slice none 0 0) (.int .i64 0) (.int .i64 0) := by rw [← HW4.out]; exact O3.s1 _
  have B4 : Below w.heap.size w W4 := by rw [← HW4.out]; exact B3.setCell lw _
  have S4 : Hid (Reads W4 (.slice sa sn sx) b.ses ∧ ∀ b o n c, Value.slice sa sn sx = .slice (some ⟨b, o, none⟩) n c → w.heap.size + 1 + 1 < b) := by
    rw [← HW4.out]
    exact ⟨reads_hi (B := w.heap.size + 1 + 1 + 1) S3.out.1 (by simp) (fun k hk => heap_setCell_other W3 ⟨w.heap.size + 1 + 1, 1, none⟩ k _ (fun e => by have e' : k = w.heap.size + 1 + 1 := e; omega)) S3.out.2, S3.out.2⟩
  have P4 : Hid (DRowB OnePlB (w.heap.size + 1 + 1 + 1) W4 (.slice (some ⟨P2, 0, none⟩) pn pn) b.plans) := by
    rw [← HW4.out]
    exact P3.out.setLow keepsPl (Nat.lt_succ_self _) _
  have o1 := O3.c1
  have f1 := O3.fr 1
  have k2 := K3.c2
  have k2' := K4.c2
  clear K3 R3 O3 B3 S3 P3
  go_wp2_with fail
  rw [HW4.out]
  refine (HRR.out _ B4).mono ?_
  rintro e W5 ⟨rfl, hp5, hb5⟩
  have hl4 : w.heap.size + 1 + 1 < W4.heap.size := O4.lt
  have K5 := K4.up hb5
  have R5 := R4.up hb5
  have O5 := O4.up hb5
  have B5' := Below.on B4 hb5
  have S5 : Hid (Reads W5 (.slice sa sn sx) b.ses ∧ ∀ b o n c, Value.slice sa sn sx = .slice (some ⟨b, o, none⟩) n c → w.heap.size + 1 + 1 < b) := ⟨S4.out.1.below hb5, S4.out.2⟩
  have P5 : Hid (DRowB OnePlB (w.heap.size + 1 + 1 + 1) W5 (.slice (some ⟨P2, 0, none⟩) pn pn) b.plans) := P4.out.up keepsPl hb5
  obtain ⟨Q2, HQ2⟩ : ∃ P, Hid (W4.heap.size = P) := ⟨_, rfl⟩
  rw [HQ2.out] at hp5 hl4
  rw [HQ2.out]
  have Q5 : Hid (DRowB OneRkB (w.heap.size + 1 + 1 + 1) W5 (.slice (some ⟨Q2, 0, none⟩) rn rn) b.runs) := hp5.mono keepsRk hl4
  clear K4 R4 O4 B4 S4 P4 hb5 hp5 HW4 HRR o1 f1 k2 k2' HQ2
  obtain ⟨W6, hW6⟩ : ∃ V, ((W5.setCell ⟨w.heap.size + 1 + 1, 2, none⟩ (.slice (some ⟨Q2, 0, none⟩) rn rn)).setCell ⟨w.heap.size + 1 + 1, 3, none⟩ (.int .i64 ck)).setCell ⟨w.heap.size + 1 + 1, 4, none⟩ (.int .i64 tk) = V := ⟨_, rfl⟩
  have R6 : B5 32 W6 (w.heap.size + 1) (.slice none 0 0) (.slice none 0 0) (.slice none 0 0) (.int .i64 0) (.int .i64 0) := by rw [← hW6]; exact ((R5.far (by exact n11) _).far (by exact n11) _).far (by exact n11) _
  have O6 : B5 32 W6 (w.heap.size + 1 + 1) (.slice sa sn sx) (.slice (some ⟨P2, 0, none⟩) pn pn) (.slice (some ⟨Q2, 0, none⟩) rn rn) (.int .i64 ck) (.int .i64 tk) := by rw [← hW6]; exact ((O5.s2 _).s3 _).s4 _
  have B6 : Below w.heap.size w W6 := by rw [← hW6]; exact ((B5'.setCell lw _).setCell lw _).setCell lw _
  have D6 : Hid (BdB (w.heap.size + 1 + 1 + 1) W6 (.slice sa sn sx) (.slice (some ⟨P2, 0, none⟩) pn pn) (.slice (some ⟨Q2, 0, none⟩) rn rn) b) := by
    rw [← hW6]
    have D5 : BdB (w.heap.size + 1 + 1 + 1) W5 (.slice sa sn sx) (.slice (some ⟨P2, 0, none⟩) pn pn) (.slice (some ⟨Q2, 0, none⟩) rn rn) b := ⟨S5.out.1, S5.out.2, P5.out, Q5.out, fun a n c e => by injection e with _ e2 e3; omega, roomy_full _ _, roomy_full _ _⟩
    exact ((D5.setLow (Nat.lt_succ_self _) _).setLow (Nat.lt_succ_self _) _).setLow (Nat.lt_succ_self _) _
  have g2 := O5.c2
  have g3 := O5.c3
  have g4 := O5.c4
  have h2 := O5.fr 2
  have h3 := O5.fr 3
  have h4 := O5.fr 4
  have a3 := K5.c3
  have a4 := K5.c4
  clear K5 R5 O5 B5' S5 P5 Q5
  have q0 := O6.c0
  have q1 := O6.c1
  have q2 := O6.c2
  have q3 := O6.c3
  have q4 := O6.c4
  have r0 := R6.c0
  have r1 := R6.c1
  have r2 := R6.c2
  have r3 := R6.c3
  have r4 := R6.c4
  have t0 := R6.fr 0
  have t1 := R6.fr 1
  have t2 := R6.fr 2
  have t3 := R6.fr 3
  have t4 := R6.fr 4
  go_wp2
  have HE := R6.set (.slice sa sn sx) (.slice (some ⟨P2, 0, none⟩) pn pn) (.slice (some ⟨Q2, 0, none⟩) rn rn) (.int .i64 ck) (.int .i64 tk)
  refine bodyPost_ret (ret_board rfl rfl HE) rfl ?_
  have l1 : w.heap.size + 1 < w.heap.size + 1 + 1 + 1 := by omega
  exact ⟨sa, sx, _, _, rfl, (((((D6.out.setLow l1 _).setLow l1 _).setLow l1 _).setLow l1 _).setLow l1 _).mono (by omega), below_set5 B6 (Nat.le_succ _) _ _ _ _ _⟩
set_option maxRecDepth 10000 in
set_option maxHeartbeats 2000000 in
theorem eqBoard_any (so po ro so' po' ro' : Option Addr) (sn sc pn pc rn rc sc' pc' rc' : Nat) (ck tk : Int) (b : Bo) (w : World) (ha : BdA w (.slice so sn sc) (.slice po pn pc) (.slice ro rn rc) b) (hb : BdA w (.slice so' sn sc') (.slice po' pn pc') (.slice ro' rn rc') b) (hz : SizB b) :
    Calls Try.prog 9 #[bdV (.slice so sn sc) (.slice po pn pc) (.slice ro rn rc) ck tk, bdV (.slice so' sn sc') (.slice po' pn pc') (.slice ro' rn rc') ck tk] w fun e w' => e = .returned (.bool true) ∧ Below w.heap.size w w' := by
  have hsn : sn = b.ses.length := ha.ses.len
  have hpn := ha.plans.len
  have hrn := ha.runs.len
  have zs := hz.sn
  have zp := hz.pn
  have zr := hz.rn
  have HS : Hid (∀ W, Below w.heap.size w W → Calls Try.prog 24 #[.slice so sn sc, .slice so' sn sc'] W fun e w' => e = .returned (.bool true) ∧ Below W.heap.size W w') := fun W h => eqSessionS_any so so' sn sc sc' b.ses W (ha.ses.below h) (hb.ses.below h) (by omega)
  have HP : Hid (∀ W, Below w.heap.size w W → Calls Try.prog 25 #[.slice po pn pc, .slice po' pn pc'] W fun e w' => e = .returned (.bool true) ∧ Below W.heap.size W w') := fun W h => eqPlanS_any po po' pn pc pc' b.plans W (ha.plans.below onePl_below h) (hb.plans.below onePl_below h) (by omega) (fun x hx => ⟨Nat.le_succ_of_le (hz.plans x hx).1, fun t ht => Nat.le_succ_of_le ((hz.plans x hx).2 t ht)⟩)
  have HRR : Hid (∀ W, Below w.heap.size w W → Calls Try.prog 26 #[.slice ro rn rc, .slice ro' rn rc'] W fun e w' => e = .returned (.bool true) ∧ Below W.heap.size W w') := fun W h => eqRunS_any ro ro' rn rc rc' b.runs W (ha.runs.below oneRk_below h) (hb.runs.below oneRk_below h) (by omega) (fun x hx => Nat.le_succ_of_le (hz.runs x hx))
  clear ha hb hz hsn hpn hrn zs zp zr
  obtain ⟨W0, hV0⟩ : ∃ V, (w.alloc (.cells #[.slice so sn sc, .slice po pn pc, .slice ro rn rc, .int .i64 ck, .int .i64 tk] 32)).alloc (.cells #[.slice so' sn sc', .slice po' pn pc', .slice ro' rn rc', .int .i64 ck, .int .i64 tk] 32) = V := ⟨_, rfl⟩
  have K0 : B5 32 W0 w.heap.size (.slice so sn sc) (.slice po pn pc) (.slice ro rn rc) (.int .i64 ck) (.int .i64 tk) := by rw [← hV0]; exact (B5.new _ _ _ _ _ _ _).alloc _
  have J0 : B5 32 W0 (w.heap.size + 1) (.slice so' sn sc') (.slice po' pn pc') (.slice ro' rn rc') (.int .i64 ck) (.int .i64 tk) := by
    rw [← hV0]
    have := B5.new 32 (w.alloc (.cells #[.slice so sn sc, .slice po pn pc, .slice ro rn rc, .int .i64 ck, .int .i64 tk] 32)) (.slice so' sn sc') (.slice po' pn pc') (.slice ro' rn rc') (.int .i64 ck) (.int .i64 tk)
    simpa using this
  have B0 : Below w.heap.size w W0 := by rw [← hV0]; exact ba (ba (Below.refl _ _) _) _
  have c0 := K0.c0
  have d0 := J0.c0
  go_enter Try.func9, Try.ntmps9
  go_wp2_with fail
  refine (HS.out _ B0).mono ?_
  rintro e W1 ⟨rfl, hb1⟩
  have K1 := K0.up hb1
  have J1 := J0.up hb1
  have B1 := Below.on B0 hb1
  clear K0 J0 B0 hb1 c0 d0 hV0 HS
  have c1 := K1.c1
  have d1 := J1.c1
  go_wp2_with fail
  refine (HP.out _ B1).mono ?_
  rintro e W2 ⟨rfl, hb2⟩
  have K2 := K1.up hb2
  have J2 := J1.up hb2
  have B2 := Below.on B1 hb2
  clear K1 J1 B1 hb2 c1 d1 HP
  have c2 := K2.c2
  have d2 := J2.c2
  go_wp2_with fail
  refine (HRR.out _ B2).mono ?_
  rintro e W3 ⟨rfl, hb3⟩
  have K3 := K2.up hb3
  have J3 := J2.up hb3
  have B3 := Below.on B2 hb3
  clear K2 J2 B2 hb3 c2 d2 HRR
  have c3 := K3.c3
  have d3 := J3.c3
  have c4 := K3.c4
  have d4 := J3.c4
  go_wp2
  go_ret
  exact ⟨rfl, B3⟩
end Go.Proofs.Ytkfhmeiiicidaaa

namespace Go.Proofs.Ytkfhmeiiicidaaa
open Go Go.RowKit
set_option linter.unusedVariables false

theorem ownsR.hold {α : Type} [Rec α] {W W' : World} {B : Nat} {e : TypeId} {v : Value} {l : List α} (h : ownsR W B e v l) (hk : ∀ k, v.ownBlock = some k → W'.heap[k]? = W.heap[k]?) : ownsR W' B e v l := by
  refine ⟨h.1, ?_⟩
  rcases h.2 with h2 | ⟨g, cap, cur, rfl, hB, hg, hr⟩
  · exact .inl h2
  · exact .inr ⟨g, cap, cur, rfl, hB, (hk g rfl).trans hg, hr⟩
/-- But for blocks between two numbers all that was there is as it was. -/
structure Twi (B S : Nat) (w w' : World) : Prop where
  os : w'.os = w.os
  tape : w'.tape = w.tape
  output : w'.output = w.output
  size : w.heap.size ≤ w'.heap.size
  block : ∀ k, k < w.heap.size → (k < B ∨ S ≤ k) → w'.heap[k]? = w.heap[k]?
theorem Twi.refl (B S : Nat) (w : World) : Twi B S w w := ⟨rfl, rfl, rfl, Nat.le_refl _, fun _ _ _ => rfl⟩
theorem Twi.trans {B S : Nat} {a w w' : World} (h : Twi B S a w) (k : Twi B S w w') : Twi B S a w' :=
  ⟨k.os.trans h.os, k.tape.trans h.tape, k.output.trans h.output, Nat.le_trans h.size k.size, fun q hq h1 => (k.block q (Nat.lt_of_lt_of_le hq h.size) h1).trans (h.block q hq h1)⟩
theorem Twi.mono {B S B' S' : Nat} {w w' : World} (h : Twi B S w w') (h1 : B' ≤ B) (h2 : S ≤ S') : Twi B' S' w w' := ⟨h.os, h.tape, h.output, h.size, fun q hq h3 => h.block q hq (by omega)⟩
theorem Twi.of_below {B S : Nat} {w w' : World} (hb : Below w.heap.size w w') : Twi B S w w' := ⟨hb.os, hb.tape, hb.output, hb.size, fun k hk _ => hb.block k hk⟩
theorem Twi.up {B S : Nat} {a w w' : World} (h : Twi B S a w) (hb : Below w.heap.size w w') : Twi B S a w' := h.trans (Twi.of_below hb)
theorem Twi.set {B S : Nat} {a w : World} (h : Twi B S a w) {p : Addr} (h1 : B ≤ p.block) (h2 : p.block < S) (u : Value) : Twi B S a (w.setCell p u) :=
  ⟨h.os, h.tape, h.output, by rw [show (w.setCell p u).heap.size = w.heap.size by simp [World.setCell]]; exact h.size, fun k hk h3 => (heap_setCell_other w p k u (fun e => by omega)).trans (h.block k hk h3)⟩
theorem Twi.grown {B S : Nat} {a w w' : World} {g : Nat} (h : Twi B S a w) (hg : w.grownBy w' (some g)) (h1 : B ≤ g) (h2 : g < S) : Twi B S a w' :=
  ⟨hg.os.trans h.os, hg.tape.trans h.tape, hg.output.trans h.output, Nat.le_trans h.size hg.size, fun k hk h3 => (hg.block k (Nat.lt_of_lt_of_le hk h.size) (fun e => by cases e; omega)).trans (h.block k hk h3)⟩
theorem Twi.below {B S : Nat} {w w' : World} (h : Twi B S w w') (hB : B ≤ w.heap.size) : Below B w w' := ⟨h.os, h.tape, h.output, h.size, fun k hk => h.block k (by omega) (.inl hk)⟩
theorem Twi.rest {B S : Nat} {w w' : World} (h : Twi B S w w') (hS : w.heap.size ≤ S) (hB : w.heap.size ≤ B) : Below w.heap.size w w' := ⟨h.os, h.tape, h.output, h.size, fun k hk => h.block k hk (.inl (by omega))⟩

section
variable {κ τ : Type} [Rec κ] {One : Nat → Nat → World → κ → τ → Prop} {ty : TypeId} {lo hi : Nat} {w W : World} {v : Value} {ks : List κ} {a b : Nat → Nat} {l : List τ}
/-- What of a record lies between two blocks is kept by all that keeps these. -/
def KeepI (One : Nat → Nat → World → κ → τ → Prop) : Prop := ∀ (lo hi : Nat) (w W : World) (k : κ) (t : τ), One lo hi w k t → (∀ q, lo ≤ q → q < hi → q < w.heap.size → W.heap[q]? = w.heap[q]?) → One lo hi W k t
/-- A row that is owned, its records' own rows each between two blocks that no other one's lie between. -/
structure DK (One : Nat → Nat → World → κ → τ → Prop) (ty : TypeId) (lo hi : Nat) (w : World) (v : Value) (ks : List κ) (a b : Nat → Nat) (l : List τ) : Prop where
  own : ownsR w lo ty v ks
  top : ∀ q, v.ownBlock = some q → q < hi
  len : ks.length = l.length
  el : ∀ (i : Nat) (k : κ) (t : τ), ks[i]? = some k → l[i]? = some t → lo ≤ a i ∧ b i ≤ hi ∧ One (a i) (b i) w k t
  off : ∀ i, i < l.length → ∀ q, v.ownBlock = some q → q < a i ∨ b i ≤ q
  sep : ∀ i j, i < l.length → j < l.length → i ≠ j → b i ≤ a j ∨ b j ≤ a i
theorem DK.keep (hK : KeepI One) (h : DK One ty lo hi w v ks a b l) (hW : ∀ q, lo ≤ q → q < hi → q < w.heap.size → W.heap[q]? = w.heap[q]?) : DK One ty lo hi W v ks a b l := by
  refine ⟨h.own.hold fun q hq => hW q (h.own.lt q hq).1 (h.top q hq) (h.own.lt q hq).2, h.top, h.len, fun i k t hk ht => ?_, h.off, h.sep⟩
  obtain ⟨h1, h2, h3⟩ := h.el i k t hk ht
  exact ⟨h1, h2, hK _ _ _ _ _ _ h3 fun q q1 q2 q3 => hW q (Nat.le_trans h1 q1) (Nat.lt_of_lt_of_le q2 h2) q3⟩
theorem DK.up (hK : KeepI One) (h : DK One ty lo hi w v ks a b l) (hb : Below w.heap.size w W) : DK One ty lo hi W v ks a b l := h.keep hK fun q _ _ hq => hb.block q hq
theorem DK.got (h : DK One ty lo hi w v ks a b l) {i : Nat} {t : τ} (ht : l[i]? = some t) : ∃ k, ks[i]? = some k ∧ lo ≤ a i ∧ b i ≤ hi ∧ One (a i) (b i) w k t := by
  obtain ⟨k, hk⟩ : ∃ k, ks[i]? = some k := ⟨_, List.getElem?_eq_getElem (by rw [h.len]; exact (List.getElem?_eq_some_iff.1 ht).1)⟩
  exact ⟨k, hk, h.el i k t hk ht⟩
theorem DK.set (hK : KeepI One) {g n c : Nat} (h : DK One ty lo hi w (.slice (some ⟨g, 0, none⟩) n c) ks a b l) {i j : Nat} {x : κ} {t : τ} (hx : ks[i]? = some x) (ht : l[i]? = some t) (x' : κ) (t' : τ) {u : Value} (hj : j < Rec.width κ) (hc : Rec.cells x' = (Rec.cells x).set j u) (h1 : ∀ a b W, One a b W x t → One a b W x' t') :
    DK One ty lo hi (w.setCell ⟨g, i * Rec.width κ + j, none⟩ u) (.slice (some ⟨g, 0, none⟩) n c) (ks.set i x') a b (l.set i t') := by
  have hi' : i < ks.length := (List.getElem?_eq_some_iff.1 hx).1
  have hl' : i < l.length := (List.getElem?_eq_some_iff.1 ht).1
  have key : ∀ m k s, m < l.length → One (a m) (b m) w k s → One (a m) (b m) (w.setCell ⟨g, i * Rec.width κ + j, none⟩ u) k s := fun m k s hm ho => hK _ _ _ _ _ _ ho fun q q1 q2 _ => heap_setCell_other w ⟨g, _, none⟩ q u fun e => by
    have e : q = g := e
    have := h.off m hm g rfl
    omega
  refine ⟨h.own.put x' hx hj hc, h.top, by rw [List.length_set, List.length_set]; exact h.len, fun m k s hk hs => ?_, fun m hm => h.off m (by rwa [List.length_set] at hm), fun m m' hm hm' => h.sep m m' (by rwa [List.length_set] at hm) (by rwa [List.length_set] at hm')⟩
  by_cases e : m = i
  · subst e
    rw [List.getElem?_set_self hi'] at hk
    rw [List.getElem?_set_self hl'] at hs
    cases hk
    cases hs
    obtain ⟨e1, e2, e3⟩ := h.el m x t hx ht
    exact ⟨e1, e2, h1 _ _ _ (key m x t hl' e3)⟩
  · rw [List.getElem?_set_ne (fun e' => e e'.symm)] at hk hs
    obtain ⟨e1, e2, e3⟩ := h.el m k s hk hs
    exact ⟨e1, e2, key m k s (List.getElem?_eq_some_iff.1 hs).1 e3⟩
theorem DK.nest (hK : KeepI One) (h : DK One ty lo hi w v ks a b l) {i : Nat} {x : κ} {t : τ} (hx : ks[i]? = some x) (ht : l[i]? = some t) (t' : τ) (hO : One (a i) (b i) W x t') (hW : ∀ q, q < w.heap.size → (q < a i ∨ b i ≤ q) → W.heap[q]? = w.heap[q]?) : DK One ty lo hi W v ks a b (l.set i t') := by
  have hl' : i < l.length := (List.getElem?_eq_some_iff.1 ht).1
  refine ⟨h.own.hold fun q hq => hW q (h.own.lt q hq).2 (h.off i hl' q hq), h.top, by rw [List.length_set]; exact h.len, fun m k s hk hs => ?_, fun m hm => h.off m (by rwa [List.length_set] at hm), fun m m' hm hm' => h.sep m m' (by rwa [List.length_set] at hm) (by rwa [List.length_set] at hm')⟩
  by_cases e : m = i
  · subst e
    rw [List.getElem?_set_self hl'] at hs
    cases hs
    rw [hx] at hk
    cases hk
    obtain ⟨e1, e2, _⟩ := h.el m x t hx ht
    exact ⟨e1, e2, hO⟩
  · rw [List.getElem?_set_ne (fun e' => e e'.symm)] at hs
    have hm := (List.getElem?_eq_some_iff.1 hs).1
    obtain ⟨e1, e2, e3⟩ := h.el m k s hk hs
    refine ⟨e1, e2, hK _ _ _ _ _ _ e3 fun q q1 q2 q3 => hW q q3 ?_⟩
    have := h.sep m i hm hl' e
    omega
theorem DK.top' {hi' : Nat} (h : DK One ty lo hi w v ks a b l) (hh : hi ≤ hi') : DK One ty lo hi' w v ks a b l := ⟨h.own, fun q hq => Nat.lt_of_lt_of_le (h.top q hq) hh, h.len, fun i k t hk ht => by obtain ⟨h1, h2, h3⟩ := h.el i k t hk ht; exact ⟨h1, Nat.le_trans h2 hh, h3⟩, h.off, h.sep⟩
theorem DK.low' {lo' : Nat} (h : DK One ty lo hi w v ks a b l) (hh : lo' ≤ lo) : DK One ty lo' hi w v ks a b l := ⟨h.own.mono hh, h.top, h.len, fun i k t hk ht => by obtain ⟨h1, h2, h3⟩ := h.el i k t hk ht; exact ⟨Nat.le_trans hh h1, h2, h3⟩, h.off, h.sep⟩
/-- A record is put into its place, its own rows above all that was there. -/
theorem DK.put (hK : KeepI One) (h : DK One ty lo hi w v ks a b l) {i a' b' : Nat} {x' : κ} {t' : τ} (hi' : i < l.length) (hla : lo ≤ a') (ha : hi ≤ a') (hab : a' ≤ b') (hown : ownsR W lo ty v (ks.set i x')) (hO : One a' b' W x' t') (hW : ∀ q, q < w.heap.size → v.ownBlock ≠ some q → W.heap[q]? = w.heap[q]?) :
    DK One ty lo b' W v (ks.set i x') (fun m => if m = i then a' else a m) (fun m => if m = i then b' else b m) (l.set i t') := by
  refine ⟨hown, fun q hq => by have := h.top q hq; omega, by rw [List.length_set, List.length_set]; exact h.len, fun m k s hk hs => ?_, fun m hm q hq => ?_, fun m m' hm hm' hne => ?_⟩
  · by_cases e : m = i
    · subst e
      rw [List.getElem?_set_self (by rw [h.len]; exact hi')] at hk
      rw [List.getElem?_set_self hi'] at hs
      cases hk
      cases hs
      rw [if_pos rfl, if_pos rfl]
      exact ⟨hla, Nat.le_refl _, hO⟩
    · rw [List.getElem?_set_ne (fun e' => e e'.symm)] at hk hs
      rw [if_neg e, if_neg e]
      obtain ⟨e1, e2, e3⟩ := h.el m k s hk hs
      refine ⟨e1, by omega, hK _ _ _ _ _ _ e3 fun q q1 q2 q3 => hW q q3 fun hq => ?_⟩
      have := h.off m (List.getElem?_eq_some_iff.1 hs).1 q hq
      omega
  · rw [List.length_set] at hm
    by_cases e : m = i
    · rw [if_pos e, if_pos e]
      have := h.top q hq
      exact .inl (by omega)
    · rw [if_neg e, if_neg e]
      exact h.off m hm q hq
  · rw [List.length_set] at hm hm'
    have bd : ∀ m, m < l.length → b m ≤ hi := fun m hm => by
      obtain ⟨k, hk, _, h2, _⟩ := h.got (List.getElem?_eq_getElem hm)
      exact h2
    by_cases e : m = i
    · have e' : ¬ m' = i := fun e' => hne (e.trans e'.symm)
      rw [if_pos e, if_pos e, if_neg e', if_neg e']
      have := bd m' hm'
      exact .inr (by omega)
    · by_cases e' : m' = i
      · rw [if_pos e', if_pos e', if_neg e, if_neg e]
        have := bd m hm
        exact .inl (by omega)
      · rw [if_neg e, if_neg e, if_neg e', if_neg e']
        exact h.sep m m' hm hm' hne
/-- A record is put behind the others, its own rows above all that was there; the row may lie elsewhere then. -/
theorem DK.more (hK : KeepI One) (h : DK One ty lo hi w v ks a b l) {v' : Value} {a' b' hi' : Nat} {x' : κ} {t' : τ} (hs : hi ≤ w.heap.size) (hla : lo ≤ a') (ha : hi ≤ a') (hab : a' ≤ b') (hbh : b' ≤ hi') (hown : ownsR W lo ty v' (ks ++ [x'])) (hO : One a' b' W x' t') (hW : ∀ q, q < w.heap.size → v.ownBlock ≠ some q → W.heap[q]? = w.heap[q]?) (hv : ∀ q, v'.ownBlock = some q → v.ownBlock = some q ∨ (b' ≤ q ∧ q < hi')) :
    DK One ty lo hi' W v' (ks ++ [x']) (fun m => if m = l.length then a' else a m) (fun m => if m = l.length then b' else b m) (l ++ [t']) := by
  have bd : ∀ m, m < l.length → b m ≤ hi := fun m hm => by
    obtain ⟨k, hk, _, h2, _⟩ := h.got (List.getElem?_eq_getElem hm)
    exact h2
  refine ⟨hown, fun q hq => ?_, by simp [h.len], fun m k s hk hs => ?_, fun m hm q hq => ?_, fun m m' hm hm' hne => ?_⟩
  · rcases hv q hq with e | e
    · have := h.top q e
      omega
    · exact e.2
  · by_cases e : m = l.length
    · rw [if_pos e, if_pos e]
      rw [e, List.getElem?_append_right (by rw [h.len]; exact Nat.le_refl _), h.len, Nat.sub_self] at hk
      rw [e, List.getElem?_append_right (Nat.le_refl _), Nat.sub_self] at hs
      cases hk
      cases hs
      exact ⟨hla, hbh, hO⟩
    · have hm : m < l.length := by
        have := (List.getElem?_eq_some_iff.1 hs).1
        simp at this
        omega
      rw [if_neg e, if_neg e]
      rw [List.getElem?_append_left (by rw [h.len]; exact hm)] at hk
      rw [List.getElem?_append_left hm] at hs
      obtain ⟨e1, e2, e3⟩ := h.el m k s hk hs
      refine ⟨e1, by omega, hK _ _ _ _ _ _ e3 fun q q1 q2 q3 => hW q q3 fun hq => ?_⟩
      have := h.off m hm q hq
      omega
  · by_cases e : m = l.length
    · rw [if_pos e, if_pos e]
      rcases hv q hq with e1 | e1
      · have := h.top q e1
        exact .inl (by omega)
      · exact .inr e1.1
    · have hm : m < l.length := by simp at hm; omega
      rw [if_neg e, if_neg e]
      rcases hv q hq with e1 | e1
      · exact h.off m hm q e1
      · have := bd m hm
        exact .inr (by omega)
  · by_cases e : m = l.length
    · have e' : ¬ m' = l.length := fun e' => hne (e.trans e'.symm)
      rw [if_pos e, if_pos e, if_neg e', if_neg e']
      have := bd m' (by simp at hm'; omega)
      exact .inr (by omega)
    · by_cases e' : m' = l.length
      · rw [if_pos e', if_pos e', if_neg e, if_neg e]
        have := bd m (by simp at hm; omega)
        exact .inl (by omega)
      · rw [if_neg e, if_neg e, if_neg e', if_neg e']
        exact h.sep m m' (by simp at hm; omega) (by simp at hm'; omega) hne
theorem dk_none (One : Nat → Nat → World → κ → τ → Prop) (ty : TypeId) (lo hi : Nat) (w : World) : DK One ty lo hi w (.slice none 0 0) ([] : List κ) (fun _ => 0) (fun _ => 0) ([] : List τ) :=
  ⟨ownsR_nil w lo ty, fun q hq => (by cases hq), rfl, fun i k t hk => (by simp at hk), fun i hi => (by simp at hi), fun i j hi => (by simp at hi)⟩
/-- What reads as a row of records reads so here, too. -/
theorem DK.row {Two : World → κ → τ → Prop} (h : DK One ty lo hi w v ks a b l) (hT : ∀ a b k t, One a b w k t → Two w k t) : DRow Two w v l :=
  ⟨ks, h.own.reads, h.len, fun i t ht => by obtain ⟨k, hk, _, _, ho⟩ := h.got ht; exact ⟨k, hk, hT _ _ _ _ ho⟩⟩
end
end Go.Proofs.Ytkfhmeiiicidaaa

namespace Go.Proofs.Ytkfhmeiiicidaaa
open Go Go.RowKit
set_option linter.unusedVariables false

theorem set_selfX {α : Type} {l : List α} {k : Nat} {x : α} (h : l[k]? = some x) : l.set k x = l := by
  obtain ⟨hk, rfl⟩ := List.getElem?_eq_some_iff.1 h
  exact List.set_getElem_self hk
section
variable {τ : Type} (mk : Int → τ → τ) (cn : τ → Int)
/-- All of a list marked from a number on. -/
def mkL : Int → List τ → List τ
  | _, [] => []
  | x, t :: l => mk x t :: mkL (x + cn t) l
/-- How many numbers a list's marks take. -/
def cnL : List τ → Int
  | [] => 0
  | t :: l => cn t + cnL l
/-- The first k marked, the rest as they were. -/
def midL (x : Int) (l : List τ) (k : Nat) : List τ := mkL mk cn x (l.take k) ++ l.drop k
variable {mk cn}
theorem mkL_length : ∀ (x : Int) (l : List τ), (mkL mk cn x l).length = l.length
  | _, [] => rfl
  | x, t :: l => by simp [mkL, mkL_length _ l]
theorem cnL_take {l : List τ} {k : Nat} {t : τ} (h : l[k]? = some t) : cnL cn (l.take (k + 1)) = cnL cn (l.take k) + cn t := by
  induction l generalizing k with
  | nil => simp at h
  | cons u l ih =>
    cases k with
    | zero => simp at h; subst h; simp [cnL]
    | succ k => simp at h; simp [cnL, ih h]; omega
theorem mkL_snoc : ∀ (x : Int) (l : List τ) (t : τ), mkL mk cn x (l ++ [t]) = mkL mk cn x l ++ [mk (x + cnL cn l) t]
  | x, [], t => by simp [mkL, cnL]
  | x, u :: l, t => by simp [mkL, cnL, mkL_snoc _ l t, Int.add_assoc]
theorem mkL_at : ∀ (x : Int) (l : List τ) {k : Nat} {t : τ}, l[k]? = some t → (mkL mk cn x l)[k]? = some (mk (x + cnL cn (l.take k)) t)
  | x, [], k, t, h => by simp at h
  | x, u :: l, 0, t, h => by simp at h; subst h; simp [mkL, cnL]
  | x, u :: l, k + 1, t, h => by simp at h; simp [mkL, cnL, mkL_at _ l h, Int.add_assoc]
theorem cnL_nonneg (hc : ∀ t, 0 ≤ cn t) : ∀ l : List τ, 0 ≤ cnL cn l
  | [] => by simp [cnL]
  | t :: l => by have := cnL_nonneg hc l; have := hc t; simp [cnL]; omega
theorem cnL_le {M : Int} : ∀ (l : List τ), (∀ t ∈ l, cn t ≤ M) → cnL cn l ≤ (l.length : Int) * M
  | [], _ => by simp [cnL]
  | t :: l, h => by
    have h1 := cnL_le l fun u hu => h u (List.mem_cons_of_mem _ hu)
    have h2 := h t (List.mem_cons_self ..)
    simp only [cnL, List.length_cons]
    have : ((l.length + 1 : Nat) : Int) * M = (l.length : Int) * M + M := by rw [Int.natCast_add]; simp [Int.add_mul]
    omega
theorem cnL_prefix_le (hc : ∀ t, 0 ≤ cn t) : ∀ (l : List τ) (k : Nat), cnL cn (l.take k) ≤ cnL cn l
  | [], k => by simp [cnL]
  | t :: l, 0 => by have := cnL_nonneg hc (t :: l); simpa [cnL] using this
  | t :: l, k + 1 => by have := cnL_prefix_le hc l k; simp [cnL]; omega
theorem cnL_mk (hm : ∀ x t, cn (mk x t) = cn t) : ∀ (x : Int) (l : List τ), cnL cn (mkL mk cn x l) = cnL cn l
  | x, [] => rfl
  | x, t :: l => by simp [mkL, cnL, hm, cnL_mk hm _ l]
theorem midL_zero (x : Int) (l : List τ) : midL mk cn x l 0 = l := by simp [midL, mkL]
theorem midL_all (x : Int) (l : List τ) : midL mk cn x l l.length = mkL mk cn x l := by simp [midL]
theorem midL_length (x : Int) (l : List τ) {k : Nat} (hk : k ≤ l.length) : (midL mk cn x l k).length = l.length := by simp [midL, mkL_length]; omega
theorem midL_at (x : Int) {l : List τ} {k : Nat} {t : τ} (h : l[k]? = some t) : (midL mk cn x l k)[k]? = some t := by
  have hk := (List.getElem?_eq_some_iff.1 h).1
  unfold midL
  rw [List.getElem?_append_right (by rw [mkL_length, List.length_take]; omega), mkL_length, List.length_take, Nat.min_eq_left (by omega), Nat.sub_self, List.getElem?_drop, Nat.add_zero, h]
theorem midL_set (x : Int) {l : List τ} {k : Nat} {t : τ} (h : l[k]? = some t) : (midL mk cn x l k).set k (mk (x + cnL cn (l.take k)) t) = midL mk cn x l (k + 1) := by
  have hk := (List.getElem?_eq_some_iff.1 h).1
  have e : l.take (k + 1) = l.take k ++ [t] := by rw [List.take_add_one, h]; rfl
  have e2 : l.drop k = t :: l.drop (k + 1) := by rw [List.drop_eq_getElem_cons hk, (List.getElem?_eq_some_iff.1 h).2]
  unfold midL
  rw [e, mkL_snoc, e2, List.set_append_right _ _ (by rw [mkL_length, List.length_take]; omega), mkL_length, List.length_take, Nat.min_eq_left (by omega), Nat.sub_self]
  simp
end

set_option maxHeartbeats 1000000 in
theorem markX_any (x : Int) (w : World) (h0 : 0 < x) (hn : x ≤ 4611686018427387904) :
    Calls Try.prog 55 #[.int .i64 x] w fun e w' => e = .returned (.string (mkT x)) ∧ Below w.heap.size w w' := by
  obtain ⟨n, rfl⟩ : ∃ n : Nat, x = (n : Int) := ⟨x.toNat, by omega⟩
  have hz : decide ((n : Int) ≤ 0) = false := decide_eq_false (by omega)
  go_enter Try.func55, Try.ntmps55
  go_wp2
  go_loopw [0, 3] (fun c st wr => ∃ (m : Nat) (t : List Int), c = .int .i64 m ∧ st = .string (bstr t) ∧ m ≤ n ∧ Hid (decI n = decPre m ++ t) ∧ Below w.heap.size w wr) (fun c _ _ => (intOf c).toNat)
  case atStart => exact ⟨n, [], rfl, rfl, by simp, (by show decI n = decPre n ++ []; unfold decPre; rw [if_neg (by omega)]; simp), Below.refl _ _⟩
  case round =>
    obtain ⟨m, t, rfl, rfl, hle, HE, hbel⟩ := hrel
    have hsz := hbel.size
    have htl := told_len (by omega) HE
    by_cases hm : m = 0
    · subst hm
      have hadd : ∀ wx, (Op.stringOp .add { data := #[109] } (bstr t)).run Try.prog wx = .ok (.string (bstr (109 :: t))) wx := run_add_one 109 t htl
      go_wp2
      go_ret
      exact ⟨by unfold mkT markB; rw [Int.toNat_natCast, HE.out]; rfl, hbel⟩
    · have hm2 : 0 < m := by omega
      have hcv := run_one_string wr (48 + (m : Int) % 10)
      have hadd := run_add_one (48 + (m : Int) % 10) t htl
      go_wp2
      go_roundw
      case rel => exact ⟨m / 10, (48 + (m : Int) % 10) :: t, by go_num, rfl, by omega, (by show decI n = _; rw [HE.out, decPre_step hm]), hbel.alloc hsz _⟩
      case measure => simp [intOf]; omega
set_option maxHeartbeats 1000000 in
theorem markXS_none (ao : Option Addr) (c : Nat) (x : Int) (w : World) :
    Calls Try.prog 75 #[.slice ao 0 c, .int .i64 x] w fun e w' => e = .returned (.int .i64 x) ∧ Below w.heap.size w w' := by
  go_enter Try.func75, Try.ntmps75
  go_wp2
  refine wp_loop_rounds 1 ?_
  rw [rounds_succ]
  go_wp2
  go_ret
  exact ⟨rfl, Below.refl _ _⟩
theorem tx_ownX {w : World} {B : Nat} {g n cap : Nat} {l : List ByteArray} (h : ownsR w B 9 (.slice (some ⟨g, 0, none⟩) n cap) l) {i : Nat} {y : ByteArray} (hi : l[i]? = some y) :
    g < w.heap.size ∧ w.cell? ⟨g, i, none⟩ = some (.string y) ∧ w.frozen? ⟨g, i, none⟩ = false := by
  obtain ⟨h1, _, _, h2⟩ := h.at hi
  have h3 := h2 0 (by decide)
  simp only [tx_width, Nat.mul_one, Nat.add_zero] at h3
  exact ⟨h1, h3.1, h3.2⟩
set_option maxRecDepth 10000 in
set_option maxHeartbeats 2000000 in
theorem markXS_some (g n c B : Nat) (x : Int) (l : List ByteArray) (w : World) (ho : ownsR w B 9 (.slice (some ⟨g, 0, none⟩) n c) l) (hn : n ≤ 1048577) (hx0 : 0 < x) (hx : x ≤ 4000000000000000000) :
    Calls Try.prog 75 #[.slice (some ⟨g, 0, none⟩) n c, .int .i64 x] w fun e w' => e = .returned (.int .i64 (x + n)) ∧ ownsR w' B 9 (.slice (some ⟨g, 0, none⟩) n c) (marksR mkT 1 x n) ∧ w.grownBy w' (some g) := by
  have HN : Hid (n = l.length) := ho.reads.len
  have HO : Hid (ownsR w B 9 (.slice (some ⟨g, 0, none⟩) n c) l) := ho
  clear ho
  go_enter Try.func75, Try.ntmps75
  go_wp2
  go_loopw [1, 5] (fun q i wr => ∃ k : Nat, k ≤ n ∧ i = .int .i64 k ∧ q = .int .i64 (x + k) ∧ Hid (ownsR wr B 9 (.slice (some ⟨g, 0, none⟩) n c) (markedR mkT 1 x l k)) ∧ w.grownBy wr (some g)) (fun _ i _ => n - (intOf i).toNat)
  case atStart => exact ⟨0, Nat.zero_le _, rfl, by simp, markedR_zero HO, grown_refl _ _⟩
  case round =>
    obtain ⟨k, hk, rfl, rfl, HL, hbel⟩ := hrel
    by_cases hlt : k < n
    · obtain ⟨f, hf⟩ : ∃ f, l[k]? = some f := ⟨_, List.getElem?_eq_getElem (by rw [← HN.out]; exact hlt)⟩
      have HF : Hid (l[k]? = some f) := hf
      clear hf
      go_wp2_with fail
      refine (markX_any (x + k) _ (by omega) (by omega)).mono ?_
      rintro e w1 ⟨rfl, hb1⟩
      have h3 := HL.out.all hb1
      obtain ⟨hgs, d0, f0⟩ := tx_ownX h3 (markedR_at HF.out)
      have HR : Hid (ownsR (w1.setCell ⟨g, k, none⟩ (.string (mkT (x + k)))) B 9 (.slice (some ⟨g, 0, none⟩) n c) (markedR mkT 1 x l (k + 1))) := by
        have := tx_put h3 (mkT (x + k)) (markedR_at HF.out)
        rw [show x + (k : Int) = x + 1 * (k : Int) by omega, markedR_set HF.out] at this
        rw [show x + (k : Int) = x + 1 * (k : Int) by omega]
        exact this
      have HG : Hid (w.grownBy (w1.setCell ⟨g, k, none⟩ (.string (mkT (x + k)))) (some g)) := grown_trans (grown_trans hbel (grown_of_below hb1 _)) (grown_set _ _ _ _)
      clear h3 hb1 HL
      go_wp2
      go_roundw
      case rel => exact ⟨k + 1, by omega, by go_num, by go_num, HR, HG.out⟩
      case measure => simp [intOf]; omega
    · have hkn : k = n := by omega
      have R : ownsR wr B 9 (.slice (some ⟨g, 0, none⟩) n c) (marksR mkT 1 x n) := by
        have h := HL.out
        have e := markedR_all mkT 1 x l
        rw [← HN.out] at e
        rw [hkn, e] at h
        exact h
      subst hkn
      go_wp2
      go_ret
      exact ⟨by simp, R, hbel⟩
theorem markXS_any {w : World} {B : Nat} {x : Int} {v : Value} {l : List ByteArray} (ho : ownsR w B 9 v l) (hn : l.length ≤ 1048577) (hx0 : 0 < x) (hx : x ≤ 4000000000000000000) :
    Calls Try.prog 75 #[v, .int .i64 x] w fun e w' => e = .returned (.int .i64 (x + (l.length : Int))) ∧ ownsR w' B 9 v (marksR mkT 1 x l.length) ∧ w.grownBy w' v.ownBlock := by
  have ho2 := ho
  rcases ho.2 with ⟨rfl, h0⟩ | ⟨g, cap, cur, rfl, _⟩
  · have hl : l = [] := List.eq_nil_of_length_eq_zero h0
    subst hl
    exact (markXS_none none 0 x w).mono fun e w' ⟨he, h⟩ => ⟨by simpa using he, ownsR_nil _ _ _, grown_of_below h _⟩
  · exact markXS_some g l.length cap B x l w ho2 hn hx0 hx
set_option maxRecDepth 10000 in
set_option maxHeartbeats 2000000 in
theorem heldXS_any (ao : Option Addr) (n c : Nat) (x : Int) (w : World) (hr : Reads w (.slice ao n c) (marksR mkT 1 x n)) (hn : n ≤ 1048577) (hx0 : 0 < x) (hx : x ≤ 4000000000000000000) :
    Calls Try.prog 76 #[.slice ao n c, .int .i64 x] w fun e w' => e = .returned (.int .i64 (x + (n : Int))) ∧ Below w.heap.size w w' := by
  have HR : Hid (Reads w (.slice ao n c) (marksR mkT 1 x n)) := hr
  clear hr
  go_enter Try.func76, Try.ntmps76
  go_wp2
  go_loopw [1, 5] (fun q i wr => ∃ k : Nat, k ≤ n ∧ i = .int .i64 k ∧ q = .int .i64 (x + (k : Int)) ∧ Below w.heap.size w wr) (fun _ i _ => n - (intOf i).toNat)
  case atStart => exact ⟨0, Nat.zero_le _, rfl, by simp, Below.refl _ _⟩
  case round =>
    obtain ⟨k, hk, rfl, rfl, hbel⟩ := hrel
    have hsz := hbel.size
    by_cases hlt : k < n
    · obtain ⟨b, o, rfl, hb, c0⟩ := text_at (HR.out.below hbel) (marksR_at (mk := mkT) (s := 1) (x := x) hlt)
      replace c0 : wr.cell? ⟨b, o + k, none⟩ = some (.string (mkT (x + (k : Int)))) := by rw [c0]; congr 3; omega
      go_wp2
      go_region_held (fun w' => w'.cell? ⟨b, o + k, none⟩ = some (.string (mkT (x + (k : Int))))) ((first | exact c0 | exact (hb2.cell (p := ⟨b, o + k, none⟩) hb).trans c0)) ((go_at_call 55; refine (markX_any (x + (k : Int)) _ (by omega) (by omega)).mono ?_; rintro e w2 ⟨rfl, hb2⟩))
      go_wp2
      go_roundw
      case rel => exact ⟨k + 1, by omega, by go_num, by go_num, hbel.trans (((Below.refl _ _).drew.trans hb2).mono hsz)⟩
      case measure => simp [intOf]; omega
    · have hkn : k = n := by omega
      subst hkn
      go_wp2
      go_ret
      exact ⟨rfl, hbel⟩
end Go.Proofs.Ytkfhmeiiicidaaa

namespace Go.Proofs.Ytkfhmeiiicidaaa
open Go Go.RowKit
set_option linter.unusedVariables false

/-- A task whose row of names lies between two blocks. -/
structure OneTkI (lo hi : Nat) (w : World) (k : Tk) (t : Ta) : Prop where
  name : k.name = t.name
  pool : k.pool = t.pool
  ret : k.ret = t.ret
  past : k.past = t.past
  own : ownsR w lo 9 k.after t.after
  top : ∀ q, k.after.ownBlock = some q → q < hi
theorem keepTk : KeepI OneTkI := fun lo hi w W k t h hW => ⟨h.name, h.pool, h.ret, h.past, h.own.hold fun q hq => hW q (h.own.lt q hq).1 (h.top q hq) (h.own.lt q hq).2, h.top⟩
theorem OneTkI.one {lo hi : Nat} {w : World} {k : Tk} {t : Ta} (h : OneTkI lo hi w k t) : OneT w k t := ⟨h.name, h.pool, h.ret, h.past, h.own.reads⟩
/-- Tasks whose rows lie between two blocks. -/
def TasksI (lo hi : Nat) (w : World) (v : Value) (ts : List Ta) : Prop := ∃ ks a b, DK OneTkI 109 lo hi w v ks a b ts
theorem TasksI.tasks {lo hi : Nat} {w : World} {v : Value} {ts : List Ta} (h : TasksI lo hi w v ts) : Tasks w v ts := by
  obtain ⟨ks, a, b, h⟩ := h
  exact ⟨ks, h.own.reads, h.len, fun i t ht => by obtain ⟨k, hk, _, _, ho⟩ := h.got ht; exact ⟨k, hk, ho.one⟩⟩
theorem TasksI.keep {lo hi : Nat} {w W : World} {v : Value} {ts : List Ta} (h : TasksI lo hi w v ts) (hW : ∀ q, lo ≤ q → q < hi → q < w.heap.size → W.heap[q]? = w.heap[q]?) : TasksI lo hi W v ts := by
  obtain ⟨ks, a, b, h⟩ := h
  exact ⟨ks, a, b, h.keep keepTk hW⟩
theorem TasksI.up {lo hi : Nat} {w W : World} {v : Value} {ts : List Ta} (h : TasksI lo hi w v ts) (hb : Below w.heap.size w W) : TasksI lo hi W v ts := h.keep fun q _ _ hq => hb.block q hq
def mkTa (x : Int) (t : Ta) : Ta := ⟨mkT x, mkT (x + 1), x + 1 + 1, (x + 1 + 1 + 1) % 3 == 0, marksR mkT 1 (x + 1 + 1 + 1 + 1) t.after.length⟩
def cnTa (t : Ta) : Int := 4 + (t.after.length : Int)
theorem cnTa_nonneg (t : Ta) : 0 ≤ cnTa t := by unfold cnTa; omega
theorem tk_ownX {w : World} {B : Nat} {g n cap : Nat} {l : List Tk} (h : ownsR w B 109 (.slice (some ⟨g, 0, none⟩) n cap) l) {i : Nat} {x : Tk} (hi : l[i]? = some x) :
    g < w.heap.size ∧ (∀ j, j < 5 → w.frozen? ⟨g, i * 5 + j, none⟩ = false) ∧ w.cell? ⟨g, i * 5, none⟩ = some (.string x.name) ∧ w.cell? ⟨g, i * 5 + 1, none⟩ = some (.string x.pool) ∧ w.cell? ⟨g, i * 5 + 2, none⟩ = some (.int .i64 x.ret) ∧ w.cell? ⟨g, i * 5 + 3, none⟩ = some (.bool x.past) ∧ w.cell? ⟨g, i * 5 + 4, none⟩ = some x.after := by
  obtain ⟨h1, _, _, h2⟩ := h.at hi
  exact ⟨h1, fun j hj => (h2 j hj).2, (h2 0 (by decide)).1, (h2 1 (by decide)).1, (h2 2 (by decide)).1, (h2 3 (by decide)).1, (h2 4 (by decide)).1⟩
set_option maxHeartbeats 1000000 in
theorem markTaI_none (ao : Option Addr) (c : Nat) (x : Int) (w : World) :
    Calls Try.prog 56 #[.slice ao 0 c, .int .i64 x] w fun e w' => e = .returned (.int .i64 x) ∧ Below w.heap.size w w' := by
  go_enter Try.func56, Try.ntmps56
  go_wp2
  refine wp_loop_rounds 1 ?_
  rw [rounds_succ]
  go_wp2
  go_ret
  exact ⟨rfl, Below.refl _ _⟩
set_option maxRecDepth 10000 in
set_option maxHeartbeats 4000000 in
theorem markTaI_some {lo hi g n c : Nat} {w : World} {ks : List Tk} {a b : Nat → Nat} {ts : List Ta} (x : Int) (h : DK OneTkI 109 lo hi w (.slice (some ⟨g, 0, none⟩) n c) ks a b ts) (hn : n ≤ 1048576) (ha : ∀ t ∈ ts, t.after.length ≤ 1048576) (hx0 : 0 < x) (hx : x ≤ 2000000000000000000) :
    Calls Try.prog 56 #[.slice (some ⟨g, 0, none⟩) n c, .int .i64 x] w fun e w' => e = .returned (.int .i64 (x + cnL cnTa ts)) ∧ TasksI lo hi w' (.slice (some ⟨g, 0, none⟩) n c) (mkL mkTa cnTa x ts) ∧ Twi lo hi w w' := by
  have HN : Hid (ts.length = n) := by rw [← h.len]; exact h.own.reads.len.symm
  have hgl : lo ≤ g := (h.own.lt g rfl).1
  have hgh : g < hi := h.top g rfl
  have HB : Hid (∀ k, k ≤ n → 0 ≤ cnL cnTa (ts.take k) ∧ cnL cnTa (ts.take k) ≤ 1099516870656) := fun k hk => by
    refine ⟨cnL_nonneg cnTa_nonneg _, ?_⟩
    have h1 := cnL_le (cn := cnTa) (M := 1048580) (ts.take k) fun t ht => by have := ha t (List.mem_of_mem_take ht); unfold cnTa; omega
    have h2 : (ts.take k).length ≤ 1048576 := by rw [List.length_take]; omega
    have h3 : ((ts.take k).length : Int) * 1048580 ≤ 1048576 * 1048580 := Int.mul_le_mul_of_nonneg_right (by omega) (by decide)
    omega
  have HA : Hid (∀ t ∈ ts, t.after.length ≤ 1048576) := ha
  have H0 : Hid (∃ ks, DK OneTkI 109 lo hi w (.slice (some ⟨g, 0, none⟩) n c) ks a b (midL mkTa cnTa x ts 0)) := ⟨ks, by rw [midL_zero]; exact h⟩
  clear h ha
  go_enter Try.func56, Try.ntmps56
  go_wp2
  go_loopw [1, 5] (fun q i wr => ∃ (k : Nat) (y : Int), k ≤ n ∧ i = .int .i64 k ∧ q = .int .i64 y ∧ y = x + cnL cnTa (ts.take k) ∧ Hid (∃ ks, DK OneTkI 109 lo hi wr (.slice (some ⟨g, 0, none⟩) n c) ks a b (midL mkTa cnTa x ts k)) ∧ Hid (Twi lo hi w wr)) (fun _ i _ => n - (intOf i).toNat)
  case atStart => exact ⟨0, x, Nat.zero_le _, rfl, rfl, by simp [cnL], H0, Twi.refl _ _ _⟩
  case round =>
    clear H0
    obtain ⟨k, y, hk, rfl, rfl, hy, HK, HT⟩ := hrel
    have HY : Hid (y = x + cnL cnTa (ts.take k)) := hy
    have hy1 : 0 < y := by have := (HB.out k hk).1; omega
    have hy2 : y ≤ 2000000000000000000 + 1099516870656 := by have := (HB.out k hk).2; omega
    clear hy
    by_cases hlt : k < n
    · obtain ⟨ks, hks⟩ := HK.out
      obtain ⟨t, ht⟩ : ∃ t, ts[k]? = some t := ⟨_, List.getElem?_eq_getElem (by rw [HN.out]; exact hlt)⟩
      have HTT : Hid (ts[k]? = some t) := ht
      obtain ⟨z, hz, ha1, hb1, hz1⟩ := hks.got (midL_at x ht)
      have HZ : Hid (ks[k]? = some z) := hz
      have hkl : Hid (k < ks.length) := (List.getElem?_eq_some_iff.1 hz).1
      have hll : Hid (k < (midL mkTa cnTa x ts k).length) := (List.getElem?_eq_some_iff.1 (midL_at x ht)).1
      have HKS : Hid (DK OneTkI 109 lo hi wr (.slice (some ⟨g, 0, none⟩) n c) ks a b (midL mkTa cnTa x ts k)) := hks
      have hm : t.after.length ≤ 1048576 := HA.out t (List.mem_of_getElem? ht)
      obtain ⟨m, HM⟩ : ∃ m, Hid (t.after.length = m) := ⟨_, rfl⟩
      rw [HM.out] at hm
      obtain ⟨av, HAV⟩ : ∃ av, Hid (z.after = av) := ⟨_, rfl⟩
      clear hks hz hz1 HK ht
      go_wp2_with fail
      refine (markX_any y _ hy1 (by omega)).mono ?_
      rintro e w1 ⟨rfl, hb1'⟩
      have HK1 : Hid (DK OneTkI 109 lo hi w1 (.slice (some ⟨g, 0, none⟩) n c) ks a b (midL mkTa cnTa x ts k)) := HKS.out.up keepTk hb1'
      obtain ⟨hg1, f1, d0, -⟩ := tk_ownX HK1.out.own HZ.out
      have f0 : w1.frozen? ⟨g, k * 5, none⟩ = false := f1 0 (by decide)
      obtain ⟨W2, hW2⟩ : ∃ W2, w1.setCell ⟨g, k * 5, none⟩ (.string (mkT y)) = W2 := ⟨_, rfl⟩
      have HK2 : Hid (DK OneTkI 109 lo hi W2 (.slice (some ⟨g, 0, none⟩) n c) (ks.set k { z with name := mkT y }) a b ((midL mkTa cnTa x ts k).set k { t with name := mkT y })) := by
        rw [← hW2]
        exact HK1.out.set keepTk (j := 0) HZ.out (midL_at x HTT.out) { z with name := mkT y } { t with name := mkT y } (by decide) rfl fun a b W h => ⟨rfl, h.pool, h.ret, h.past, h.own, h.top⟩
      have HT2 : Hid (Twi lo hi w W2) := by rw [← hW2]; exact (HT.out.up hb1').set (p := ⟨g, k * 5, none⟩) hgl hgh _
      clear hb1' HK1 HKS HT f1
      go_wp2_with fail
      refine (markX_any (y + 1) _ (by omega) (by omega)).mono ?_
      rintro e w3 ⟨rfl, hb3⟩
      have HK3 : Hid (DK OneTkI 109 lo hi w3 (.slice (some ⟨g, 0, none⟩) n c) (ks.set k { z with name := mkT y }) a b ((midL mkTa cnTa x ts k).set k { t with name := mkT y })) := HK2.out.up keepTk hb3
      have HT3 : Hid (Twi lo hi w w3) := HT2.out.up hb3
      have HZ3 : Hid ((ks.set k { z with name := mkT y })[k]? = some { z with name := mkT y }) := List.getElem?_set_self hkl.out
      have HL3 : Hid (((midL mkTa cnTa x ts k).set k { t with name := mkT y })[k]? = some { t with name := mkT y }) := List.getElem?_set_self hll.out
      clear hb3 HK2 HT2 hW2 d0 f0 hg1
      obtain ⟨hg3, f3, -, d1, d2, d3, d4⟩ := tk_ownX HK3.out.own HZ3.out
      have f1 : w3.frozen? ⟨g, k * 5 + 1, none⟩ = false := f3 1 (by decide)
      have f2 : w3.frozen? ⟨g, k * 5 + 2, none⟩ = false := f3 2 (by decide)
      have f4 : w3.frozen? ⟨g, k * 5 + 3, none⟩ = false := f3 3 (by decide)
      obtain ⟨V, HV⟩ : ∃ V, Hid (((w3.setCell ⟨g, k * 5 + 1, none⟩ (.string (mkT (y + 1)))).setCell ⟨g, k * 5 + 2, none⟩ (.int .i64 (y + 1 + 1))).setCell ⟨g, k * 5 + 3, none⟩ (.bool ((y + 1 + 1 + 1) % 3 == 0)) = V) := ⟨_, rfl⟩
      have HK5 : Hid (DK OneTkI 109 lo hi V (.slice (some ⟨g, 0, none⟩) n c) (ks.set k ⟨mkT y, mkT (y + 1), y + 1 + 1, (y + 1 + 1 + 1) % 3 == 0, z.after⟩) a b ((midL mkTa cnTa x ts k).set k ⟨mkT y, mkT (y + 1), y + 1 + 1, (y + 1 + 1 + 1) % 3 == 0, t.after⟩)) := by
        rw [← HV.out]
        have h1 := HK3.out.set keepTk (j := 1) HZ3.out HL3.out { z with name := mkT y, pool := mkT (y + 1) } { t with name := mkT y, pool := mkT (y + 1) } (u := .string (mkT (y + 1))) (by decide) rfl fun a b W h => ⟨rfl, rfl, h.ret, h.past, h.own, h.top⟩
        rw [List.set_set, List.set_set] at h1
        have h2 := h1.set keepTk (j := 2) (List.getElem?_set_self hkl.out) (List.getElem?_set_self hll.out) { z with name := mkT y, pool := mkT (y + 1), ret := y + 1 + 1 } { t with name := mkT y, pool := mkT (y + 1), ret := y + 1 + 1 } (u := .int .i64 (y + 1 + 1)) (by decide) rfl fun a b W h => ⟨rfl, rfl, rfl, h.past, h.own, h.top⟩
        rw [List.set_set, List.set_set] at h2
        have h3 := h2.set keepTk (j := 3) (List.getElem?_set_self hkl.out) (List.getElem?_set_self hll.out) ⟨mkT y, mkT (y + 1), y + 1 + 1, (y + 1 + 1 + 1) % 3 == 0, z.after⟩ ⟨mkT y, mkT (y + 1), y + 1 + 1, (y + 1 + 1 + 1) % 3 == 0, t.after⟩ (u := .bool ((y + 1 + 1 + 1) % 3 == 0)) (by decide) rfl fun a b W h => ⟨rfl, rfl, rfl, rfl, h.own, h.top⟩
        rw [List.set_set, List.set_set] at h3
        exact h3
      have HT5 : Hid (Twi lo hi w V) := by rw [← HV.out]; exact ((HT3.out.set (p := ⟨g, k * 5 + 1, none⟩) hgl hgh _).set (p := ⟨g, k * 5 + 2, none⟩) hgl hgh _).set (p := ⟨g, k * 5 + 3, none⟩) hgl hgh _
      have HMS : Hid (Calls Try.prog 75 #[av, .int .i64 (y + 1 + 1 + 1 + 1)] V fun e w' => e = .returned (.int .i64 (y + 1 + 1 + 1 + 1 + m)) ∧ (∃ ks, DK OneTkI 109 lo hi w' (.slice (some ⟨g, 0, none⟩) n c) ks a b (midL mkTa cnTa x ts (k + 1))) ∧ Twi lo hi w w') := by
        obtain ⟨e1, e2, e3⟩ := HK5.out.el k _ _ (List.getElem?_set_self hkl.out) (List.getElem?_set_self hll.out)
        have ho : ownsR V (a k) 9 z.after t.after := e3.own
        have htp : ∀ q, z.after.ownBlock = some q → q < b k := e3.top
        rw [← HAV.out, ← HM.out]
        refine (markXS_any (x := y + 1 + 1 + 1 + 1) ho (by rw [HM.out]; omega) (by omega) (by omega)).mono ?_
        rintro e w' ⟨rfl, ho', hg'⟩
        have hout : ∀ q, q < V.heap.size → (q < a k ∨ b k ≤ q) → w'.heap[q]? = V.heap[q]? := fun q hq h1 => hg'.block q hq fun e => by
          have h2 := (ho.lt q e.symm).1
          have h3 := htp q e.symm
          omega
        refine ⟨rfl, ⟨ks.set k ⟨mkT y, mkT (y + 1), y + 1 + 1, (y + 1 + 1 + 1) % 3 == 0, z.after⟩, ?_⟩, ⟨hg'.os.trans HT5.out.os, hg'.tape.trans HT5.out.tape, hg'.output.trans HT5.out.output, Nat.le_trans HT5.out.size hg'.size, fun q hq h1 => (hout q (Nat.lt_of_lt_of_le hq HT5.out.size) (by omega)).trans (HT5.out.block q hq h1)⟩⟩
        have := HK5.out.nest keepTk (List.getElem?_set_self hkl.out) (List.getElem?_set_self hll.out) (mkTa y t) (W := w') ⟨rfl, rfl, rfl, rfl, ho', htp⟩ hout
        rw [List.set_set, HY.out, midL_set x HTT.out] at this
        rw [HY.out]
        exact this
      rw [show ({ z with name := mkT y } : Tk).after = z.after from rfl, HAV.out] at d4
      have HC : Hid (x + cnL cnTa (ts.take (k + 1)) = y + 1 + 1 + 1 + 1 + m) := by
        show _ = _
        rw [cnL_take HTT.out, HY.out, cnTa, HM.out]
        omega
      clear HK3 HT3 f3 HZ3 HL3 HK5 HT5 HY HAV HM HZ HTT hkl hll
      go_wp2_with fail
      rw [HV.out]
      refine HMS.out.mono ?_
      rintro e w5 ⟨rfl, hk5, hT5⟩
      have HK6 : Hid (∃ ks, DK OneTkI 109 lo hi w5 (.slice (some ⟨g, 0, none⟩) n c) ks a b (midL mkTa cnTa x ts (k + 1))) := hk5
      have HT6 : Hid (Twi lo hi w w5) := hT5
      clear hk5 hT5 HMS HV d1 d2 d3 d4 f1 f2 f4
      go_wp2
      go_roundw
      case rel => exact ⟨k + 1, y + 1 + 1 + 1 + 1 + m, by omega, by go_num, rfl, HC.out.symm, HK6, HT6⟩
      case measure => simp [intOf]; omega
    · have hkn : k = ts.length := by rw [HN.out]; omega
      have HR : Hid (TasksI lo hi wr (.slice (some ⟨g, 0, none⟩) n c) (mkL mkTa cnTa x ts)) := by
        obtain ⟨ks, h⟩ := HK.out
        rw [hkn, midL_all] at h
        exact ⟨ks, a, b, h⟩
      have HE : Hid (y = x + cnL cnTa ts) := by rw [hkn, List.take_length] at HY; exact HY
      clear HK HY hkn
      go_wp2
      go_ret
      exact ⟨by rw [HE.out]; rfl, HR.out, HT.out⟩
theorem markTaI_any {lo hi : Nat} {w : World} {v : Value} {ts : List Ta} (x : Int) (h : TasksI lo hi w v ts) (hn : ts.length ≤ 1048576) (ha : ∀ t ∈ ts, t.after.length ≤ 1048576) (hx0 : 0 < x) (hx : x ≤ 2000000000000000000) :
    Calls Try.prog 56 #[v, .int .i64 x] w fun e w' => e = .returned (.int .i64 (x + cnL cnTa ts)) ∧ TasksI lo hi w' v (mkL mkTa cnTa x ts) ∧ Twi lo hi w w' := by
  obtain ⟨ks, a, b, h⟩ := h
  have hl : ks.length = ts.length := h.len
  rcases h.own.2 with ⟨rfl, h0⟩ | ⟨g, cap, cur, rfl, _⟩
  · have hl0 : ts = [] := List.eq_nil_of_length_eq_zero (by rw [← hl]; exact h0)
    subst hl0
    exact (markTaI_none none 0 x w).mono fun e w' ⟨he, hb⟩ => ⟨by simpa [cnL] using he, ⟨[], fun _ => 0, fun _ => 0, dk_none _ _ _ _ _⟩, Twi.of_below hb⟩
  · exact markTaI_some x h (by rw [hl]; exact hn) ha hx0 hx
end Go.Proofs.Ytkfhmeiiicidaaa
