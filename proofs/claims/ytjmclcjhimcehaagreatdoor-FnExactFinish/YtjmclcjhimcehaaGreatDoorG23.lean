/-
  Whether a plan is right, as the program asks it: the walk of DagOk. What lies there while the program puts tasks into their order. The places that a task is after, as the program tells them: the walks.
-/
import Derived.Test.YtjmclcjhimcehaaGreatDoorG18
import Derived.Test.YtjmclcjhimcehaaGreatDoorG21
import Derived.Test.YtjmclcjhimcehaaGreatDoorG22
import Derived.Test.YtjmclcjhimcehaaGreatDoorG19
namespace Go.Proofs.YtjmclcjhimcehaaGreatDoor
open Go Go.RowKit

/-- A plan that lies there as the program's walks ask it. -/
structure DagI (w : World) (ao : Option Addr) (n cap : Nat) (d : Dg) : Prop where
  tasks : Tasks w (.slice ao n cap) d.tasks
  room : n ≤ cap
  few : n ≤ 1048577
  small : ∀ t ∈ d.tasks, Sm t
  cron : d.cron.size ≤ 1048576
  name : d.name.size ≤ 9223372036854775807
theorem DagI.below {w w' : World} {ao : Option Addr} {n cap : Nat} {d : Dg} (h : DagI w ao n cap d) (hb : Below w.heap.size w w') : DagI w' ao n cap d := ⟨h.tasks.below hb, h.room, h.few, h.small, h.cron, h.name⟩
set_option maxRecDepth 10000 in
set_option maxHeartbeats 4000000 in
theorem implDagOk_any (ao : Option Addr) (n cap : Nat) (nm cr : ByteArray) (fr up : Int) (cu : Bool) (ts : List Ta) (w : World) (hd : DagI w ao n cap ⟨nm, cr, fr, up, cu, ts⟩) (hg : Gl w) :
    Calls Tryz.prog 38 #[.agg #[.string nm, .string cr, .int .i64 fr, .int .i64 up, .bool cu, .slice ao n cap]] w fun e w' => e = .returned (.bool (dagB ⟨nm, cr, fr, up, cu, ts⟩)) ∧ Below w.heap.size w w' := by
  have H1 : Hid (∀ W, Below w.heap.size w W → Calls Tryz.prog 95 #[.string cr] W fun e w' => e = .returned (.tuple #[.string (againS cr), .bool (pcO cr).isSome]) ∧ Below W.heap.size W w') := fun W hb => cronTextOf_any cr W hd.cron (hg.up hb)
  have H2 : Hid (∀ W, Calls Tryz.prog 96 #[.string nm] W fun e w' => e = .returned (.bool (nameB nm)) ∧ Below W.heap.size W w') := fun W => implName_any nm W hd.name
  have H3 : Hid (∀ W, Below w.heap.size w W → Calls Tryz.prog 97 #[.slice ao n cap] W fun e w' => e = .returned (.bool (areB ts)) ∧ Below W.heap.size W w') := fun W hb => areTasks_any ao n cap ts W (hd.tasks.below hb) hd.room hd.few hd.small
  have HD : Hid (dagB ⟨nm, cr, fr, up, cu, ts⟩ = (nameB nm && ((pcO cr).isSome && (decide (againS cr = cr) && (decide (0 ≤ fr) && (decide (fr ≤ up) && (decide (up ≤ 68374079) && areB ts))))))) := dag_same _
  clear hd hg
  obtain ⟨R, HR⟩ : ∃ R, Hid (dagB ⟨nm, cr, fr, up, cu, ts⟩ = R) := ⟨_, rfl⟩
  obtain ⟨q1, HQ1⟩ : ∃ q, Hid (nameB nm = q) := ⟨_, rfl⟩
  obtain ⟨q2, HQ2⟩ : ∃ q, Hid ((pcO cr).isSome = q) := ⟨_, rfl⟩
  obtain ⟨tx, HTX⟩ : ∃ x, Hid (againS cr = x) := ⟨_, rfl⟩
  obtain ⟨q7, HQ7⟩ : ∃ q, Hid (areB ts = q) := ⟨_, rfl⟩
  rw [HR.out] at HD ⊢
  rw [HQ1.out] at H2 HD
  rw [HQ2.out, HTX.out] at H1 HD
  rw [HQ7.out] at H3 HD
  clear HR HQ1 HQ2 HTX HQ7
  obtain ⟨W0, hW0⟩ : ∃ W0, w.alloc (.cells #[.string nm, .string cr, .int .i64 fr, .int .i64 up, .bool cu, .slice ao n cap] 36) = W0 := ⟨_, rfl⟩
  have Z0 : P6 W0 w.heap.size nm cr fr up cu (.slice ao n cap) := by rw [← hW0]; exact P6.new _ _ _ _ _ _ _
  have B0 : Below w.heap.size w W0 := by rw [← hW0]; exact ba (Below.refl _ _) _
  have c1 := Z0.c1
  cases q1 with
  | false =>
    have HF : Hid (R = false) := HD.out
    clear HD
    go_enter Tryz.func38, Tryz.ntmps38
    go_wp2_with (first | (go_at_call 95; refine (H1.out _ B0).mono ?_; rintro e w1 ⟨rfl, hb1⟩; have Z1 := Z0.on hb1; have B1 := Below.on B0 hb1; have d0 := Z1.c0; clear hb1) | (go_at_call 96; refine (H2.out _).mono ?_; rintro e w2 ⟨rfl, hb2⟩; have Z2 := Z1.on hb2; have B2 := Below.on B1 hb2; have e1 := Z2.c1; have e2 := Z2.c2; have e3 := Z2.c3; have e5 := Z2.c5; clear hb2) | (go_at_call 97; refine (H3.out _ B2).mono ?_; rintro e w3 ⟨rfl, hb3⟩))
    go_ret
    exact ⟨by rw [HF.out]; rfl, B2⟩
  | true =>
    cases q2 with
    | false =>
      have HF : Hid (R = false) := HD.out
      clear HD
      go_enter Tryz.func38, Tryz.ntmps38
      go_wp2_with (first | (go_at_call 95; refine (H1.out _ B0).mono ?_; rintro e w1 ⟨rfl, hb1⟩; have Z1 := Z0.on hb1; have B1 := Below.on B0 hb1; have d0 := Z1.c0; clear hb1) | (go_at_call 96; refine (H2.out _).mono ?_; rintro e w2 ⟨rfl, hb2⟩; have Z2 := Z1.on hb2; have B2 := Below.on B1 hb2; have e1 := Z2.c1; have e2 := Z2.c2; have e3 := Z2.c3; have e5 := Z2.c5; clear hb2) | (go_at_call 97; refine (H3.out _ B2).mono ?_; rintro e w3 ⟨rfl, hb3⟩))
      go_ret
      exact ⟨by rw [HF.out]; rfl, B2⟩
    | true =>
      by_cases ht : tx = cr
      case neg =>
        have HF : Hid (R = false) := HD.out.trans (by rw [decide_eq_false ht]; rfl)
        have ht2 := ne_list ht
        clear ht
        clear HD
        go_enter Tryz.func38, Tryz.ntmps38
        go_wp2_with (first | (go_at_call 95; refine (H1.out _ B0).mono ?_; rintro e w1 ⟨rfl, hb1⟩; have Z1 := Z0.on hb1; have B1 := Below.on B0 hb1; have d0 := Z1.c0; clear hb1) | (go_at_call 96; refine (H2.out _).mono ?_; rintro e w2 ⟨rfl, hb2⟩; have Z2 := Z1.on hb2; have B2 := Below.on B1 hb2; have e1 := Z2.c1; have e2 := Z2.c2; have e3 := Z2.c3; have e5 := Z2.c5; clear hb2) | (go_at_call 97; refine (H3.out _ B2).mono ?_; rintro e w3 ⟨rfl, hb3⟩))
        go_ret
        exact ⟨by rw [HF.out]; rfl, B2⟩
      have ht2 := eq_list ht
      by_cases h0 : 0 ≤ fr
      case neg =>
        have HF : Hid (R = false) := HD.out.trans (by rw [decide_eq_true ht, decide_eq_false h0]; rfl)
        clear HD
        go_enter Tryz.func38, Tryz.ntmps38
        go_wp2_with (first | (go_at_call 95; refine (H1.out _ B0).mono ?_; rintro e w1 ⟨rfl, hb1⟩; have Z1 := Z0.on hb1; have B1 := Below.on B0 hb1; have d0 := Z1.c0; clear hb1) | (go_at_call 96; refine (H2.out _).mono ?_; rintro e w2 ⟨rfl, hb2⟩; have Z2 := Z1.on hb2; have B2 := Below.on B1 hb2; have e1 := Z2.c1; have e2 := Z2.c2; have e3 := Z2.c3; have e5 := Z2.c5; clear hb2) | (go_at_call 97; refine (H3.out _ B2).mono ?_; rintro e w3 ⟨rfl, hb3⟩))
        go_ret
        exact ⟨by rw [HF.out]; rfl, B2⟩
      by_cases h1 : fr ≤ up
      case neg =>
        have HF : Hid (R = false) := HD.out.trans (by rw [decide_eq_true ht, decide_eq_true h0, decide_eq_false h1]; rfl)
        clear HD
        go_enter Tryz.func38, Tryz.ntmps38
        go_wp2_with (first | (go_at_call 95; refine (H1.out _ B0).mono ?_; rintro e w1 ⟨rfl, hb1⟩; have Z1 := Z0.on hb1; have B1 := Below.on B0 hb1; have d0 := Z1.c0; clear hb1) | (go_at_call 96; refine (H2.out _).mono ?_; rintro e w2 ⟨rfl, hb2⟩; have Z2 := Z1.on hb2; have B2 := Below.on B1 hb2; have e1 := Z2.c1; have e2 := Z2.c2; have e3 := Z2.c3; have e5 := Z2.c5; clear hb2) | (go_at_call 97; refine (H3.out _ B2).mono ?_; rintro e w3 ⟨rfl, hb3⟩))
        go_ret
        exact ⟨by rw [HF.out]; rfl, B2⟩
      by_cases h2 : up ≤ 68374079
      case neg =>
        have HF : Hid (R = false) := HD.out.trans (by rw [decide_eq_true ht, decide_eq_true h0, decide_eq_true h1, decide_eq_false h2]; rfl)
        clear HD
        go_enter Tryz.func38, Tryz.ntmps38
        go_wp2_with (first | (go_at_call 95; refine (H1.out _ B0).mono ?_; rintro e w1 ⟨rfl, hb1⟩; have Z1 := Z0.on hb1; have B1 := Below.on B0 hb1; have d0 := Z1.c0; clear hb1) | (go_at_call 96; refine (H2.out _).mono ?_; rintro e w2 ⟨rfl, hb2⟩; have Z2 := Z1.on hb2; have B2 := Below.on B1 hb2; have e1 := Z2.c1; have e2 := Z2.c2; have e3 := Z2.c3; have e5 := Z2.c5; clear hb2) | (go_at_call 97; refine (H3.out _ B2).mono ?_; rintro e w3 ⟨rfl, hb3⟩))
        go_ret
        exact ⟨by rw [HF.out]; rfl, B2⟩
      have HF : Hid (R = q7) := HD.out.trans (by rw [decide_eq_true ht, decide_eq_true h0, decide_eq_true h1, decide_eq_true h2]; rfl)
      clear HD ht
      go_enter Tryz.func38, Tryz.ntmps38
      go_wp2_with (first | (go_at_call 95; refine (H1.out _ B0).mono ?_; rintro e w1 ⟨rfl, hb1⟩; have Z1 := Z0.on hb1; have B1 := Below.on B0 hb1; have d0 := Z1.c0; clear hb1) | (go_at_call 96; refine (H2.out _).mono ?_; rintro e w2 ⟨rfl, hb2⟩; have Z2 := Z1.on hb2; have B2 := Below.on B1 hb2; have e1 := Z2.c1; have e2 := Z2.c2; have e3 := Z2.c3; have e5 := Z2.c5; clear hb2) | (go_at_call 97; refine (H3.out _ B2).mono ?_; rintro e w3 ⟨rfl, hb3⟩))
      go_ret
      exact ⟨by rw [HF.out]; rfl, Below.on B2 hb3⟩
end Go.Proofs.YtjmclcjhimcehaaGreatDoor

namespace Go.Proofs.YtjmclcjhimcehaaGreatDoor
open Go Go.RowKit
set_option linter.unusedVariables false

theorem ownsR.keep {α : Type} [Rec α] {W W' : World} {B : Nat} {e : TypeId} {v : Value} {l : List α} (h : ownsR W B e v l) (hk : ∀ k, v.ownBlock = some k → W'.heap[k]? = W.heap[k]?) : ownsR W' B e v l := by
  refine ⟨h.1, ?_⟩
  rcases h.2 with h2 | ⟨g, cap, cur, rfl, hB, hg, hr⟩
  · exact .inl h2
  · exact .inr ⟨g, cap, cur, rfl, hB, (hk g rfl).trans hg, hr⟩
/-- A block of another type is not a row's. -/
theorem not_own {α : Type} [Rec α] {W : World} {B : Nat} {e : TypeId} {v : Value} {l : List α} {b : Nat} {cs : Array Value} {t : TypeId} (h : ownsR W B e v l) (hb : W.heap[b]? = some (.cells cs t)) (ht : t ≠ e) : v.ownBlock ≠ some b := by
  intro hv
  rcases h.2 with ⟨rfl, _⟩ | ⟨g, cap, cur, rfl, _, hg, _⟩
  · cases hv
  · have : g = b := Option.some.inj hv
    subst this
    rw [hb] at hg
    simp only [Option.some.injEq, Obj.cells.injEq] at hg
    exact ht hg.2.1
theorem not_same {W : World} {a b : Nat} {cs ds : Array Value} {t u : TypeId} (ha : W.heap[a]? = some (.cells cs t)) (hb : W.heap[b]? = some (.cells ds u)) (ht : t ≠ u) : a ≠ b := by
  intro e
  subst e
  rw [ha] at hb
  simp only [Option.some.injEq, Obj.cells.injEq] at hb
  exact ht hb.2.1
theorem own_low {α : Type} [Rec α] {W : World} {B : Nat} {e : TypeId} {v : Value} {l : List α} (h : ownsR W B e v l) {k : Nat} (hk : v.ownBlock = some k) : B ≤ k ∧ k < W.heap.size := h.lt k hk
/-- Four numbers in a block. -/
def N4 (W : World) (b : Nat) (La : List Int) : Prop := W.heap[b]? = some (.cells (La.map (Value.int .i64)).toArray 184)
theorem N4.lt {W : World} {b : Nat} {La : List Int} (h : N4 W b La) : b < W.heap.size := (Array.getElem?_eq_some_iff.1 (show W.heap[b]? = _ from h)).1
theorem N4.cell {W : World} {b : Nat} {La : List Int} (h : N4 W b La) {i : Nat} {x : Int} (hi : La[i]? = some x) : W.cell? ⟨b, i, none⟩ = some (.int .i64 x) := by
  simp [World.cell?, show W.heap[b]? = _ from h, hi]
theorem N4.fz {W : World} {b : Nat} {La : List Int} (h : N4 W b La) (i : Nat) : W.frozen? ⟨b, i, none⟩ = false := by simp [World.frozen?, show W.heap[b]? = _ from h]
theorem N4.set {W : World} {b : Nat} {La : List Int} (h : N4 W b La) (i : Nat) (x : Int) : N4 (W.setCell ⟨b, i, none⟩ (.int .i64 x)) b (La.set i x) := by
  simp [N4, World.setCell, Array.getElem?_modify, show W.heap[b]? = _ from h]
theorem N4.up {W W' : World} {b : Nat} {La : List Int} (h : N4 W b La) (hb : Below W.heap.size W W') : N4 W' b La := (hb.block b h.lt).trans h
/-- What lies there while tasks come. -/
structure OrS (w : World) (nm cr : ByteArray) (fr up : Int) (cu : Bool) (tv : Value) (bf bl : Nat) (W : World) (ov : Value) (out : List Int) (fv : Value) (F La : List Int) : Prop where
  bel : Below w.heap.size w W
  own : ownsR W w.heap.size 3 ov out
  box : Hbx W bf fv
  row : ownsR W w.heap.size 3 fv F
  lac : N4 W bl La
  dag : P6 W w.heap.size nm cr fr up cu tv
  apart : ∀ k, ov.ownBlock = some k → fv.ownBlock ≠ some k
  lof : w.heap.size ≤ bf
  lol : w.heap.size ≤ bl
section
variable {w W W' : World} {nm cr : ByteArray} {fr up : Int} {cu : Bool} {tv ov fv : Value} {bf bl : Nat} {out F La : List Int}
theorem OrS.onW (h : OrS w nm cr fr up cu tv bf bl W ov out fv F La) (hb : Below W.heap.size W W') : OrS w nm cr fr up cu tv bf bl W' ov out fv F La :=
  ⟨Below.on h.bel hb, h.own.all hb, h.box.up hb, h.row.all hb, h.lac.up hb, h.dag.on hb, h.apart, h.lof, h.lol⟩
theorem OrS.take (h : OrS w nm cr fr up cu tv bf bl W ov out fv F La) : Hp bf w.heap.size fv.ownBlock W W F fv := ⟨h.box, h.row, h.lof, Fr.refl _ _ _, .inl rfl, h.bel.size⟩
theorem OrS.heap (h : OrS w nm cr fr up cu tv bf bl W ov out fv F La) {fv' : Value} {F' : List Int} (hp : Hp bf w.heap.size fv.ownBlock W W' F' fv') : OrS w nm cr fr up cu tv bf bl W' ov out fv' F' La := by
  have hbk : ∀ k, k < W.heap.size → k ≠ bf → fv.ownBlock ≠ some k → W'.heap[k]? = W.heap[k]? := fun k hk h1 h2 => hp.fr.block k hk h1 (fun e => h2 e.symm)
  refine ⟨⟨hp.fr.os.trans h.bel.os, hp.fr.tape.trans h.bel.tape, hp.fr.output.trans h.bel.output, Nat.le_trans h.bel.size hp.fr.size, fun k hk => ?_⟩, h.own.keep fun k hk => ?_, hp.box, hp.row, ?_, ?_, fun k hk hf => ?_, h.lof, h.lol⟩
  · refine (hbk k (Nat.lt_of_lt_of_le hk h.bel.size) (by have := h.lof; omega) (fun e => ?_)).trans (h.bel.block k hk)
    have := (own_low h.row e).1
    omega
  · exact hbk k (own_low h.own hk).2 (fun e => h.box.row h.own (by decide) (by rw [hk, e])) (h.apart k hk)
  · exact (hbk bl h.lac.lt (not_same h.lac h.box (by decide)) (not_own h.row h.lac (by decide))).trans h.lac
  · exact (hbk _ h.dag.lt (not_same h.dag h.box (by decide)) (not_own h.row h.dag (by decide))).trans h.dag
  · rcases hp.lies with e | e
    · exact h.apart k hk (e ▸ hf)
    · have h1 := e k hf
      have h2 := (own_low h.own hk).2
      omega
theorem OrS.put (h : OrS w nm cr fr up cu tv bf bl W ov out fv F La) (i : Nat) (x : Int) : OrS w nm cr fr up cu tv bf bl (W.setCell ⟨bl, i, none⟩ (.int .i64 x)) ov out fv F (La.set i x) := by
  have hbk : ∀ k, k ≠ bl → (W.setCell ⟨bl, i, none⟩ (.int .i64 x)).heap[k]? = W.heap[k]? := fun k hk => heap_setCell_other W ⟨bl, i, none⟩ k _ hk
  refine ⟨h.bel.setCell (p := ⟨bl, i, none⟩) h.lol _, h.own.keep fun k hk => hbk k ?_, ?_, h.row.keep fun k hk => hbk k ?_, h.lac.set i x, ?_, h.apart, h.lof, h.lol⟩
  · exact fun e => not_own h.own h.lac (by decide) (e ▸ hk)
  · exact (hbk bf (not_same h.box h.lac (by decide))).trans h.box
  · exact fun e => not_own h.row h.lac (by decide) (e ▸ hk)
  · exact (hbk _ (not_same h.dag h.lac (by decide))).trans h.dag
theorem OrS.more (h : OrS w nm cr fr up cu tv bf bl W ov out fv F La) {ov' : Value} {out' : List Int} (ho : ownsR W' w.heap.size 3 ov' out') (hg : W.grownBy W' ov.ownBlock) (hl : ov'.ownBlock = ov.ownBlock ∨ ov'.ownBlock = some W.heap.size) : OrS w nm cr fr up cu tv bf bl W' ov' out' fv F La := by
  have hbk : ∀ k, k < W.heap.size → ov.ownBlock ≠ some k → W'.heap[k]? = W.heap[k]? := fun k hk h2 => hg.block k hk (fun e => h2 e.symm)
  refine ⟨⟨hg.os.trans h.bel.os, hg.tape.trans h.bel.tape, hg.output.trans h.bel.output, Nat.le_trans h.bel.size hg.size, fun k hk => ?_⟩, ho, ?_, h.row.keep fun k hk => ?_, ?_, ?_, fun k hk hf => ?_, h.lof, h.lol⟩
  · refine (hbk k (Nat.lt_of_lt_of_le hk h.bel.size) (fun e => ?_)).trans (h.bel.block k hk)
    have := (own_low h.own e).1
    omega
  · exact (hbk bf h.box.lt (h.box.row h.own (by decide))).trans h.box
  · exact hbk k (own_low h.row hk).2 (fun e => h.apart k e hk)
  · exact (hbk bl h.lac.lt (not_own h.own h.lac (by decide))).trans h.lac
  · exact (hbk _ h.dag.lt (not_own h.own h.dag (by decide))).trans h.dag
  · rcases hl with e | e
    · exact h.apart k (e ▸ hk) hf
    · have h1 := (own_low h.row hf).2
      rw [e] at hk
      cases hk
      omega
end
end Go.Proofs.YtjmclcjhimcehaaGreatDoor

namespace Go.Proofs.YtjmclcjhimcehaaGreatDoor
open Go Go.RowKit
set_option linter.unusedVariables false

/-- What lies there while places are gathered. -/
structure UpS (w : World) (nm cr : ByteArray) (fr up : Int) (cu : Bool) (tv : Value) (W : World) (v : Value) (l : List Int) (g : Nat) : Prop where
  bel : Below w.heap.size w W
  own : ownsR W w.heap.size 3 v l
  dag : P6 W w.heap.size nm cr fr up cu tv
  lies : v.ownBlock = some g
section
variable {w W W' : World} {nm cr : ByteArray} {fr up : Int} {cu : Bool} {tv v : Value} {l : List Int} {g : Nat}
theorem UpS.onW (h : UpS w nm cr fr up cu tv W v l g) (hb : Below W.heap.size W W') : UpS w nm cr fr up cu tv W' v l g := ⟨Below.on h.bel hb, h.own.all hb, h.dag.on hb, h.lies⟩
theorem UpS.more (h : UpS w nm cr fr up cu tv W v l g) {v' : Value} {l' : List Int} (ho : ownsR W' w.heap.size 3 v' l') (hg : W.grownBy W' v.ownBlock) (hl : v'.ownBlock = v.ownBlock ∨ v'.ownBlock = some W.heap.size) : ∃ g', UpS w nm cr fr up cu tv W' v' l' g' := by
  have hdn : some w.heap.size ≠ v.ownBlock := fun e => not_own h.own h.dag (by decide) e.symm
  have hb : Below w.heap.size w W' := h.bel.grown hg h.bel.size fun k hk => (own_low h.own hk).1
  rcases hl with e | e
  · exact ⟨g, hb, ho, h.dag.grown hg hdn, e.trans h.lies⟩
  · exact ⟨_, hb, ho, h.dag.grown hg hdn, e⟩
end
theorem take_map {α β : Type} {f : α → β} {l : List α} {k : Nat} {x : α} (h : l[k]? = some x) : (l.map f).take (k + 1) = (l.map f).take k ++ [f x] := by
  rw [List.take_add_one]
  congr 1
  rw [List.getElem?_map, h]
  rfl
set_option maxRecDepth 10000 in
set_option maxHeartbeats 4000000 in
theorem upsIn_any (ao : Option Addr) (n cap : Nat) (nm cr : ByteArray) (fr up : Int) (cu : Bool) (ts : List Ta) (i : Nat) (t : Ta) (w : World) (hr : Tasks w (.slice ao n cap) ts) (hn : n ≤ 1048577) (ht : ts[i]? = some t) (hm : t.after.length ≤ 1048576) :
    Calls Tryz.prog 54 #[.agg #[.string nm, .string cr, .int .i64 fr, .int .i64 up, .bool cu, .slice ao n cap], .int .i64 i] w fun e w' => ∃ v, e = .returned v ∧ ownsR w' w.heap.size 3 v (sortI (t.after.map (atN ts))) ∧ Below w.heap.size w w' := by
  have HN : Hid (ts.length = n) := by
    obtain ⟨ao', cap', e⟩ := hr.slice
    injection e with _ e2 _
    exact e2.symm
  have HT : Hid (∀ W, Below w.heap.size w W → Tasks W (.slice ao n cap) ts) := fun W hb => hr.below hb
  have HTK : Hid (ts[i]? = some t) := ht
  have hin : i < n := by rw [← HN.out]; exact (List.getElem?_eq_some_iff.1 ht).1
  have HAT : Hid (∀ W s, Below w.heap.size w W → Calls Tryz.prog 108 #[.agg #[.string nm, .string cr, .int .i64 fr, .int .i64 up, .bool cu, .slice ao n cap], .string s] W fun e w' => e = .returned (.int .i64 (atN ts s)) ∧ Below W.heap.size W w') := fun W s hb => implTaskAt_any ao n cap nm cr fr up cu ts s W (HT.out W hb) hn
  clear hr ht
  obtain ⟨m, HM⟩ : ∃ m, Hid (t.after.length = m) := ⟨_, rfl⟩
  rw [HM.out] at hm
  obtain ⟨W1, hW1⟩ : ∃ W1, (w.alloc (.cells #[.string nm, .string cr, .int .i64 fr, .int .i64 up, .bool cu, .slice ao n cap] 36)).alloc (.cells #[] 3) = W1 := ⟨_, rfl⟩
  have HU : Hid (UpS w nm cr fr up cu (.slice ao n cap) W1 (.slice (some ⟨w.heap.size + 1, 0, none⟩) 0 0) [] (w.heap.size + 1)) := by
    rw [← hW1]
    refine ⟨ba (ba (Below.refl _ _) _) _, ?_, (P6.new _ _ _ _ _ _ _).on (ba (Below.refl _ _) _), rfl⟩
    have := ints_made (w.alloc (.cells #[.string nm, .string cr, .int .i64 fr, .int .i64 up, .bool cu, .slice ao n cap] 36)) w.heap.size (by simp)
    simpa using this
  have c5 := HU.out.dag.c5
  obtain ⟨b1, o1, av, e1, hb, -, -, -, -, c4w, hav⟩ := (HT.out w (Below.refl _ _)).at HTK.out
  subst e1
  obtain ⟨fo, fc, e2, -⟩ := id hav
  subst e2
  rw [HM.out] at c4w hav
  have c4 := (HU.out.bel.cell (World.block_lt_of_cell? _ _ c4w)).trans c4w
  have HRD : Hid (∀ W, Below w.heap.size w W → Reads W (.slice fo m fc) t.after) := fun W hb => hav.below hb
  clear hav c4w
  go_enter Tryz.func54, Tryz.ntmps54
  go_wp2
  clear hW1 c4 c5
  have HU0 : Hid (UpS w nm cr fr up cu (.slice (some ⟨b1, o1, none⟩) n cap) W1 (.slice (some ⟨w.heap.size + 1, 0, none⟩) 0 0) ((t.after.map (atN ts)).take 0) (w.heap.size + 1)) := HU
  clear HU
  go_loopw [5, 16] (fun v iv wr => ∃ (k g : Nat), k ≤ m ∧ iv = .int .i64 k ∧ Hid (UpS w nm cr fr up cu (.slice (some ⟨b1, o1, none⟩) n cap) wr v ((t.after.map (atN ts)).take k) g)) (fun _ iv _ => m - (intOf iv).toNat)
  case atStart => exact ⟨0, _, Nat.zero_le _, rfl, HU0⟩
  case round =>
    clear HU0
    obtain ⟨k, g, hk, rfl, HU⟩ := hrel
    obtain ⟨va, vc, ev⟩ := HU.out.own.slice
    subst ev
    have hlk : ((t.after.map (atN ts)).take k).length = k := by rw [List.length_take, List.length_map, HM.out]; omega
    by_cases hlt : k < m
    · obtain ⟨s, hs⟩ : ∃ s, t.after[k]? = some s := ⟨_, List.getElem?_eq_getElem (by rw [HM.out]; exact hlt)⟩
      obtain ⟨sb, so, e3, hsb, cs⟩ := text_at (HRD.out wr HU.out.bel) hs
      subst e3
      have HNX : Hid ((t.after.map (atN ts)).take (k + 1) = (t.after.map (atN ts)).take k ++ [atN ts s]) := take_map hs
      obtain ⟨L, HL⟩ : ∃ L, Hid ((t.after.map (atN ts)).take k = L) := ⟨_, rfl⟩
      rw [HL.out] at HU HNX hlk
      rw [HL.out]
      rw [hlk] at HU ⊢
      obtain ⟨z, HZ⟩ : ∃ z, Hid (atN ts s = z) := ⟨_, rfl⟩
      have H1 := HAT.out wr s HU.out.bel
      rw [HZ.out] at HNX H1
      clear hs
      have c0 := HU.out.dag.c0
      have c1 := HU.out.dag.c1
      have c2 := HU.out.dag.c2
      have c3 := HU.out.dag.c3
      have c4 := HU.out.dag.c4
      have c5 := HU.out.dag.c5
      go_wp2_with fail
      refine H1.mono ?_
      rintro e w1 ⟨rfl, hb1⟩
      have HV : Hid (∀ o, UpS w nm cr fr up cu (.slice (some ⟨b1, o1, none⟩) n cap) (w1.alloc o) (.slice va k vc) L g) := fun o => HU.out.onW (ba hb1 _)
      have hs1 : w.heap.size ≤ w1.heap.size := Nat.le_trans HU.out.bel.size hb1.size
      clear hb1 HU c0 c1 c2 c3 c4 c5 H1 cs
      go_wp2_with (at_builtin; refine append_recW _ w rfl (.tmp 20) (.tmp 24) 90 rfl w.heap.size 3 _ 8 underI info3 rfl _ L rfl (HV.out _).own (HV.out _).bel w1.heap.size 1 z rfl (cell_int (by simp [go_sem])) (by omega) (by decide) (by simp; omega) ?_; intro v4 w4 ho4 hb4 hg4 hl4)
      obtain ⟨g4, hu4⟩ := (HV.out _).more ho4 hg4 hl4
      rw [← HNX.out] at hu4
      have HU4 : Hid (UpS w nm cr fr up cu (.slice (some ⟨b1, o1, none⟩) n cap) w4 v4 ((t.after.map (atN ts)).take (k + 1)) g4) := hu4
      clear hu4 ho4 hb4 hg4 hl4 HV
      go_wp2
      go_roundw
      case rel => exact ⟨k + 1, g4, by omega, by go_num, HU4⟩
      case measure => simp [intOf]; omega
    · have HE : Hid ((t.after.map (atN ts)).take k = t.after.map (atN ts)) := List.take_of_length_le (by rw [List.length_map, HM.out]; omega)
      rw [HE.out] at HU hlk
      rw [HE.out]
      obtain ⟨c6, e6, -⟩ := some_at HU.out.own HU.out.lies
      injection e6 with e6 _ e7
      subst e6 e7
      obtain ⟨L, HL⟩ : ∃ L, Hid (t.after.map (atN ts) = L) := ⟨_, rfl⟩
      rw [HL.out] at HU hlk
      rw [HL.out]
      rw [hlk] at HU ⊢
      have HS : Hid (Calls Tryz.prog 109 #[.slice (some ⟨g, 0, none⟩) k vc] wr fun e w' => e = .returned (.tuple #[]) ∧ ownsR w' w.heap.size 3 (.slice (some ⟨g, 0, none⟩) k vc) (sortI L) ∧ Below w.heap.size w w') := by
        refine (sortN_any HU.out.own (by rw [hlk]; omega)).mono ?_
        rintro e w' ⟨rfl, h1, h2⟩
        exact ⟨rfl, h1, HU.out.bel.grown h2 HU.out.bel.size fun q hq => by cases hq; exact (own_low HU.out.own HU.out.lies).1⟩
      clear HU hlk
      go_wp2_with fail
      refine HS.out.mono ?_
      rintro e w5 ⟨rfl, h5, hb5⟩
      go_wp2
      go_ret
      exact ⟨_, rfl, by rw [HL.out]; exact h5, hb5⟩
/-- The places that a task of a plan is after. -/
def upsD (d : Dg) (i : Int) : List Int := if dagB d = true ∧ 0 ≤ i ∧ i < (d.tasks.length : Int) then upsA d.tasks i else []
end Go.Proofs.YtjmclcjhimcehaaGreatDoor
