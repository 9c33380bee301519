/-
  Spans, as the specification tells them: the walks.
-/
import Derived.Test.YtbecdaholpiaeaaDoorNx
import Derived.Test.YtbecdaholpiaeaaDoorSps
namespace Go.Proofs.YtbecdaholpiaeaaDoor
open Go Go.RowKit

open Classical in
/-- The next time that a rule fires. -/
noncomputable def nfO (a b c d e : List Int) (from' days : Int) : Option Int := if h : ∃ o, NfP a b c d e from' days o then Classical.choose h else none
theorem nfO_is {a b c d e : List Int} {from' days : Int} {o : Option Int} (h : NfP a b c d e from' days o) : nfO a b c d e from' days = o := by
  have hx : ∃ o, NfP a b c d e from' days o := ⟨o, h⟩
  unfold nfO
  rw [dif_pos hx]
  exact (Classical.choose_spec hx).one h
/-- Spans from a time on, so many at most. -/
def spansG (f : Int → Option Int) (upto : Int) : Nat → Int → List Sp
  | 0, _ => []
  | n + 1, a => if a < 68374079 then (match f (a + 1) with
    | some b => if b ≤ upto then ⟨a, b⟩ :: spansG f upto n b else []
    | none => []) else []
def spansL (f : Int → Option Int) (from' upto most : Int) : List Sp := match f from' with
  | some a => spansG f upto most.toNat a
  | none => []
theorem spansG_len (f : Int → Option Int) (upto : Int) : ∀ n a, (spansG f upto n a).length ≤ n
  | 0, _ => Nat.le_refl _
  | n + 1, a => by
    unfold spansG
    split
    · split
      · split
        · have := spansG_len f upto n ‹Int›; simp; omega
        · simp
      · simp
    · simp
theorem spansG_no {f : Int → Option Int} {upto a : Int} {n : Nat} (h : ¬ a < 68374079) : spansG f upto n a = [] := by
  cases n with
  | zero => rfl
  | succ n => unfold spansG; rw [if_neg h]
theorem spansG_none {f : Int → Option Int} {upto a : Int} {n : Nat} (h : f (a + 1) = none) : spansG f upto n a = [] := by
  cases n with
  | zero => rfl
  | succ n => unfold spansG; rw [h]; split <;> rfl
theorem spansG_far {f : Int → Option Int} {upto a b : Int} {n : Nat} (h : f (a + 1) = some b) (hb : ¬ b ≤ upto) : spansG f upto n a = [] := by
  cases n with
  | zero => rfl
  | succ n => unfold spansG; rw [h]; split <;> simp [hb]
theorem spansG_next {f : Int → Option Int} {upto a b : Int} {n : Nat} (ha : a < 68374079) (h : f (a + 1) = some b) (hb : b ≤ upto) : spansG f upto (n + 1) a = ⟨a, b⟩ :: spansG f upto n b := by
  rw [spansG, if_pos ha, h]
  simp [hb]

set_option maxRecDepth 10000 in
set_option maxHeartbeats 4000000 in
theorem l11Spans_any (va vb vc vd ve v : Value) (a b c d e : List Int) (from' upto most : Int) (w0 w : World) (hb : Below w0.heap.size w0 w) (h1 : Reads w0 va a) (h2 : Reads w0 vb b) (h3 : Reads w0 vc c) (h4 : Reads w0 vd d) (h5 : Reads w0 ve e)
    (n1 : a.length ≤ 1048577) (n2 : b.length ≤ 1048577) (n3 : c.length ≤ 1048577) (n4 : d.length ≤ 1048577) (n5 : e.length ≤ 1048577) (hm : most ≤ 1000) (hown : ownsR w w0.heap.size 34 v ([] : List Sp)) :
    Calls Tryd.prog 33 #[.agg #[va, vb, vc, vd, ve], .int .i64 from', .int .i64 upto, .int .i64 most, v] w fun x w' => ∃ v', x = .returned v' ∧ ownsR w' w0.heap.size 34 v' (spansL (fun m => nfO a b c d e m 400) from' upto most) ∧ Below w0.heap.size w0 w' := by
  obtain ⟨ao, ac, rfl, -⟩ := id h1
  obtain ⟨bo, bc, rfl, -⟩ := id h2
  obtain ⟨co, cc, rfl, -⟩ := id h3
  obtain ⟨d0, dc, rfl, -⟩ := id h4
  obtain ⟨eo, ec, rfl, -⟩ := id h5
  obtain ⟨f, HF⟩ : ∃ f : Int → Option Int, Hid (∀ m, nfO a b c d e m 400 = f m) := ⟨fun m => nfO a b c d e m 400, fun _ => rfl⟩
  have HNX : Hid (∀ W m, Below w0.heap.size w0 W → Calls Tryd.prog 13 #[.agg #[.slice ao a.length ac, .slice bo b.length bc, .slice co c.length cc, .slice d0 d.length dc, .slice eo e.length ec], .int .i64 m, .int .i64 400] W fun x w' => x = .returned (.tuple #[.int .i64 ((f m).getD 0), .bool (f m).isSome]) ∧ Below W.heap.size W w' ∧ ∀ r, f m = some r → 0 ≤ r ∧ r ≤ 68374079 ∧ m ≤ r) := fun W m hW => by
    refine (nextFire_any _ _ _ _ _ a b c d e m 400 W (h1.below hW) (h2.below hW) (h3.below hW) (h4.below hW) (h5.below hW) n1 n2 n3 n4 n5).mono ?_
    rintro x w' ⟨o, rfl, ho, hb'⟩
    have e1 : f m = o := by rw [← HF.out m]; exact nfO_is ho
    rw [e1]
    refine ⟨rfl, hb', fun r hr => ?_⟩
    subst hr
    unfold NfP at ho
    split at ho
    · exact ⟨(fires_iff.1 ho.2.2.1).1.1, (fires_iff.1 ho.2.2.1).1.2, ho.1⟩
    · cases ho
  rw [show (fun m => nfO a b c d e m 400) = f from funext HF.out]
  clear h1 h2 h3 h4 h5 HF
  generalize a.length = la at *
  generalize b.length = lb at *
  generalize c.length = lc at *
  generalize d.length = ld at *
  generalize e.length = le at *
  clear a b c d e
  have hsz := hb.size
  obtain ⟨v0, c0, rfl⟩ := hown.slice
  go_enter Tryd.func33, Tryd.ntmps33
  go_wp2_with fail
  have hbA := hb.alloc hsz (.cells #[.slice ao la ac, .slice bo lb bc, .slice co lc cc, .slice d0 ld dc, .slice eo le ec] 26)
  refine (HNX.out _ from' hbA).mono ?_
  rintro x w1 ⟨rfl, hb1, HR1⟩
  have HR : Hid (∀ r, f from' = some r → 0 ≤ r ∧ r ≤ 68374079 ∧ from' ≤ r) := HR1
  have Z1 := (C5.new 26 w (.slice ao la ac) (.slice bo lb bc) (.slice co lc cc) (.slice d0 ld dc) (.slice eo le ec)).up hb1
  have B1 : Below w0.heap.size w0 w1 := hbA.trans (hb1.mono (by simp; omega))
  have ho1 : ownsR w1 w0.heap.size 34 (.slice v0 ([] : List Sp).length c0) ([] : List Sp) := (hown.alloc _).all hb1
  clear hb1 HR1 hbA hown
  have HL : Hid (spansL f from' upto most = match f from' with | some a => spansG f upto most.toNat a | none => []) := rfl
  cases hf : f from' with
  | none =>
    rw [hf] at HL
    have HL2 : Hid (spansL f from' upto most = []) := HL.out
    clear hf
    go_wp2
    refine wp_loop_rounds 1 ?_
    rw [rounds_succ]
    go_wp2
    go_ret
    exact ⟨_, rfl, by rw [HL2.out]; exact ho1, B1⟩
  | some a0 =>
    rw [hf] at HL
    have HL2 : Hid (spansL f from' upto most = spansG f upto most.toNat a0) := HL.out
    have ha0 := HR.out a0 hf
    clear hf HL HR
    go_wp2
    go_loopw [4, 11] (fun ov av wr => ∃ (a : Int) (l : List Sp) (n : Nat), av = .int .i64 a ∧ 0 ≤ a ∧ a ≤ 68374079 ∧ (l.length : Int) + n = most.toNat ∧ Hid (spansL f from' upto most = l ++ spansG f upto n a) ∧ ownsR wr w0.heap.size 34 ov l ∧ C5 26 wr w.heap.size (.slice ao la ac) (.slice bo lb bc) (.slice co lc cc) (.slice d0 ld dc) (.slice eo le ec) ∧ Below w0.heap.size w0 wr) (fun _ av _ => (68374079 - intOf av).toNat)
    case atStart => exact ⟨a0, [], most.toNat, rfl, ha0.1, ha0.2.1, by simp, HL2, ho1, Z1, B1⟩
    case round =>
      obtain ⟨a, l, n, rfl, haa, hab, hln, HE, hown, Z, hbel⟩ := hrel
      have k0 := Z.c0
      have k1 := Z.c1
      have k2 := Z.c2
      have k3 := Z.c3
      have k4 := Z.c4
      have hszr := hbel.size
      obtain ⟨oo, oc, rfl⟩ := hown.slice
      by_cases hlm : (l.length : Int) < most
      · obtain ⟨n, rfl⟩ : ∃ k, n = k + 1 := ⟨n - 1, by omega⟩
        by_cases ha : a < 68374079
        · have H1 := HNX.out wr (a + 1) hbel
          cases hf : f (a + 1) with
          | none =>
            have HE2 : Hid (spansL f from' upto most = l) := HE.out.trans (by rw [spansG_none hf, List.append_nil])
            rw [hf] at H1
            clear hf
            go_wp2_with (go_at_call 13; refine H1.mono ?_; rintro x w2 ⟨rfl, hb2, -⟩)
            go_ret
            exact ⟨_, rfl, by rw [HE2.out]; exact hown.all hb2, hbel.trans (hb2.mono hszr)⟩
          | some r =>
            rw [hf] at H1
            by_cases hru : r ≤ upto
            · have HE2 : Hid (spansL f from' upto most = l ++ [⟨a, r⟩] ++ spansG f upto n r) := HE.out.trans (by rw [spansG_next ha hf hru]; simp)
              clear hf
              go_wp2_with fail
              refine H1.mono ?_
              rintro x w2 ⟨rfl, hb2, hrr⟩
              have hr3 := hrr r rfl
              have ho2 := hown.all hb2
              have Z2 := Z.up hb2
              have hbl2 := hbel.trans (hb2.mono hszr)
              have hsz2 := hbl2.size
              clear hb2 hrr H1 k0 k1 k2 k3 k4 hown Z hbel
              have hl9 : l.length ≤ 1048576 := by omega
              go_wp2_with (at_builtin; refine append_recG _ w0 rfl (.tmp 47) (.tmp 51) 30 rfl w0.heap.size 34 _ 16 Tryd.underlying30 infoSp rfl _ l rfl (ho2.alloc _) (hbl2.alloc hsz2 _) w2.heap.size 1 (Sp.mk a r) rfl (cell_sp (by simp [go_sem]) (by simp [go_sem])) hl9 (by decide) (by simp; omega) ?_; intro v' w4 hown4 hbel4 hg4)
              have Z4 := C5.appended Z2 ho2 (by decide) hg4
              clear hg4 Z2 ho2 hbl2
              go_wp2
              go_roundw
              case rel => exact ⟨r, l ++ [⟨a, r⟩], n, rfl, by omega, by omega, by simp; omega, HE2, hown4, Z4, hbel4⟩
              case measure => simp [intOf]; omega
            · have HE2 : Hid (spansL f from' upto most = l) := HE.out.trans (by rw [spansG_far hf hru, List.append_nil])
              clear hf
              go_wp2_with (go_at_call 13; refine H1.mono ?_; rintro x w2 ⟨rfl, hb2, -⟩)
              go_ret
              exact ⟨_, rfl, by rw [HE2.out]; exact hown.all hb2, hbel.trans (hb2.mono hszr)⟩
        · have HE2 : Hid (spansL f from' upto most = l) := HE.out.trans (by rw [spansG_no ha, List.append_nil])
          go_wp2
          go_ret
          exact ⟨_, rfl, by rw [HE2.out]; exact hown, hbel⟩
      · obtain rfl : n = 0 := by omega
        have HE2 : Hid (spansL f from' upto most = l) := HE.out.trans (List.append_nil _)
        go_wp2
        go_ret
        exact ⟨_, rfl, by rw [HE2.out]; exact hown, hbel⟩
end Go.Proofs.YtbecdaholpiaeaaDoor
