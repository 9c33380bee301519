/-
  The places that a task is after and the order of tasks, as the specification tells them: the walks. Spans, one state held against its task, a state among others, and those that a task is after: the walks.
-/
import Derived.Test.YtjmclcjhimcehaaGreatDoorG23
import Derived.Test.YtjmclcjhimcehaaGreatDoorG24
import Derived.Test.YtjmclcjhimcehaaGreatDoorG20
namespace Go.Proofs.YtjmclcjhimcehaaGreatDoor
open Go Go.RowKit
set_option linter.unusedVariables false

theorem rg_few {ts : List Ta} (hr : Rg4 ts) {t : Ta} (ht : t ∈ ts) : t.after.length ≤ 4 := by
  have h := nodup_sub_len (M := four) (at_nodup t.after (hr.once t ht) (hr.lies t ht)) fun x hx => by
    obtain ⟨s, hs, rfl⟩ := List.mem_map.1 hx
    obtain ⟨j, u, hj, _, ha⟩ := at_find (hr.lies t ht s hs)
    have h1 := (List.getElem?_eq_some_iff.1 hj).1
    have h2 := hr.few
    rw [ha]
    exact four_mem (by omega) (by omega)
  rw [List.length_map] at h
  exact h
set_option maxRecDepth 10000 in
set_option maxHeartbeats 4000000 in
theorem l13Ups_any (ao : Option Addr) (n cap : Nat) (nm cr : ByteArray) (fr up : Int) (cu : Bool) (ts : List Ta) (i : Nat) (t : Ta) (w : World) (hr : Tasks w (.slice ao n cap) ts) (hn : n ≤ 4) (ht : ts[i]? = some t) (hm : t.after.length ≤ 4) :
    Calls Tryz.prog 112 #[.agg #[.string nm, .string cr, .int .i64 fr, .int .i64 up, .bool cu, .slice ao n cap], .int .i64 i] w fun e w' => ∃ v, e = .returned v ∧ ownsR w' w.heap.size 3 v (upsS ts t.after) ∧ Below w.heap.size w w' := by
  have HN : Hid (ts.length = n) := by
    obtain ⟨ao', cap', e⟩ := hr.slice
    injection e with _ e2 _
    exact e2.symm
  have HT : Hid (∀ W, Below w.heap.size w W → Tasks W (.slice ao n cap) ts) := fun W hb => hr.below hb
  have HTK : Hid (ts[i]? = some t) := ht
  have hin : i < n := by rw [← HN.out]; exact (List.getElem?_eq_some_iff.1 ht).1
  clear hr ht
  obtain ⟨m, HM⟩ : ∃ m, Hid (t.after.length = m) := ⟨_, rfl⟩
  rw [HM.out] at hm
  obtain ⟨W1, hW1⟩ : ∃ W1, (w.alloc (.cells #[.string nm, .string cr, .int .i64 fr, .int .i64 up, .bool cu, .slice ao n cap] 36)).alloc (.cells #[] 3) = W1 := ⟨_, rfl⟩
  have HU : Hid (UpS w nm cr fr up cu (.slice ao n cap) W1 (.slice (some ⟨w.heap.size + 1, 0, none⟩) 0 0) [] (w.heap.size + 1)) := by
    rw [← hW1]
    refine ⟨ba (ba (Below.refl _ _) _) _, ?_, (P6.new _ _ _ _ _ _ _).on (ba (Below.refl _ _) _), rfl⟩
    have := ints_made (w.alloc (.cells #[.string nm, .string cr, .int .i64 fr, .int .i64 up, .bool cu, .slice ao n cap] 36)) w.heap.size (by simp)
    simpa using this
  obtain ⟨b1, o1, av, e1, hb, -, -, -, -, c4w, hav⟩ := (HT.out w (Below.refl _ _)).at HTK.out
  subst e1
  obtain ⟨fo, fc, e2, -⟩ := id hav
  subst e2
  rw [HM.out] at c4w hav
  have HC4 : Hid (∀ W, Below w.heap.size w W → W.cell? ⟨b1, o1 + i * 5 + 4, none⟩ = some (.slice fo m fc)) := fun W hb => (hb.cell (World.block_lt_of_cell? _ _ c4w)).trans c4w
  have HRD : Hid (∀ W, Below w.heap.size w W → Reads W (.slice fo m fc) t.after) := fun W hb => hav.below hb
  clear hav c4w
  obtain ⟨R, HR⟩ : ∃ R, Hid (upsS ts t.after = R) := ⟨_, rfl⟩
  rw [HR.out]
  go_enter Tryz.func112, Tryz.ntmps112
  go_wp2
  clear hW1
  go_loopw [5, 6] (fun v kv wr => ∃ (k g : Nat) (E : List Int), k ≤ n ∧ kv = .int .i64 k ∧ E.length ≤ 4 * k ∧ Hid (R = E ++ upsG t.after k (ts.drop k)) ∧ Hid (UpS w nm cr fr up cu (.slice (some ⟨b1, o1, none⟩) n cap) wr v E g)) (fun _ kv _ => n - (intOf kv).toNat)
  case atStart => exact ⟨0, _, [], Nat.zero_le _, rfl, Nat.le_refl _, (by show R = [] ++ upsG t.after 0 (ts.drop 0); rw [← HR.out]; rfl), HU⟩
  case round =>
    clear HU
    obtain ⟨k, g, E, hk, rfl, hE, HE, HU⟩ := hrel
    have c5 := HU.out.dag.c5
    by_cases hlt : k < n
    · obtain ⟨u, hu⟩ : ∃ u, ts[k]? = some u := ⟨_, List.getElem?_eq_getElem (by rw [HN.out]; exact hlt)⟩
      have HUK : Hid (ts[k]? = some u) := hu
      have HE1 : Hid (R = E ++ (upK u.name k (t.after.drop 0) ++ upsG t.after (k + 1) (ts.drop (k + 1)))) := by show R = _; rw [List.drop_zero, HE.out, upsG_at hu]
      have HUP := HU
      clear hu HE HU
      go_wp2
      clear c5
      go_loopw [5, 7] (fun v jv wr => ∃ (j g : Nat) (E : List Int), j ≤ m ∧ jv = .int .i64 j ∧ E.length ≤ 4 * k + j ∧ Hid (R = E ++ (upK u.name k (t.after.drop j) ++ upsG t.after (k + 1) (ts.drop (k + 1)))) ∧ Hid (UpS w nm cr fr up cu (.slice (some ⟨b1, o1, none⟩) n cap) wr v E g)) (fun _ jv _ => m - (intOf jv).toNat)
      case atStart => exact ⟨0, g, E, Nat.zero_le _, rfl, hE, HE1, HUP⟩
      case round =>
        clear HE1 HUP hE
        obtain ⟨j, g, E, hj, rfl, hE, HE, HU⟩ := hrel
        have c5 := HU.out.dag.c5
        have c4 := HC4.out wr HU.out.bel
        by_cases hjm : j < m
        · obtain ⟨s, hs⟩ : ∃ s, t.after[j]? = some s := ⟨_, List.getElem?_eq_getElem (by rw [HM.out]; exact hjm)⟩
          obtain ⟨sb, so, e3, hsb, cs⟩ := text_at (HRD.out wr HU.out.bel) hs
          subst e3
          obtain ⟨b2, o2, av2, e2, -, n0, -, -, -, -, -⟩ := (HT.out wr HU.out.bel).at HUK.out
          injection e2 with e2
          injection e2 with e2 e3 _
          subst e2 e3
          have HS : Hid (R = E ++ ((if s = u.name then (k : Int) :: upK u.name k (t.after.drop (j + 1)) else upK u.name k (t.after.drop (j + 1))) ++ upsG t.after (k + 1) (ts.drop (k + 1)))) := by show R = _; rw [HE.out, upK_at hs]
          clear hs HE
          have q1 := Wd.cell c5
          have q2 := Wd.cell c4
          have q3 := Wd.cell cs
          have q4 := Wd.cell n0
          obtain ⟨va, vc, ev⟩ := HU.out.own.slice
          subst ev
          obtain ⟨el, HEL⟩ : ∃ el, Hid (E.length = el) := ⟨_, rfl⟩
          rw [HEL.out] at hE HU
          rw [HEL.out]
          by_cases hq : s = u.name
          · have HF : Hid (R = (E ++ [(k : Int)]) ++ (upK u.name k (t.after.drop (j + 1)) ++ upsG t.after (k + 1) (ts.drop (k + 1)))) := by show R = _; rw [HS.out, if_pos hq]; simp
            have hq2 := eq_list hq
            clear hq HS
            go_wp2
            refine wp_region_wd (by kernel_rfl) (by kernel_rfl) ?_
            repeat (go_big_quiet_step (fail))
            refine wpQuiet_nil ?_
            rintro _ ⟨x, rfl⟩
            obtain ⟨V, hV⟩ : ∃ V, x.at' = V := ⟨_, rfl⟩
            have HV : Hid (∀ o, UpS w nm cr fr up cu (.slice (some ⟨b1, o1, none⟩) n cap) (V.alloc o) (.slice va el vc) E g) := fun o => by rw [← hV]; exact HU.out.onW (ba x.ok _)
            have hs1 : w.heap.size ≤ V.heap.size := by rw [← hV]; exact Nat.le_trans HU.out.bel.size x.ok.size
            rw [hV]
            clear hV HU c5 c4 cs n0 q1 q2 q3 q4
            go_wp2_with (at_builtin; refine append_recW _ w rfl (.tmp 43) (.tmp 45) 90 rfl w.heap.size 3 _ 8 underI info3 rfl _ E rfl (HV.out _).own (HV.out _).bel V.heap.size 1 (k : Int) rfl (cell_int (by simp [go_sem])) (by rw [HEL.out]; omega) (by decide) (by simp; omega) ?_; intro v4 w4 ho4 hb4 hg4 hl4)
            obtain ⟨g4, hu4⟩ := (HV.out _).more ho4 hg4 hl4
            have HU4 : Hid (UpS w nm cr fr up cu (.slice (some ⟨b1, o1, none⟩) n cap) w4 v4 (E ++ [(k : Int)]) g4) := hu4
            clear hu4 ho4 hb4 hg4 hl4 HV
            go_wp2
            go_roundw
            case rel => exact ⟨j + 1, g4, _, by omega, by go_num, (by rw [List.length_append, HEL.out]; show el + 1 ≤ _; omega), HF, HU4⟩
            case measure => simp [intOf]; omega
          · have HF : Hid (R = E ++ (upK u.name k (t.after.drop (j + 1)) ++ upsG t.after (k + 1) (ts.drop (k + 1)))) := by show R = _; rw [HS.out, if_neg hq]
            have hq2 := ne_list hq
            clear hq HS
            go_wp2
            refine wp_region_wd (by kernel_rfl) (by kernel_rfl) ?_
            repeat (go_big_quiet_step (fail))
            refine wpQuiet_nil ?_
            rintro _ ⟨x, rfl⟩
            have HU4 : Hid (UpS w nm cr fr up cu (.slice (some ⟨b1, o1, none⟩) n cap) x.at' (.slice va el vc) E g) := HU.out.onW x.ok
            clear c5 c4 cs n0 q1 q2 q3 q4
            go_wp2
            go_roundw
            case rel => exact ⟨j + 1, g, E, by omega, by go_num, (by rw [HEL.out]; omega), HF, HU4⟩
            case measure => simp [intOf]; omega
        · have HF : Hid (R = E ++ upsG t.after (k + 1) (ts.drop (k + 1))) := by show R = _; rw [HE.out, upK_end (by rw [HM.out]; omega), List.nil_append]
          go_wp2
          go_roundw
          case rel => exact ⟨k + 1, g, E, by omega, by go_num, by omega, HF, HU⟩
          case measure => simp [intOf]; omega
    · have HF : Hid (E = R) := by show E = R; rw [HE.out, upsG_end (by rw [HN.out]; omega), List.append_nil]
      obtain ⟨va, vc, ev⟩ := HU.out.own.slice
      subst ev
      have HO : Hid (ownsR wr w.heap.size 3 (.slice va E.length vc) R ∧ Below w.heap.size w wr) := ⟨by rw [← HF.out]; exact HU.out.own, HU.out.bel⟩
      clear HU HE
      go_wp2
      go_ret
      exact ⟨_, rfl, HO.out⟩
end Go.Proofs.YtjmclcjhimcehaaGreatDoor

namespace Go.Proofs.YtjmclcjhimcehaaGreatDoor
open Go Go.RowKit
set_option linter.unusedVariables false

set_option maxRecDepth 10000 in
set_option maxHeartbeats 1000000 in
theorem isRunSpan_any (a b : Int) (w : World) :
    Calls Tryz.prog 39 #[.agg #[.int .i64 a, .int .i64 b]] w fun e w' => e = .returned (.bool (spanB a b)) ∧ Below w.heap.size w w' := by
  by_cases h0 : 0 ≤ a
  case neg =>
    have HE : Hid (spanB a b = false) := decide_eq_false (by omega)
    rw [HE.out]
    have h0' : decide (0 ≤ a) = false := decide_eq_false h0
    go_enter Tryz.func39, Tryz.ntmps39
    go_wp2
    go_ret
    exact ⟨rfl, ba (Below.refl _ _) _⟩
  have h0' : decide (0 ≤ a) = true := decide_eq_true h0
  by_cases h1 : a < b
  case neg =>
    have HE : Hid (spanB a b = false) := decide_eq_false (by omega)
    rw [HE.out]
    have h1' : decide (a < b) = false := decide_eq_false h1
    go_enter Tryz.func39, Tryz.ntmps39
    go_wp2
    go_ret
    exact ⟨rfl, ba (Below.refl _ _) _⟩
  have h1' : decide (a < b) = true := decide_eq_true h1
  have HE : Hid (spanB a b = decide (b ≤ 68374079)) := decide_eq_decide.2 ⟨fun h => h.2.2, fun h => ⟨h0, h1, h⟩⟩
  rw [HE.out]
  go_enter Tryz.func39, Tryz.ntmps39
  go_wp2
  go_ret
  exact ⟨rfl, ba (Below.refl _ _) _⟩
set_option maxRecDepth 10000 in
set_option maxHeartbeats 1000000 in
theorem l14Span_any (a b : Int) (w : World) :
    Calls Tryz.prog 36 #[.agg #[.int .i64 a, .int .i64 b]] w fun e w' => e = .returned (.bool (spanB a b)) ∧ Below w.heap.size w w' := by
  by_cases h0 : 0 ≤ a
  case neg =>
    have HE : Hid (spanB a b = false) := decide_eq_false (by omega)
    rw [HE.out]
    have h0' : decide (0 ≤ a) = false := decide_eq_false h0
    go_enter Tryz.func36, Tryz.ntmps36
    go_wp2
    go_ret
    exact ⟨rfl, ba (Below.refl _ _) _⟩
  have h0' : decide (0 ≤ a) = true := decide_eq_true h0
  by_cases h1 : a < b
  case neg =>
    have HE : Hid (spanB a b = false) := decide_eq_false (by omega)
    rw [HE.out]
    have h1' : decide (a < b) = false := decide_eq_false h1
    go_enter Tryz.func36, Tryz.ntmps36
    go_wp2
    go_ret
    exact ⟨rfl, ba (Below.refl _ _) _⟩
  have h1' : decide (a < b) = true := decide_eq_true h1
  have HE : Hid (spanB a b = decide (b ≤ 68374079)) := decide_eq_decide.2 ⟨fun h => h.2.2, fun h => ⟨h0, h1, h⟩⟩
  rw [HE.out]
  go_enter Tryz.func36, Tryz.ntmps36
  go_wp2
  go_ret
  exact ⟨rfl, ba (Below.refl _ _) _⟩
set_option maxRecDepth 10000 in
set_option maxHeartbeats 4000000 in
theorem stRight_any (s : Sa) (n1 n2 : ByteArray) (ret : Int) (pa : Bool) (fo : Option Addr) (fl fc : Nat) (w : World) (h3 : 0 ≤ ret) (h4 : ret ≤ 3) :
    Calls Tryz.prog 104 #[.agg #[.int .i64 s.is, .int .i64 s.tries, .int .i64 s.tok, .int .i64 s.til], .agg #[.string n1, .string n2, .int .i64 ret, .bool pa, .slice fo fl fc]] w fun e w' => e = .returned (.bool (saB s ret)) ∧ Below w.heap.size w w' := by
  obtain ⟨is, tr, tk, tl⟩ := s
  show Calls Tryz.prog 104 #[.agg #[.int .i64 is, .int .i64 tr, .int .i64 tk, .int .i64 tl], .agg #[.string n1, .string n2, .int .i64 ret, .bool pa, .slice fo fl fc]] w fun e w' => e = .returned (.bool (decide (0 ≤ tr ∧ tr ≤ ret + 1 ∧ 0 ≤ tk ∧ tk ≤ 1000000000 ∧ (0 < tk ↔ is = 1) ∧ 0 ≤ tl ∧ tl ≤ 68374179))) ∧ Below w.heap.size w w'
  by_cases h0 : 0 ≤ tr
  case neg =>
    have h0' : decide (0 ≤ tr) = false := decide_eq_false h0
    have HE : Hid (decide (0 ≤ tr ∧ tr ≤ ret + 1 ∧ 0 ≤ tk ∧ tk ≤ 1000000000 ∧ (0 < tk ↔ is = 1) ∧ 0 ≤ tl ∧ tl ≤ 68374179) = false) := decide_eq_false (by omega)
    rw [HE.out]
    go_enter Tryz.func104, Tryz.ntmps104
    go_wp2
    go_ret
    exact ⟨rfl, ba (ba (Below.refl _ _) _) _⟩
  have h0' : decide (0 ≤ tr) = true := decide_eq_true h0
  by_cases h1 : tr ≤ ret + 1
  case neg =>
    have h1' : decide (tr ≤ ret + 1) = false := decide_eq_false h1
    have HE : Hid (decide (0 ≤ tr ∧ tr ≤ ret + 1 ∧ 0 ≤ tk ∧ tk ≤ 1000000000 ∧ (0 < tk ↔ is = 1) ∧ 0 ≤ tl ∧ tl ≤ 68374179) = false) := decide_eq_false (by omega)
    rw [HE.out]
    go_enter Tryz.func104, Tryz.ntmps104
    go_wp2
    go_ret
    exact ⟨rfl, ba (ba (Below.refl _ _) _) _⟩
  have h1' : decide (tr ≤ ret + 1) = true := decide_eq_true h1
  by_cases h2 : 0 ≤ tk
  case neg =>
    have h2' : decide (0 ≤ tk) = false := decide_eq_false h2
    have HE : Hid (decide (0 ≤ tr ∧ tr ≤ ret + 1 ∧ 0 ≤ tk ∧ tk ≤ 1000000000 ∧ (0 < tk ↔ is = 1) ∧ 0 ≤ tl ∧ tl ≤ 68374179) = false) := decide_eq_false (by omega)
    rw [HE.out]
    go_enter Tryz.func104, Tryz.ntmps104
    go_wp2
    go_ret
    exact ⟨rfl, ba (ba (Below.refl _ _) _) _⟩
  have h2' : decide (0 ≤ tk) = true := decide_eq_true h2
  by_cases h5 : tk ≤ 1000000000
  case neg =>
    have h5' : decide (tk ≤ 1000000000) = false := decide_eq_false h5
    have HE : Hid (decide (0 ≤ tr ∧ tr ≤ ret + 1 ∧ 0 ≤ tk ∧ tk ≤ 1000000000 ∧ (0 < tk ↔ is = 1) ∧ 0 ≤ tl ∧ tl ≤ 68374179) = false) := decide_eq_false (by omega)
    rw [HE.out]
    go_enter Tryz.func104, Tryz.ntmps104
    go_wp2
    go_ret
    exact ⟨rfl, ba (ba (Below.refl _ _) _) _⟩
  have h5' : decide (tk ≤ 1000000000) = true := decide_eq_true h5
  by_cases h6 : 0 < tk ↔ is = 1
  case neg =>
    by_cases h7 : 0 < tk
    · have h7' : decide (0 < tk) = true := decide_eq_true h7
      have h8 : (is == 1) = false := beq_eq_false_iff_ne.2 (by omega)
      have HE : Hid (decide (0 ≤ tr ∧ tr ≤ ret + 1 ∧ 0 ≤ tk ∧ tk ≤ 1000000000 ∧ (0 < tk ↔ is = 1) ∧ 0 ≤ tl ∧ tl ≤ 68374179) = false) := decide_eq_false (by omega)
      rw [HE.out]
      go_enter Tryz.func104, Tryz.ntmps104
      go_wp2
      go_ret
      exact ⟨rfl, ba (ba (Below.refl _ _) _) _⟩
    · have h7' : decide (0 < tk) = false := decide_eq_false h7
      have h8 : (is == 1) = true := beq_iff_eq.2 (by omega)
      have HE : Hid (decide (0 ≤ tr ∧ tr ≤ ret + 1 ∧ 0 ≤ tk ∧ tk ≤ 1000000000 ∧ (0 < tk ↔ is = 1) ∧ 0 ≤ tl ∧ tl ≤ 68374179) = false) := decide_eq_false (by omega)
      rw [HE.out]
      go_enter Tryz.func104, Tryz.ntmps104
      go_wp2
      go_ret
      exact ⟨rfl, ba (ba (Below.refl _ _) _) _⟩
  by_cases h9 : 0 ≤ tl
  case neg =>
    have h9' : decide (0 ≤ tl) = false := decide_eq_false h9
    by_cases h7 : 0 < tk
    · have h7' : decide (0 < tk) = true := decide_eq_true h7
      have h8 : (is == 1) = true := beq_iff_eq.2 (by omega)
      have HE : Hid (decide (0 ≤ tr ∧ tr ≤ ret + 1 ∧ 0 ≤ tk ∧ tk ≤ 1000000000 ∧ (0 < tk ↔ is = 1) ∧ 0 ≤ tl ∧ tl ≤ 68374179) = false) := decide_eq_false (by omega)
      rw [HE.out]
      go_enter Tryz.func104, Tryz.ntmps104
      go_wp2
      go_ret
      exact ⟨rfl, ba (ba (Below.refl _ _) _) _⟩
    · have h7' : decide (0 < tk) = false := decide_eq_false h7
      have h8 : (is == 1) = false := beq_eq_false_iff_ne.2 (by omega)
      have HE : Hid (decide (0 ≤ tr ∧ tr ≤ ret + 1 ∧ 0 ≤ tk ∧ tk ≤ 1000000000 ∧ (0 < tk ↔ is = 1) ∧ 0 ≤ tl ∧ tl ≤ 68374179) = false) := decide_eq_false (by omega)
      rw [HE.out]
      go_enter Tryz.func104, Tryz.ntmps104
      go_wp2
      go_ret
      exact ⟨rfl, ba (ba (Below.refl _ _) _) _⟩
  have h9' : decide (0 ≤ tl) = true := decide_eq_true h9
  by_cases h7 : 0 < tk
  · have h7' : decide (0 < tk) = true := decide_eq_true h7
    have h8 : (is == 1) = true := beq_iff_eq.2 (by omega)
    have HE : Hid (decide (0 ≤ tr ∧ tr ≤ ret + 1 ∧ 0 ≤ tk ∧ tk ≤ 1000000000 ∧ (0 < tk ↔ is = 1) ∧ 0 ≤ tl ∧ tl ≤ 68374179) = decide (tl ≤ 68374179)) := decide_eq_decide.2 ⟨fun h => h.2.2.2.2.2.2, fun h => ⟨h0, h1, h2, h5, h6, h9, h⟩⟩
    rw [HE.out]
    go_enter Tryz.func104, Tryz.ntmps104
    go_wp2
    go_ret
    exact ⟨rfl, ba (ba (Below.refl _ _) _) _⟩
  · have h7' : decide (0 < tk) = false := decide_eq_false h7
    have h8 : (is == 1) = false := beq_eq_false_iff_ne.2 (by omega)
    have HE : Hid (decide (0 ≤ tr ∧ tr ≤ ret + 1 ∧ 0 ≤ tk ∧ tk ≤ 1000000000 ∧ (0 < tk ↔ is = 1) ∧ 0 ≤ tl ∧ tl ≤ 68374179) = decide (tl ≤ 68374179)) := decide_eq_decide.2 ⟨fun h => h.2.2.2.2.2.2, fun h => ⟨h0, h1, h2, h5, h6, h9, h⟩⟩
    rw [HE.out]
    go_enter Tryz.func104, Tryz.ntmps104
    go_wp2
    go_ret
    exact ⟨rfl, ba (ba (Below.refl _ _) _) _⟩
set_option maxRecDepth 10000 in
set_option maxHeartbeats 4000000 in
theorem stands_any (uo : Option Addr) (un uc : Nat) (U : List Int) (ro : Option Addr) (rl rc : Nat) (rn : ByteArray) (rf ru re : Int) (st : List Sa) (k : Nat) (x : Sa) (w : World) (hr : Reads w (.slice ro rl rc) st) (hn : rl ≤ 1048577) (hu : Reads w (.slice uo un uc) U) (hun : un ≤ 1048577) (hx : st[k]? = some x) :
    Calls Tryz.prog 105 #[.agg #[.string rn, .int .i64 rf, .int .i64 ru, .int .i64 re, .slice ro rl rc], .slice uo un uc, .int .i64 k] w fun e w' => e = .returned (.bool (standB st U x.is)) ∧ Below w.heap.size w w' := by
  have HD : Hid (∀ W, Below w.heap.size w W → Calls Tryz.prog 53 #[.slice uo un uc, .func (.func 55) #[.agg #[.string rn, .int .i64 rf, .int .i64 ru, .int .i64 re, .slice ro rl rc]] #[]] W fun e w' => e = .returned (.bool (U.any (undoneB st))) ∧ Below W.heap.size W w') := fun W hb => cont_isNotDone uo un uc U ro rl rc rn rf ru re st W (hr.below hb) hn (hu.below hb) hun
  have HS : Hid (∀ W, Below w.heap.size w W → Calls Tryz.prog 53 #[.slice uo un uc, .func (.func 68) #[.agg #[.string rn, .int .i64 rf, .int .i64 ru, .int .i64 re, .slice ro rl rc]] #[]] W fun e w' => e = .returned (.bool (U.any (stuckB st))) ∧ Below W.heap.size W w') := fun W hb => cont_isStuck uo un uc U ro rl rc rn rf ru re st W (hr.below hb) hn (hu.below hb) hun
  have hkn : k < rl := by rw [hr.len]; exact (List.getElem?_eq_some_iff.1 hx).1
  obtain ⟨W1, hW1⟩ : ∃ W1, w.alloc (.cells #[.string rn, .int .i64 rf, .int .i64 ru, .int .i64 re, .slice ro rl rc] 31) = W1 := ⟨_, rfl⟩
  have Z1 : R5 W1 w.heap.size rn rf ru re (.slice ro rl rc) := by rw [← hW1]; exact R5.new _ _ _ _ _ _
  have B1 : Below w.heap.size w W1 := by rw [← hW1]; exact ba (Below.refl _ _) _
  obtain ⟨b, o, eb, hb, d0, -, -, -⟩ := sa_at (hr.below B1) hx
  subst eb
  clear hr hu hx
  have c0 := Z1.c0
  have c1 := Z1.c1
  have c2 := Z1.c2
  have c3 := Z1.c3
  have c4 := Z1.c4
  obtain ⟨is, tr, tk, tl⟩ := x
  show Calls Tryz.prog 105 #[.agg #[.string rn, .int .i64 rf, .int .i64 ru, .int .i64 re, .slice (some ⟨b, o, none⟩) rl rc], .slice uo un uc, .int .i64 k] w fun e w' => e = .returned (.bool (standB st U is)) ∧ Below w.heap.size w w'
  replace d0 : W1.cell? ⟨b, o + k * 4, none⟩ = some (.int .i64 is) := d0
  by_cases h1 : is = 1
  · subst h1
    have HE : Hid (standB st U 1 = (!(U.any (undoneB st)))) := rfl
    rw [HE.out]
    go_enter Tryz.func105, Tryz.ntmps105
    go_wp2_with fail
    refine (HD.out _ B1).mono ?_
    rintro e w2 ⟨rfl, hb2⟩
    have B2 := Below.on B1 hb2
    go_wp2
    go_ret
    exact ⟨rfl, B2⟩
  have h1' : (is == 1) = false := beq_eq_false_iff_ne.2 h1
  by_cases h2 : is = 2
  · subst h2
    have HE : Hid (standB st U 2 = (!(U.any (undoneB st)))) := rfl
    rw [HE.out]
    go_enter Tryz.func105, Tryz.ntmps105
    go_wp2_with fail
    refine (HD.out _ B1).mono ?_
    rintro e w2 ⟨rfl, hb2⟩
    have B2 := Below.on B1 hb2
    go_wp2
    go_ret
    exact ⟨rfl, B2⟩
  have h2' : (is == 2) = false := beq_eq_false_iff_ne.2 h2
  by_cases h4 : is = 4
  · subst h4
    have HE : Hid (standB st U 4 = (U.any (stuckB st))) := rfl
    rw [HE.out]
    go_enter Tryz.func105, Tryz.ntmps105
    go_wp2_with fail
    refine (HS.out _ B1).mono ?_
    rintro e w2 ⟨rfl, hb2⟩
    have B2 := Below.on B1 hb2
    go_wp2
    go_ret
    exact ⟨rfl, B2⟩
  have h4' : (is == 4) = false := beq_eq_false_iff_ne.2 h4
  by_cases h0 : is = 0
  · subst h0
    have HE : Hid (standB st U 0 = (!(U.any (stuckB st)))) := rfl
    rw [HE.out]
    go_enter Tryz.func105, Tryz.ntmps105
    go_wp2_with fail
    refine (HS.out _ B1).mono ?_
    rintro e w2 ⟨rfl, hb2⟩
    have B2 := Below.on B1 hb2
    go_wp2
    go_ret
    exact ⟨rfl, B2⟩
  have h0' : (is == 0) = false := beq_eq_false_iff_ne.2 h0
  by_cases h3 : is = 3
  · subst h3
    have HE : Hid (standB st U 3 = true) := rfl
    rw [HE.out]
    go_enter Tryz.func105, Tryz.ntmps105
    go_wp2
    go_ret
    exact ⟨rfl, B1⟩
  have h3' : (is == 3) = false := beq_eq_false_iff_ne.2 h3
  have HE : Hid (standB st U is = false) := by
    show standB st U is = false
    unfold standB
    rw [if_neg (by omega), if_neg h4, if_neg h0, decide_eq_false h3]
  rw [HE.out]
  go_enter Tryz.func105, Tryz.ntmps105
  go_wp2
  go_ret
  exact ⟨rfl, B1⟩
theorem ups_len {ts : List Ta} (hr : Rg4 ts) (i : Int) : (upsA ts i).length ≤ 4 := Nat.le_trans (ascL_len _ _) hr.few
set_option maxRecDepth 10000 in
set_option maxHeartbeats 8000000 in
theorem l14Ups_any (ao : Option Addr) (n cap : Nat) (nm cr : ByteArray) (fr up : Int) (cu : Bool) (ts : List Ta) (ro : Option Addr) (rl rc : Nat) (rn : ByteArray) (rf ru re : Int) (st : List Sa) (i : Nat) (w : World) (ht : Tasks w (.slice ao n cap) ts) (hrg : Rg4 ts) (hi : i < n) (hr : Reads w (.slice ro rl rc) st) (hl : rl = n) :
    Calls Tryz.prog 65 #[.agg #[.string nm, .string cr, .int .i64 fr, .int .i64 up, .bool cu, .slice ao n cap], .agg #[.string rn, .int .i64 rf, .int .i64 ru, .int .i64 re, .slice ro rl rc], .int .i64 i] w fun e w' => e = .returned (.tuple #[.bool (!(upsA ts (i : Int)).any (undoneB st)), .bool ((upsA ts (i : Int)).any (stuckB st))]) ∧ Below w.heap.size w w' := by
  have HN : Hid (ts.length = n) := by
    obtain ⟨ao', cap', e⟩ := ht.slice
    injection e with _ e2 _
    exact e2.symm
  have HRN : Hid (st.length = n) := by show st.length = n; rw [← hl]; exact hr.len.symm
  have hn4 : n ≤ 4 := by rw [← HN.out]; exact hrg.few
  have HU : Hid (∀ W, Below w.heap.size w W → Calls Tryz.prog 112 #[.agg #[.string nm, .string cr, .int .i64 fr, .int .i64 up, .bool cu, .slice ao n cap], .int .i64 i] W fun e w' => ∃ v, e = .returned v ∧ ownsR w' W.heap.size 3 v (upsA ts (i : Int)) ∧ Below W.heap.size W w') := fun W hb => by
    obtain ⟨t, htt⟩ : ∃ t, ts[i]? = some t := ⟨_, List.getElem?_eq_getElem (by rw [HN.out]; exact hi)⟩
    have hm := List.mem_of_getElem? htt
    have h2 := l13Ups_any ao n cap nm cr fr up cu ts i t W (ht.below hb) hn4 htt (rg_few hrg hm)
    have e4 : upsA ts (i : Int) = upsC ts t.after := by
      unfold upsA
      rw [af_at htt]
    rw [ups_spec hrg hm, ← e4] at h2
    exact h2
  have HIN : Hid (∀ u ∈ upsA ts (i : Int), ∃ k : Nat, k < n ∧ u = (k : Int)) := fun u hu => by
    obtain ⟨k, hk, _, e⟩ := ascL_mem.1 hu
    exact ⟨k, by rw [← HN.out]; exact hk, e⟩
  have HL4 : Hid ((upsA ts (i : Int)).length ≤ 4) := ups_len hrg _
  obtain ⟨U, HUE⟩ : ∃ U, Hid (upsA ts (i : Int) = U) := ⟨_, rfl⟩
  rw [HUE.out] at HU HIN HL4
  rw [HUE.out]
  have HRD : Hid (∀ W, Below w.heap.size w W → Reads W (.slice ro rl rc) st) := fun W hb => hr.below hb
  clear ht hr HUE hrg
  subst hl
  obtain ⟨W1, hW1⟩ : ∃ W1, (w.alloc (.cells #[.string nm, .string cr, .int .i64 fr, .int .i64 up, .bool cu, .slice ao rl cap] 36)).alloc (.cells #[.string rn, .int .i64 rf, .int .i64 ru, .int .i64 re, .slice ro rl rc] 31) = W1 := ⟨_, rfl⟩
  have Z1 : P6 W1 w.heap.size nm cr fr up cu (.slice ao rl cap) := by rw [← hW1]; exact (P6.new _ _ _ _ _ _ _).on (ba (Below.refl _ _) _)
  have X1 : R5 W1 (w.heap.size + 1) rn rf ru re (.slice ro rl rc) := by
    rw [← hW1]
    have := R5.new (w.alloc (.cells #[.string nm, .string cr, .int .i64 fr, .int .i64 up, .bool cu, .slice ao rl cap] 36)) rn rf ru re (.slice ro rl rc)
    simpa using this
  have B1 : Below w.heap.size w W1 := by rw [← hW1]; exact ba (ba (Below.refl _ _) _) _
  have c0 := Z1.c0
  have c1 := Z1.c1
  have c2 := Z1.c2
  have c3 := Z1.c3
  have c4 := Z1.c4
  have c5 := Z1.c5
  go_enter Tryz.func65, Tryz.ntmps65
  go_wp2_with fail
  refine (HU.out _ B1).mono ?_
  rintro e w2 ⟨v2, rfl, ho2, hb2⟩
  have X2 := X1.on hb2
  have B2 := Below.on B1 hb2
  have HO2 : Hid (ownsR w2 w.heap.size 3 v2 U) := ho2.mono B1.size
  obtain ⟨ua, uc, eu⟩ := ho2.slice
  subst eu
  obtain ⟨ul, HUL⟩ : ∃ ul, Hid (U.length = ul) := ⟨_, rfl⟩
  rw [HUL.out] at HO2 HL4
  rw [HUL.out]
  have hul : ul ≤ 4 := HL4.out
  clear c0 c1 c2 c3 c4 c5 hW1 Z1 X1 B1 hb2 ho2 HU
  go_wp2
  go_loopw [8, 9, 11] (fun av bv kv wr => ∃ (a b : Bool) (k : Nat), av = .bool a ∧ bv = .bool b ∧ k ≤ ul ∧ kv = .int .i64 k ∧ Hid (U.any (undoneB st) = (!a || (U.drop k).any (undoneB st))) ∧ Hid (U.any (stuckB st) = (b || (U.drop k).any (stuckB st))) ∧ R5 wr (w.heap.size + 1) rn rf ru re (.slice ro rl rc) ∧ Hid (ownsR wr w.heap.size 3 (.slice ua ul uc) U) ∧ Below w.heap.size w wr) (fun _ _ kv _ => ul - (intOf kv).toNat)
  case atStart => exact ⟨true, false, 0, rfl, rfl, Nat.zero_le _, rfl, (by show _ = (!true || (U.drop 0).any _); rw [List.drop_zero]; rfl), (by show _ = (false || (U.drop 0).any _); rw [List.drop_zero]; rfl), X2, HO2, B2⟩
  case round =>
    clear X2 B2 HO2
    obtain ⟨a, b, k, rfl, rfl, hk, rfl, HA, HB, X1, HO, B1⟩ := hrel
    have c4 := X1.c4
    by_cases hlt : k < ul
    · obtain ⟨t, ht⟩ : ∃ t, U[k]? = some t := ⟨_, List.getElem?_eq_getElem (by rw [HUL.out]; exact hlt)⟩
      obtain ⟨bu, ou, eb, hbu, cx⟩ := int_at HO.out.reads ht
      subst eb
      obtain ⟨m, hm, rfl⟩ := HIN.out t (List.mem_of_getElem? ht)
      obtain ⟨x, hx⟩ : ∃ x, st[m]? = some x := ⟨_, List.getElem?_eq_getElem (by rw [HRN.out]; exact hm)⟩
      obtain ⟨bs, os, es, hbs, d0, -, -, -⟩ := sa_at (HRD.out wr B1) hx
      subst es
      have HA1 : Hid (U.any (undoneB st) = (!a || (!decide (x.is = 2) || (U.drop (k + 1)).any (undoneB st)))) := by
        show _ = _
        rw [HA.out, anyR_at ht]
        unfold undoneB
        rw [isN_in hx]
      have HB1 : Hid (U.any (stuckB st) = (b || ((decide (x.is = 3) || decide (x.is = 4)) || (U.drop (k + 1)).any (stuckB st)))) := by
        show _ = _
        rw [HB.out, anyR_at ht]
        unfold stuckB
        rw [isN_in hx, isN_in hx]
      obtain ⟨is, tr, tk, tl⟩ := x
      replace HA1 : Hid (U.any (undoneB st) = (!a || (!decide (is = 2) || (U.drop (k + 1)).any (undoneB st)))) := HA1
      replace HB1 : Hid (U.any (stuckB st) = (b || ((decide (is = 3) || decide (is = 4)) || (U.drop (k + 1)).any (stuckB st)))) := HB1
      replace d0 : wr.cell? ⟨bs, os + m * 4, none⟩ = some (.int .i64 is) := d0
      clear ht hx HA HB
      have q1 := Wd.cell c4
      have q2 := Wd.cell cx
      have q3 := Wd.cell d0
      go_wp2
      refine wp_region_wd (by kernel_rfl) (by kernel_rfl) ?_
      repeat (go_big_quiet_step (fail))
      refine wpQuiet_nil ?_
      rintro _ ⟨y, rfl⟩
      have X3 := X1.on y.ok
      have HO3 : Hid (ownsR y.at' w.heap.size 3 (.slice (some ⟨bu, ou, none⟩) ul uc) U) := HO.out.all y.ok
      have B3 := Below.on B1 y.ok
      obtain ⟨V, hV⟩ : ∃ V, y.at' = V := ⟨_, rfl⟩
      rw [hV] at X3 HO3 B3
      rw [hV]
      clear hV y X1 HO B1 c4 cx d0 q1 q2 q3
      rcases (show is = 2 ∨ is = 3 ∨ is = 4 ∨ (is ≠ 2 ∧ is ≠ 3 ∧ is ≠ 4) by omega) with h | h | h | h
      · subst h
        have HA2 : Hid (U.any (undoneB st) = (!(a && true) || (U.drop (k + 1)).any (undoneB st))) := by
          have := HA1.out
          show _ = _
          rw [this]
          cases a <;> rfl
        have HB2 : Hid (U.any (stuckB st) = ((b || false) || (U.drop (k + 1)).any (stuckB st))) := by
          have := HB1.out
          show _ = _
          rw [this]
          cases b <;> rfl
        clear HA1 HB1
        cases a <;> cases b <;> (go_wp2; go_roundw; (case rel => exact ⟨_, _, k + 1, rfl, rfl, by omega, by go_num, HA2, HB2, X3, HO3, B3⟩); (case measure => simp [intOf]; omega))
      · subst h
        have HA2 : Hid (U.any (undoneB st) = (!(a && false) || (U.drop (k + 1)).any (undoneB st))) := by
          have := HA1.out
          show _ = _
          rw [this]
          cases a <;> rfl
        have HB2 : Hid (U.any (stuckB st) = ((b || true) || (U.drop (k + 1)).any (stuckB st))) := by
          have := HB1.out
          show _ = _
          rw [this]
          cases b <;> rfl
        clear HA1 HB1
        cases a <;> cases b <;> (go_wp2; go_roundw; (case rel => exact ⟨_, _, k + 1, rfl, rfl, by omega, by go_num, HA2, HB2, X3, HO3, B3⟩); (case measure => simp [intOf]; omega))
      · subst h
        have HA2 : Hid (U.any (undoneB st) = (!(a && false) || (U.drop (k + 1)).any (undoneB st))) := by
          have := HA1.out
          show _ = _
          rw [this]
          cases a <;> rfl
        have HB2 : Hid (U.any (stuckB st) = ((b || true) || (U.drop (k + 1)).any (stuckB st))) := by
          have := HB1.out
          show _ = _
          rw [this]
          cases b <;> rfl
        clear HA1 HB1
        cases a <;> cases b <;> (go_wp2; go_roundw; (case rel => exact ⟨_, _, k + 1, rfl, rfl, by omega, by go_num, HA2, HB2, X3, HO3, B3⟩); (case measure => simp [intOf]; omega))
      · have e2 : (is == 2) = false := beq_eq_false_iff_ne.2 h.1
        have e3 : (is == 3) = false := beq_eq_false_iff_ne.2 h.2.1
        have e4 : (is == 4) = false := beq_eq_false_iff_ne.2 h.2.2
        have HF2 : Hid (decide (is = 2) = false ∧ decide (is = 3) = false ∧ decide (is = 4) = false) := ⟨decide_eq_false h.1, decide_eq_false h.2.1, decide_eq_false h.2.2⟩
        clear h
        have HA2 : Hid (U.any (undoneB st) = (!(a && false) || (U.drop (k + 1)).any (undoneB st))) := by
          have := HA1.out
          rw [HF2.out.1] at this; show _ = _
          rw [this]
          cases a <;> rfl
        have HB2 : Hid (U.any (stuckB st) = ((b || false) || (U.drop (k + 1)).any (stuckB st))) := by
          have := HB1.out
          rw [HF2.out.2.1, HF2.out.2.2] at this; show _ = _
          rw [this]
          cases b <;> rfl
        clear HA1 HB1
        cases a <;> cases b <;> (go_wp2; go_roundw; (case rel => exact ⟨_, _, k + 1, rfl, rfl, by omega, by go_num, HA2, HB2, X3, HO3, B3⟩); (case measure => simp [intOf]; omega))
    · have HA2 : Hid (U.any (undoneB st) = !a) := by show _ = _; rw [HA.out, anyR_end (by rw [HUL.out]; omega), Bool.or_false]
      have HB2 : Hid (U.any (stuckB st) = b) := by show _ = _; rw [HB.out, anyR_end (by rw [HUL.out]; omega), Bool.or_false]
      clear HA HB
      go_wp2
      go_returns
      exact ⟨by rw [HA2.out, HB2.out]; cases a <;> rfl, B1⟩
end Go.Proofs.YtjmclcjhimcehaaGreatDoor
