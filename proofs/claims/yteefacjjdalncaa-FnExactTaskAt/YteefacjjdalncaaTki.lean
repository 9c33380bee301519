/-
  Where a name stands among a plan's tasks, as the program finds it: the walk.
-/
import Derived.Test.YteefacjjdalncaaTa
import Derived.Test.YteefacjjdalncaaP6s
import Derived.ScopeJumps
import Derived.WalkMore
namespace Go.Proofs.Yteefacjjdalncaa
open Go Go.RowKit
set_option linter.unusedVariables false

set_option maxRecDepth 10000 in
set_option maxHeartbeats 2000000 in
theorem implTaskAt_any (ao : Option Addr) (n cap : Nat) (nm cr : ByteArray) (fr up : Int) (cu : Bool) (ts : List Ta) (s : ByteArray) (w : World) (hr : Tasks w (.slice ao n cap) ts) (hn : n ≤ 1048577) :
    Calls Try.prog 7 #[.agg #[.string nm, .string cr, .int .i64 fr, .int .i64 up, .bool cu, .slice ao n cap], .string s] w fun e w' => e = .returned (.int .i64 (atN ts s)) ∧ Below w.heap.size w w' := by
  have HN : Hid (ts.length = n) := by
    obtain ⟨ao', cap', e⟩ := hr.slice
    injection e with _ e2 _
    exact e2.symm
  obtain ⟨W, hW⟩ : ∃ W, w.alloc (.cells #[.string nm, .string cr, .int .i64 fr, .int .i64 up, .bool cu, .slice ao n cap] 29) = W := ⟨_, rfl⟩
  have B0 : Below w.heap.size w W := by rw [← hW]; exact ba (Below.refl _ _) _
  have HR : Hid (Tasks W (.slice ao n cap) ts) := hr.below B0
  have c5 : W.cell? ⟨w.heap.size, 5, none⟩ = some (.slice ao n cap) := by rw [← hW]; exact (P6.new _ _ _ _ _ _ _).c5
  clear hr
  go_enter Try.func7, Try.ntmps7
  go_wp2
  refine wp_scope_jumps 0 (fun a' w' => w' = W ∧ ∃ u6 u7 u8 u9 u10 u11 u12 u13 u14 u15 u16 u17 u18 u19 u20 : Value, a' = { tmps := #[.agg #[.string nm, .string cr, .int .i64 fr, .int .i64 up, .bool cu, .slice ao n cap], .string s, .pointer (some ⟨w.heap.size, 0, none⟩), undef, .int .i64 0, .int .i64 (atN ts s), u6, u7, u8, u9, u10, u11, u12, u13, u14, u15, u16, u17, u18, u19, u20, undef], defers := [] }) (fun _ _ => 0) rfl ?_ ?_
  · go_wp2
    go_loopw [5] (fun i wr => ∃ k : Nat, k ≤ n ∧ i = .int .i64 k ∧ Hid (atN ts s = atG s k (ts.drop k)) ∧ wr = W) (fun i _ => n - (intOf i).toNat)
    case atStart => exact ⟨0, Nat.zero_le _, rfl, (by show atN ts s = atG s 0 (ts.drop 0); rw [List.drop_zero]; rfl), rfl⟩
    case round =>
      obtain ⟨k, hk, rfl, HE, hw⟩ := hrel
      have hw2 := hw.symm
      subst hw2
      by_cases hlt : k < n
      · obtain ⟨t, ht⟩ : ∃ t, ts[k]? = some t := ⟨_, List.getElem?_eq_getElem (by rw [HN.out]; exact hlt)⟩
        obtain ⟨b, o, av, e1, hb, c0, _, _, _, _, _⟩ := HR.out.at ht
        subst e1
        by_cases hq : t.name = s
        · have HF : Hid ((k : Int) = atN ts s) := (HE.out.trans (by rw [atG_at ht, if_pos hq])).symm
          have hq2 := eq_list hq
          clear ht
          go_wp2
          go_step3
          rw [HF.out]
          refine ⟨rfl, rfl, _, _, _, _, _, _, _, _, _, _, _, _, _, _, _, rfl⟩
        · have HF : Hid (atN ts s = atG s (k + 1) (ts.drop (k + 1))) := HE.out.trans (by rw [atG_at ht, if_neg hq])
          have hq2 := ne_list hq
          clear ht
          go_wp2
          go_roundw
          case rel => exact ⟨k + 1, by omega, by go_num, HF, trivial⟩
          case measure => simp [intOf]; omega
      · have HF : Hid (atN ts s = -1) := HE.out.trans (atG_end (by rw [HN.out]; omega))
        go_wp2
        simp only [Exit.jump]
        go_ret
        exact ⟨by rw [HF.out]; rfl, B0⟩
  · rintro a' w' ⟨rfl, u6, u7, u8, u9, u10, u11, u12, u13, u14, u15, u16, u17, u18, u19, u20, rfl⟩
    go_wp2
    simp only [Exit.jump]
    go_ret
    exact ⟨rfl, B0⟩
end Go.Proofs.Yteefacjjdalncaa
