/-
  A right disk that is drawn: the walk.
-/
import Derived.Test.YtekflgecfcjjiaaDr
namespace Go.Proofs.Ytekflgecfcjjiaa
open Go Go.RowKit

theorem slice_three {w : World} {B : Nat} {e : TypeId} {v : Value} {l : List Fl} (h : ownsR w B e v l) : ∃ a n c, v = .slice a n c := by
  obtain ⟨a, c, rfl⟩ := h.slice
  exact ⟨a, _, c, rfl⟩

/-- A name, a number and a row that a round of the drawing lays down. -/
structure Lay where
  nm : ByteArray
  kp : Int
  a : Option Addr
  n : Nat
  d : Nat

/-- The post of a region that goes on. -/
def nrm (R : Act → World → Prop) : Exit → Act → World → Prop
  | .normal, a, w => R a w
  | _, _, _ => False
theorem wp_puts' {P : Program} {c : Code} {Q : Exit → Act → World → Prop} {a : Act} {w : World} {α : Type} (f : α → List (Nat × Value)) (F : α → World → Prop)
    (h : c.wp P (nrm fun a' w' => ∃ x : α, a' = putAll a (f x) ∧ F x w') a w) (h2 : ∀ x w', F x w' → Q .normal (putAll a (f x)) w') : c.wp P Q a w :=
  Go.wp_mono h fun e a' w' hh => by
    cases e <;> first | exact hh.elim | (obtain ⟨x, rfl, hF⟩ := hh; exact h2 x w' hF)

set_option maxRecDepth 10000 in
set_option maxHeartbeats 4000000 in
theorem rightDisk_any (v : Value) (n : Nat) (w : World) (hn : n ≤ 1048576) (hc : CodeAt w w.heap.size v n) :
    Calls Try.prog 13 #[v] w fun e w' => ∃ v' L, e = .returned (.agg #[v']) ∧ diskR L = true ∧ ownsR w' w.heap.size 36 v' L ∧ Below w.heap.size w w' := by
  go_enter Try.func13, Try.ntmps13
  go_wp2_with fail
  refine (new_any v n _ hn (by
    have := hc.keep (w' := w.alloc (Obj.cells #[.slice none 0 0] 26)) (fun k hk => Below.heap_alloc _ _ _ hk)
    obtain ⟨a, cap, hv, hcc⟩ := this
    refine ⟨a, cap, hv, fun j hj => ?_⟩
    obtain ⟨x, z, ha, hlt, hr⟩ := hcc j hj
    exact ⟨x, z, ha, by simp; omega, hr⟩)).mono ?_
  rintro e w1 ⟨g, rfl, hg0, hd1, hb1⟩
  clear hc
  have hg1 : w.heap.size < g := by simp at hg0; omega
  have hgl := hd1.lt
  have hr0 : Rd w (w1.alloc (.cells #[.slice none 0 0] 26)) g w1.heap.size (.slice none 0 0) [] := by
    have k1 : w1.cell? ⟨w.heap.size, 0, none⟩ = some (.slice none 0 0) := (hb1.cell (by simp)).trans (by simp [go_sem])
    have k2 : w1.frozen? ⟨w.heap.size, 0, none⟩ = false := (hb1.frozen (by simp)).trans (by simp [go_sem])
    refine ⟨hd1.keep ((Below.refl _ _).alloc (by omega) _), hg1, hgl, by simp [go_sem], by simp [go_sem], cell_up (ba (Below.refl _ _) _) k1, frozen_on2 (ba (Below.refl _ _) _) k1 k2, ownsR_nil _ _ _, ?_⟩
    exact ba ((ba (Below.refl _ _) _).trans (hb1.mono (by simp))) _
  clear hb1 hd1 hg0 hg1
  go_wp2_with fail
  obtain ⟨W, hW⟩ : ∃ W, w1.alloc (.cells #[.slice none 0 0] 26) = W := ⟨_, rfl⟩
  rw [hW] at hr0 ⊢
  clear hW hgl
  generalize w1.heap.size = D at *
  have H0 : Hid (Rd w W g D (.slice none 0 0) []) := hr0
  clear hr0
  go_loopw [5] (fun i wr => ∃ (k : Nat) (v : Value) (L : List Fl), k ≤ 5 ∧ i = .int .i64 k ∧ Rd w wr g D v L ∧ Hid (RightTo L k)) (fun i _ => 5 - (intOf i).toNat)
  case atStart => exact ⟨0, _, [], Nat.zero_le _, rfl, H0.out, ⟨rfl, Nat.le_refl _⟩⟩
  case round =>
    clear H0
    obtain ⟨k, v, L, hk, rfl, hR, HL⟩ := hrel
    obtain ⟨va, vc, rfl⟩ := hR.own.slice
    go_wp2_with fail
    refine (below_any g 6 _ hR.drw (by decide) (by decide)).mono ?_
    rintro e w2 ⟨x, rfl, hx0, hx1, hd2, hs2⟩
    have R2 := hR.save hs2 hd2
    clear hR hs2 hd2
    by_cases hkx : (k : Int) < x
    · go_wp2_with fail
      refine (below_any g 30 _ R2.drw (by decide) (by decide)).mono ?_
      rintro e w3 ⟨y, rfl, hy0, hy1, hd3, hs3⟩
      obtain ⟨yn, rfl⟩ := Int.eq_ofNat_of_zero_le hy0
      have R3 := R2.save hs3 hd3
      clear R2 hs3 hd3
      go_wp2_with fail
      refine (dtext_any g yn _ R3.drw (by omega)).mono ?_
      rintro e w4 ⟨t, rfl, ht, hd4, hs4⟩
      have R4 := R3.save hs4 hd4
      have ht30 : t.size < 30 := by omega
      clear R3 hs4 hd4 ht
      have hgD := R4.gD
      have R4 : Rd w w4.drew g D (.slice va L.length vc) L := R4.save (W' := w4.drew) (Save.refl g w4).drew R4.drw
      have c4 := R4.box
      have hwr : IntKind.i64.wrap ((t.size : Int) + 1) = (t.size : Int) + 1 := by go_arith
      have hL1 := HL.out.len
      go_wp2_with fail
      refine wp_puts' (α := Lay) (fun x => [(20, .agg #[.slice va L.length vc]), (21, .pointer (some ⟨g, 0, none⟩)), (22, .string x.nm), (23, .string t), (24, .pointer (some ⟨g, 0, none⟩)), (25, .string t), (26, .int .i64 (t.size : Int)), (27, .int .i64 ((t.size : Int) + 1)), (28, .int .i64 x.kp), (29, .agg #[.string x.nm, .string t, .int .i64 x.kp]), (30, .agg #[.slice x.a x.n x.d])]) (fun x w' => (nameR x.nm = true ∧ 0 ≤ x.kp ∧ x.kp ≤ t.size) ∧ Rd w w' g D (.slice x.a x.n x.d) (putL L ⟨x.nm, t, x.kp⟩)) ?_ ?_
      · go_region_with (first | (go_at_call 51; refine (named_any g _ R4.drw).mono ?_; rintro e w5 ⟨nm, rfl, hnm, hd5, hs5⟩; have R5 := R4.save hs5 hd5; have c5 := R5.box) | (go_at_call 48; refine (below_any g _ _ R5.drw (by omega) (by omega)).mono ?_; rintro e w6 ⟨kp, rfl, hk0, hk1, hd6, hs6⟩; have R6 := R5.save hs6 hd6; have c6 := R6.box) | (go_at_call 50; refine (put_try _ _ _ L nm t kp _ R6.own.reads (by omega)).mono ?_; rintro e w7 ⟨v7, rfl, ho7, hb7⟩; obtain ⟨a7, n7, d7, rfl⟩ := slice_three ho7; have c7 := cell_up hb7 c6; have f7 := frozen_on2 hb7 c6 R6.boxf))
        all_goals
          dsimp only [nrm]
          refine ⟨⟨nm, kp, a7, n7, d7⟩, ?_, ⟨hnm, hk0, by show kp ≤ (t.size : Int); omega⟩, R6.put ho7 hb7⟩
          kernel_rfl
      clear c4 R4 hwr
      rintro ⟨nm, kp, a7, n7, d7⟩ w8 ⟨⟨hnm, hk0, hk1⟩, R8⟩
      simp only [putAll]
      dsimp only at hnm hk0 hk1 R8
      have HL8 : Hid (RightTo (putL L ⟨nm, t, kp⟩) (k + 1)) := HL.out.put (by omega) hnm (by omega) hk0 hk1
      go_wp2_with fail
      go_roundw
      case rel => exact ⟨k + 1, _, _, by omega, by go_num, R8, HL8⟩
      case measure => simp [intOf]; omega
    · have c2 := R2.box
      have c3 := R2.res
      have f3 := R2.resf
      have hge := R2.ge
      go_wp2_with fail
      refine bodyPost_ret (ret_disk rfl rfl (World.cell?_setCell_same' _ _ _ (by simp [c3]))) rfl ?_
      exact ⟨_, L, rfl, HL.out.right, (R2.own.setBelow (by show w.heap.size < _; omega) _).mono (by omega), R2.below.setCell (p := ⟨w.heap.size, 0, none⟩) (Nat.le_refl _) _⟩
end Go.Proofs.Ytekflgecfcjjiaa
