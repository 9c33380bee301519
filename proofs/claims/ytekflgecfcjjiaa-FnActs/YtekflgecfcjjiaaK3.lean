/-
  What is drawn for the law on acts: a place, numbers, an act: the walks. An act that is drawn: the walk. Acts that are drawn, one behind the other: the walk. Numbers told in figures of ten by the specification: the walk. What the laws on acts draw: a disk, acts, a place and numbers: the walk, from what the disk's own drawing tells.
-/
import Derived.Test.YtekflgecfcjjiaaK2
import Derived.Test.YtekflgecfcjjiaaDs
import Derived.Test.YtekflgecfcjjiaaAcs
namespace Go.Proofs.Ytekflgecfcjjiaa
open Go Go.RowKit

set_option maxHeartbeats 1000000 in
theorem place_any (g : Nat) (n : Int) (w : World) (hd : Drw w g) (h0 : 0 < n) (h1 : n ≤ 1000000) :
    Calls Try.prog 58 #[.pointer (some ⟨g, 0, none⟩), .int .i64 n] w fun e w' => ∃ z : Int, e = .returned (.int .i64 z) ∧ Drw w' g ∧ Save g w w' := by
  go_enter Try.func58, Try.ntmps58
  go_wp2_with fail
  refine (once_any g 15 _ hd (by decide) (by decide)).mono ?_
  rintro e w1 ⟨b, rfl, hd1, hs1⟩
  cases b with
  | true =>
    go_wp2_with fail
    refine (pickLit_from g [-1, n, n + 1, 9223372036854775807, -9223372036854775808] w w1 hd1 hs1 (by simp) (by simp) (by
      intro z hz
      simp at hz
      omega) _ (by rfl) _ (by rfl)).mono ?_
    rintro e w2 ⟨z, rfl, _, _, hd2, hs2⟩
    go_wp2
    go_ret
    exact ⟨z, rfl, hd2, hs2⟩
  | false =>
    go_wp2_with fail
    refine (below_any g n _ hd1 h0 (by omega)).mono ?_
    rintro e w2 ⟨z, rfl, _, _, hd2, hs2⟩
    go_wp2
    go_ret
    exact ⟨z, rfl, hd2, hs1.trans hs2⟩

set_option maxHeartbeats 1000000 in
theorem left_any (g : Nat) (w : World) (hd : Drw w g) :
    Calls Try.prog 59 #[.pointer (some ⟨g, 0, none⟩)] w fun e w' => ∃ v q, e = .returned v ∧ ownsI w' w.heap.size 3 v q ∧ Drw w' g ∧ Save g w w' := by
  have hg := hd.lt
  go_enter Try.func59, Try.ntmps59
  go_wp2
  go_loopw [3, 4] (fun out i wr => ∃ (k : Nat) (q : List Int), k ≤ 5 ∧ i = .int .i64 k ∧ q.length = k ∧ ownsI wr w.heap.size 3 out q ∧ Drw wr g ∧ Save g w wr) (fun _ i _ => 5 - (intOf i).toNat)
  case atStart => exact ⟨0, [], Nat.zero_le _, rfl, rfl, ownsI_made _ _ _ _ _ (Nat.le_refl _) (by decide) rfl, hd.keep ((Below.refl _ _).alloc (by omega) _), (Save.refl g w).alloc _⟩
  case round =>
    obtain ⟨k, q, hk, rfl, hq, hown, hdr, hsv⟩ := hrel
    go_wp2_with fail
    refine (below_any g 6 _ hdr (by decide) (by decide)).mono ?_
    rintro e w1 ⟨x, rfl, hx0, hx1, hd1, hs1⟩
    have O1 := hown.save hs1 hg
    have S1 := hsv.trans hs1
    clear hown hdr hsv hs1
    by_cases hkx : (k : Int) < x
    · go_wp2_with fail
      refine (pickLit_from g [0, 1, 2, 3, 5, 9, 40, 200, -1, 9223372036854775807] w1 w1 hd1 (Save.refl _ _) (by simp) (by simp) (by decide) _ (by rfl) _ (by rfl)).mono ?_
      rintro e w2 ⟨z, rfl, _, _, hd2, hs2⟩
      have O2 := O1.save hs2 hg
      have S2 := S1.trans hs2
      have hsz := S2.size
      clear O1 S1 hs2 hd1
      go_wp2_with (at_builtin; refine wpList_append_int _ w2 (by rfl) _ _ 28 (by rfl) w.heap.size 3 Try.underlying28 info3 _ q (by rfl) (O2.alloc _) ((Below.refl _ _).alloc (by omega) _) ⟨w2.heap.size, 0, none⟩ 1 z (by rfl) ?c1 ?c2 ?c3 ?_)
      case c1 => simp
      case c2 => omega
      case c3 => simp; omega
      intro v' w3 hown3 hbel3
      have D3 := hd2.keep (hbel3.mono (show g + 1 ≤ w.heap.size by omega))
      have S3 := S2.below_on hbel3 (Nat.le_refl _)
      clear O2 S2 hd2
      go_wp2
      go_roundw
      case rel => exact ⟨k + 1, q ++ [z], by omega, by go_num, by simp; omega, hown3, D3, S3⟩
      case measure => simp [intOf]; omega
    · go_wp2
      go_ret
      exact ⟨_, q, rfl, O1, hd1, S1⟩
end Go.Proofs.Ytekflgecfcjjiaa

namespace Go.Proofs.Ytekflgecfcjjiaa
open Go Go.RowKit

/-- A block of four cells, and one of them stored anew. -/
theorem four_cells {w : World} {g : Nat} {a b c d : Value} {t : TypeId} (h : w.heap[g]? = some (.cells #[a, b, c, d] t)) :
    w.cell? ⟨g, 0, none⟩ = some a ∧ w.cell? ⟨g, 1, none⟩ = some b ∧ w.cell? ⟨g, 2, none⟩ = some c ∧ w.cell? ⟨g, 3, none⟩ = some d ∧ w.frozen? ⟨g, 0, none⟩ = false ∧ w.frozen? ⟨g, 1, none⟩ = false ∧ w.frozen? ⟨g, 2, none⟩ = false ∧ w.frozen? ⟨g, 3, none⟩ = false := by
  simp [World.cell?, World.frozen?, h]
theorem four_set {w : World} {g : Nat} {cs : Array Value} {t : TypeId} (h : w.heap[g]? = some (.cells cs t)) (j : Nat) (u : Value) :
    (w.setCell ⟨g, j, none⟩ u).heap[g]? = some (.cells (cs.setIfInBounds j u) t) := by
  obtain ⟨hlt, hk⟩ := Array.getElem?_eq_some_iff.1 h
  show (w.heap.modify g _)[g]? = _
  rw [Array.getElem?_eq_getElem (by rw [Array.size_modify]; exact hlt), Array.getElem_modify_self, hk]
  rfl

/-- What lies there while an act is drawn. -/
structure Ax (w W : World) (g X : Nat) (a : Ac) : Prop where
  drw : Drw W g
  hg : g < w.heap.size
  hX : w.heap.size < X
  blk : W.heap[X]? = some (.cells #[.int .i64 a.kind, .string a.name, .string a.text, .string a.to] 45)
  res : W.heap[w.heap.size]? = some (.cells #[.int .i64 0, .string ByteArray.empty, .string ByteArray.empty, .string ByteArray.empty] 45)
  sv : Save g w W
def SmA (a : Ac) : Prop := a.name.size ≤ 9 ∧ a.text.size ≤ 6 ∧ a.to.size ≤ 8
theorem Ax.lt {w W : World} {g X : Nat} {a : Ac} (h : Ax w W g X a) : X < W.heap.size := (Array.getElem?_eq_some_iff.1 h.blk).1
theorem Ax.save {w W W' : World} {g X : Nat} {a : Ac} (h : Ax w W g X a) (hs : Save g W W') (hd : Drw W' g) : Ax w W' g X a := by
  have h1 := h.hg
  have h2 := h.hX
  have h3 := h.lt
  exact ⟨hd, h1, h2, (hs.block X h3 (by omega)).trans h.blk, (hs.block _ (by omega) (by omega)).trans h.res, h.sv.trans hs⟩
theorem Save.setNew {g : Nat} {a w : World} (h : Save g a w) {p : Addr} (hp : a.heap.size ≤ p.block) (u : Value) : Save g a (w.setCell p u) :=
  ⟨h.os, h.tape, h.output, Nat.le_trans h.size (by simp), fun k hk hg => by
    rw [heap_setCell_other w p k u (by omega)]; exact h.block k hk hg⟩
theorem Ax.set {w W : World} {g X : Nat} {a a' : Ac} (h : Ax w W g X a) (j : Nat) (u : Value) (he : (#[.int .i64 a.kind, .string a.name, .string a.text, .string a.to] : Array Value).setIfInBounds j u = #[.int .i64 a'.kind, .string a'.name, .string a'.text, .string a'.to]) : Ax w (W.setCell ⟨X, j, none⟩ u) g X a' := by
  have h1 := h.hg
  have h2 := h.hX
  refine ⟨h.drw.keep ((Below.refl _ _).setCell (p := ⟨X, j, none⟩) (by simp; omega) _), h1, h2, by rw [four_set h.blk, he], ?_, h.sv.setNew (by simp; omega) _⟩
  rw [heap_setCell_other W ⟨X, j, none⟩ _ u (by simp; omega)]
  exact h.res
theorem ret_act {fn : Func} {p : Tmp} {w : World} {g : Nat} {a b c d : Value} {tmps : Array Value} (h : fn.results = #[.cell p 45]) (hp : tmps.getD p undef = .pointer (some ⟨g, 0, none⟩)) (hb : w.heap[g]? = some (.cells #[a, b, c, d] 45)) :
    (results fn tmps).run Try.prog w = .ok (.agg #[a, b, c, d]) w := by
  have hp' : tmps[p]?.getD undef = .pointer (some ⟨g, 0, none⟩) := by simpa using hp
  obtain ⟨h0, h1, h2, h3, _⟩ := four_cells hb
  simp [results, h, hp', h0, h1, h2, h3, asAddr, go_sem]

theorem Ax.done {w W : World} {g X : Nat} {a : Ac} (h : Ax w W g X a) :
    ((((W.setCell ⟨w.heap.size, 0, none⟩ (.int .i64 a.kind)).setCell ⟨w.heap.size, 1, none⟩ (.string a.name)).setCell ⟨w.heap.size, 2, none⟩ (.string a.text)).setCell ⟨w.heap.size, 3, none⟩ (.string a.to)).heap[w.heap.size]? = some (.cells #[.int .i64 a.kind, .string a.name, .string a.text, .string a.to] 45) ∧
    Drw ((((W.setCell ⟨w.heap.size, 0, none⟩ (.int .i64 a.kind)).setCell ⟨w.heap.size, 1, none⟩ (.string a.name)).setCell ⟨w.heap.size, 2, none⟩ (.string a.text)).setCell ⟨w.heap.size, 3, none⟩ (.string a.to)) g ∧
    Save g w ((((W.setCell ⟨w.heap.size, 0, none⟩ (.int .i64 a.kind)).setCell ⟨w.heap.size, 1, none⟩ (.string a.name)).setCell ⟨w.heap.size, 2, none⟩ (.string a.text)).setCell ⟨w.heap.size, 3, none⟩ (.string a.to)) := by
  have h1 := h.hg
  refine ⟨?_, ?_, ?_⟩
  · rw [four_set (four_set (four_set (four_set h.res 0 _) 1 _) 2 _) 3 _]
    rfl
  · exact h.drw.keep (((((Below.refl _ _).setCell (p := ⟨w.heap.size, 0, none⟩) (by simp; omega) _).setCell (p := ⟨w.heap.size, 1, none⟩) (by simp; omega) _).setCell (p := ⟨w.heap.size, 2, none⟩) (by simp; omega) _).setCell (p := ⟨w.heap.size, 3, none⟩) (by simp; omega) _)
  · exact (((h.sv.setNew (p := ⟨w.heap.size, 0, none⟩) (Nat.le_refl _) _).setNew (p := ⟨w.heap.size, 1, none⟩) (Nat.le_refl _) _).setNew (p := ⟨w.heap.size, 2, none⟩) (Nat.le_refl _) _).setNew (p := ⟨w.heap.size, 3, none⟩) (Nat.le_refl _) _
theorem Ax.ne {w W : World} {g X : Nat} {a : Ac} (h : Ax w W g X a) : w.heap.size ≠ X := by have := h.hX; omega

set_option maxRecDepth 10000 in
set_option maxHeartbeats 4000000 in
theorem drawAct_any (g : Nat) (w : World) (hd : Drw w g) :
    Calls Try.prog 82 #[.pointer (some ⟨g, 0, none⟩)] w fun e w' => ∃ a : Ac, e = .returned (.agg #[.int .i64 a.kind, .string a.name, .string a.text, .string a.to]) ∧ SmA a ∧ Drw w' g ∧ Save g w w' := by
  have hg := hd.lt
  go_enter Try.func82, Try.ntmps82
  go_wp2_with fail
  refine (below_any g 4 _ (hd.keep ((Below.refl _ _).alloc (by omega) _)) (by decide) (by decide)).mono ?_
  rintro e w1 ⟨x, rfl, hx0, hx1, hd1, hs1⟩
  have hr1 : w1.heap[w.heap.size]? = some (.cells #[.int .i64 0, .string ByteArray.empty, .string ByteArray.empty, .string ByteArray.empty] 45) := (hs1.block _ (by simp) (by omega)).trans (World.alloc_heap_new w _)
  have S1 : Save g w w1 := ((Save.refl g w).alloc _).trans hs1
  clear hs1 hd
  go_wp2_with fail
  refine (named_any g _ hd1).mono ?_
  rintro e w2 ⟨nm, rfl, hnm, hd2, hs2⟩
  have hr2 := (hs2.block w.heap.size (Array.getElem?_eq_some_iff.1 hr1).1 (by omega)).trans hr1
  have hl2 := (Array.getElem?_eq_some_iff.1 hr2).1
  have S2 := S1.trans hs2
  clear hr1 S1 hs2 hd1
  have hnz : nm.size ≤ 8 := by
    simp only [nameR, Bool.and_eq_true, decide_eq_true_eq] at hnm
    exact hnm.2
  have A2 : Ax w (w2.alloc (.cells #[.int .i64 (1 + x), .string nm, .string ByteArray.empty, .string ByteArray.empty] 45)) g w2.heap.size ⟨1 + x, nm, ByteArray.empty, ByteArray.empty⟩ :=
    ⟨hd2.keep ((Below.refl _ _).alloc (by omega) _), hg, hl2, World.alloc_heap_new _ _, (Below.heap_alloc _ _ _ hl2).trans hr2, S2.alloc _⟩
  clear hr2 S2 hd2
  obtain ⟨W, hW⟩ : ∃ W, w2.alloc (.cells #[.int .i64 (1 + x), .string nm, .string ByteArray.empty, .string ByteArray.empty] 45) = W := ⟨_, rfl⟩
  rw [hW] at A2
  obtain ⟨c0, c1, c2, c3, f0, f1, f2, f3⟩ := four_cells A2.blk
  have HW : Hid (w2.alloc (.cells #[.int .i64 (1 + x), .string nm, .string ⟨#[]⟩, .string ⟨#[]⟩] 45) = W) := hW
  clear hW
  go_wp2_with fail
  -- PARTS
  all_goals rw [HW.out]
  all_goals clear HW
  all_goals generalize w2.heap.size = X at *
  · refine (below_any g 6 _ A2.drw (by decide) (by decide)).mono ?_
    rintro e w3 ⟨tn, rfl, ht0, ht1, hd3, hs3⟩
    obtain ⟨tk, rfl⟩ := Int.eq_ofNat_of_zero_le ht0
    have A3 := A2.save hs3 hd3
    clear c0 c1 c2 c3 f0 f1 f2 f3 A2 hs3 hd3
    go_wp2_with fail
    refine (dtext_any g tk _ A3.drw (by omega)).mono ?_
    rintro e w4 ⟨t, rfl, ht, hd4, hs4⟩
    have A4 := A3.save hs4 hd4
    clear A3 hs4 hd4
    obtain ⟨c30, c31, c32, c33, f30, f31, f32, f33⟩ := four_cells A4.blk
    obtain ⟨r30, r31, r32, r33, g30, g31, g32, g33⟩ := four_cells A4.res
    have A4 := A4.set (a' := ⟨_, _, t, _⟩) 2 (.string t) rfl
    go_wp2_with fail
    clear c30 c31 c32 c33 f30 f31 f32 f33 r30 r31 r32 r33 g30 g31 g32 g33
    refine (below_any g 40 _ A4.drw (by decide) (by decide)).mono ?_
    rintro e w5 ⟨y, rfl, hy0, hy1, hd5, hs5⟩
    have A5 := A4.save hs5 hd5
    have SM : Hid (SmA _) := (⟨by show nm.size ≤ 9; omega, by show t.size ≤ 6; omega, show ByteArray.empty.size ≤ 8 by decide⟩ : SmA ⟨1 + x, nm, t, ByteArray.empty⟩)
    clear hs5 hd5 A4
    have hne := A5.ne
    by_cases y0 : y = 0
    · subst y0
      obtain ⟨c50, c51, c52, c53, f50, f51, f52, f53⟩ := four_cells A5.blk
      obtain ⟨r50, r51, r52, r53, g50, g51, g52, g53⟩ := four_cells A5.res
      go_wp2_with fail
      refine (pickLit_from g [0, 5] w5 w5 A5.drw (Save.refl _ _) (by simp) (by simp) (by decide) _ (by rfl) _ (by rfl)).mono ?_
      rintro e w6 ⟨z, rfl, _, _, hd6, hs6⟩
      have A6 := A5.save hs6 hd6
      clear c50 c51 c52 c53 f50 f51 f52 f53 r50 r51 r52 r53 g50 g51 g52 g53
      obtain ⟨c60, c61, c62, c63, f60, f61, f62, f63⟩ := four_cells A6.blk
      obtain ⟨r60, r61, r62, r63, g60, g61, g62, g63⟩ := four_cells A6.res
      have A7 := A6.set (a' := ⟨z, _, _, _⟩) 0 (.int .i64 z) rfl
      obtain ⟨c70, c71, c72, c73, f70, f71, f72, f73⟩ := four_cells A7.blk
      obtain ⟨r70, r71, r72, r73, g70, g71, g72, g73⟩ := four_cells A7.res
      go_wp2_with fail
      exact bodyPost_ret (ret_act rfl rfl A7.done.1) rfl ⟨_, rfl, SM.out, A7.done.2⟩
    · by_cases y1 : y = 1
      · subst y1
        obtain ⟨c50, c51, c52, c53, f50, f51, f52, f53⟩ := four_cells A5.blk
        obtain ⟨r50, r51, r52, r53, g50, g51, g52, g53⟩ := four_cells A5.res
        go_wp2_with fail
        refine (pickText_from (fun t => t.size ≤ 9) g [⟨#[]⟩, ⟨#[49, 50, 51, 52, 53, 54, 55, 56, 57]⟩, ⟨#[110, 101, 119]⟩] w5 w5 A5.drw (Save.refl _ _) (by simp) (by simp) (by decide) _ (by rfl) _ (by rfl)).mono ?_
        rintro e w6 ⟨z, rfl, hz9, hd6, hs6⟩
        have A6 := A5.save hs6 hd6
        clear c50 c51 c52 c53 f50 f51 f52 f53 r50 r51 r52 r53 g50 g51 g52 g53
        obtain ⟨c60, c61, c62, c63, f60, f61, f62, f63⟩ := four_cells A6.blk
        obtain ⟨r60, r61, r62, r63, g60, g61, g62, g63⟩ := four_cells A6.res
        have A7 := A6.set (a' := ⟨_, z, _, _⟩) 1 (.string z) rfl
        obtain ⟨c70, c71, c72, c73, f70, f71, f72, f73⟩ := four_cells A7.blk
        obtain ⟨r70, r71, r72, r73, g70, g71, g72, g73⟩ := four_cells A7.res
        go_wp2_with fail
        exact bodyPost_ret (ret_act rfl rfl A7.done.1) rfl ⟨_, rfl, ⟨hz9, SM.out.2.1, SM.out.2.2⟩, A7.done.2⟩
      · by_cases y2 : y = 2
        · subst y2
          obtain ⟨c50, c51, c52, c53, f50, f51, f52, f53⟩ := four_cells A5.blk
          obtain ⟨r50, r51, r52, r53, g50, g51, g52, g53⟩ := four_cells A5.res
          have A7 := A5.set (a' := ⟨_, _, _, ⟨#[120]⟩⟩) 3 (.string ⟨#[120]⟩) rfl
          obtain ⟨c70, c71, c72, c73, f70, f71, f72, f73⟩ := four_cells A7.blk
          obtain ⟨r70, r71, r72, r73, g70, g71, g72, g73⟩ := four_cells A7.res
          go_wp2_with fail
          exact bodyPost_ret (ret_act rfl rfl A7.done.1) rfl ⟨_, rfl, ⟨SM.out.1, SM.out.2.1, show (⟨#[120]⟩ : ByteArray).size ≤ 8 by decide⟩, A7.done.2⟩
        · by_cases y3 : y = 3
          · subst y3
            obtain ⟨c50, c51, c52, c53, f50, f51, f52, f53⟩ := four_cells A5.blk
            obtain ⟨r50, r51, r52, r53, g50, g51, g52, g53⟩ := four_cells A5.res
            have A7 := A5.set (a' := ⟨_, _, ⟨#[120]⟩, _⟩) 2 (.string ⟨#[120]⟩) rfl
            obtain ⟨c70, c71, c72, c73, f70, f71, f72, f73⟩ := four_cells A7.blk
            obtain ⟨r70, r71, r72, r73, g70, g71, g72, g73⟩ := four_cells A7.res
            go_wp2_with fail
            exact bodyPost_ret (ret_act rfl rfl A7.done.1) rfl ⟨_, rfl, ⟨SM.out.1, show (⟨#[120]⟩ : ByteArray).size ≤ 6 by decide, SM.out.2.2⟩, A7.done.2⟩
          · have y0' : (y == 0) = false := by rw [beq_eq_false_iff_ne]; exact y0
            have y1' : (y == 1) = false := by rw [beq_eq_false_iff_ne]; exact y1
            have y2' : (y == 2) = false := by rw [beq_eq_false_iff_ne]; exact y2
            have y3' : (y == 3) = false := by rw [beq_eq_false_iff_ne]; exact y3
            obtain ⟨c50, c51, c52, c53, f50, f51, f52, f53⟩ := four_cells A5.blk
            obtain ⟨r50, r51, r52, r53, g50, g51, g52, g53⟩ := four_cells A5.res
            go_wp2_with fail
            exact bodyPost_ret (ret_act rfl rfl A5.done.1) rfl ⟨_, rfl, SM.out, A5.done.2⟩
  · refine (named_any g _ A2.drw).mono ?_
    rintro e w3 ⟨to, rfl, hto, hd3, hs3⟩
    have A3 := A2.save hs3 hd3
    have hto8 : to.size ≤ 8 := by
      simp only [nameR, Bool.and_eq_true, decide_eq_true_eq] at hto
      exact hto.2
    clear c0 c1 c2 c3 f0 f1 f2 f3 A2 hs3 hd3 hto
    obtain ⟨c30, c31, c32, c33, f30, f31, f32, f33⟩ := four_cells A3.blk
    obtain ⟨r30, r31, r32, r33, g30, g31, g32, g33⟩ := four_cells A3.res
    have A4 := A3.set (a' := ⟨_, _, _, to⟩) 3 (.string to) rfl
    clear A3
    go_wp2_with fail
    clear c30 c31 c32 c33 f30 f31 f32 f33 r30 r31 r32 r33 g30 g31 g32 g33
    refine (below_any g 40 _ A4.drw (by decide) (by decide)).mono ?_
    rintro e w5 ⟨y, rfl, hy0, hy1, hd5, hs5⟩
    have A5 := A4.save hs5 hd5
    have SM : Hid (SmA _) := (⟨by show nm.size ≤ 9; omega, show ByteArray.empty.size ≤ 6 by decide, hto8⟩ : SmA ⟨1 + x, nm, ByteArray.empty, to⟩)
    clear hs5 hd5 A4
    have hne := A5.ne
    by_cases y0 : y = 0
    · subst y0
      obtain ⟨c50, c51, c52, c53, f50, f51, f52, f53⟩ := four_cells A5.blk
      obtain ⟨r50, r51, r52, r53, g50, g51, g52, g53⟩ := four_cells A5.res
      go_wp2_with fail
      refine (pickLit_from g [0, 5] w5 w5 A5.drw (Save.refl _ _) (by simp) (by simp) (by decide) _ (by rfl) _ (by rfl)).mono ?_
      rintro e w6 ⟨z, rfl, _, _, hd6, hs6⟩
      have A6 := A5.save hs6 hd6
      clear c50 c51 c52 c53 f50 f51 f52 f53 r50 r51 r52 r53 g50 g51 g52 g53
      obtain ⟨c60, c61, c62, c63, f60, f61, f62, f63⟩ := four_cells A6.blk
      obtain ⟨r60, r61, r62, r63, g60, g61, g62, g63⟩ := four_cells A6.res
      have A7 := A6.set (a' := ⟨z, _, _, _⟩) 0 (.int .i64 z) rfl
      obtain ⟨c70, c71, c72, c73, f70, f71, f72, f73⟩ := four_cells A7.blk
      obtain ⟨r70, r71, r72, r73, g70, g71, g72, g73⟩ := four_cells A7.res
      go_wp2_with fail
      exact bodyPost_ret (ret_act rfl rfl A7.done.1) rfl ⟨_, rfl, SM.out, A7.done.2⟩
    · by_cases y1 : y = 1
      · subst y1
        obtain ⟨c50, c51, c52, c53, f50, f51, f52, f53⟩ := four_cells A5.blk
        obtain ⟨r50, r51, r52, r53, g50, g51, g52, g53⟩ := four_cells A5.res
        go_wp2_with fail
        refine (pickText_from (fun t => t.size ≤ 9) g [⟨#[]⟩, ⟨#[49, 50, 51, 52, 53, 54, 55, 56, 57]⟩, ⟨#[110, 101, 119]⟩] w5 w5 A5.drw (Save.refl _ _) (by simp) (by simp) (by decide) _ (by rfl) _ (by rfl)).mono ?_
        rintro e w6 ⟨z, rfl, hz9, hd6, hs6⟩
        have A6 := A5.save hs6 hd6
        clear c50 c51 c52 c53 f50 f51 f52 f53 r50 r51 r52 r53 g50 g51 g52 g53
        obtain ⟨c60, c61, c62, c63, f60, f61, f62, f63⟩ := four_cells A6.blk
        obtain ⟨r60, r61, r62, r63, g60, g61, g62, g63⟩ := four_cells A6.res
        have A7 := A6.set (a' := ⟨_, z, _, _⟩) 1 (.string z) rfl
        obtain ⟨c70, c71, c72, c73, f70, f71, f72, f73⟩ := four_cells A7.blk
        obtain ⟨r70, r71, r72, r73, g70, g71, g72, g73⟩ := four_cells A7.res
        go_wp2_with fail
        exact bodyPost_ret (ret_act rfl rfl A7.done.1) rfl ⟨_, rfl, ⟨hz9, SM.out.2.1, SM.out.2.2⟩, A7.done.2⟩
      · by_cases y2 : y = 2
        · subst y2
          obtain ⟨c50, c51, c52, c53, f50, f51, f52, f53⟩ := four_cells A5.blk
          obtain ⟨r50, r51, r52, r53, g50, g51, g52, g53⟩ := four_cells A5.res
          have A7 := A5.set (a' := ⟨_, _, _, ⟨#[120]⟩⟩) 3 (.string ⟨#[120]⟩) rfl
          obtain ⟨c70, c71, c72, c73, f70, f71, f72, f73⟩ := four_cells A7.blk
          obtain ⟨r70, r71, r72, r73, g70, g71, g72, g73⟩ := four_cells A7.res
          go_wp2_with fail
          exact bodyPost_ret (ret_act rfl rfl A7.done.1) rfl ⟨_, rfl, ⟨SM.out.1, SM.out.2.1, show (⟨#[120]⟩ : ByteArray).size ≤ 8 by decide⟩, A7.done.2⟩
        · by_cases y3 : y = 3
          · subst y3
            obtain ⟨c50, c51, c52, c53, f50, f51, f52, f53⟩ := four_cells A5.blk
            obtain ⟨r50, r51, r52, r53, g50, g51, g52, g53⟩ := four_cells A5.res
            have A7 := A5.set (a' := ⟨_, _, ⟨#[120]⟩, _⟩) 2 (.string ⟨#[120]⟩) rfl
            obtain ⟨c70, c71, c72, c73, f70, f71, f72, f73⟩ := four_cells A7.blk
            obtain ⟨r70, r71, r72, r73, g70, g71, g72, g73⟩ := four_cells A7.res
            go_wp2_with fail
            exact bodyPost_ret (ret_act rfl rfl A7.done.1) rfl ⟨_, rfl, ⟨SM.out.1, show (⟨#[120]⟩ : ByteArray).size ≤ 6 by decide, SM.out.2.2⟩, A7.done.2⟩
          · have y0' : (y == 0) = false := by rw [beq_eq_false_iff_ne]; exact y0
            have y1' : (y == 1) = false := by rw [beq_eq_false_iff_ne]; exact y1
            have y2' : (y == 2) = false := by rw [beq_eq_false_iff_ne]; exact y2
            have y3' : (y == 3) = false := by rw [beq_eq_false_iff_ne]; exact y3
            obtain ⟨c50, c51, c52, c53, f50, f51, f52, f53⟩ := four_cells A5.blk
            obtain ⟨r50, r51, r52, r53, g50, g51, g52, g53⟩ := four_cells A5.res
            go_wp2_with fail
            exact bodyPost_ret (ret_act rfl rfl A5.done.1) rfl ⟨_, rfl, SM.out, A5.done.2⟩
  · clear c0 c1 c2 c3 f0 f1 f2 f3
    refine (below_any g 40 _ A2.drw (by decide) (by decide)).mono ?_
    rintro e w5 ⟨y, rfl, hy0, hy1, hd5, hs5⟩
    have A5 := A2.save hs5 hd5
    have SM : Hid (SmA _) := (⟨by show nm.size ≤ 9; omega, show ByteArray.empty.size ≤ 6 by decide, show ByteArray.empty.size ≤ 8 by decide⟩ : SmA ⟨1 + x, nm, ByteArray.empty, ByteArray.empty⟩)
    clear hs5 hd5 A2
    have hne := A5.ne
    by_cases y0 : y = 0
    · subst y0
      obtain ⟨c50, c51, c52, c53, f50, f51, f52, f53⟩ := four_cells A5.blk
      obtain ⟨r50, r51, r52, r53, g50, g51, g52, g53⟩ := four_cells A5.res
      go_wp2_with fail
      refine (pickLit_from g [0, 5] w5 w5 A5.drw (Save.refl _ _) (by simp) (by simp) (by decide) _ (by rfl) _ (by rfl)).mono ?_
      rintro e w6 ⟨z, rfl, _, _, hd6, hs6⟩
      have A6 := A5.save hs6 hd6
      clear c50 c51 c52 c53 f50 f51 f52 f53 r50 r51 r52 r53 g50 g51 g52 g53
      obtain ⟨c60, c61, c62, c63, f60, f61, f62, f63⟩ := four_cells A6.blk
      obtain ⟨r60, r61, r62, r63, g60, g61, g62, g63⟩ := four_cells A6.res
      have A7 := A6.set (a' := ⟨z, _, _, _⟩) 0 (.int .i64 z) rfl
      obtain ⟨c70, c71, c72, c73, f70, f71, f72, f73⟩ := four_cells A7.blk
      obtain ⟨r70, r71, r72, r73, g70, g71, g72, g73⟩ := four_cells A7.res
      go_wp2_with fail
      exact bodyPost_ret (ret_act rfl rfl A7.done.1) rfl ⟨_, rfl, SM.out, A7.done.2⟩
    · by_cases y1 : y = 1
      · subst y1
        obtain ⟨c50, c51, c52, c53, f50, f51, f52, f53⟩ := four_cells A5.blk
        obtain ⟨r50, r51, r52, r53, g50, g51, g52, g53⟩ := four_cells A5.res
        go_wp2_with fail
        refine (pickText_from (fun t => t.size ≤ 9) g [⟨#[]⟩, ⟨#[49, 50, 51, 52, 53, 54, 55, 56, 57]⟩, ⟨#[110, 101, 119]⟩] w5 w5 A5.drw (Save.refl _ _) (by simp) (by simp) (by decide) _ (by rfl) _ (by rfl)).mono ?_
        rintro e w6 ⟨z, rfl, hz9, hd6, hs6⟩
        have A6 := A5.save hs6 hd6
        clear c50 c51 c52 c53 f50 f51 f52 f53 r50 r51 r52 r53 g50 g51 g52 g53
        obtain ⟨c60, c61, c62, c63, f60, f61, f62, f63⟩ := four_cells A6.blk
        obtain ⟨r60, r61, r62, r63, g60, g61, g62, g63⟩ := four_cells A6.res
        have A7 := A6.set (a' := ⟨_, z, _, _⟩) 1 (.string z) rfl
        obtain ⟨c70, c71, c72, c73, f70, f71, f72, f73⟩ := four_cells A7.blk
        obtain ⟨r70, r71, r72, r73, g70, g71, g72, g73⟩ := four_cells A7.res
        go_wp2_with fail
        exact bodyPost_ret (ret_act rfl rfl A7.done.1) rfl ⟨_, rfl, ⟨hz9, SM.out.2.1, SM.out.2.2⟩, A7.done.2⟩
      · by_cases y2 : y = 2
        · subst y2
          obtain ⟨c50, c51, c52, c53, f50, f51, f52, f53⟩ := four_cells A5.blk
          obtain ⟨r50, r51, r52, r53, g50, g51, g52, g53⟩ := four_cells A5.res
          have A7 := A5.set (a' := ⟨_, _, _, ⟨#[120]⟩⟩) 3 (.string ⟨#[120]⟩) rfl
          obtain ⟨c70, c71, c72, c73, f70, f71, f72, f73⟩ := four_cells A7.blk
          obtain ⟨r70, r71, r72, r73, g70, g71, g72, g73⟩ := four_cells A7.res
          go_wp2_with fail
          exact bodyPost_ret (ret_act rfl rfl A7.done.1) rfl ⟨_, rfl, ⟨SM.out.1, SM.out.2.1, show (⟨#[120]⟩ : ByteArray).size ≤ 8 by decide⟩, A7.done.2⟩
        · by_cases y3 : y = 3
          · subst y3
            obtain ⟨c50, c51, c52, c53, f50, f51, f52, f53⟩ := four_cells A5.blk
            obtain ⟨r50, r51, r52, r53, g50, g51, g52, g53⟩ := four_cells A5.res
            have A7 := A5.set (a' := ⟨_, _, ⟨#[120]⟩, _⟩) 2 (.string ⟨#[120]⟩) rfl
            obtain ⟨c70, c71, c72, c73, f70, f71, f72, f73⟩ := four_cells A7.blk
            obtain ⟨r70, r71, r72, r73, g70, g71, g72, g73⟩ := four_cells A7.res
            go_wp2_with fail
            exact bodyPost_ret (ret_act rfl rfl A7.done.1) rfl ⟨_, rfl, ⟨SM.out.1, show (⟨#[120]⟩ : ByteArray).size ≤ 6 by decide, SM.out.2.2⟩, A7.done.2⟩
          · have y0' : (y == 0) = false := by rw [beq_eq_false_iff_ne]; exact y0
            have y1' : (y == 1) = false := by rw [beq_eq_false_iff_ne]; exact y1
            have y2' : (y == 2) = false := by rw [beq_eq_false_iff_ne]; exact y2
            have y3' : (y == 3) = false := by rw [beq_eq_false_iff_ne]; exact y3
            obtain ⟨c50, c51, c52, c53, f50, f51, f52, f53⟩ := four_cells A5.blk
            obtain ⟨r50, r51, r52, r53, g50, g51, g52, g53⟩ := four_cells A5.res
            go_wp2_with fail
            exact bodyPost_ret (ret_act rfl rfl A5.done.1) rfl ⟨_, rfl, SM.out, A5.done.2⟩
end Go.Proofs.Ytekflgecfcjjiaa

namespace Go.Proofs.Ytekflgecfcjjiaa
open Go Go.RowKit

/-- What lies there while acts are drawn: the box of the disk, and the acts. -/
structure Tx (w W : World) (g : Nat) (vd : Value) (D : List Fl) (out : Value) (acts : List Ac) : Prop where
  drw : Drw W g
  hg : g < w.heap.size
  box : W.cell? ⟨w.heap.size, 0, none⟩ = some vd
  boxf : W.frozen? ⟨w.heap.size, 0, none⟩ = false
  dk : ownsR W (g + 1) 36 vd D
  own : ownsR W (w.heap.size + 1) 45 out acts
  sv : Save g w W
theorem Tx.save {w W W' : World} {g : Nat} {vd out : Value} {D : List Fl} {acts : List Ac} (h : Tx w W g vd D out acts) (hs : Save g W W') (hd : Drw W' g) : Tx w W' g vd D out acts := by
  have h1 := h.hg
  exact ⟨hd, h1, cell_save hs h.box (by simp; omega), frozen_save hs h.box h.boxf (by simp; omega), h.dk.save hs (by omega), h.own.save hs (by omega), h.sv.trans hs⟩
theorem Tx.all {w W W' : World} {g : Nat} {vd out : Value} {D : List Fl} {acts : List Ac} (h : Tx w W g vd D out acts) (hb : Below W.heap.size W W') : Tx w W' g vd D out acts := by
  have h1 := h.drw.lt
  exact h.save (Save.of_below hb) (h.drw.keep (hb.mono (by omega)))
/-- One act more, and another disk in the box. -/
theorem Tx.next {w w5 w7 : World} {g B : Nat} {vd out v5 out7 : Value} {D D5 : List Fl} {acts acts7 : List Ac} (k : Tx w w5 g vd D out acts) (hB : w.heap.size < B) (hB5 : B ≤ w5.heap.size) (hout : ∀ j, out.ownBlock = some j → j < B) (ho : ownsR w5 B 36 v5 D5) (hgr : w5.grownBy w7 out.ownBlock) (ho7 : ownsR w7 (w.heap.size + 1) 45 out7 acts7) :
    Tx w (w7.setCell ⟨w.heap.size, 0, none⟩ v5) g v5 D5 out7 acts7 := by
  have h1 := k.hg
  have hbb : Below (w.heap.size + 1) w5 w7 := (Below.refl _ _).grown hgr (by omega) (fun j hj => (k.own.lt j hj).1)
  have o5 : ownsR w7 B 36 v5 D5 := World.ownsRow.kept ho hgr (by
    cases hv : v5.ownBlock with
    | none => exact .inl rfl
    | some j => exact .inr fun e => by have a1 := (ho.lt j hv).1; have a2 := hout j e.symm; omega)
  have c7 : w7.cell? ⟨w.heap.size, 0, none⟩ = some vd := (hbb.cell (p := ⟨w.heap.size, 0, none⟩) (by simp)).trans k.box
  have f7 : w7.frozen? ⟨w.heap.size, 0, none⟩ = false := (hbb.frozen (p := ⟨w.heap.size, 0, none⟩) (by simp)).trans k.boxf
  refine ⟨(k.drw.keep (hbb.mono (by omega))).keep ((Below.refl _ _).setCell (p := ⟨w.heap.size, 0, none⟩) (by simp; omega) _), h1, World.cell?_setCell_same' _ _ _ (by rw [c7]; rfl), by rw [World.frozen?_setCell]; exact f7, (o5.setBelow (a := ⟨w.heap.size, 0, none⟩) hB v5).mono (by omega), ho7.setBelow (a := ⟨w.heap.size, 0, none⟩) (by simp) v5, ?_⟩
  exact (k.sv.below_on hbb (by omega)).setNew (Nat.le_refl _) _

theorem ac_cells (w : World) (kind : Int) (nm tx to : ByteArray) : ∀ j u, (Rec.cells (Ac.mk kind nm tx to))[j]? = some u → (w.alloc (.cells #[.int .i64 kind, .string nm, .string tx, .string to] 45)).cell? ⟨w.heap.size, j, none⟩ = some u ∧ u.oneCell' = true := by
  intro j u hj
  obtain ⟨c0, c1, c2, c3, _⟩ := four_cells (w := w.alloc (.cells #[.int .i64 kind, .string nm, .string tx, .string to] 45)) (World.alloc_heap_new _ _)
  have hj : (#[.int .i64 kind, .string nm, .string tx, .string to] : Array Value).toList[j]? = some u := hj
  match j, hj with
  | 0, e => cases e; exact ⟨c0, rfl⟩
  | 1, e => cases e; exact ⟨c1, rfl⟩
  | 2, e => cases e; exact ⟨c2, rfl⟩
  | 3, e => cases e; exact ⟨c3, rfl⟩
  | j + 4, e => simp at e

set_option maxRecDepth 10000 in
set_option maxHeartbeats 4000000 in
theorem drawActs_any (g : Nat) (vd : Value) (L : List Fl) (w : World) (hd : Drw w g) (ho : ownsR w (g + 1) 36 vd L) :
    Calls Try.prog 57 #[.pointer (some ⟨g, 0, none⟩), .agg #[vd]] w fun e w' => ∃ v acts, e = .returned v ∧ ownsR w' w.heap.size 45 v acts ∧ (∀ a ∈ acts, SmA a) ∧ acts.length ≤ 8 ∧ Drw w' g ∧ Save g w w' := by
  have hg := hd.lt
  obtain ⟨i0, hi0, hz0, hz1, hz2⟩ := info_parts infoAc
  obtain ⟨da, dc, rfl⟩ := ho.slice
  have T0 : Tx w ((w.alloc (.cells #[.slice da L.length dc] 26)).alloc (.cells #[] 45)) g (.slice da L.length dc) L (.slice (some ⟨w.heap.size + 1, 0, none⟩) 0 0) [] := by
    have := World.ownsRow_made (base := w.heap.size + 1) (e := 45) (size := 4) (w.alloc (.cells #[.slice da L.length dc] 26)) #[] 0 (by simp) (by decide) (by rfl)
    have t2 : ((w.alloc (.cells #[.slice da L.length dc] 26)).alloc (.cells #[] 45)).ownsRow (w.heap.size + 1) 45 4 (.slice (some ⟨w.heap.size + 1, 0, none⟩) 0 0) 0 [] := by simpa using this
    exact ⟨hd.keep (((Below.refl _ _).alloc (by omega) _).alloc (by simp; omega) _), hg, by simp [go_sem], by simp [go_sem], (ho.alloc _).alloc _, t2, ((Save.refl g w).alloc _).alloc _⟩
  clear ho hd
  go_enter Try.func57, Try.ntmps57
  go_wp2_with fail
  obtain ⟨W0, hW0⟩ : ∃ W, (w.alloc (.cells #[.slice da L.length dc] 26)).alloc (.cells #[] 45) = W := ⟨_, rfl⟩
  rw [hW0] at T0 ⊢
  clear hW0
  have H0 : Hid (Tx w W0 g (.slice da L.length dc) L (.slice (some ⟨w.heap.size + 1, 0, none⟩) 0 0) []) := T0
  clear T0
  go_loopw [5, 6] (fun out i wr => ∃ (k : Nat) (vd : Value) (D : List Fl) (acts : List Ac), k ≤ 8 ∧ i = .int .i64 k ∧ acts.length ≤ k ∧ Hid (∀ a ∈ acts, SmA a) ∧ Tx w wr g vd D out acts) (fun _ i _ => 8 - (intOf i).toNat)
  case atStart => exact ⟨0, _, L, [], Nat.zero_le _, rfl, Nat.le_refl _, (fun a ha => by simp at ha), H0.out⟩
  case round =>
    clear H0
    obtain ⟨k, vd, D, acts, hk, rfl, hal, HS, hT⟩ := hrel
    obtain ⟨va, vc, rfl⟩ := hT.dk.slice
    go_wp2_with fail
    refine (below_any g 9 _ hT.drw (by decide) (by decide)).mono ?_
    rintro e w1 ⟨x, rfl, hx0, hx1, hd1, hs1⟩
    have T1 := hT.save hs1 hd1
    clear hT hs1 hd1
    by_cases hkx : (k : Int) < x
    · go_wp2_with fail
      refine (drawAct_any g _ T1.drw).mono ?_
      rintro e w2 ⟨⟨kind, nm, tx, to⟩, rfl, hsm, hd2, hs2⟩
      have T2 := T1.save hs2 hd2
      clear T1 hs2 hd2
      dsimp only
      obtain ⟨W2, hW2⟩ : ∃ W, w2.alloc (.cells #[.int .i64 kind, .string nm, .string tx, .string to] 45) = W := ⟨_, rfl⟩
      have T3 : Tx w W2 g (.slice va D.length vc) D _ acts := hW2 ▸ T2.all (ba (Below.refl _ _) _)
      have b3 : W2.heap[w2.heap.size]? = some (.cells #[.int .i64 kind, .string nm, .string tx, .string to] 45) := by rw [← hW2]; exact World.alloc_heap_new _ _
      clear T2
      have c3 := T3.box
      obtain ⟨c30, c31, c32, c33, _, _, _, _⟩ := four_cells b3
      go_wp2_with fail
      refine (specAct_any _ _ _ D kind nm tx to _ T3.dk.reads (by have h6 : tx.size ≤ 6 := hsm.2.1; omega)).mono ?_
      rintro e w4 ⟨v4, rfl, ho4, hb4⟩
      dsimp only
      obtain ⟨D5, hD5⟩ : ∃ D5, (actL D ⟨kind, nm, tx, to⟩).getD [] = D5 := ⟨_, rfl⟩
      rw [hD5] at ho4
      clear hD5
      generalize (actL D ⟨kind, nm, tx, to⟩).isSome = ok
      obtain ⟨a4, c4, rfl⟩ := ho4.slice
      clear c3 c30 c31 c32 c33
      obtain ⟨W8, hW8⟩ : ∃ W, w4.alloc (.cells #[.slice a4 D5.length c4] 26) = W := ⟨_, rfl⟩
      have hb8 : Below W2.heap.size W2 W8 := hW8 ▸ hb4.alloc hb4.size _
      have T8 : Tx w W8 g (.slice va D.length vc) D u5 acts := T3.all hb8
      have O8 : ownsR W8 W2.heap.size 36 (.slice a4 D5.length c4) D5 := hW8 ▸ ho4.alloc _
      have hs2 : W2.heap.size = w2.heap.size + 1 := by rw [← hW2]; simp
      have b8 := (hb8.block w2.heap.size (by omega)).trans b3
      obtain ⟨c80, c81, c82, c83, _, _, _, _⟩ := four_cells b8
      have e8 : W8.cell? ⟨w4.heap.size, 0, none⟩ = some (.slice a4 D5.length c4) := by rw [← hW8]; simp [go_sem]
      have hsz8 : w.heap.size + 1 ≤ W8.heap.size := World.block_lt_of_cell? W8 _ T8.box
      have hout : ∀ j, u5.ownBlock = some j → j < W2.heap.size := fun j hj => (T3.own.lt j hj).2
      have hs4 : W2.heap.size ≤ w4.heap.size := hb4.size
      have hs8 : W2.heap.size ≤ W8.heap.size := hb8.size
      clear hb4 ho4 b3
      have hsB : w.heap.size < W2.heap.size := World.block_lt_of_cell? W2 _ T3.box
      cases ok
      · go_wp2_with fail
        refine (once_any g 20 _ T8.drw (by decide) (by decide)).mono ?_
        rintro e w6 ⟨b, rfl, hd6, hs6⟩
        have T6 := T8.save hs6 hd6
        have O6 : ownsR w6 W2.heap.size 36 (.slice a4 D5.length c4) D5 := O8.save hs6 (by omega)
        have hgw2 : w2.heap.size ≠ g := by omega
        have c60 := cell_save hs6 c80 hgw2
        have c61 := cell_save hs6 c81 hgw2
        have c62 := cell_save hs6 c82 hgw2
        have c63 := cell_save hs6 c83 hgw2
        have e6 := cell_save hs6 e8 (by simp; omega)
        have hsz6 := hs6.size
        have hsz7 : w.heap.size + 1 ≤ w6.heap.size := by omega
        clear T8 O8 c80 c81 c82 c83 e8 hd6 hb8
        cases b
        · go_wp2_with fail
          go_roundw
          case rel => exact ⟨k + 1, _, D, acts, by omega, by go_num, by omega, HS, T6⟩
          case measure => simp [intOf]; omega
        · go_wp2_with (at_builtin; refine wpList_append_recg (α := Ac) _ (by rfl) _ _ 38 (by rfl) (w.heap.size + 1) 45 _ 56 Try.underlying38 infoAc (by rfl) u5 acts (by rfl) (T6.own.alloc _) w6.heap.size 1 (Ac.mk kind nm tx to) (by rfl) (ac_cells w6 kind nm tx to) (by omega) (by decide) (by simp; omega) ?_; intro v9 w9 ho9 hg9; have c9 : w9.cell? ⟨w4.heap.size, 0, none⟩ = some (.slice a4 D5.length c4) := grown_cell_new hg9 (fun e => by have h : w4.heap.size < W2.heap.size := hout _ e; omega) (cell_up (ba (Below.refl _ w6) _) e6); have d9 : w9.cell? ⟨w.heap.size, 0, none⟩ = some (.slice va D.length vc) := grown_cell (T6.own.alloc _) hg9 (by simp) (cell_up (ba (Below.refl _ w6) _) T6.box); have f9 : w9.frozen? ⟨w.heap.size, 0, none⟩ = false := grown_frozen (T6.own.alloc _) hg9 (p := ⟨w.heap.size, 0, none⟩) (by simp) (by simp; omega) (frozen_on2 (ba (Below.refl _ w6) _) T6.box T6.boxf))
          have T9 := (T6.all (ba (Below.refl _ w6) _)).next (B := W2.heap.size) hsB (by simp; omega) hout (O6.alloc _) hg9 ho9
          go_roundw
          case rel => exact ⟨k + 1, _, D5, acts ++ [Ac.mk kind nm tx to], by omega, by go_num, by simp; omega, (fun a ha => by rcases List.mem_append.1 ha with h | h; exact HS.out a h; cases List.mem_singleton.1 h; exact hsm), T9⟩
          case measure => simp [intOf]; omega

      · go_wp2_with (at_builtin; refine wpList_append_recg (α := Ac) _ (by rfl) _ _ 38 (by rfl) (w.heap.size + 1) 45 _ 56 Try.underlying38 infoAc (by rfl) u5 acts (by rfl) (T8.own.alloc _) W8.heap.size 1 (Ac.mk kind nm tx to) (by rfl) (ac_cells W8 kind nm tx to) (by omega) (by decide) (by simp; omega) ?_; intro v9 w9 ho9 hg9; have c9 : w9.cell? ⟨w4.heap.size, 0, none⟩ = some (.slice a4 D5.length c4) := grown_cell_new hg9 (fun e => by have h : w4.heap.size < W2.heap.size := hout _ e; omega) (cell_up (ba (Below.refl _ W8) _) e8); have d9 : w9.cell? ⟨w.heap.size, 0, none⟩ = some (.slice va D.length vc) := grown_cell (T8.own.alloc _) hg9 (by simp) (cell_up (ba (Below.refl _ W8) _) T8.box); have f9 : w9.frozen? ⟨w.heap.size, 0, none⟩ = false := grown_frozen (T8.own.alloc _) hg9 (p := ⟨w.heap.size, 0, none⟩) (by simp) (by simp; omega) (frozen_on2 (ba (Below.refl _ W8) _) T8.box T8.boxf))
        have T9 := (T8.all (ba (Below.refl _ W8) _)).next (B := W2.heap.size) hsB (by simp; omega) hout (O8.alloc _) hg9 ho9
        go_roundw
        case rel => exact ⟨k + 1, _, D5, acts ++ [Ac.mk kind nm tx to], by omega, by go_num, by simp; omega, (fun a ha => by rcases List.mem_append.1 ha with h | h; exact HS.out a h; cases List.mem_singleton.1 h; exact hsm), T9⟩
        case measure => simp [intOf]; omega
    · go_wp2_with fail
      go_ret
      exact ⟨u5, acts, rfl, T1.own.mono (by omega), HS.out, by omega, T1.drw, T1.sv⟩
end Go.Proofs.Ytekflgecfcjjiaa

namespace Go.Proofs.Ytekflgecfcjjiaa
open Go Go.RowKit

set_option maxHeartbeats 400000 in
theorem figure_any (x : Int) (w : World) (h0 : 0 ≤ x) (h1 : x < 10) :
    Calls Try.prog 94 #[.int .i64 x] w fun e w' => e = .returned (.int .u8 (48 + x)) ∧ w' = w := by
  go_enter Try.func94, Try.ntmps94
  go_wp2
  go_ret
  exact ⟨rfl, rfl⟩

set_option maxRecDepth 10000 in
set_option maxHeartbeats 1000000 in
theorem decimal_any (n : Nat) (w : World) (h0 : 0 < n) (hn : n ≤ 1000000000) :
    Calls Try.prog 80 #[.int .i64 n] w fun e w' => e = .returned (.string (bstr (decI n))) ∧ Below w.heap.size w w' := by
  have hz : ((n : Int) == 0) = false := by simp; omega
  have hneg : decide ((n : Int) < 0) = false := by simp
  go_enter Try.func80, Try.ntmps80
  go_wp2
  go_loopw [0, 4] (fun c st wr => ∃ (m : Nat) (t : List Int), c = .int .i64 m ∧ st = .string (bstr t) ∧ m ≤ n ∧ Hid (decI n = decPre m ++ t) ∧ Below w.heap.size w wr) (fun c _ _ => (intOf c).toNat)
  case atStart => exact ⟨n, [], rfl, rfl, by simp, (by show decI n = decPre n ++ []; unfold decPre; rw [if_neg (by omega)]; simp), Below.refl _ _⟩
  case round =>
    obtain ⟨m, t, rfl, rfl, hle, HE, hbel⟩ := hrel
    have hsz := hbel.size
    have htl := told_len (by omega) HE
    by_cases hm : m = 0
    · subst hm
      go_wp2
      go_ret
      exact ⟨by rw [HE.out]; rfl, hbel⟩
    · have hm2 : ((m : Int) != 0) = true := by rw [bne_iff_ne]; omega
      have hcv := run_one_string wr (48 + (m : Int) % 10)
      have hadd := run_add_one (48 + (m : Int) % 10) t htl
      go_wp2_with (go_at_call 94; refine (figure_any _ _ (by omega) (by omega)).mono ?_; rintro e w' ⟨rfl, hw⟩; have hw2 := hw.symm; subst hw2)
      go_roundw
      case rel => exact ⟨m / 10, (48 + (m : Int) % 10) :: t, by go_num, rfl, by omega, (by show decI n = _; rw [HE.out, decPre_step hm]), hbel.alloc hsz _⟩
      case measure => simp [intOf]; omega
end Go.Proofs.Ytekflgecfcjjiaa

namespace Go.Proofs.Ytekflgecfcjjiaa
open Go Go.RowKit

/-- A disk as it is drawn is small. -/
def SmD (L : List Fl) : Prop := L.length ≤ 100 ∧ Sized L
/-- What the drawing of a disk tells. -/
def DiskDrawn : Prop := ∀ (g : Nat) (w : World), Drw w g →
  Calls Try.prog 56 #[.pointer (some ⟨g, 0, none⟩)] w fun e w' => ∃ v L, e = .returned (.agg #[v]) ∧ ownsR w' w.heap.size 36 v L ∧ SmD L ∧ Drw w' g ∧ Save g w w'

theorem ret_disk4 {fn : Func} {p u u2 u3 : Tmp} {w : World} {g : Nat} {v x y z : Value} {tmps : Array Value} (h : fn.results = #[.cell p 26, .tmp u, .tmp u2, .tmp u3]) (hp : tmps.getD p undef = .pointer (some ⟨g, 0, none⟩)) (hu : tmps.getD u undef = x) (hu2 : tmps.getD u2 undef = y) (hu3 : tmps.getD u3 undef = z) (hc : w.cell? ⟨g, 0, none⟩ = some v) :
    (results fn tmps).run Try.prog w = .ok (.tuple #[.agg #[v], x, y, z]) w := by
  have hp' : tmps[p]?.getD undef = .pointer (some ⟨g, 0, none⟩) := by simpa using hp
  have hu' : tmps[u]?.getD undef = x := by simpa using hu
  have hu2' : tmps[u2]?.getD undef = y := by simpa using hu2
  have hu3' : tmps[u3]?.getD undef = z := by simpa using hu3
  simp [results, h, hp', hu', hu2', hu3', hc, asAddr, go_sem]

theorem ownsI.setLow {w : World} {B : Nat} {e : TypeId} {v : Value} {l : List Int} (h : ownsI w B e v l) {a : Addr} (ha : a.block < B) (u : Value) : ownsI (w.setCell a u) B e v l := ownsRow_setCell_below h ha u

/-- What lies there while the parts are drawn. -/
structure Cx (w W : World) (g D : Nat) (v va : Value) (L : List Fl) (acts : List Ac) : Prop where
  drw : Drw W g
  ge : w.heap.size < g
  gD : g < D
  box : W.cell? ⟨D, 0, none⟩ = some v
  res : W.cell? ⟨w.heap.size, 0, none⟩ = some (.slice none 0 0)
  resf : W.frozen? ⟨w.heap.size, 0, none⟩ = false
  own : ownsR W (g + 1) 36 v L
  acs : ownsR W (g + 1) 45 va acts
  below : Below w.heap.size w W
theorem Cx.save {w W W' : World} {g D : Nat} {v va : Value} {L : List Fl} {acts : List Ac} (h : Cx w W g D v va L acts) (hs : Save g W W') (hd : Drw W' g) : Cx w W' g D v va L acts := by
  have h1 := h.ge
  have h2 := h.gD
  exact ⟨hd, h.ge, h.gD, cell_save hs h.box (by simp; omega), cell_save hs h.res (by simp; omega), frozen_save hs h.res h.resf (by simp; omega), h.own.save hs (by omega), h.acs.save hs (by omega), h.below.trans (hs.below (by omega) h.below.size)⟩

set_option maxRecDepth 10000 in
set_option maxHeartbeats 4000000 in
theorem drawCut_any (HD : Hid DiskDrawn) (v : Value) (n : Nat) (w : World) (hn : n ≤ 1048576) (hc : CodeAt w w.heap.size v n) :
    Calls Try.prog 21 #[v] w fun e w' => ∃ vd va vl L acts wh left, e = .returned (.tuple #[.agg #[vd], va, .int .i64 wh, vl]) ∧ ownsR w' w.heap.size 36 vd L ∧ SmD L ∧ ownsR w' w.heap.size 45 va acts ∧ (∀ a ∈ acts, SmA a) ∧ acts.length ≤ 8 ∧ ownsI w' w.heap.size 3 vl left ∧ Below w.heap.size w w' := by
  go_enter Try.func21, Try.ntmps21
  go_wp2_with fail
  refine (new_any v n _ hn (by
    have := hc.keep (w' := w.alloc (Obj.cells #[.slice none 0 0] 26)) (fun k hk => Below.heap_alloc _ _ _ hk)
    obtain ⟨a, cap, hv, hcc⟩ := this
    refine ⟨a, cap, hv, fun j hj => ?_⟩
    obtain ⟨x, z, ha, hlt, hr⟩ := hcc j hj
    exact ⟨x, z, ha, by simp; omega, hr⟩)).mono ?_
  rintro e w1 ⟨g, rfl, hg0, hd1, hb1⟩
  clear hc
  have hg1 : w.heap.size < g := by simp at hg0; omega
  have hgl := hd1.lt
  have k1 : w1.cell? ⟨w.heap.size, 0, none⟩ = some (.slice none 0 0) := (hb1.cell (by simp)).trans (by simp [go_sem])
  have k2 : w1.frozen? ⟨w.heap.size, 0, none⟩ = false := (hb1.frozen (by simp)).trans (by simp [go_sem])
  have kb : Below w.heap.size w w1 := (ba (Below.refl _ _) _).trans (hb1.mono (by simp))
  clear hb1 hg0
  go_wp2_with fail
  refine (HD.out g w1 hd1).mono ?_
  rintro e w2 ⟨v2, L, rfl, ho2, hsm2, hd2, hs2⟩
  obtain ⟨a2, c2, rfl⟩ := ho2.slice
  have C2 : Cx w (w2.alloc (.cells #[.slice a2 L.length c2] 26)) g w2.heap.size (.slice a2 L.length c2) (.slice none 0 0) L [] := by
    have hz := hs2.size
    have s2 : Save g w1 (w2.alloc (.cells #[.slice a2 L.length c2] 26)) := hs2.alloc _
    exact ⟨hd2.keep ((Below.refl _ _).alloc (by omega) _), hg1, by omega, by simp [go_sem], cell_save s2 k1 (by simp; omega), frozen_save s2 k1 k2 (by simp; omega), (ho2.mono (by omega)).alloc _, ownsR_nil _ _ _, kb.trans (s2.below (by omega) kb.size)⟩
  clear hs2 hd2 ho2 k1 k2 kb hd1 hgl
  obtain ⟨W3, hW3⟩ : ∃ W, w2.alloc (.cells #[.slice a2 L.length c2] 26) = W := ⟨_, rfl⟩
  rw [hW3] at C2
  have hz3 : g < W3.heap.size := C2.drw.lt
  have c3 := C2.box
  dsimp only
  go_wp2_with fail
  refine (drawActs_any g _ L W3 C2.drw C2.own).mono ?_
  rintro e w4 ⟨va, acts, rfl, ho4, hsm4, hl4, hd4, hs4⟩
  obtain ⟨a4, d4, rfl⟩ := ho4.slice
  have C4 : Cx w w4 g w2.heap.size (.slice a2 L.length c2) (.slice a4 acts.length d4) L acts := by
    have := C2.save hs4 hd4
    exact ⟨this.drw, this.ge, this.gD, this.box, this.res, this.resf, this.own, ho4.mono (by omega), this.below⟩
  clear C2 hs4 hd4 ho4 hW3 hz3 c3
  dsimp only
  have C5 : Cx w w4.drew g w2.heap.size (.slice a2 L.length c2) (.slice a4 acts.length d4) L acts := C4.save (W' := w4.drew) (Save.refl g w4).drew C4.drw
  clear C4
  have c5 := C5.box
  have hwr : IntKind.i64.wrap ((acts.length : Int) + 1) = (acts.length : Int) + 1 := by go_arith
  go_wp2_with fail
  refine wp_puts' (α := Int × Value) (fun x => [(16, .agg #[.slice a2 L.length c2]), (17, .slice a4 acts.length d4), (18, .pointer (some ⟨g, 0, none⟩)), (19, .slice a4 acts.length d4), (20, .int .i64 (acts.length : Int)), (21, .int .i64 ((acts.length : Int) + 1)), (22, .int .i64 x.1), (23, .pointer (some ⟨g, 0, none⟩)), (24, x.2), (3, .slice a4 acts.length d4), (4, .int .i64 x.1), (5, x.2)]) (fun x w' => ∃ W q, w' = W.setCell ⟨w.heap.size, 0, none⟩ (.slice a2 L.length c2) ∧ ownsI W (w.heap.size + 1) 3 x.2 q ∧ Cx w W g w2.heap.size (.slice a2 L.length c2) (.slice a4 acts.length d4) L acts) ?_ ?_
  · go_region_with (first | (go_at_call 58; refine (place_any g _ _ C5.drw (by omega) (by omega)).mono ?_; rintro e w6 ⟨z, rfl, hd6, hs6⟩; have C6 := C5.save hs6 hd6; have c6 := C6.box) | (go_at_call 59; refine (left_any g _ C6.drw).mono ?_; rintro e w7 ⟨vl, q, rfl, ho7, hd7, hs7⟩; have C7 := C6.save hs7 hd7; have c7 := C7.box; have r7 := C7.res; have f7 := C7.resf))
    all_goals
      dsimp only [nrm]
      refine ⟨⟨z, vl⟩, ?_, w7, q, rfl, ?_, C7⟩
      · kernel_rfl
      · exact ho7.mono (by have := C6.drw.lt; have := C6.ge; omega)
  clear c5 hwr C5
  rintro ⟨z, vl⟩ w8 ⟨W, q, rfl, hq, C8⟩
  simp only [putAll]
  dsimp only at hq
  have h1 := C8.ge
  go_wp2_with fail
  have hres : (W.setCell ⟨w.heap.size, 0, none⟩ (.slice a2 L.length c2)).cell? ⟨w.heap.size, 0, none⟩ = some (.slice a2 L.length c2) := World.cell?_setCell_same' _ _ _ (by rw [C8.res]; rfl)
  refine bodyPost_ret (ret_disk4 (v := .slice a2 L.length c2) (x := .slice a4 acts.length d4) (y := .int .i64 z) (z := vl) (g := w.heap.size) (by rfl) (by kernel_rfl) (by kernel_rfl) (by kernel_rfl) (by kernel_rfl) hres) rfl ?_
  exact ⟨_, _, vl, L, acts, z, q, rfl, (C8.own.setBelow (a := ⟨w.heap.size, 0, none⟩) (by show w.heap.size < _; omega) _).mono (by omega), hsm2, (C8.acs.setBelow (a := ⟨w.heap.size, 0, none⟩) (by show w.heap.size < _; omega) _).mono (by omega), hsm4, hl4, ownsI.mono (ownsI.setLow hq (a := ⟨w.heap.size, 0, none⟩) (by show w.heap.size < _; omega) _) (by omega), C8.below.setCell (p := ⟨w.heap.size, 0, none⟩) (Nat.le_refl _) _⟩
end Go.Proofs.Ytekflgecfcjjiaa
