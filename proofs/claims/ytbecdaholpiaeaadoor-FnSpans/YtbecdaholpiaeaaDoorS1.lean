/-
  Whether a rule fires at a minute, as the specification tells it: the walk. Rules that are drawn: the walks. What lacks of spans, as the specification tells it: the walk. slices.Contains on rows of numbers, as the library has it: the walks. What lacks of spans, as the program tells it: the walk. Spans that follow one another: plain facts; spans held against spans; a number among numbers: the walks of the law's helpers. Fewer spans are the first ones of more: plain facts. The law on drawn spans: the walk.
-/
import Derived.Test.YtbecdaholpiaeaaDoorNx
import Derived.Test.YtbecdaholpiaeaaDoorFip
import Derived.Test.YtbecdaholpiaeaaDoorB5s
import Derived.Test.YtbecdaholpiaeaaDoorDraw2
import Derived.Test.YtbecdaholpiaeaaDoorFul
import Derived.Test.YtbecdaholpiaeaaDoorDh
import Derived.Test.YtbecdaholpiaeaaDoorSps
import Derived.Test.YtbecdaholpiaeaaDoorCrl
import Derived.Test.YtbecdaholpiaeaaDoorM1
namespace Go.Proofs.YtbecdaholpiaeaaDoor
open Go Go.RowKit
set_option linter.unusedVariables false

set_option maxRecDepth 10000 in
set_option maxHeartbeats 2000000 in
theorem specFires_any (va vb vc vd ve : Value) (a b c d e : List Int) (m : Int) (w : World) (h1 : Reads w va a) (h2 : Reads w vb b) (h3 : Reads w vc c) (h4 : Reads w vd d) (h5 : Reads w ve e)
    (n1 : a.length ≤ 1048577) (n2 : b.length ≤ 1048577) (n3 : c.length ≤ 1048577) (n4 : d.length ≤ 1048577) (n5 : e.length ≤ 1048577) :
    Calls Tryd.prog 14 #[.agg #[va, vb, vc, vd, ve], .int .i64 m] w fun x w' => x = .returned (.bool (cronB a b c d e && firesB a b c d e m)) ∧ Below w.heap.size w w' := by
  obtain ⟨ao, ac, rfl, _⟩ := id h1
  obtain ⟨bo, bc, rfl, _⟩ := id h2
  obtain ⟨co, cc, rfl, _⟩ := id h3
  obtain ⟨d0, dc, rfl, _⟩ := id h4
  obtain ⟨eo, ec, rfl, _⟩ := id h5
  have HOK : Hid (∀ W, Below w.heap.size w W → Calls Tryd.prog 34 #[.agg #[.slice ao a.length ac, .slice bo b.length bc, .slice co c.length cc, .slice d0 d.length dc, .slice eo e.length ec]] W fun x w' => x = .returned (.bool (cronB a b c d e)) ∧ Below W.heap.size W w') := fun W hb => cronOk_any _ _ _ _ _ a b c d e W (h1.below hb) (h2.below hb) (h3.below hb) (h4.below hb) (h5.below hb) n1 n2 n3 n4 n5
  have H1 : Hid (∀ (y : Int) (W : World), Below w.heap.size w W → Calls Tryd.prog 37 #[.slice ao a.length ac, .int .i64 y] W fun x w' => x = .returned (.bool (decide (y ∈ a))) ∧ w' = W) := fun y W hb => l10In_try ao _ ac a y W (h1.below hb) n1
  have H2 : Hid (∀ (y : Int) (W : World), Below w.heap.size w W → Calls Tryd.prog 37 #[.slice bo b.length bc, .int .i64 y] W fun x w' => x = .returned (.bool (decide (y ∈ b))) ∧ w' = W) := fun y W hb => l10In_try bo _ bc b y W (h2.below hb) n2
  have H3 : Hid (0 ≤ m ∧ m ≤ 68374079 → ∀ W, Below w.heap.size w W → Calls Tryd.prog 36 #[.agg #[.slice ao a.length ac, .slice bo b.length bc, .slice co c.length cc, .slice d0 d.length dc, .slice eo e.length ec], .int .i64 m] W fun x w' => x = .returned (.bool (dayF c d e m)) ∧ Below W.heap.size W w') := fun hm W hb => l10Day_any _ _ _ _ _ c d e m W (h3.below hb) (h4.below hb) (h5.below hb) n3 n4 n5 hm.1 hm.2
  clear h1 h2 h3 h4 h5 n1 n2 n3 n4 n5
  obtain ⟨qa, HA⟩ : ∃ q, Hid (decide (m % 60 ∈ a) = q) := ⟨_, rfl⟩
  obtain ⟨qb, HB⟩ : ∃ q, Hid (decide (m % 1440 / 60 ∈ b) = q) := ⟨_, rfl⟩
  obtain ⟨qd, HD⟩ : ∃ q, Hid (dayF c d e m = q) := ⟨_, rfl⟩
  have HF : Hid (0 ≤ m ∧ m ≤ 68374079 → firesB a b c d e m = (qa && (qb && qd))) := fun hm => by unfold firesB; rw [decide_eq_true hm, HA.out, HB.out, HD.out, Bool.true_and]
  have HF0 : Hid (¬ (0 ≤ m ∧ m ≤ 68374079) → firesB a b c d e m = false) := fun hm => fires_out hm
  have K1 : Hid (∀ (W : World), Below w.heap.size w W → Calls Tryd.prog 37 #[.slice ao a.length ac, .int .i64 (m % 60)] W fun x w' => x = .returned (.bool qa) ∧ w' = W) := fun W hb => by rw [← HA.out]; exact H1.out _ W hb
  have K2 : Hid (∀ (W : World), Below w.heap.size w W → Calls Tryd.prog 37 #[.slice bo b.length bc, .int .i64 (m % 1440 / 60)] W fun x w' => x = .returned (.bool qb) ∧ w' = W) := fun W hb => by rw [← HB.out]; exact H2.out _ W hb
  rw [HD.out] at H3
  clear HA HB HD H1 H2
  obtain ⟨q, hq⟩ : ∃ q, cronB a b c d e = q := ⟨_, rfl⟩
  obtain ⟨y, HY⟩ : ∃ y, Hid (firesB a b c d e m = y) := ⟨_, rfl⟩
  rw [hq] at HOK
  rw [HY.out] at HF HF0
  rw [hq, HY.out]
  clear hq HY
  generalize a.length = la at *
  generalize b.length = lb at *
  generalize c.length = lc at *
  generalize d.length = ld at *
  generalize e.length = le at *
  go_enter Tryd.func14, Tryd.ntmps14
  go_wp2_with fail
  refine (HOK.out _ (ba (Below.refl _ _) _)).mono ?_
  rintro x w1 ⟨rfl, hb1⟩
  have Z1 := (B5.new 26 w (.slice ao la ac) (.slice bo lb bc) (.slice co lc cc) (.slice d0 ld dc) (.slice eo le ec)).up hb1
  have B1 := below_new hb1
  clear hb1 HOK
  cases q with
  | false =>
    go_wp2
    go_ret
    exact ⟨rfl, B1⟩
  | true =>
    by_cases hm : 0 ≤ m ∧ m ≤ 68374079
    · have HI : Hid (∀ W, Calls Tryd.prog 35 #[.int .i64 m, .int .i64 0, .int .i64 68374079] W fun e w' => e = .returned (.bool true) ∧ w' = W) := fun W => in_yes hm.1 hm.2
      have HFF := HF.out hm
      have HDD : Hid (∀ W, Below w.heap.size w W → Calls Tryd.prog 36 #[.agg #[.slice ao la ac, .slice bo lb bc, .slice co lc cc, .slice d0 ld dc, .slice eo le ec], .int .i64 m] W fun x w' => x = .returned (.bool qd) ∧ Below W.heap.size W w') := H3.out hm
      obtain ⟨m0, m1⟩ := hm
      have c0 := Z1.c0
      have c1 := Z1.c1
      have c2 := Z1.c2
      have c3 := Z1.c3
      have c4 := Z1.c4
      clear HF HF0 H3
      go_wp2_with (go_at_call 35; refine (HI.out _).mono ?_; rintro e w2 ⟨rfl, hw⟩; have hw2 := hw.symm; subst hw2)
      refine (K1.out _ B1).mono ?_
      rintro x w3 ⟨rfl, hw3⟩
      have hw4 := hw3.symm
      subst hw4
      cases qa with
      | false =>
        go_wp2
        go_ret
        exact ⟨by rw [HFF]; rfl, B1⟩
      | true =>
        go_wp2_with fail
        refine (K2.out _ B1).mono ?_
        rintro x w5 ⟨rfl, hw5⟩
        have hw6 := hw5.symm
        subst hw6
        cases qb with
        | false =>
          go_wp2
          go_ret
          exact ⟨by rw [HFF]; rfl, B1⟩
        | true =>
          go_wp2_with fail
          refine (HDD.out _ B1).mono ?_
          rintro x w7 ⟨rfl, hb7⟩
          have B7 := Below.on B1 hb7
          clear hb7
          go_wp2
          go_ret
          exact ⟨by rw [HFF]; rfl, B7⟩
    · have HI : Hid (∀ W, Calls Tryd.prog 35 #[.int .i64 m, .int .i64 0, .int .i64 68374079] W fun e w' => e = .returned (.bool false) ∧ w' = W) := fun W => in_no hm
      have HFF := HF0.out hm
      clear HF HF0 H3 hm
      go_wp2_with (go_at_call 35; refine (HI.out _).mono ?_; rintro e w2 ⟨rfl, hw⟩; have hw2 := hw.symm; subst hw2)
      go_ret
      exact ⟨by rw [HFF]; rfl, B1⟩

end Go.Proofs.YtbecdaholpiaeaaDoor

namespace Go.Proofs.YtbecdaholpiaeaaDoor
open Go Go.RowKit
set_option linter.unusedVariables false

theorem ownsI.rec {w : World} {B : Nat} {e : TypeId} {v : Value} {l : List Int} (h : ownsI w B e v l) : ownsR w B e v l := by
  unfold ownsR
  rw [flat_int]
  exact h
theorem listB_of {lo hi : Int} {l : List Int} (h1 : l.Pairwise (· < ·)) (h2 : ∀ x ∈ l, lo ≤ x ∧ x ≤ hi) (h3 : l ≠ []) : listB lo hi l = true := by
  rw [listB_rise (rise_of l none h1 h2 (fun y hy => by cases hy))]
  exact decide_eq_true (List.length_pos_iff.2 h3)
/-- A list that rises below a number. -/
def RiseTo (lo hi m : Int) (l : List Int) : Prop := l.Pairwise (· < ·) ∧ ∀ x ∈ l, lo ≤ x ∧ x ≤ hi ∧ x < m
theorem RiseTo.start (lo hi m : Int) : RiseTo lo hi m [] := ⟨List.Pairwise.nil, fun x hx => by cases hx⟩
theorem RiseTo.next {lo hi m n : Int} {l : List Int} (h : RiseTo lo hi m l) (h0 : lo ≤ m) (h1 : m ≤ hi) (h2 : m < n) : RiseTo lo hi n (l ++ [m]) := by
  refine ⟨List.pairwise_append.2 ⟨h.1, List.pairwise_singleton _ _, fun a ha b hb => ?_⟩, fun x hx => ?_⟩
  · rw [List.mem_singleton] at hb
    subst hb
    exact (h.2 a ha).2.2
  · rcases List.mem_append.1 hx with hx | hx
    · have := h.2 x hx
      exact ⟨this.1, this.2.1, by omega⟩
    · rw [List.mem_singleton] at hx
      subst hx
      exact ⟨h0, h1, h2⟩
theorem RiseTo.list {lo hi m : Int} {l : List Int} (h : RiseTo lo hi m l) (h3 : l ≠ []) : listB lo hi l = true := listB_of h.1 (fun x hx => ⟨(h.2 x hx).1, (h.2 x hx).2.1⟩) h3
theorem RiseTo.one {lo hi m : Int} {l : List Int} (h : RiseTo lo hi m l) (h3 : l ≠ []) : listB lo hi (l.take 1) = true := by
  match l, h3 with
  | x :: r, _ => exact listB_of (l := [x]) (List.pairwise_singleton _ _) (fun y hy => by rw [List.mem_singleton] at hy; subst hy; have := h.2 y (List.mem_cons_self ..); exact ⟨this.1, this.2.1⟩) (by simp)
/-- What l10Some answers. -/
def SomeP (g : Nat) (lo hi : Int) (w : World) (x : Ending) (w' : World) : Prop :=
  ∃ (ao : Option Addr) (n c : Nat) (l : List Int), x = .returned (.slice ao n c) ∧ Reads w' (.slice ao n c) l ∧ (∀ a, ao = some a → w.heap.size ≤ a.block) ∧ listB lo hi l = true ∧ Drw w' g ∧ Save g w w'
theorem ownsR.blockOf {w : World} {B : Nat} {e : TypeId} {ao : Option Addr} {n c : Nat} {l : List Int} (h : ownsR w B e (.slice ao n c) l) : ∀ a, ao = some a → B ≤ a.block := by
  intro a ha
  subst ha
  rcases h.2 with ⟨h', _⟩ | ⟨g', cap', cur, h', hb, _⟩
  · simp at h'
  · simp only [Value.slice.injEq, Option.some.injEq] at h'
    rw [h'.1]
    exact hb
set_option maxRecDepth 10000 in
set_option maxHeartbeats 2000000 in
theorem l10Some_any (g : Nat) (lo hi : Int) (w : World) (hd : Drw w g) (h0 : 0 ≤ lo) (h1 : lo ≤ hi) (h2 : hi ≤ 59) :
    Calls Tryd.prog 45 #[.pointer (some ⟨g, 0, none⟩), .int .i64 lo, .int .i64 hi] w (SomeP g lo hi w) := by
  have HG : Hid (g < w.heap.size) := hd.lt
  have HD0 : Hid (Drw (w.alloc (.cells #[] 3)) g) := hd.keep ((Below.refl _ _).alloc HG.out _)
  clear hd
  go_enter Tryd.func45, Tryd.ntmps45
  go_wp2_with fail
  refine (once_any g 3 _ HD0.out (by decide) (by decide)).mono ?_
  rintro x w1 ⟨q, rfl, hd1, hs1⟩
  have HOW : Hid (ownsI w1 w.heap.size 3 (.slice (some ⟨w.heap.size, 0, none⟩) 0 0) []) := (ownsI_made w w.heap.size 0 3 #[] (Nat.le_refl _) (by decide) rfl).save hs1 HG.out
  have HS1 : Hid (Save g w w1) := ((Save.refl g w).alloc _).trans hs1
  have HD1 : Hid (Drw w1 g) := hd1
  clear hd1 hs1 HD0
  generalize hB : w.heap.size = B at *
  cases q with
  | true =>
    go_wp2
    go_loopw [7, 8] (fun out i wr => ∃ (m : Int) (l : List Int), lo ≤ m ∧ m ≤ hi + 1 ∧ i = .int .i64 m ∧ (l.length : Int) ≤ m - lo ∧ Hid (RiseTo lo hi m l ∧ (lo < m → l ≠ [])) ∧ ownsI wr B 3 out l ∧ Hid (Drw wr g ∧ Save g w wr)) (fun _ i _ => (hi + 1 - intOf i).toNat)
    case atStart => exact ⟨lo, [], Int.le_refl _, by omega, rfl, by simp, ⟨RiseTo.start _ _ _, fun h => by omega⟩, HOW.out, HD1.out, HS1.out⟩
    case round =>
      obtain ⟨m, l, hm0, hm1, rfl, hlen, HR, hown, HS⟩ := hrel
      clear HOW HD1 HS1
      by_cases hlt : m ≤ hi
      · have HBW : Hid (B ≤ wr.heap.size) := by have := HS.out.2.size; show B ≤ _; omega
        go_wp2_with (at_builtin; refine wpList_append_int _ _ rfl (.tmp 20) (.tmp 22) 24 rfl B 3 Tryd.underlying24 info3 _ l rfl (hown.alloc _) (Below.refl _ _) ⟨wr.heap.size, 0, none⟩ 1 m rfl ?c1 ?c2 ?c3 ?_)
        case c1 => simp
        case c2 => omega
        case c3 => have := HBW.out; simp; omega
        intro v' w4 hown2 hbel2
        have HN : Hid (RiseTo lo hi (m + 1) (l ++ [m]) ∧ (lo < m + 1 → l ++ [m] ≠ [])) := ⟨HR.out.1.next hm0 hlt (by omega), fun _ => by simp⟩
        have HS2 : Hid (Drw w4 g ∧ Save g w w4) := ⟨(HS.out.1.keep ((Below.refl _ _).alloc (by have := HBW.out; have := HG.out; omega) _)).keep (hbel2.mono (by have := HG.out; omega)), (HS.out.2.alloc _).below_on hbel2 (by omega)⟩
        clear hown hbel2 HR HS
        go_wp2
        go_roundw
        case rel => exact ⟨m + 1, l ++ [m], by omega, by omega, by go_num, by simp; omega, HN, hown2, HS2⟩
        case measure => simp [intOf]; omega
      · have HL : Hid (listB lo hi l = true) := HR.out.1.list (HR.out.2 (by omega))
        obtain ⟨a, c, rfl⟩ := (ownsI.rec hown).slice
        have HO : Hid (ownsR wr B 3 (.slice a l.length c) l) := ownsI.rec hown
        clear hown
        generalize l.length = ll at *
        go_wp2
        go_ret
        subst hB
        exact ⟨_, _, _, l, rfl, HO.out.reads, HO.out.blockOf, HL.out, HS.out.1, HS.out.2⟩
  | false =>
    have hq0 : 0 ≤ (hi - lo) / 2 := by omega
    go_wp2_with fail
    refine (below_any g (1 + (hi - lo) / 2) _ HD1.out (by omega) (by omega)).mono ?_
    rintro x w2 ⟨s, rfl, s0, s1, hd2, hs2⟩
    have HOW2 : Hid (ownsI w2 B 3 (.slice (some ⟨B, 0, none⟩) 0 0) []) := HOW.out.save hs2 HG.out
    have HS2 : Hid (Save g w w2) := HS1.out.trans hs2
    have HD2 : Hid (Drw w2 g) := hd2
    clear hd2 hs2 HOW HS1 HD1
    go_wp2_with fail
    refine (below_any g (1 + s) _ HD2.out (by omega) (by omega)).mono ?_
    rintro x w3 ⟨y, rfl, y0, y1, hd3, hs3⟩
    have HOW3 : Hid (ownsI w3 B 3 (.slice (some ⟨B, 0, none⟩) 0 0) []) := HOW2.out.save hs3 HG.out
    have HS3 : Hid (Save g w w3) := HS2.out.trans hs3
    have HD3 : Hid (Drw w3 g) := hd3
    clear hd3 hs3 HOW2 HS2 HD2
    go_wp2
    go_loopw [7, 10] (fun out i wr => ∃ (m : Int) (l : List Int), lo ≤ m ∧ m ≤ hi + 1 + s ∧ i = .int .i64 m ∧ (l.length : Int) ≤ m - lo ∧ Hid (RiseTo lo hi m l ∧ (m ≤ hi ∨ l ≠ [])) ∧ ownsI wr B 3 out l ∧ Hid (Drw wr g ∧ Save g w wr)) (fun _ i _ => (hi + 1 + s - intOf i).toNat)
    case atStart => exact ⟨lo + y, [], by omega, by omega, rfl, by simp; omega, ⟨RiseTo.start _ _ _, .inl (by omega)⟩, HOW3.out, HD3.out, HS3.out⟩
    case round =>
      obtain ⟨m, l, hm0, hm1, rfl, hlen, HR, hown, HS⟩ := hrel
      clear HOW3 HD3 HS3
      by_cases hlt : m ≤ hi
      · have HBW : Hid (B ≤ wr.heap.size) := by have := HS.out.2.size; show B ≤ _; omega
        go_wp2_with (at_builtin; refine wpList_append_int _ _ rfl (.tmp 44) (.tmp 46) 24 rfl B 3 Tryd.underlying24 info3 _ l rfl (hown.alloc _) (Below.refl _ _) ⟨wr.heap.size, 0, none⟩ 1 m rfl ?c1 ?c2 ?c3 ?_)
        case c1 => simp
        case c2 => omega
        case c3 => have := HBW.out; simp; omega
        intro v' w4 hown2 hbel2
        have HN : Hid (RiseTo lo hi (m + (1 + s)) (l ++ [m]) ∧ (m + (1 + s) ≤ hi ∨ l ++ [m] ≠ [])) := ⟨HR.out.1.next hm0 hlt (by omega), .inr (by simp)⟩
        have HS4 : Hid (Drw w4 g ∧ Save g w w4) := ⟨(HS.out.1.keep ((Below.refl _ _).alloc (by have := HBW.out; have := HG.out; omega) _)).keep (hbel2.mono (by have := HG.out; omega)), (HS.out.2.alloc _).below_on hbel2 (by omega)⟩
        clear hown hbel2 HR HS
        go_wp2
        go_roundw
        case rel => exact ⟨m + (1 + s), l ++ [m], by omega, by omega, by go_num, by simp; omega, HN, hown2, HS4⟩
        case measure => simp [intOf]; omega
      · have HNE : Hid (l ≠ []) := HR.out.2.resolve_left hlt
        obtain ⟨a, c, rfl, hlc⟩ := (ownsI.rec hown).cap
        have HO : Hid (ownsR wr B 3 (.slice a l.length c) l) := ownsI.rec hown
        have hlp : 1 ≤ l.length := List.length_pos_iff.2 HNE.out
        clear hown
        go_wp2_with fail
        refine (once_any g 2 _ HS.out.1 (by decide) (by decide)).mono ?_
        rintro x w5 ⟨q, rfl, hd5, hs5⟩
        have HO5 : Hid (ownsR w5 B 3 (.slice a l.length c) l) := by
          have h1 : ownsI wr B 3 (.slice a l.length c) l := by have := HO.out; unfold ownsR at this; rw [flat_int] at this; exact this
          exact ownsI.rec (h1.save hs5 HG.out)
        have HS5 : Hid (Drw w5 g ∧ Save g w w5) := ⟨hd5, HS.out.2.trans hs5⟩
        clear hd5 hs5
        cases q with
        | false =>
          have HL : Hid (listB lo hi l = true) := HR.out.1.list HNE.out
          generalize l.length = ll at *
          go_wp2
          go_ret
          subst hB
          exact ⟨_, _, _, l, rfl, HO5.out.reads, HO5.out.blockOf, HL.out, HS5.out.1, HS5.out.2⟩
        | true =>
          have HL : Hid (listB lo hi (l.take 1) = true) := HR.out.1.one HNE.out
          have HRT : Hid (Reads w5 (.slice a 1 c) (l.take 1)) := HO5.out.reads.take 1 hlp c
          have HBO : Hid (∀ x, a = some x → B ≤ x.block) := HO5.out.blockOf
          obtain ⟨x, hx⟩ : ∃ x, l[0]? = some x := ⟨_, List.getElem?_eq_getElem (by omega)⟩
          obtain ⟨b, o, rfl, _, _⟩ := int_at HO5.out.reads hx
          clear hx
          have hrun : ∀ wx, (Instr.slice 24 (.slice (some ⟨b, o, none⟩) l.length c) none (some (.int .i64 1)) none).run Tryd.prog wx = .ok (.slice (some ⟨b, o, none⟩) 1 c) wx := fun wx => by
            simp [go_sem, Instr.slice]
            intro h
            omega
          generalize l.length = ll at *
          go_wp2
          go_ret
          subst hB
          exact ⟨_, _, _, _, rfl, HRT.out, HBO.out, HL.out, HS5.out.1, HS5.out.2⟩

theorem Reads.save {g : Nat} {w w' : World} {ao : Option Addr} {n c : Nat} {l : List Int} (h : Reads w (.slice ao n c) l) (hs : Save g w w') (hb : ∀ a, ao = some a → a.block ≠ g) : Reads w' (.slice ao n c) l := by
  obtain ⟨ao', cap, e, h⟩ := h
  simp only [Value.slice.injEq] at e
  obtain ⟨rfl, rfl, rfl⟩ := e
  refine ⟨ao, c, rfl, fun hne => ?_⟩
  obtain ⟨b, o, rfl, hlt, hc⟩ := h hne
  exact ⟨b, o, rfl, Nat.lt_of_lt_of_le hlt hs.size, fun i x hx j u hu => hs.cell (hb ⟨b, o, none⟩ rfl) (hc i x hx j u hu)⟩
theorem save_set5 (W : World) (b : Nat) (u0 u1 u2 u3 u4 : Value) : Save b W (set5 W b u0 u1 u2 u3 u4) := by
  have h0 : Save b W (W.setCell ⟨b, 0, none⟩ u0) := (Save.refl b W).setCell (p := ⟨b, 0, none⟩) rfl u0
  have h1 := h0.setCell (p := ⟨b, 1, none⟩) rfl u1
  have h2 := h1.setCell (p := ⟨b, 2, none⟩) rfl u2
  have h3 := h2.setCell (p := ⟨b, 3, none⟩) rfl u3
  exact h3.setCell (p := ⟨b, 4, none⟩) rfl u4
/-- A rule that was drawn. -/
def DrawnC (w' : World) (v0 v1 v2 v3 v4 : Value) (a b c d e : List Int) : Prop :=
  (Reads w' v0 a ∧ Reads w' v1 b ∧ Reads w' v2 c ∧ Reads w' v3 d ∧ Reads w' v4 e) ∧ cronB a b c d e = true
theorem cron_short {a b c d e : List Int} (h : cronB a b c d e = true) : a.length ≤ 60 ∧ b.length ≤ 24 ∧ c.length ≤ 31 ∧ d.length ≤ 12 ∧ e.length ≤ 7 := by
  unfold cronB at h
  simp only [Bool.and_eq_true] at h
  obtain ⟨h0, h1, h2, h3, h4⟩ := h
  have := list_len h0
  have := list_len h1
  have := list_len h2
  have := list_len h3
  have := list_len h4
  exact ⟨by omega, by omega, by omega, by omega, by omega⟩
def CronP (g : Nat) (w : World) (x : Ending) (w' : World) : Prop :=
  ∃ (ao bo co d0 eo : Option Addr) (l0 l1 l2 l3 l4 ac bc cc dc ec : Nat) (a b c d e : List Int), x = .returned (.agg #[.slice ao l0 ac, .slice bo l1 bc, .slice co l2 cc, .slice d0 l3 dc, .slice eo l4 ec]) ∧ DrawnC w' (.slice ao l0 ac) (.slice bo l1 bc) (.slice co l2 cc) (.slice d0 l3 dc) (.slice eo l4 ec) a b c d e ∧ (∀ x, ao = some x ∨ bo = some x ∨ co = some x ∨ d0 = some x ∨ eo = some x → w.heap.size ≤ x.block) ∧ Drw w' g ∧ Save g w w'
set_option maxRecDepth 10000 in
set_option maxHeartbeats 2000000 in
theorem l10Cron_any (g : Nat) (w : World) (hd : Drw w g) : Calls Tryd.prog 29 #[.pointer (some ⟨g, 0, none⟩)] w (CronP g w) := by
  have HG : Hid (g < w.heap.size) := hd.lt
  have HD0 : Hid (Drw (w.alloc (.cells #[.slice none 0 0, .slice none 0 0, .slice none 0 0, .slice none 0 0, .slice none 0 0] 26)) g) := hd.keep ((Below.refl _ _).alloc HG.out _)
  clear hd
  go_enter Tryd.func29, Tryd.ntmps29
  go_wp2_with fail
  obtain ⟨W0, hW⟩ : ∃ W, w.alloc (.cells #[.slice none 0 0, .slice none 0 0, .slice none 0 0, .slice none 0 0, .slice none 0 0] 26) = W := ⟨_, rfl⟩
  have Z0 : B5 26 W0 w.heap.size (.slice none 0 0) (.slice none 0 0) (.slice none 0 0) (.slice none 0 0) (.slice none 0 0) := by rw [← hW]; exact B5.new 26 w _ _ _ _ _
  have S0 : Save g w W0 := by rw [← hW]; exact (Save.refl g w).alloc _
  rw [hW] at HD0
  rw [hW]
  clear hW
  refine (l10Some_any g 0 59 W0 HD0.out (by decide) (by decide) (by decide)).mono ?_
  rintro x W1 ⟨a0, n0, c0, l0, rfl, r0, u0, hl0, hd0, hs0⟩
  have hz0 := Z0.lt
  have S1 : Save g w W1 := S0.trans hs0
  have Z1 : B5 26 W1 w.heap.size (.slice none 0 0) (.slice none 0 0) (.slice none 0 0) (.slice none 0 0) (.slice none 0 0) := (hs0.block _ Z0.lt (by have := HG.out; omega)).trans Z0
  have HD1 : Hid (Drw W1 g) := hd0
  have HB0 : Hid (listB 0 59 l0 = true) := hl0
  have U0 : ∀ a, a0 = some a → w.heap.size + 1 ≤ a.block := fun a ha => by have := u0 a ha; omega
  have R0_1 : Hid (Reads W1 (.slice a0 n0 c0) l0) := r0
  clear r0 u0 hl0 hd0 hs0 hz0 Z0 S0 HD0
  go_wp2_with fail
  refine (l10Some_any g 0 23 W1 HD1.out (by decide) (by decide) (by decide)).mono ?_
  rintro x W2 ⟨a1, n1, c1, l1, rfl, r1, u1, hl1, hd1, hs1⟩
  have hz1 := Z1.lt
  have S2 : Save g w W2 := S1.trans hs1
  have Z2 : B5 26 W2 w.heap.size (.slice none 0 0) (.slice none 0 0) (.slice none 0 0) (.slice none 0 0) (.slice none 0 0) := (hs1.block _ Z1.lt (by have := HG.out; omega)).trans Z1
  have HD2 : Hid (Drw W2 g) := hd1
  have HB1 : Hid (listB 0 23 l1 = true) := hl1
  have U1 : ∀ a, a1 = some a → w.heap.size + 1 ≤ a.block := fun a ha => by have := u1 a ha; omega
  have R1_2 : Hid (Reads W2 (.slice a1 n1 c1) l1) := r1
  have R0_2 : Hid (Reads W2 (.slice a0 n0 c0) l0) := R0_1.out.save hs1 (fun a ha => by have := U0 a ha; have := HG.out; omega)
  clear r1 u1 hl1 hd1 hs1 hz1 Z1 S1 HD1 R0_1
  go_wp2_with fail
  refine (l10Some_any g 1 31 W2 HD2.out (by decide) (by decide) (by decide)).mono ?_
  rintro x W3 ⟨a2, n2, c2, l2, rfl, r2, u2, hl2, hd2, hs2⟩
  have hz2 := Z2.lt
  have S3 : Save g w W3 := S2.trans hs2
  have Z3 : B5 26 W3 w.heap.size (.slice none 0 0) (.slice none 0 0) (.slice none 0 0) (.slice none 0 0) (.slice none 0 0) := (hs2.block _ Z2.lt (by have := HG.out; omega)).trans Z2
  have HD3 : Hid (Drw W3 g) := hd2
  have HB2 : Hid (listB 1 31 l2 = true) := hl2
  have U2 : ∀ a, a2 = some a → w.heap.size + 1 ≤ a.block := fun a ha => by have := u2 a ha; omega
  have R2_3 : Hid (Reads W3 (.slice a2 n2 c2) l2) := r2
  have R0_3 : Hid (Reads W3 (.slice a0 n0 c0) l0) := R0_2.out.save hs2 (fun a ha => by have := U0 a ha; have := HG.out; omega)
  have R1_3 : Hid (Reads W3 (.slice a1 n1 c1) l1) := R1_2.out.save hs2 (fun a ha => by have := U1 a ha; have := HG.out; omega)
  clear r2 u2 hl2 hd2 hs2 hz2 Z2 S2 HD2 R0_2 R1_2
  go_wp2_with fail
  refine (l10Some_any g 1 12 W3 HD3.out (by decide) (by decide) (by decide)).mono ?_
  rintro x W4 ⟨a3, n3, c3, l3, rfl, r3, u3, hl3, hd3, hs3⟩
  have hz3 := Z3.lt
  have S4 : Save g w W4 := S3.trans hs3
  have Z4 : B5 26 W4 w.heap.size (.slice none 0 0) (.slice none 0 0) (.slice none 0 0) (.slice none 0 0) (.slice none 0 0) := (hs3.block _ Z3.lt (by have := HG.out; omega)).trans Z3
  have HD4 : Hid (Drw W4 g) := hd3
  have HB3 : Hid (listB 1 12 l3 = true) := hl3
  have U3 : ∀ a, a3 = some a → w.heap.size + 1 ≤ a.block := fun a ha => by have := u3 a ha; omega
  have R3_4 : Hid (Reads W4 (.slice a3 n3 c3) l3) := r3
  have R0_4 : Hid (Reads W4 (.slice a0 n0 c0) l0) := R0_3.out.save hs3 (fun a ha => by have := U0 a ha; have := HG.out; omega)
  have R1_4 : Hid (Reads W4 (.slice a1 n1 c1) l1) := R1_3.out.save hs3 (fun a ha => by have := U1 a ha; have := HG.out; omega)
  have R2_4 : Hid (Reads W4 (.slice a2 n2 c2) l2) := R2_3.out.save hs3 (fun a ha => by have := U2 a ha; have := HG.out; omega)
  clear r3 u3 hl3 hd3 hs3 hz3 Z3 S3 HD3 R0_3 R1_3 R2_3
  go_wp2_with fail
  refine (l10Some_any g 0 6 W4 HD4.out (by decide) (by decide) (by decide)).mono ?_
  rintro x W5 ⟨a4, n4, c4, l4, rfl, r4, u4, hl4, hd4, hs4⟩
  have hz4 := Z4.lt
  have S5 : Save g w W5 := S4.trans hs4
  have Z5 : B5 26 W5 w.heap.size (.slice none 0 0) (.slice none 0 0) (.slice none 0 0) (.slice none 0 0) (.slice none 0 0) := (hs4.block _ Z4.lt (by have := HG.out; omega)).trans Z4
  have HD5 : Hid (Drw W5 g) := hd4
  have HB4 : Hid (listB 0 6 l4 = true) := hl4
  have U4 : ∀ a, a4 = some a → w.heap.size + 1 ≤ a.block := fun a ha => by have := u4 a ha; omega
  have R4_5 : Hid (Reads W5 (.slice a4 n4 c4) l4) := r4
  have R0_5 : Hid (Reads W5 (.slice a0 n0 c0) l0) := R0_4.out.save hs4 (fun a ha => by have := U0 a ha; have := HG.out; omega)
  have R1_5 : Hid (Reads W5 (.slice a1 n1 c1) l1) := R1_4.out.save hs4 (fun a ha => by have := U1 a ha; have := HG.out; omega)
  have R2_5 : Hid (Reads W5 (.slice a2 n2 c2) l2) := R2_4.out.save hs4 (fun a ha => by have := U2 a ha; have := HG.out; omega)
  have R3_5 : Hid (Reads W5 (.slice a3 n3 c3) l3) := R3_4.out.save hs4 (fun a ha => by have := U3 a ha; have := HG.out; omega)
  clear r4 u4 hl4 hd4 hs4 hz4 Z4 S4 HD4 R0_4 R1_4 R2_4 R3_4
  have q0 := Z5.c0
  have q1 := Z5.c1
  have q2 := Z5.c2
  have q3 := Z5.c3
  have q4 := Z5.c4
  have f0 := Z5.fr 0
  have f1 := Z5.fr 1
  have f2 := Z5.fr 2
  have f3 := Z5.fr 3
  have f4 := Z5.fr 4
  have HZ5 : Hid (B5 26 W5 w.heap.size (.slice none 0 0) (.slice none 0 0) (.slice none 0 0) (.slice none 0 0) (.slice none 0 0)) := Z5
  have HSV : Hid (Save g w W5) := S5
  clear Z5 S5
  go_wp2
  refine bodyPost_ret (ret_c1 rfl rfl (HZ5.out.set (.slice a0 n0 c0) (.slice a1 n1 c1) (.slice a2 n2 c2) (.slice a3 n3 c3) (.slice a4 n4 c4))) rfl ?_
  have hgw := HG.out
  have hwz := HZ5.out.lt
  have BX : Below w.heap.size W5 (set5 W5 w.heap.size (.slice a0 n0 c0) (.slice a1 n1 c1) (.slice a2 n2 c2) (.slice a3 n3 c3) (.slice a4 n4 c4)) := below_set5 (Below.refl _ _) (Nat.le_refl _) _ _ _ _ _
  have RX : ∀ (ao : Option Addr) (n c : Nat) (l : List Int), Reads W5 (.slice ao n c) l → (∀ a, ao = some a → w.heap.size + 1 ≤ a.block) → Reads (set5 W5 w.heap.size (.slice a0 n0 c0) (.slice a1 n1 c1) (.slice a2 n2 c2) (.slice a3 n3 c3) (.slice a4 n4 c4)) (.slice ao n c) l := fun ao n c l h hb => by
    have SX : Save w.heap.size W5 (set5 W5 w.heap.size (.slice a0 n0 c0) (.slice a1 n1 c1) (.slice a2 n2 c2) (.slice a3 n3 c3) (.slice a4 n4 c4)) := save_set5 _ _ _ _ _ _ _
    exact h.save SX (fun a ha => by have := hb a ha; omega)
  refine ⟨a0, a1, a2, a3, a4, n0, n1, n2, n3, n4, c0, c1, c2, c3, c4, l0, l1, l2, l3, l4, rfl, ⟨⟨RX _ _ _ _ R0_5.out U0, RX _ _ _ _ R1_5.out U1, RX _ _ _ _ R2_5.out U2, RX _ _ _ _ R3_5.out U3, RX _ _ _ _ R4_5.out U4⟩, ?_⟩, ?_, ?_, ?_⟩
  · simp [cronB, HB0.out, HB1.out, HB2.out, HB3.out, HB4.out]
  · rintro x (h | h | h | h | h)
    · have := U0 x h; omega
    · have := U1 x h; omega
    · have := U2 x h; omega
    · have := U3 x h; omega
    · have := U4 x h; omega
  · exact HD5.out.keep (BX.mono (by omega))
  · exact HSV.out.below_on BX (Nat.le_refl _)
set_option maxRecDepth 10000 in
set_option maxHeartbeats 2000000 in
theorem drawCron_any (v : Value) (n : Nat) (w : World) (hn : n ≤ 1048576) (hc : CodeAt w w.heap.size v n) :
    Calls Tryd.prog 8 #[v] w fun x w' => ∃ (v0 v1 v2 v3 v4 : Value) (a b c d e : List Int) (m : Int), x = .returned (.tuple #[.agg #[v0, v1, v2, v3, v4], .int .i64 m]) ∧ DrawnC w' v0 v1 v2 v3 v4 a b c d e ∧ 0 ≤ m ∧ m < 60000000 ∧ Below w.heap.size w w' := by
  have HCA : Hid (CodeAt (w.alloc (.cells #[.slice none 0 0, .slice none 0 0, .slice none 0 0, .slice none 0 0, .slice none 0 0] 26)) (w.alloc (.cells #[.slice none 0 0, .slice none 0 0, .slice none 0 0, .slice none 0 0, .slice none 0 0] 26)).heap.size v n) := hc.on (ba (Below.refl _ _) _)
  clear hc
  go_enter Tryd.func8, Tryd.ntmps8
  go_wp2_with fail
  refine (new_any v n _ hn HCA.out).mono ?_
  rintro x w1 ⟨g, rfl, hg0, hd1, hb1⟩
  have Z1 : B5 26 w1 w.heap.size (.slice none 0 0) (.slice none 0 0) (.slice none 0 0) (.slice none 0 0) (.slice none 0 0) := (B5.new 26 w _ _ _ _ _).up hb1
  have B1 := below_new hb1
  have hg1 : w.heap.size + 1 ≤ g := by simpa using hg0
  have HG : Hid (w.heap.size < g) := hg1
  clear hg1
  clear hb1 hg0 HCA
  go_wp2_with fail
  refine (l10Cron_any g _ hd1).mono ?_
  rintro x w2 ⟨ao, bo, co, d0, eo, l0, l1, l2, l3, l4, ac, bc, cc, dc, ec, a, b, c, d, e, rfl, ⟨⟨r0, r1, r2, r3, r4⟩, hcr⟩, hbl, hd2, hs2⟩
  have hgl : g < w1.heap.size := hd1.lt
  have B2 : Below w.heap.size w w2 := B1.trans (hs2.below (by have := HG.out; omega) B1.size)
  have Z2 : B5 26 w2 w.heap.size (.slice none 0 0) (.slice none 0 0) (.slice none 0 0) (.slice none 0 0) (.slice none 0 0) := (hs2.block _ Z1.lt (by have := HG.out; omega)).trans Z1
  have HR : Hid (Reads w2 (.slice ao l0 ac) a ∧ Reads w2 (.slice bo l1 bc) b ∧ Reads w2 (.slice co l2 cc) c ∧ Reads w2 (.slice d0 l3 dc) d ∧ Reads w2 (.slice eo l4 ec) e) := ⟨r0, r1, r2, r3, r4⟩
  have HBL : Hid (∀ x, ao = some x ∨ bo = some x ∨ co = some x ∨ d0 = some x ∨ eo = some x → w1.heap.size ≤ x.block) := hbl
  clear hd1 Z1 B1 r0 r1 r2 r3 r4 hbl hs2
  go_wp2_with fail
  refine (below_any g 60000000 _ hd2 (by decide) (by decide)).mono ?_
  rintro x w3 ⟨m, rfl, m0, m1, hd3, hs3⟩
  have B3 : Below w.heap.size w w3 := B2.trans (hs3.below (by have := HG.out; omega) B2.size)
  have Z3 : B5 26 w3 w.heap.size (.slice none 0 0) (.slice none 0 0) (.slice none 0 0) (.slice none 0 0) (.slice none 0 0) := (hs3.block _ Z2.lt (by have := HG.out; omega)).trans Z2
  have HR3 : Hid (Reads w3 (.slice ao l0 ac) a ∧ Reads w3 (.slice bo l1 bc) b ∧ Reads w3 (.slice co l2 cc) c ∧ Reads w3 (.slice d0 l3 dc) d ∧ Reads w3 (.slice eo l4 ec) e) :=
    ⟨HR.out.1.save hs3 (fun x h => by have := HBL.out x (.inl h); omega), HR.out.2.1.save hs3 (fun x h => by have := HBL.out x (.inr (.inl h)); omega), HR.out.2.2.1.save hs3 (fun x h => by have := HBL.out x (.inr (.inr (.inl h))); omega), HR.out.2.2.2.1.save hs3 (fun x h => by have := HBL.out x (.inr (.inr (.inr (.inl h)))); omega), HR.out.2.2.2.2.save hs3 (fun x h => by have := HBL.out x (.inr (.inr (.inr (.inr h)))); omega)⟩
  have HZ3 : Hid (B5 26 w3 w.heap.size (.slice none 0 0) (.slice none 0 0) (.slice none 0 0) (.slice none 0 0) (.slice none 0 0)) := Z3
  have q0 := Z3.c0
  have q1 := Z3.c1
  have q2 := Z3.c2
  have q3 := Z3.c3
  have q4 := Z3.c4
  have f0 := Z3.fr 0
  have f1 := Z3.fr 1
  have f2 := Z3.fr 2
  have f3 := Z3.fr 3
  have f4 := Z3.fr 4
  have HB3 : Hid (Below w.heap.size w w3) := B3
  have HWG : Hid (w.heap.size < w1.heap.size) := by have := HG.out; show _ < _; omega
  clear Z2 Z3 B2 B3 hs3 hd2 hd3 HR hgl
  go_wp2
  refine bodyPost_ret (ret_c2 rfl rfl rfl (HZ3.out.set (.slice ao l0 ac) (.slice bo l1 bc) (.slice co l2 cc) (.slice d0 l3 dc) (.slice eo l4 ec))) rfl ?_
  have hlt := HWG.out
  have SX : Save w.heap.size w3 (set5 w3 w.heap.size (.slice ao l0 ac) (.slice bo l1 bc) (.slice co l2 cc) (.slice d0 l3 dc) (.slice eo l4 ec)) := save_set5 _ _ _ _ _ _ _
  refine ⟨_, _, _, _, _, a, b, c, d, e, m, rfl, ⟨⟨HR3.out.1.save SX (fun x h => by have := HBL.out x (.inl h); omega), HR3.out.2.1.save SX (fun x h => by have := HBL.out x (.inr (.inl h)); omega), HR3.out.2.2.1.save SX (fun x h => by have := HBL.out x (.inr (.inr (.inl h))); omega), HR3.out.2.2.2.1.save SX (fun x h => by have := HBL.out x (.inr (.inr (.inr (.inl h)))); omega), HR3.out.2.2.2.2.save SX (fun x h => by have := HBL.out x (.inr (.inr (.inr (.inr h)))); omega)⟩, hcr⟩, m0, m1, ?_⟩
  exact below_set5 HB3.out (Nat.le_refl _) _ _ _ _ _
theorem ownsI_first {w : World} {B : Nat} {u : Value} {l : List Int} (h : ownsI w B 3 u l) (hl : l.length = 12) : ∃ (r c : Nat) (z : List Int), u = .slice (some ⟨r, 0, none⟩) 12 c ∧ l = z ∧ ∀ j x, l[j]? = some x → w.cell? ⟨r, j, none⟩ = some (.int .i64 x) := by
  have ho : ownsR w B 3 u l := by unfold ownsR; rw [flat_int]; exact h
  rcases ho.2 with ⟨rfl, h0⟩ | ⟨g, cap, cur, rfl, hb, _⟩
  · omega
  · refine ⟨g, cap, l, by rw [hl], rfl, fun j x hx => ?_⟩
    exact (int_own ho hx).2.1
end Go.Proofs.YtbecdaholpiaeaaDoor

namespace Go.Proofs.YtbecdaholpiaeaaDoor
open Go Go.RowKit

theorem lack_take {l : List Sp} {k : Nat} {x : Sp} (f : Sp → Bool) (h : l[k]? = some x) : (l.take (k + 1)).filter f = (l.take k).filter f ++ (if f x then [x] else []) := by
  rw [List.take_add_one, h, List.filter_append]
  congr 1
  cases hf : f x <;> simp [hf]
end Go.Proofs.YtbecdaholpiaeaaDoor

namespace Go.Proofs.YtbecdaholpiaeaaDoor
open Go Go.RowKit

set_option maxHeartbeats 1000000 in
theorem index_try (ao : Option Addr) (n c : Nat) (m : List Int) (x : Int) (w : World) (hr : Reads w (.slice ao n c) m) (hn : n ≤ 1048577) :
    Calls Tryd.prog 50 #[.slice ao n c, .int .i64 x] w fun e w' => ∃ r : Int, e = .returned (.int .i64 r) ∧ decide (0 ≤ r) = decide (x ∈ m) ∧ w' = w := by
  have HR : Hid (Reads w (.slice ao n c) m) := hr
  have HN : Hid (n = m.length) := hr.len
  clear hr
  go_enter Tryd.func50, Tryd.ntmps50
  go_wp2
  go_loopw [8] (fun i wr => ∃ k : Nat, k ≤ n ∧ i = .int .i64 k ∧ Hid (x ∈ m ↔ x ∈ m.drop k) ∧ wr = w) (fun i _ => n - (intOf i).toNat)
  case atStart => exact ⟨0, Nat.zero_le _, rfl, (by show x ∈ m ↔ x ∈ m.drop 0; rw [List.drop_zero]), rfl⟩
  case round =>
    obtain ⟨k, hk, rfl, HE, rfl⟩ := hrel
    by_cases hlt : k < n
    · obtain ⟨y, hy⟩ : ∃ y, m[k]? = some y := ⟨_, List.getElem?_eq_getElem (by rw [← HN.out]; exact hlt)⟩
      have HM : Hid (x ∈ m ↔ x = y ∨ x ∈ m.drop (k + 1)) := HE.out.trans (mem_drop_at hy)
      obtain ⟨b, o, rfl, hb, c0⟩ := int_at HR.out hy
      clear hy HE
      by_cases hyx : x = y
      · have HF : Hid (decide (x ∈ m) = true) := decide_eq_true (HM.out.2 (.inl hyx))
        go_wp2
        go_ret
        exact ⟨_, rfl, by rw [HF.out]; exact decide_eq_true (by omega), rfl⟩
      · have HF : Hid (x ∈ m ↔ x ∈ m.drop (k + 1)) := HM.out.trans ⟨fun h => h.resolve_left fun e => hyx e, .inr⟩
        go_wp2
        go_roundw
        case rel => exact ⟨k + 1, by omega, by go_num, HF, trivial⟩
        case measure => simp [intOf]; omega
    · have HF : Hid (decide (x ∈ m) = false) := decide_eq_false fun h => not_mem_end (by rw [← HN.out]; omega) (HE.out.1 h)
      go_wp2
      go_ret
      exact ⟨_, rfl, by rw [HF.out]; rfl, rfl⟩

theorem contains_try (ao : Option Addr) (n c : Nat) (m : List Int) (x : Int) (w : World) (hr : Reads w (.slice ao n c) m) (hn : n ≤ 1048577) :
    Calls Tryd.prog 38 #[.slice ao n c, .int .i64 x] w fun e w' => e = .returned (.bool (decide (x ∈ m))) ∧ w' = w := by
  have HR : Hid (Reads w (.slice ao n c) m) := hr
  clear hr
  go_enter Tryd.func38, Tryd.ntmps38
  go_wp2_with (go_at_call 50; refine (index_try _ _ _ m _ _ HR.out hn).mono ?_; rintro e w1 ⟨r, rfl, hd, hw⟩; have hw2 := hw.symm; subst hw2)
  go_ret
  exact ⟨by rw [← hd]; rfl, rfl⟩

end Go.Proofs.YtbecdaholpiaeaaDoor

namespace Go.Proofs.YtbecdaholpiaeaaDoor
open Go Go.RowKit

set_option maxRecDepth 10000 in
set_option maxHeartbeats 1000000 in
theorem implLacking_any (v u : Value) (l : List Sp) (m : List Int) (w : World) (h1 : Reads w v l) (h2 : Reads w u m) (n1 : l.length ≤ 1048576) (n2 : m.length ≤ 1048577) :
    Calls Tryd.prog 15 #[v, u] w fun x w' => ∃ v', x = .returned v' ∧ ownsR w' w.heap.size 34 v' (l.filter fun s => !decide (s.fr ∈ m)) ∧ Below w.heap.size w w' := by
  obtain ⟨ao, ac, rfl, -⟩ := id h1
  obtain ⟨bo, bc, rfl, -⟩ := id h2
  have HR : Hid (Reads w (.slice ao l.length ac) l) := h1
  have HI : Hid (∀ W x, Below w.heap.size w W → Calls Tryd.prog 38 #[.slice bo m.length bc, .int .i64 x] W fun e w' => e = .returned (.bool (decide (x ∈ m))) ∧ w' = W) := fun W x hb => contains_try bo _ bc m x W (h2.below hb) n2
  clear h1 h2
  obtain ⟨n, HN⟩ : ∃ n, Hid (l.length = n) := ⟨_, rfl⟩
  rw [HN.out] at HR n1 ⊢
  generalize m.length = lm at *
  go_enter Tryd.func15, Tryd.ntmps15
  go_wp2
  go_loopw [5, 11] (fun ov iv wr => ∃ k : Nat, k ≤ n ∧ iv = .int .i64 k ∧ ownsR wr w.heap.size 34 ov ((l.take k).filter fun s => !decide (s.fr ∈ m)) ∧ Below w.heap.size w wr) (fun _ iv _ => n - (intOf iv).toNat)
  case atStart => exact ⟨0, Nat.zero_le _, rfl, sp_made w _ (Nat.le_refl _), ba (Below.refl _ _) _⟩
  case round =>
    obtain ⟨k, hk, rfl, hown, hbel⟩ := hrel
    by_cases hlt : k < n
    · obtain ⟨x, hx⟩ : ∃ x, l[k]? = some x := ⟨_, List.getElem?_eq_getElem (by rw [HN.out]; exact hlt)⟩
      have HT : Hid ((l.take (k + 1)).filter (fun s => !decide (s.fr ∈ m)) = (l.take k).filter (fun s => !decide (s.fr ∈ m)) ++ (if !decide (x.fr ∈ m) then [x] else [])) := lack_take _ hx
      have hfl : ((l.take k).filter fun s => !decide (s.fr ∈ m)).length ≤ 1048576 := by
        have e1 := List.length_filter_le (fun s : Sp => !decide (s.fr ∈ m)) (l.take k)
        have e2 := List.length_take_le k l
        omega
      obtain ⟨b, o, rfl, hb, c0, c1⟩ := sp_at (HR.out.below hbel) hx
      have hsz := hbel.size
      have H1 := HI.out (wr.alloc (.cells #[.int .i64 x.fr, .int .i64 x.up] 34)) x.fr (hbel.alloc hsz _)
      clear hx
      obtain ⟨fr, up⟩ := x
      simp only at *
      cases hq : decide (fr ∈ m) with
      | true =>
        rw [hq] at H1 HT
        have HT2 : Hid ((l.take (k + 1)).filter (fun s => !decide (s.fr ∈ m)) = (l.take k).filter (fun s => !decide (s.fr ∈ m))) := HT.out.trans (List.append_nil _)
        clear hq
        go_wp2_with (go_at_call 38; refine H1.mono ?_; rintro e w1 ⟨rfl, hw⟩; have hw2 := hw.symm; subst hw2)
        go_roundw
        case rel => exact ⟨k + 1, by omega, by go_num, by rw [HT2.out]; exact hown.alloc _, hbel.alloc hsz _⟩
        case measure => simp [intOf]; omega
      | false =>
        rw [hq] at H1 HT
        have HT2 : Hid ((l.take (k + 1)).filter (fun s => !decide (s.fr ∈ m)) = (l.take k).filter (fun s => !decide (s.fr ∈ m)) ++ [⟨fr, up⟩]) := HT.out
        clear hq
        go_wp2_with (first | (go_at_call 38; refine H1.mono ?_; rintro e w1 ⟨rfl, hw⟩; have hw2 := hw.symm; subst hw2) | (at_builtin; refine append_recG _ w rfl (.tmp 20) (.tmp 22) 30 rfl w.heap.size 34 _ 16 Tryd.underlying30 infoSp rfl _ ((l.take k).filter fun s => !decide (s.fr ∈ m)) rfl ((hown.alloc _).alloc _) (ba (hbel.alloc hsz _) _) (wr.heap.size + 1) 1 (Sp.mk fr up) rfl (cell_sp (by simp [go_sem]) (by simp [go_sem])) hfl (by decide) (by simp; omega) ?_; intro v' w4 hown4 hbel4 hg4))
        rw [← HT2.out] at hown4
        go_wp2
        go_roundw
        case rel => exact ⟨k + 1, by omega, by go_num, hown4, hbel4⟩
        case measure => simp [intOf]; omega
    · have HK : Hid (l.take k = l) := by show _ = _; exact List.take_of_length_le (by rw [HN.out]; omega)
      rw [HK.out] at hown
      go_wp2
      go_ret
      exact ⟨_, rfl, hown, hbel⟩
end Go.Proofs.YtbecdaholpiaeaaDoor

namespace Go.Proofs.YtbecdaholpiaeaaDoor
open Go Go.RowKit
set_option linter.unusedVariables false

/-- What is told of each span of a list. -/
structure SpR (f : Int → Option Int) (m upto : Int) (x : Sp) : Prop where
  nx : f (x.fr + 1) = some x.up
  up : x.up ≤ upto
  lo : m ≤ x.fr
  at' : ∃ z, f z = some x.fr
theorem spansG_facts {f : Int → Option Int} (hf : ∀ z b, f z = some b → z ≤ b) (m upto : Int) : ∀ (n : Nat) (a : Int), (∃ z, f z = some a) → m ≤ a →
    (∀ x, (spansG f upto n a)[0]? = some x → x.fr = a) ∧ (∀ (i : Nat) x, (spansG f upto n a)[i]? = some x → SpR f m upto x ∧ a ≤ x.fr) ∧ (∀ (i : Nat) x y, (spansG f upto n a)[i]? = some y → (spansG f upto n a)[i + 1]? = some x → y.up = x.fr) ∧ (spansG f upto n a).Pairwise (fun x y => x.fr < y.fr)
  | 0, a, _, _ => by simp [spansG]
  | n + 1, a, hz, hm => by
    by_cases ha : a < 68374079
    · cases hb : f (a + 1) with
      | none => rw [spansG_none hb]; simp
      | some b =>
        by_cases hu : b ≤ upto
        · rw [spansG_next ha hb hu]
          have hab := hf _ _ hb
          obtain ⟨h0, h1, h2, h3⟩ := spansG_facts hf m upto n b ⟨_, hb⟩ (by omega)
          refine ⟨fun x hx => ?_, fun i x hx => ?_, fun i x y hy hx => ?_, ?_⟩
          · simp only [List.getElem?_cons_zero, Option.some.injEq] at hx
            rw [← hx]
          · match i, hx with
            | 0, hx =>
              simp only [List.getElem?_cons_zero, Option.some.injEq] at hx
              subst hx
              exact ⟨⟨hb, hu, hm, hz⟩, Int.le_refl _⟩
            | i + 1, hx =>
              rw [List.getElem?_cons_succ] at hx
              have := h1 i x hx
              exact ⟨this.1, by omega⟩
          · rw [List.getElem?_cons_succ] at hx
            match i, hy, hx with
            | 0, hy, hx =>
              simp only [List.getElem?_cons_zero, Option.some.injEq] at hy
              subst hy
              exact (h0 x hx).symm
            | i + 1, hy, hx =>
              rw [List.getElem?_cons_succ] at hy
              exact h2 i x y hy hx
          · refine List.Pairwise.cons (fun x hx => ?_) h3
            obtain ⟨i, hi⟩ := List.getElem?_of_mem hx
            have := (h1 i x hi).2
            show a < x.fr
            omega
        · rw [spansG_far hb hu]; simp
    · rw [spansG_no ha]; simp
theorem spansL_facts {f : Int → Option Int} (hf : ∀ z b, f z = some b → z ≤ b) (m upto most : Int) :
    (∀ (i : Nat) x, (spansL f m upto most)[i]? = some x → SpR f m upto x) ∧ (∀ (i : Nat) x y, (spansL f m upto most)[i]? = some y → (spansL f m upto most)[i + 1]? = some x → y.up = x.fr) ∧ (spansL f m upto most).Pairwise (fun x y => x.fr < y.fr) := by
  unfold spansL
  split
  · rename_i a ha
    obtain ⟨_, h1, h2, h3⟩ := spansG_facts hf m upto most.toNat a ⟨_, ha⟩ (hf _ _ ha)
    exact ⟨fun i x hx => (h1 i x hx).1, h2, h3⟩
  · simp
/-- What is had of the spans up to a place. -/
structure Had (L : List Sp) (k : Nat) (H : List Int) : Prop where
  sub : ∀ z ∈ H, ∃ s ∈ L.take k, s.fr = z
  all : H.length + ((L.take k).filter fun s => !decide (s.fr ∈ H)).length = k
theorem Had.start (L : List Sp) : Had L 0 [] := ⟨fun z hz => (by cases hz), by simp⟩
theorem fr_new {L : List Sp} (hp : L.Pairwise (fun x y => x.fr < y.fr)) {k : Nat} {x : Sp} (hx : L[k]? = some x) : ∀ s ∈ L.take k, s.fr ≠ x.fr := by
  intro s hs he
  obtain ⟨i, hi⟩ := List.getElem?_of_mem hs
  rw [List.getElem?_take] at hi
  split at hi
  · rename_i hik
    obtain ⟨h1, e1⟩ := List.getElem?_eq_some_iff.1 hi
    obtain ⟨h2, e2⟩ := List.getElem?_eq_some_iff.1 hx
    have := List.pairwise_iff_getElem.1 hp i k h1 h2 hik
    rw [e1, e2] at this
    omega
  · cases hi
theorem Had.next {L : List Sp} {k : Nat} {H : List Int} (h : Had L k H) (hp : L.Pairwise (fun x y => x.fr < y.fr)) {x : Sp} (hx : L[k]? = some x) : Had L (k + 1) (H ++ [x.fr]) := by
  have hn := fr_new hp hx
  refine ⟨fun z hz => ?_, ?_⟩
  · rw [List.take_add_one, hx]
    rcases List.mem_append.1 hz with hz | hz
    · obtain ⟨s, hs, he⟩ := h.sub z hz
      exact ⟨s, List.mem_append.2 (.inl hs), he⟩
    · rw [List.mem_singleton] at hz
      exact ⟨x, List.mem_append.2 (.inr (by simp)), hz.symm⟩
  · have e1 : (L.take k).filter (fun s => !decide (s.fr ∈ H ++ [x.fr])) = (L.take k).filter (fun s => !decide (s.fr ∈ H)) := by
      apply List.filter_congr
      intro s hs
      have := hn s hs
      simp [this]
    have e2 := h.all
    rw [lack_take _ hx, e1]
    simp
    omega
theorem Had.skip {L : List Sp} {k : Nat} {H : List Int} (h : Had L k H) (hp : L.Pairwise (fun x y => x.fr < y.fr)) {x : Sp} (hx : L[k]? = some x) : Had L (k + 1) H := by
  have hn := fr_new hp hx
  refine ⟨fun z hz => ?_, ?_⟩
  · rw [List.take_add_one, hx]
    obtain ⟨s, hs, he⟩ := h.sub z hz
    exact ⟨s, List.mem_append.2 (.inl hs), he⟩
  · have hx2 : ¬ x.fr ∈ H := fun hm => by
      obtain ⟨s, hs, he⟩ := h.sub _ hm
      exact hn s hs he
    have e2 := h.all
    rw [lack_take _ hx]
    simp [hx2]
    omega
theorem Had.end {L : List Sp} {H : List Int} (h : Had L L.length H) : (L.filter fun s => !decide (s.fr ∈ H)).length + H.length = L.length := by
  have := h.all
  rw [List.take_length] at this
  omega

set_option maxRecDepth 10000 in
set_option maxHeartbeats 1000000 in
theorem sameSpans_any (ao bo : Option Addr) (n c d : Nat) (l : List Sp) (w : World) (ha : Reads w (.slice ao n c) l) (hb : Reads w (.slice bo n d) l) (hn : n ≤ 1048577) :
    Calls Tryd.prog 11 #[.slice ao n c, .slice bo n d] w fun e w' => e = .returned (.bool true) ∧ Below w.heap.size w w' := by
  have HN : Hid (n = l.length) := ha.len
  have HA : Hid (Reads w (.slice ao n c) l) := ha
  have HB : Hid (Reads w (.slice bo n d) l) := hb
  clear ha hb
  go_enter Tryd.func11, Tryd.ntmps11
  go_wp2
  go_loopw [5] (fun i wr => ∃ k : Nat, k ≤ n ∧ i = .int .i64 k ∧ Below w.heap.size w wr) (fun i _ => n - (intOf i).toNat)
  case atStart => exact ⟨0, Nat.zero_le _, rfl, Below.refl _ _⟩
  case round =>
    obtain ⟨k, hk, rfl, hbel⟩ := hrel
    by_cases hlt : k < n
    · obtain ⟨f, hf⟩ : ∃ f, l[k]? = some f := ⟨_, List.getElem?_eq_getElem (by rw [← HN.out]; exact hlt)⟩
      obtain ⟨a, oa, rfl, hga, a0, a1⟩ := sp_at (HA.out.below hbel) hf
      obtain ⟨b, ob, rfl, hgb, b0, b1⟩ := sp_at (HB.out.below hbel) hf
      clear hf
      obtain ⟨x, y⟩ := f
      simp only at a0 a1 b0 b1
      have he : ∀ wx, (binOp .neq 34 (.agg #[.int .i64 x, .int .i64 y]) (.agg #[.int .i64 x, .int .i64 y])).run Tryd.prog wx = .ok (.bool false) wx := fun wx => by rw [run_ne_sp]; simp
      go_wp2
      go_quiet (fail)
      go_wp2
      go_roundw
      case rel => exact ⟨k + 1, by omega, by go_num, bdrewN hbel _⟩
      case measure => simp [intOf]; omega
    · go_wp2
      go_ret
      exact ⟨rfl, hbel⟩
set_option maxHeartbeats 1000000 in
theorem lawIn_try (ao : Option Addr) (n c : Nat) (m : List Int) (x : Int) (w : World) (hr : Reads w (.slice ao n c) m) (hn : n ≤ 1048577) :
    Calls Tryd.prog 16 #[.slice ao n c, .int .i64 x] w fun e w' => e = .returned (.bool (decide (x ∈ m))) ∧ w' = w := by
  have HR : Hid (Reads w (.slice ao n c) m) := hr
  have HN : Hid (n = m.length) := hr.len
  clear hr
  go_enter Tryd.func16, Tryd.ntmps16
  go_wp2
  go_loopw [5] (fun i wr => ∃ k : Nat, k ≤ n ∧ i = .int .i64 k ∧ Hid (x ∈ m ↔ x ∈ m.drop k) ∧ wr = w) (fun i _ => n - (intOf i).toNat)
  case atStart => exact ⟨0, Nat.zero_le _, rfl, (by show x ∈ m ↔ x ∈ m.drop 0; rw [List.drop_zero]), rfl⟩
  case round =>
    obtain ⟨k, hk, rfl, HE, rfl⟩ := hrel
    by_cases hlt : k < n
    · obtain ⟨y, hy⟩ : ∃ y, m[k]? = some y := ⟨_, List.getElem?_eq_getElem (by rw [← HN.out]; exact hlt)⟩
      have HM : Hid (x ∈ m ↔ x = y ∨ x ∈ m.drop (k + 1)) := HE.out.trans (mem_drop_at hy)
      obtain ⟨b, o, rfl, hb, c0⟩ := int_at HR.out hy
      clear hy HE
      by_cases hyx : y = x
      · have HF : Hid (decide (x ∈ m) = true) := decide_eq_true (HM.out.2 (.inl hyx.symm))
        go_wp2
        go_ret
        exact ⟨by rw [HF.out]; rfl, rfl⟩
      · have HF : Hid (x ∈ m ↔ x ∈ m.drop (k + 1)) := HM.out.trans ⟨fun h => h.resolve_left fun e => hyx e.symm, .inr⟩
        go_wp2
        go_roundw
        case rel => exact ⟨k + 1, by omega, by go_num, HF, trivial⟩
        case measure => simp [intOf]; omega
    · have HF : Hid (decide (x ∈ m) = false) := decide_eq_false fun h => not_mem_end (by rw [← HN.out]; omega) (HE.out.1 h)
      go_wp2
      go_ret
      exact ⟨by rw [HF.out]; rfl, rfl⟩
end Go.Proofs.YtbecdaholpiaeaaDoor

namespace Go.Proofs.YtbecdaholpiaeaaDoor
open Go Go.RowKit
set_option linter.unusedVariables false

theorem spansG_take (f : Int → Option Int) (upto : Int) : ∀ (n k : Nat) (a : Int), spansG f upto n a = (spansG f upto (n + k) a).take n
  | 0, k, a => by rw [List.take_zero]; rfl
  | n + 1, k, a => by
    rw [show n + 1 + k = (n + k) + 1 by omega]
    unfold spansG
    split
    · split
      · split
        · rw [List.take_succ_cons, ← spansG_take f upto n k]
        · simp
      · simp
    · simp
theorem spansL_take (f : Int → Option Int) (fr upto p q : Int) (h0 : 0 ≤ p) (h : p ≤ q) : spansL f fr upto p = (spansL f fr upto q).take p.toNat := by
  unfold spansL
  split
  · have := spansG_take f upto p.toNat (q.toNat - p.toNat) ‹Int›
    rwa [show p.toNat + (q.toNat - p.toNat) = q.toNat by omega] at this
  · simp
end Go.Proofs.YtbecdaholpiaeaaDoor

namespace Go.Proofs.YtbecdaholpiaeaaDoor
open Go Go.RowKit
set_option linter.unusedVariables false

theorem cell_i1 {w : World} {b : Nat} {x : Int} (h : w.cell? ⟨b, 0, none⟩ = some (.int .i64 x)) : ∀ j u, (Rec.cells x)[j]? = some u → w.cell? ⟨b, j, none⟩ = some u ∧ u.oneCell' = true := by
  intro j u hu
  match j, hu with
  | 0, hu => cases hu; exact ⟨h, rfl⟩
  | j + 1, hu => simp [Rec.cells] at hu
theorem reads_take {w : World} {ao : Option Addr} {n c : Nat} {l : List Sp} (h : Reads w (.slice ao n c) l) (k : Nat) (hk : k ≤ l.length) : Reads w (.slice ao k c) (l.take k) := by
  obtain ⟨ao', c', he, hr⟩ := h
  simp only [Value.slice.injEq] at he
  obtain ⟨rfl, rfl, rfl⟩ := he
  refine ⟨ao, c, by rw [List.length_take, Nat.min_eq_left hk], fun hne => ?_⟩
  obtain ⟨b, o, rfl, hlt, hc⟩ := hr (fun e => hne (by rw [e]; simp))
  refine ⟨b, o, rfl, hlt, fun i r hi j u hu => ?_⟩
  rw [List.getElem?_take] at hi
  split at hi
  · exact hc i r hi j u hu
  · cases hi
set_option maxRecDepth 10000 in
set_option maxHeartbeats 4000000 in
theorem law_FnSpans (v : Value) (n : Nat) (w : World) (hn : n ≤ 9223372036854775807) (hc : CodeAt w w.heap.size v n) (hg : RchIs w) :
    Calls Tryd.prog 3 #[v] w fun e w' => e = .returned (.bool true) ∧ Below w.heap.size w w' := by
  have HC : Hid (CodeAt w w.heap.size v n) := hc
  have HG : Hid (∀ W, Below w.heap.size w W → RchIs W) := fun W hb => hg.up hb
  obtain ⟨va, cap, rfl, -⟩ := hc
  clear hg
  by_cases hbig : 1048576 < n
  · have HB : Hid (∀ w, Calls Tryd.prog 7 #[.slice va n cap] w fun e w' => e = .returned (.bool true) ∧ w' = w) := by
      intro w; have := big_any va n cap w hn; rwa [decide_eq_true hbig] at this
    go_enter Tryd.func3, Tryd.ntmps3
    go_wp2_with (go_at_call 7; refine (HB.out _).mono ?_; rintro e w1 ⟨rfl, hw⟩; have hw2 := hw.symm; subst hw2)
    go_ret
    exact ⟨rfl, Below.refl _ _⟩
  have HB : Hid (∀ w, Calls Tryd.prog 7 #[.slice va n cap] w fun e w' => e = .returned (.bool false) ∧ w' = w) := by
    intro w; have := big_any va n cap w hn; rwa [decide_eq_false hbig] at this
  have HN : Hid (n ≤ 1048576) := by show n ≤ 1048576; omega
  go_enter Tryd.func3, Tryd.ntmps3
  go_wp2_with fail
  refine (HB.out _).mono ?_
  rintro e w1 ⟨rfl, hw⟩
  have hw2 := hw.symm
  subst hw2
  clear HB
  go_wp2_with fail
  refine (drawCron_any _ n _ HN.out HC.out).mono ?_
  rintro x w2 ⟨v0, v1, v2, v3, v4, a, b, c, d, e, m, rfl, ⟨⟨r0, r1, r2, r3, r4⟩, hcr⟩, m0, m1, B2⟩
  obtain ⟨p0, s0, rfl, -⟩ := id r0
  obtain ⟨p1, s1, rfl, -⟩ := id r1
  obtain ⟨p2, s2, rfl, -⟩ := id r2
  obtain ⟨p3, s3, rfl, -⟩ := id r3
  obtain ⟨p4, s4, rfl, -⟩ := id r4
  have hsh := cron_short hcr
  have HRA : Hid (Reads w2 (.slice p0 a.length s0) a ∧ Reads w2 (.slice p1 b.length s1) b ∧ Reads w2 (.slice p2 c.length s2) c ∧ Reads w2 (.slice p3 d.length s3) d ∧ Reads w2 (.slice p4 e.length s4) e) := ⟨r0, r1, r2, r3, r4⟩
  have HL : Hid (a.length ≤ 1048577 ∧ b.length ≤ 1048577 ∧ c.length ≤ 1048577 ∧ d.length ≤ 1048577 ∧ e.length ≤ 1048577) := ⟨by omega, by omega, by omega, by omega, by omega⟩
  have HCR : Hid (cronB a b c d e = true) := hcr
  have HW : Hid (Below w.heap.size w w2) := B2
  clear r0 r1 r2 r3 r4 hsh hcr B2
  have HCA : Hid (∀ W, Below w2.heap.size w2 W → CodeAt W W.heap.size (.slice va n cap) n) := fun W hb => HC.out.on (Below.on HW.out hb)
  -- what is called with the rule
  have HIS : Hid (∀ (M up : Int) (W : World), Below w2.heap.size w2 W → Calls Tryd.prog 10 #[.agg #[.slice p0 a.length s0, .slice p1 b.length s1, .slice p2 c.length s2, .slice p3 d.length s3, .slice p4 e.length s4], .int .i64 m, .int .i64 up, .int .i64 M] W fun x w' => ∃ v', x = .returned v' ∧ ownsR w' W.heap.size 34 v' (spansL (fun m => nfO a b c d e m 400) m up (if 20 < M then 20 else M)) ∧ Below W.heap.size W w') := fun M up W hb => implSpans_any _ _ _ _ _ a b c d e m up M W (HRA.out.1.below hb) (HRA.out.2.1.below hb) (HRA.out.2.2.1.below hb) (HRA.out.2.2.2.1.below hb) (HRA.out.2.2.2.2.below hb) HL.out.1 HL.out.2.1 HL.out.2.2.1 HL.out.2.2.2.1 HL.out.2.2.2.2 (HG.out W (Below.on HW.out hb))
  have HSP : Hid (∀ (M up : Int) (W : World), Below w2.heap.size w2 W → Calls Tryd.prog 12 #[.agg #[.slice p0 a.length s0, .slice p1 b.length s1, .slice p2 c.length s2, .slice p3 d.length s3, .slice p4 e.length s4], .int .i64 m, .int .i64 up, .int .i64 M] W fun x w' => ∃ v', x = .returned v' ∧ ownsR w' W.heap.size 34 v' (spansL (fun m => nfO a b c d e m 400) m up (if 20 < M then 20 else M)) ∧ Below W.heap.size W w') := fun M up W hb => spans_any _ _ _ _ _ a b c d e m up M W (HRA.out.1.below hb) (HRA.out.2.1.below hb) (HRA.out.2.2.1.below hb) (HRA.out.2.2.2.1.below hb) (HRA.out.2.2.2.2.below hb) HL.out.1 HL.out.2.1 HL.out.2.2.1 HL.out.2.2.2.1 HL.out.2.2.2.2
  have HNX : Hid (∀ (y : Int) (W : World), Below w2.heap.size w2 W → Calls Tryd.prog 13 #[.agg #[.slice p0 a.length s0, .slice p1 b.length s1, .slice p2 c.length s2, .slice p3 d.length s3, .slice p4 e.length s4], .int .i64 y, .int .i64 400] W fun x w' => x = .returned (.tuple #[.int .i64 ((nfO a b c d e y 400).getD 0), .bool (nfO a b c d e y 400).isSome]) ∧ Below W.heap.size W w') := fun y W hb => by
    refine (nextFire_any _ _ _ _ _ a b c d e y 400 W (HRA.out.1.below hb) (HRA.out.2.1.below hb) (HRA.out.2.2.1.below hb) (HRA.out.2.2.2.1.below hb) (HRA.out.2.2.2.2.below hb) HL.out.1 HL.out.2.1 HL.out.2.2.1 HL.out.2.2.2.1 HL.out.2.2.2.2).mono ?_
    rintro x w' ⟨q, rfl, ho, hb'⟩
    rw [nfO_is ho]
    exact ⟨rfl, hb'⟩
  have HFR : Hid (∀ (y : Int) (W : World), Below w2.heap.size w2 W → (∃ z, nfO a b c d e z 400 = some y) → Calls Tryd.prog 14 #[.agg #[.slice p0 a.length s0, .slice p1 b.length s1, .slice p2 c.length s2, .slice p3 d.length s3, .slice p4 e.length s4], .int .i64 y] W fun x w' => x = .returned (.bool true) ∧ Below W.heap.size W w') := fun y W hb hz => by
    have := specFires_any _ _ _ _ _ a b c d e y W (HRA.out.1.below hb) (HRA.out.2.1.below hb) (HRA.out.2.2.1.below hb) (HRA.out.2.2.2.1.below hb) (HRA.out.2.2.2.2.below hb) HL.out.1 HL.out.2.1 HL.out.2.2.1 HL.out.2.2.2.1 HL.out.2.2.2.2
    obtain ⟨z, hz⟩ := hz
    obtain ⟨q, hq⟩ := nf_ex a b c d e z 400
    have e1 : q = some y := (nfO_is hq).symm.trans hz
    subst e1
    unfold NfP at hq
    split at hq
    · rw [HCR.out, hq.2.2.1] at this
      exact this
    · cases hq
  have HLE : Hid (∀ z y, nfO a b c d e z 400 = some y → z ≤ y ∧ y ≤ 68374079) := fun z y hz => by
    obtain ⟨q, hq⟩ := nf_ex a b c d e z 400
    have e1 : q = some y := (nfO_is hq).symm.trans hz
    subst e1
    unfold NfP at hq
    split at hq
    · exact ⟨hq.1, (fires_iff.1 hq.2.2.1).1.2⟩
    · cases hq
  obtain ⟨f, HF⟩ : ∃ f : Int → Option Int, Hid ((fun m => nfO a b c d e m 400) = f) := ⟨_, rfl⟩
  have HFy : Hid (∀ y, nfO a b c d e y 400 = f y) := fun y => congrFun HF.out y
  rw [HF.out] at HIS HSP
  simp only [HFy.out] at HNX HFR HLE
  clear HRA HCR HL HF HFy HC HG
  generalize a.length = q0 at *
  generalize b.length = q1 at *
  generalize c.length = q2 at *
  generalize d.length = q3 at *
  generalize e.length = q4 at *
  clear a b c d e
  have HX2 : Hid (B5 26 (w2.alloc (.cells #[.slice p0 q0 s0, .slice p1 q1 s1, .slice p2 q2 s2, .slice p3 q3 s3, .slice p4 q4 s4] 26)) w2.heap.size (.slice p0 q0 s0) (.slice p1 q1 s1) (.slice p2 q2 s2) (.slice p3 q3 s3) (.slice p4 q4 s4)) := B5.new 26 w2 _ _ _ _ _
  have HB2 : Hid (Below w2.heap.size w2 (w2.alloc (.cells #[.slice p0 q0 s0, .slice p1 q1 s1, .slice p2 q2 s2, .slice p3 q3 s3, .slice p4 q4 s4] 26))) := ba (Below.refl _ _) _
  go_wp2_with fail
  refine (places_any _ n _ HN.out (HCA.out _ HB2.out)).mono ?_
  rintro x w3 ⟨u, l, rfl, hu, hl, hlx, hb3⟩
  have HX3 : Hid (B5 26 w3 w2.heap.size (.slice p0 q0 s0) (.slice p1 q1 s1) (.slice p2 q2 s2) (.slice p3 q3 s3) (.slice p4 q4 s4)) := HX2.out.up hb3
  have HB3 : Hid (Below w2.heap.size w2 w3) := Below.on HB2.out hb3
  obtain ⟨rr, rc, _, rfl, -, hcell⟩ := ownsI_first hu hl
  have HPL : Hid (∀ j x, l[j]? = some x → w3.cell? ⟨rr, j, none⟩ = some (.int .i64 x)) := hcell
  have HLX : Hid (∀ x ∈ l, 0 ≤ x ∧ x < 10000) := fun x hx => hlx x hx
  have hlen : l.length = 12 := hl
  have hrr : rr < w3.heap.size := by
    obtain ⟨i0, hi0⟩ : ∃ t, l[0]? = some t := ⟨_, List.getElem?_eq_getElem (by omega)⟩
    exact World.block_lt_of_cell? _ _ (hcell 0 i0 hi0)
  obtain ⟨i0, hi0⟩ : ∃ t, l[0]? = some t := ⟨_, List.getElem?_eq_getElem (by omega)⟩
  have ci0 := hcell 0 i0 hi0
  have i00 := (hlx i0 (List.mem_of_getElem? hi0)).1
  have i01 := (hlx i0 (List.mem_of_getElem? hi0)).2
  clear hcell hu hl hlx hb3 HX2 HB2 hi0 HCA HN
  obtain ⟨upto, hup⟩ : ∃ t, m + i0 * 2 = t := ⟨_, rfl⟩
  obtain ⟨L, HLL⟩ : ∃ L, Hid (spansL f m upto 6 = L) := ⟨_, rfl⟩
  have hL6 : L.length ≤ 6 := by
    rw [← HLL.out]; unfold spansL
    split
    · exact spansG_len _ _ _ _
    · simp
  have HFA : Hid ((∀ (i : Nat) x, L[i]? = some x → SpR f m upto x) ∧ (∀ (i : Nat) x y, L[i]? = some y → L[i + 1]? = some x → y.up = x.fr) ∧ L.Pairwise (fun x y => x.fr < y.fr)) := by
    rw [← HLL.out]; exact spansL_facts (fun z b hz => (HLE.out z b hz).1) m upto 6
  have HT2 : Hid (spansL f m upto 2 = L.take 2) := by show _ = _; rw [← HLL.out]; exact spansL_take _ _ _ 2 6 (by decide) (by decide)
  have HI6 : Hid (∀ W : World, Below w2.heap.size w2 W → Calls Tryd.prog 10 #[.agg #[.slice p0 q0 s0, .slice p1 q1 s1, .slice p2 q2 s2, .slice p3 q3 s3, .slice p4 q4 s4], .int .i64 m, .int .i64 upto, .int .i64 6] W fun x w' => ∃ v', x = .returned v' ∧ ownsR w' W.heap.size 34 v' L ∧ Below W.heap.size W w') := fun W hb => by have := HIS.out 6 upto W hb; rwa [if_neg (by decide), HLL.out] at this
  have HI2 : Hid (∀ W : World, Below w2.heap.size w2 W → Calls Tryd.prog 10 #[.agg #[.slice p0 q0 s0, .slice p1 q1 s1, .slice p2 q2 s2, .slice p3 q3 s3, .slice p4 q4 s4], .int .i64 m, .int .i64 upto, .int .i64 2] W fun x w' => ∃ v', x = .returned v' ∧ ownsR w' W.heap.size 34 v' (L.take 2) ∧ Below W.heap.size W w') := fun W hb => by have := HIS.out 2 upto W hb; rwa [if_neg (by decide), HT2.out] at this
  have HS6 : Hid (∀ W : World, Below w2.heap.size w2 W → Calls Tryd.prog 12 #[.agg #[.slice p0 q0 s0, .slice p1 q1 s1, .slice p2 q2 s2, .slice p3 q3 s3, .slice p4 q4 s4], .int .i64 m, .int .i64 upto, .int .i64 6] W fun x w' => ∃ v', x = .returned v' ∧ ownsR w' W.heap.size 34 v' L ∧ Below W.heap.size W w') := fun W hb => by have := HSP.out 6 upto W hb; rwa [if_neg (by decide), HLL.out] at this
  clear HIS HSP HLL HT2
  have c0 := HX3.out.c0
  have c1 := HX3.out.c1
  have c2 := HX3.out.c2
  have c3 := HX3.out.c3
  have c4 := HX3.out.c4
  go_wp2_with fail
  refine (HI6.out _ HB3.out).mono ?_
  rintro x w4 ⟨vg, rfl, og, hb4⟩
  have X4 := HX3.out.up hb4
  have HB4 : Hid (Below w2.heap.size w2 w4) := Below.on HB3.out hb4
  have HPL4 : Hid (∀ j x, l[j]? = some x → w4.cell? ⟨rr, j, none⟩ = some (.int .i64 x)) := fun j x hx => (hb4.cell (by exact hrr)).trans (HPL.out j x hx)
  have hrr4 : rr < w4.heap.size := Nat.lt_of_lt_of_le hrr hb4.size
  obtain ⟨g0, g1, g2, rfl⟩ := og.slice3
  have HCP : Hid (L.length ≤ g2) := by
    obtain ⟨a', c', e', h'⟩ := og.cap
    simp only [Value.slice.injEq] at e'
    rw [e'.2.2]; exact h'
  have HG4 : Hid (Reads w4 (.slice g0 g1 g2) L) := og.reads
  have hg1 : g1 = L.length := HG4.out.len
  clear hb4 c0 c1 c2 c3 c4 og HPL hrr HX3 HB3 ci0
  have c0 := X4.c0
  have c1 := X4.c1
  have c2 := X4.c2
  have c3 := X4.c3
  have c4 := X4.c4
  go_wp2_with fail
  refine (HS6.out _ HB4.out).mono ?_
  rintro x w5 ⟨vs, rfl, os, hb5⟩
  have X5 := X4.up hb5
  have HB5 : Hid (Below w2.heap.size w2 w5) := Below.on HB4.out hb5
  have HPL5 : Hid (∀ j x, l[j]? = some x → w5.cell? ⟨rr, j, none⟩ = some (.int .i64 x)) := fun j x hx => (hb5.cell (by exact hrr4)).trans (HPL4.out j x hx)
  have hrr5 : rr < w5.heap.size := Nat.lt_of_lt_of_le hrr4 hb5.size
  have HG5 : Hid (Reads w5 (.slice g0 g1 g2) L) := HG4.out.below hb5
  obtain ⟨t0, t1, t2, rfl⟩ := os.slice3
  have ht1 : t1 = L.length := os.reads.len
  have HS5 : Hid (Reads w5 (.slice t0 L.length t2) L) := by rw [← ht1]; exact os.reads
  subst ht1
  have HG5' : Hid (Reads w5 (.slice g0 L.length g2) L) := by rw [← hg1]; exact HG5.out
  subst hg1
  clear hb5 c0 c1 c2 c3 c4 os HPL4 hrr4 X4 HB4 HG4 HS6 HG5 HI6
  have hL7 : ¬ (6 : Int) < (L.length : Int) := by omega
  have hL8 : L.length ≤ 1048577 := by omega
  obtain ⟨ll, hll⟩ : ∃ k, L.length = k := ⟨_, rfl⟩
  have HLN : Hid (L.length = ll) := hll
  rw [hll] at hL6 hL7 hL8 HG5' HS5 ⊢
  clear hll
  go_wp2_with fail
  refine (sameSpans_any _ _ _ _ _ L _ HG5'.out HS5.out hL8).mono ?_
  rintro x w6 ⟨rfl, hb6⟩
  have HX6 : Hid (B5 26 w6 w2.heap.size (.slice p0 q0 s0) (.slice p1 q1 s1) (.slice p2 q2 s2) (.slice p3 q3 s3) (.slice p4 q4 s4)) := X5.up hb6
  have HB6 : Hid (Below w2.heap.size w2 w6) := Below.on HB5.out hb6
  have HPL6 : Hid (∀ j x, l[j]? = some x → w6.cell? ⟨rr, j, none⟩ = some (.int .i64 x)) := fun j x hx => (hb6.cell (by exact hrr5)).trans (HPL5.out j x hx)
  have hrr6 : rr < w6.heap.size := Nat.lt_of_lt_of_le hrr5 hb6.size
  have HG6 : Hid (Reads w6 (.slice g0 ll g2) L) := HG5'.out.below hb6
  clear hb6 X5 HB5 HPL5 hrr5 HG5' HS5
  have HCP2 : Hid (ll ≤ g2) := by show _ ≤ _; rw [← HLN.out]; exact HCP.out
  clear HCP
  have HOW : Hid (ownsR (w6.alloc (.cells #[] 3)) w6.heap.size 3 (.slice (some ⟨w6.heap.size, 0, none⟩) 0 0) ([] : List Int)) := ownsI.rec (ownsI_made w6 w6.heap.size 0 3 #[] (Nat.le_refl _) (by decide) rfl)
  have hxlt : w2.heap.size < w6.heap.size := HX6.out.lt
  go_wp2
  go_loopw [8, 9] (fun hv iv wr => ∃ (k : Nat) (H : List Int), k ≤ ll ∧ iv = .int .i64 k ∧ H.length ≤ k ∧ Hid (Had L k H) ∧ ownsR wr w6.heap.size 3 hv H ∧ Hid (Below w6.heap.size w6 wr)) (fun _ iv _ => ll - (intOf iv).toNat)
  case atStart => exact ⟨0, [], Nat.zero_le _, rfl, Nat.le_refl _, Had.start L, HOW.out, ba (Below.refl _ _) _⟩
  case round =>
    obtain ⟨k, H, hk, rfl, hHk, HH, hown, HBR⟩ := hrel
    have HHK : Hid (H.length ≤ k) := hHk
    clear hHk
    clear HOW
    obtain ⟨h0, h2, rfl⟩ := hown.slice
    have HXR : Hid (B5 26 wr w2.heap.size (.slice p0 q0 s0) (.slice p1 q1 s1) (.slice p2 q2 s2) (.slice p3 q3 s3) (.slice p4 q4 s4)) := HX6.out.up HBR.out
    have HGR : Hid (Reads wr (.slice g0 ll g2) L) := HG6.out.below HBR.out
    have HBW : Hid (Below w2.heap.size w2 wr) := Below.on HB6.out HBR.out
    by_cases hlt : k < ll
    · obtain ⟨x, hx⟩ : ∃ x, L[k]? = some x := ⟨_, List.getElem?_eq_getElem (by rw [HLN.out]; exact hlt)⟩
      have hsr := HFA.out.1 k x hx
      obtain ⟨px, hpx⟩ : ∃ t, l[k + 1]? = some t := ⟨_, List.getElem?_eq_getElem (by omega)⟩
      have cp0 : wr.cell? ⟨rr, 1 + k, none⟩ = some (.int .i64 px) := by rw [Nat.add_comm 1 k]; exact (HBR.out.cell (by exact hrr6)).trans (HPL6.out _ _ hpx)
      have hp0 := (HLX.out px (List.mem_of_getElem? hpx)).1
      have hp1 := (HLX.out px (List.mem_of_getElem? hpx)).2
      have HN1 : Hid (Had L (k + 1) (H ++ [x.fr])) := HH.out.next HFA.out.2.2 hx
      have HN2 : Hid (Had L (k + 1) H) := HH.out.skip HFA.out.2.2 hx
      have HPV : Hid (∀ j, k = j + 1 → ∃ bb oo, g0 = some ⟨bb, oo, none⟩ ∧ bb < wr.heap.size ∧ wr.cell? ⟨bb, oo + j * 2 + 1, none⟩ = some (.int .i64 x.fr)) := fun j hj => by
        subst hj
        obtain ⟨y, hy⟩ : ∃ y, L[j]? = some y := ⟨_, List.getElem?_eq_getElem (by rw [HLN.out]; omega)⟩
        obtain ⟨bb, oo, h0, h1, h2, h3⟩ := sp_at HGR.out hy
        rw [HFA.out.2.1 j x y hy hx] at h3
        exact ⟨bb, oo, h0, h1, h3⟩
      obtain ⟨gb, go, hg0, hgb, k0, k1⟩ := sp_at HGR.out hx
      obtain ⟨fr, up⟩ := x
      obtain ⟨hnx, hup2, hlo, hat⟩ := hsr
      simp only at hnx hup2 hlo hat k0 k1 HN1 HPV
      have hfu := HLE.out _ _ hnx
      have hfu1 := hfu.1
      have hfu2 := hfu.2
      have HAT : Hid (∃ z, f z = some fr) := hat
      have HNXT : Hid (∀ W : World, Below w2.heap.size w2 W → Calls Tryd.prog 13 #[.agg #[.slice p0 q0 s0, .slice p1 q1 s1, .slice p2 q2 s2, .slice p3 q3 s3, .slice p4 q4 s4], .int .i64 (fr + 1), .int .i64 400] W fun x w' => x = .returned (.tuple #[.int .i64 up, .bool true]) ∧ Below W.heap.size W w') := fun W hb => by have := HNX.out (fr + 1) W hb; rw [hnx] at this; exact this
      have HFRT : Hid (∀ W : World, Below w2.heap.size w2 W → Calls Tryd.prog 14 #[.agg #[.slice p0 q0 s0, .slice p1 q1 s1, .slice p2 q2 s2, .slice p3 q3 s3, .slice p4 q4 s4], .int .i64 fr] W fun x w' => x = .returned (.bool true) ∧ Below W.heap.size W w') := fun W hb => HFR.out fr W hb HAT.out
      clear hx hpx hnx hat hfu HH
      subst hg0
      have c0 := HXR.out.c0
      have c1 := HXR.out.c1
      have c2 := HXR.out.c2
      have c3 := HXR.out.c3
      have c4 := HXR.out.c4
      have hxr : w2.heap.size < wr.heap.size := HXR.out.lt
      have hk6 : k ≤ 5 := by omega
      go_wp2_with fail
      refine (HNXT.out _ (ba HBW.out _)).mono ?_
      rintro x w7 ⟨rfl, hb7⟩
      have HS7 : Hid (C2 34 w7 wr.heap.size (.int .i64 fr) (.int .i64 up)) := (C2.new 34 wr (.int .i64 fr) (.int .i64 up)).up hb7
      have HX7 : Hid (B5 26 w7 w2.heap.size (.slice p0 q0 s0) (.slice p1 q1 s1) (.slice p2 q2 s2) (.slice p3 q3 s3) (.slice p4 q4 s4)) := (HXR.out.alloc _).up hb7
      have B7 : Below wr.heap.size wr w7 := below_new hb7
      have HB7 : Hid (Below w6.heap.size w6 w7) := Below.on HBR.out B7
      have HBW7 : Hid (Below w2.heap.size w2 w7) := Below.on HBW.out B7
      have cp7 : w7.cell? ⟨rr, 1 + k, none⟩ = some (.int .i64 px) := (B7.cell (World.block_lt_of_cell? _ _ cp0)).trans cp0
      have HPV7 : Hid (∀ j, k = j + 1 → w7.cell? ⟨gb, go + j * 2 + 1, none⟩ = some (.int .i64 fr)) := fun j hj => by
        obtain ⟨bb, oo, h0, h1, h2⟩ := HPV.out j hj
        cases h0
        exact (B7.cell (by exact h1)).trans h2
      have hown7 : ownsR w7 w6.heap.size 3 (.slice h0 H.length h2) H := hown.all B7
      clear hb7 B7 c0 c1 c2 c3 c4 k0 k1 cp0 hown HXR HGR HBW HBR HPV HNXT hgb
      have HT8 : Hid (∀ x : Wd w7, Below w2.heap.size w2 x.at') := fun x => Below.on HBW7.out x.ok
      have c0 := Wd.cell HX7.out.c0
      have c1 := Wd.cell HX7.out.c1
      have c2 := Wd.cell HX7.out.c2
      have c3 := Wd.cell HX7.out.c3
      have c4 := Wd.cell HX7.out.c4
      have d0 := Wd.cell HS7.out.c0
      have d1 := Wd.cell HS7.out.c1
      have e1 : decide (upto < up) = false := decide_eq_false (by omega)
      have e2 : decide (fr < m) = false := decide_eq_false (by omega)
      have hfin : ∀ y : Wd w7, ownsR y.at' w6.heap.size 3 (.slice h0 H.length h2) H ∧ Hid (Below w6.heap.size w6 y.at') ∧ y.at'.cell? ⟨rr, 1 + k, none⟩ = some (.int .i64 px) ∧ Hid (C2 34 y.at' wr.heap.size (.int .i64 fr) (.int .i64 up)) := fun y => ⟨hown7.all y.ok, Below.on HB7.out y.ok, (y.ok.cell (World.block_lt_of_cell? _ _ cp7)).trans cp7, HS7.out.up y.ok⟩
      have HFN : Hid (∀ y : Wd w7, ownsR y.at' w6.heap.size 3 (.slice h0 H.length h2) H ∧ Hid (Below w6.heap.size w6 y.at') ∧ y.at'.cell? ⟨rr, 1 + k, none⟩ = some (.int .i64 px) ∧ Hid (C2 34 y.at' wr.heap.size (.int .i64 fr) (.int .i64 up))) := hfin
      clear hfin hown7 cp7 HX7 HB7 HBW7
      have hmid : ∀ y : Wd w7, ∃ Y : World, Y = y.at' := fun y => ⟨_, rfl⟩
      obtain ⟨hl, HHL⟩ : ∃ t, Hid (H.length = t) := ⟨_, rfl⟩
      rw [HHL.out] at HFN
      rw [HHL.out]
      rcases Nat.eq_zero_or_pos k with hk0 | hk0
      · subst hk0
        go_wp2
        refine wp_region_wd (by kernel_rfl) (by kernel_rfl) ?_
        repeat (go_big_quiet_step ((go_at_call 14; refine calls_wd (v := .bool true) ?_; with_reducible exact HFRT.out _ (HT8.out _))))
        refine wpQuiet_nil ?_
        rintro _ ⟨y, rfl⟩
        obtain ⟨hy1, hy2, hy3, hy4⟩ := HFN.out y
        obtain ⟨Y, hY⟩ : ∃ Y : World, y.at' = Y := ⟨_, rfl⟩
        rw [hY] at hy1 hy2 hy3 hy4
        have hyA : Hid (ownsR Y w6.heap.size 3 (.slice h0 hl h2) H) := hy1
        rw [hY]
        clear hY c0 c1 c2 c3 c4 d0 d1 HFN
        have hys : w6.heap.size ≤ Y.heap.size := hy2.out.size
        have d0 := hy4.out.c0
        by_cases hpar : px % 2 = 0
        · go_wp2_with (at_builtin; refine append_recG _ w6 rfl (.tmp 116) (.tmp 119) 24 rfl w6.heap.size 3 _ 8 Tryd.underlying24 info3 rfl _ H rfl (hyA.out.alloc _) (hy2.out.alloc hys _) Y.heap.size 1 fr rfl (cell_i1 (by simp [go_sem])) (by have := HHK.out; omega) (by decide) (by simp; omega) ?_; intro v' w8 hown8 hbel8 hg8)
          have HR8 : Hid (ownsR w8 w6.heap.size 3 v' (H ++ [fr])) := hown8
          have HB8 : Hid (Below w6.heap.size w6 w8) := hbel8
          clear hown8 hbel8 hg8 hy1 hy2 hy3 hy4 d0
          go_wp2
          go_roundw
          case rel => exact ⟨0 + 1, H ++ [fr], by omega, by go_num, by have := HHK.out; rw [List.length_append, List.length_singleton]; omega, HN1, HR8.out, HB8⟩
          case measure => simp [intOf]; omega
        · have hpar2 : (px % 2 == 0) = false := beq_eq_false_iff_ne.2 hpar
          go_wp2
          go_roundw
          case rel => exact ⟨0 + 1, H, by omega, by go_num, by have := HHK.out; omega, HN2, hyA.out, hy2⟩
          case measure => simp [intOf]; omega
      · obtain ⟨j, hj⟩ : ∃ j, k = j + 1 := ⟨k - 1, by omega⟩
        have q1 := Wd.cell (HPV7.out j hj)
        have g1 : IntKind.i64.wrap ((k : Int) - 1) = (j : Int) := by rw [IntKind.wrap_i64] <;> omega
        have g2 : (j : Int) < (ll : Int) := by omega
        have g3 : decide (0 < k) = true := decide_eq_true hk0
        have g4 : j < ll := by omega
        have g5 : (k : Int) - 1 = (j : Int) := by omega
        have g6 : (0 : Int) < (k : Int) := by omega
        have hk8 : (k : Int) % 8 = (k : Int) := by omega
        have HKJ : Hid (k = j + 1) := hj
        clear hj HPV7
        go_wp2
        refine wp_region_wd (by kernel_rfl) (by kernel_rfl) ?_
        repeat (go_big_quiet_step ((go_at_call 14; refine calls_wd (v := .bool true) ?_; with_reducible exact HFRT.out _ (HT8.out _))))
        refine wpQuiet_nil ?_
        rintro _ ⟨y, rfl⟩
        obtain ⟨hy1, hy2, hy3, hy4⟩ := HFN.out y
        obtain ⟨Y, hY⟩ : ∃ Y : World, y.at' = Y := ⟨_, rfl⟩
        rw [hY] at hy1 hy2 hy3 hy4
        have hyA : Hid (ownsR Y w6.heap.size 3 (.slice h0 hl h2) H) := hy1
        rw [hY]
        clear hY c0 c1 c2 c3 c4 d0 d1 HFN
        have hys : w6.heap.size ≤ Y.heap.size := hy2.out.size
        have d0 := hy4.out.c0
        by_cases hpar : px % 2 = 0
        · go_wp2_with (at_builtin; refine append_recG _ w6 rfl (.tmp 116) (.tmp 119) 24 rfl w6.heap.size 3 _ 8 Tryd.underlying24 info3 rfl _ H rfl (hyA.out.alloc _) (hy2.out.alloc hys _) Y.heap.size 1 fr rfl (cell_i1 (by simp [go_sem])) (by have := HHK.out; omega) (by decide) (by simp; omega) ?_; intro v' w8 hown8 hbel8 hg8)
          have HR8 : Hid (ownsR w8 w6.heap.size 3 v' (H ++ [fr])) := hown8
          have HB8 : Hid (Below w6.heap.size w6 w8) := hbel8
          clear hown8 hbel8 hg8 hy1 hy2 hy3 hy4 d0
          go_wp2
          go_roundw
          case rel => exact ⟨k + 1, H ++ [fr], by omega, by go_num, by have := HHK.out; rw [List.length_append, List.length_singleton]; omega, HN1, HR8.out, HB8⟩
          case measure => simp [intOf]; omega
        · have hpar2 : (px % 2 == 0) = false := beq_eq_false_iff_ne.2 hpar
          go_wp2
          go_roundw
          case rel => exact ⟨k + 1, H, by omega, by go_num, by have := HHK.out; omega, HN2, hyA.out, hy2⟩
          case measure => simp [intOf]; omega
    · obtain rfl : k = ll := by omega
      have HHE : Hid ((L.filter fun s => !decide (s.fr ∈ H)).length + H.length = k) := by
        have h := HH.out
        show _ = _
        rw [← HLN.out] at h ⊢
        exact h.end
      have HR : Hid (Reads wr (.slice h0 H.length h2) H) := hown.reads
      have hH9 : H.length ≤ 1048577 := by have := HHK.out; omega
      have HLK : Hid (∀ (W : World) (vv : Value) (HH : List Int), Below w6.heap.size w6 W → Reads W vv HH → HH.length ≤ 1048577 → Calls Tryd.prog 15 #[.slice g0 k g2, vv] W fun x w' => ∃ v', x = .returned v' ∧ ownsR w' W.heap.size 34 v' (L.filter fun s => !decide (s.fr ∈ HH)) ∧ Below W.heap.size W w') := fun W vv HH hb hr hh => implLacking_any _ _ L HH W (HG6.out.below hb) hr (by rw [HLN.out]; omega) hh
      obtain ⟨F, HFF⟩ : ∃ F, Hid ((L.filter fun s => !decide (s.fr ∈ H)) = F) := ⟨_, rfl⟩
      have HFI : Hid (∀ (i : Nat) x, F[i]? = some x → decide (x.fr ∈ H) = false) := fun i x hx => by
        have hm : x ∈ F := List.mem_of_getElem? hx
        rw [← HFF.out] at hm
        have := (List.mem_filter.1 hm).2
        simpa using this
      obtain ⟨hl, HHL⟩ : ∃ t, Hid (H.length = t) := ⟨_, rfl⟩
      have HLK1 : Hid (Calls Tryd.prog 15 #[.slice g0 k g2, .slice h0 hl h2] wr fun x w' => ∃ v', x = .returned v' ∧ ownsR w' wr.heap.size 34 v' F ∧ Below wr.heap.size wr w') := by
        have := HLK.out wr _ H HBR.out HR.out hH9
        show Calls _ _ _ _ _
        rw [HHL.out] at this
        rw [← HFF.out]
        exact this
      rw [HHL.out] at HR hH9 HHE
      rw [HHL.out]
      rw [HFF.out] at HHE
      clear hown HH hlt HFF HHL
      go_wp2_with fail
      refine HLK1.out.mono ?_
      rintro x w7 ⟨vf, rfl, of, hb7⟩
      obtain ⟨f0, f1, f2, rfl⟩ := of.slice3
      have HF7 : Hid (Reads w7 (.slice f0 f1 f2) F) := of.reads
      have HR7 : Hid (Reads w7 (.slice h0 hl h2) H) := HR.out.below hb7
      have HX7 : Hid (B5 26 w7 w2.heap.size (.slice p0 q0 s0) (.slice p1 q1 s1) (.slice p2 q2 s2) (.slice p3 q3 s3) (.slice p4 q4 s4)) := HXR.out.up hb7
      have HG7 : Hid (Reads w7 (.slice g0 k g2) L) := HGR.out.below hb7
      have HB7 : Hid (Below w2.heap.size w2 w7) := Below.on HBW.out hb7
      have HB67 : Hid (Below w6.heap.size w6 w7) := Below.on HBR.out hb7
      have hf1 : f1 = F.length := HF7.out.len
      have hsum : (f1 : Int) + (hl : Int) = (k : Int) := by have := HHE.out; omega
      have HFN : Hid (f1 = F.length) := hf1
      clear hb7 of hf1 HLK1 HR HXR HGR HBW HHE
      go_wp2
      go_loopw [14] (fun iv wx => ∃ i : Nat, i ≤ f1 ∧ iv = .int .i64 i ∧ wx = w7) (fun iv _ => f1 - (intOf iv).toNat)
      case atStart => exact ⟨0, Nat.zero_le _, rfl, rfl⟩
      case round =>
        obtain ⟨i, hi, rfl, rfl⟩ := hrel
        by_cases hif : i < f1
        · obtain ⟨x, hx⟩ : ∃ x, F[i]? = some x := ⟨_, List.getElem?_eq_getElem (by rw [← HFN.out]; exact hif)⟩
          have hin := HFI.out i x hx
          obtain ⟨fb, fo, rfl, hfb, k0, k1⟩ := sp_at HF7.out hx
          clear hx
          obtain ⟨fr, up⟩ := x
          simp only at hin k0 k1
          have HIN : Hid (∀ W, W = wr → Calls Tryd.prog 16 #[.slice h0 hl h2, .int .i64 fr] W fun e w' => e = .returned (.bool false) ∧ w' = W) := fun W hW => by
            subst hW
            have := lawIn_try h0 hl h2 H fr W HR7.out hH9
            rwa [hin] at this
          clear hin
          go_wp2_with (go_at_call 16; refine (HIN.out _ rfl).mono ?_; rintro e w8 ⟨rfl, hw⟩; have hw2 := hw.symm; subst hw2)
          go_roundw
          case rel => exact ⟨i + 1, by omega, by go_num, trivial⟩
          case measure => simp [intOf]; omega
        · obtain rfl : i = f1 := by omega
          obtain ⟨T, HT⟩ : ∃ T, Hid (L.take 2 = T ∧ T.length ≤ 2) := ⟨_, rfl, by rw [List.length_take]; omega⟩
          have HI2' : Hid (Calls Tryd.prog 10 #[.agg #[.slice p0 q0 s0, .slice p1 q1 s1, .slice p2 q2 s2, .slice p3 q3 s3, .slice p4 q4 s4], .int .i64 m, .int .i64 upto, .int .i64 2] wr fun x w' => ∃ v', x = .returned v' ∧ ownsR w' wr.heap.size 34 v' T ∧ Below wr.heap.size wr w') := by rw [← HT.out.1]; exact HI2.out _ HB7.out
          have c0 := HX7.out.c0
          have c1 := HX7.out.c1
          have c2 := HX7.out.c2
          have c3 := HX7.out.c3
          have c4 := HX7.out.c4
          clear hif hi HF7 HR7 HFI
          go_wp2_with fail
          refine HI2'.out.mono ?_
          rintro x w8 ⟨vt, rfl, ot, hb8⟩
          obtain ⟨t0, t1, t2, rfl⟩ := ot.slice3
          have HT8 : Hid (Reads w8 (.slice t0 t1 t2) T) := ot.reads
          have ht1 : t1 = T.length := HT8.out.len
          have ht2 : t1 ≤ 2 := by have := HT.out.2; omega
          have HTK : Hid (t1 ≤ L.length ∧ L.take t1 = T) := by
            have h1 := HT.out.1
            have h2 : t1 = (L.take 2).length := by rw [h1]; exact ht1
            rw [List.length_take] at h2
            refine ⟨by omega, ?_⟩
            rw [← h1, h2]
            by_cases hq : 2 ≤ L.length
            · rw [Nat.min_eq_left hq]
            · rw [Nat.min_eq_right (by omega), List.take_of_length_le (Nat.le_refl _), List.take_of_length_le (by omega)]
          have htk : t1 ≤ k := by have := HTK.out.1; have := HLN.out; omega
          have htc : t1 ≤ g2 := by have := HCP2.out; omega
          have HG8 : Hid (Reads w8 (.slice g0 t1 g2) T) := by
            have := reads_take (HG7.out.below hb8) t1 HTK.out.1
            rw [HTK.out.2] at this
            exact this
          have HB8 : Hid (Below w2.heap.size w2 w8) := Below.on HB7.out hb8
          have HBR8 : Hid (Below w6.heap.size w6 w8) := Below.on HB67.out hb8
          clear c0 c1 c2 c3 c4 hb8 ot ht1 HI2'
          have ht9 : t1 ≤ 1048577 := by omega
          have ht3 : (t1 : Int) ≤ 2 := by omega
          go_wp2_with fail
          refine (sameSpans_any _ _ _ _ _ T _ HT8.out HG8.out ht9).mono ?_
          rintro x w9 ⟨rfl, hb9⟩
          have HB9 : Hid (Below w2.heap.size w2 (w9.alloc (.cells #[] 3))) := ba (Below.on HB8.out hb9) _
          have HBR9 : Hid (Below w6.heap.size w6 (w9.alloc (.cells #[] 3))) := ba (Below.on HBR8.out hb9) _
          have HR9 : Hid (Reads (w9.alloc (.cells #[] 3)) (.slice (some ⟨w9.heap.size, 0, none⟩) 0 0) ([] : List Int)) := reads_none _ _ _
          clear hb9 HB8 HBR8 HT8 HG8
          go_wp2_with fail
          refine (HLK.out _ _ [] HBR9.out HR9.out (by decide)).mono ?_
          rintro x wa ⟨va', rfl, oa, hba⟩
          obtain ⟨y0, y1, y2, rfl⟩ := oa.slice3
          have hy1 : y1 = k := by
            have h1 := oa.reads.len
            rw [List.filter_eq_self.2 (fun s _ => by simp)] at h1
            rw [h1]; exact HLN.out
          subst hy1
          have HBA : Hid (Below w.heap.size w wa) := Below.on HW.out (Below.on HB9.out hba)
          clear oa hba HB9 HBR9 HR9
          go_wp2
          go_ret
          exact ⟨rfl, HBA.out⟩
end Go.Proofs.YtbecdaholpiaeaaDoor
