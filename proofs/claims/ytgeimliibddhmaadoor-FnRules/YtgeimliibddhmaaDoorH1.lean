/-
  Rules that are drawn: the walks. One of a row of texts, as the specification draws it: the walk. The texts of rules that the specification draws: the walks; two rows of numbers held against each other.
-/
import Derived.Test.YtgeimliibddhmaaDoorDraw2
import Derived.Test.YtgeimliibddhmaaDoorFul
import Derived.Test.YtgeimliibddhmaaDoorE8
import Derived.Test.YtgeimliibddhmaaDoorDh
import Derived.Test.YtgeimliibddhmaaDoorE9
import Derived.Test.YtgeimliibddhmaaDoorFq
namespace Go.Proofs.YtgeimliibddhmaaDoor
open Go Go.RowKit
set_option linter.unusedVariables false

theorem ownsI.rec {w : World} {B : Nat} {e : TypeId} {v : Value} {l : List Int} (h : ownsI w B e v l) : ownsR w B e v l := by
  unfold ownsR
  rw [flat_int]
  exact h
theorem listB_of {lo hi : Int} {l : List Int} (h1 : l.Pairwise (· < ·)) (h2 : ∀ x ∈ l, lo ≤ x ∧ x ≤ hi) (h3 : l ≠ []) : listB lo hi l = true := by
  rw [listB_rise (rise_of l none h1 h2 (fun y hy => by cases hy))]
  exact decide_eq_true (List.length_pos_iff.2 h3)
/-- A list that rises below a number. -/
def RiseTo (lo hi m : Int) (l : List Int) : Prop := l.Pairwise (· < ·) ∧ ∀ x ∈ l, lo ≤ x ∧ x ≤ hi ∧ x < m
theorem RiseTo.start (lo hi m : Int) : RiseTo lo hi m [] := ⟨List.Pairwise.nil, fun x hx => by cases hx⟩
theorem RiseTo.next {lo hi m n : Int} {l : List Int} (h : RiseTo lo hi m l) (h0 : lo ≤ m) (h1 : m ≤ hi) (h2 : m < n) : RiseTo lo hi n (l ++ [m]) := by
  refine ⟨List.pairwise_append.2 ⟨h.1, List.pairwise_singleton _ _, fun a ha b hb => ?_⟩, fun x hx => ?_⟩
  · rw [List.mem_singleton] at hb
    subst hb
    exact (h.2 a ha).2.2
  · rcases List.mem_append.1 hx with hx | hx
    · have := h.2 x hx
      exact ⟨this.1, this.2.1, by omega⟩
    · rw [List.mem_singleton] at hx
      subst hx
      exact ⟨h0, h1, h2⟩
theorem RiseTo.list {lo hi m : Int} {l : List Int} (h : RiseTo lo hi m l) (h3 : l ≠ []) : listB lo hi l = true := listB_of h.1 (fun x hx => ⟨(h.2 x hx).1, (h.2 x hx).2.1⟩) h3
theorem RiseTo.one {lo hi m : Int} {l : List Int} (h : RiseTo lo hi m l) (h3 : l ≠ []) : listB lo hi (l.take 1) = true := by
  match l, h3 with
  | x :: r, _ => exact listB_of (l := [x]) (List.pairwise_singleton _ _) (fun y hy => by rw [List.mem_singleton] at hy; subst hy; have := h.2 y (List.mem_cons_self ..); exact ⟨this.1, this.2.1⟩) (by simp)
/-- What l10Some answers. -/
def SomeP (g : Nat) (lo hi : Int) (w : World) (x : Ending) (w' : World) : Prop :=
  ∃ (ao : Option Addr) (n c : Nat) (l : List Int), x = .returned (.slice ao n c) ∧ Reads w' (.slice ao n c) l ∧ (∀ a, ao = some a → w.heap.size ≤ a.block) ∧ listB lo hi l = true ∧ Drw w' g ∧ Save g w w'
theorem ownsR.blockOf {w : World} {B : Nat} {e : TypeId} {ao : Option Addr} {n c : Nat} {l : List Int} (h : ownsR w B e (.slice ao n c) l) : ∀ a, ao = some a → B ≤ a.block := by
  intro a ha
  subst ha
  rcases h.2 with ⟨h', _⟩ | ⟨g', cap', cur, h', hb, _⟩
  · simp at h'
  · simp only [Value.slice.injEq, Option.some.injEq] at h'
    rw [h'.1]
    exact hb
set_option maxRecDepth 10000 in
set_option maxHeartbeats 2000000 in
theorem l10Some_any (g : Nat) (lo hi : Int) (w : World) (hd : Drw w g) (h0 : 0 ≤ lo) (h1 : lo ≤ hi) (h2 : hi ≤ 59) :
    Calls Tryd.prog 65 #[.pointer (some ⟨g, 0, none⟩), .int .i64 lo, .int .i64 hi] w (SomeP g lo hi w) := by
  have HG : Hid (g < w.heap.size) := hd.lt
  have HD0 : Hid (Drw (w.alloc (.cells #[] 3)) g) := hd.keep ((Below.refl _ _).alloc HG.out _)
  clear hd
  go_enter Tryd.func65, Tryd.ntmps65
  go_wp2_with fail
  refine (once_any g 3 _ HD0.out (by decide) (by decide)).mono ?_
  rintro x w1 ⟨q, rfl, hd1, hs1⟩
  have HOW : Hid (ownsI w1 w.heap.size 3 (.slice (some ⟨w.heap.size, 0, none⟩) 0 0) []) := (ownsI_made w w.heap.size 0 3 #[] (Nat.le_refl _) (by decide) rfl).save hs1 HG.out
  have HS1 : Hid (Save g w w1) := ((Save.refl g w).alloc _).trans hs1
  have HD1 : Hid (Drw w1 g) := hd1
  clear hd1 hs1 HD0
  generalize hB : w.heap.size = B at *
  cases q with
  | true =>
    go_wp2
    go_loopw [7, 8] (fun out i wr => ∃ (m : Int) (l : List Int), lo ≤ m ∧ m ≤ hi + 1 ∧ i = .int .i64 m ∧ (l.length : Int) ≤ m - lo ∧ Hid (RiseTo lo hi m l ∧ (lo < m → l ≠ [])) ∧ ownsI wr B 3 out l ∧ Hid (Drw wr g ∧ Save g w wr)) (fun _ i _ => (hi + 1 - intOf i).toNat)
    case atStart => exact ⟨lo, [], Int.le_refl _, by omega, rfl, by simp, ⟨RiseTo.start _ _ _, fun h => by omega⟩, HOW.out, HD1.out, HS1.out⟩
    case round =>
      obtain ⟨m, l, hm0, hm1, rfl, hlen, HR, hown, HS⟩ := hrel
      clear HOW HD1 HS1
      by_cases hlt : m ≤ hi
      · have HBW : Hid (B ≤ wr.heap.size) := by have := HS.out.2.size; show B ≤ _; omega
        go_wp2_with (at_builtin; refine wpList_append_int _ _ rfl (.tmp 20) (.tmp 22) 24 rfl B 3 Tryd.underlying24 info3 _ l rfl (hown.alloc _) (Below.refl _ _) ⟨wr.heap.size, 0, none⟩ 1 m rfl ?c1 ?c2 ?c3 ?_)
        case c1 => simp
        case c2 => omega
        case c3 => have := HBW.out; simp; omega
        intro v' w4 hown2 hbel2
        have HN : Hid (RiseTo lo hi (m + 1) (l ++ [m]) ∧ (lo < m + 1 → l ++ [m] ≠ [])) := ⟨HR.out.1.next hm0 hlt (by omega), fun _ => by simp⟩
        have HS2 : Hid (Drw w4 g ∧ Save g w w4) := ⟨(HS.out.1.keep ((Below.refl _ _).alloc (by have := HBW.out; have := HG.out; omega) _)).keep (hbel2.mono (by have := HG.out; omega)), (HS.out.2.alloc _).below_on hbel2 (by omega)⟩
        clear hown hbel2 HR HS
        go_wp2
        go_roundw
        case rel => exact ⟨m + 1, l ++ [m], by omega, by omega, by go_num, by simp; omega, HN, hown2, HS2⟩
        case measure => simp [intOf]; omega
      · have HL : Hid (listB lo hi l = true) := HR.out.1.list (HR.out.2 (by omega))
        obtain ⟨a, c, rfl⟩ := (ownsI.rec hown).slice
        have HO : Hid (ownsR wr B 3 (.slice a l.length c) l) := ownsI.rec hown
        clear hown
        generalize l.length = ll at *
        go_wp2
        go_ret
        subst hB
        exact ⟨_, _, _, l, rfl, HO.out.reads, HO.out.blockOf, HL.out, HS.out.1, HS.out.2⟩
  | false =>
    have hq0 : 0 ≤ (hi - lo) / 2 := by omega
    go_wp2_with fail
    refine (below_any g (1 + (hi - lo) / 2) _ HD1.out (by omega) (by omega)).mono ?_
    rintro x w2 ⟨s, rfl, s0, s1, hd2, hs2⟩
    have HOW2 : Hid (ownsI w2 B 3 (.slice (some ⟨B, 0, none⟩) 0 0) []) := HOW.out.save hs2 HG.out
    have HS2 : Hid (Save g w w2) := HS1.out.trans hs2
    have HD2 : Hid (Drw w2 g) := hd2
    clear hd2 hs2 HOW HS1 HD1
    go_wp2_with fail
    refine (below_any g (1 + s) _ HD2.out (by omega) (by omega)).mono ?_
    rintro x w3 ⟨y, rfl, y0, y1, hd3, hs3⟩
    have HOW3 : Hid (ownsI w3 B 3 (.slice (some ⟨B, 0, none⟩) 0 0) []) := HOW2.out.save hs3 HG.out
    have HS3 : Hid (Save g w w3) := HS2.out.trans hs3
    have HD3 : Hid (Drw w3 g) := hd3
    clear hd3 hs3 HOW2 HS2 HD2
    go_wp2
    go_loopw [7, 10] (fun out i wr => ∃ (m : Int) (l : List Int), lo ≤ m ∧ m ≤ hi + 1 + s ∧ i = .int .i64 m ∧ (l.length : Int) ≤ m - lo ∧ Hid (RiseTo lo hi m l ∧ (m ≤ hi ∨ l ≠ [])) ∧ ownsI wr B 3 out l ∧ Hid (Drw wr g ∧ Save g w wr)) (fun _ i _ => (hi + 1 + s - intOf i).toNat)
    case atStart => exact ⟨lo + y, [], by omega, by omega, rfl, by simp; omega, ⟨RiseTo.start _ _ _, .inl (by omega)⟩, HOW3.out, HD3.out, HS3.out⟩
    case round =>
      obtain ⟨m, l, hm0, hm1, rfl, hlen, HR, hown, HS⟩ := hrel
      clear HOW3 HD3 HS3
      by_cases hlt : m ≤ hi
      · have HBW : Hid (B ≤ wr.heap.size) := by have := HS.out.2.size; show B ≤ _; omega
        go_wp2_with (at_builtin; refine wpList_append_int _ _ rfl (.tmp 44) (.tmp 46) 24 rfl B 3 Tryd.underlying24 info3 _ l rfl (hown.alloc _) (Below.refl _ _) ⟨wr.heap.size, 0, none⟩ 1 m rfl ?c1 ?c2 ?c3 ?_)
        case c1 => simp
        case c2 => omega
        case c3 => have := HBW.out; simp; omega
        intro v' w4 hown2 hbel2
        have HN : Hid (RiseTo lo hi (m + (1 + s)) (l ++ [m]) ∧ (m + (1 + s) ≤ hi ∨ l ++ [m] ≠ [])) := ⟨HR.out.1.next hm0 hlt (by omega), .inr (by simp)⟩
        have HS4 : Hid (Drw w4 g ∧ Save g w w4) := ⟨(HS.out.1.keep ((Below.refl _ _).alloc (by have := HBW.out; have := HG.out; omega) _)).keep (hbel2.mono (by have := HG.out; omega)), (HS.out.2.alloc _).below_on hbel2 (by omega)⟩
        clear hown hbel2 HR HS
        go_wp2
        go_roundw
        case rel => exact ⟨m + (1 + s), l ++ [m], by omega, by omega, by go_num, by simp; omega, HN, hown2, HS4⟩
        case measure => simp [intOf]; omega
      · have HNE : Hid (l ≠ []) := HR.out.2.resolve_left hlt
        obtain ⟨a, c, rfl, hlc⟩ := (ownsI.rec hown).cap
        have HO : Hid (ownsR wr B 3 (.slice a l.length c) l) := ownsI.rec hown
        have hlp : 1 ≤ l.length := List.length_pos_iff.2 HNE.out
        clear hown
        go_wp2_with fail
        refine (once_any g 2 _ HS.out.1 (by decide) (by decide)).mono ?_
        rintro x w5 ⟨q, rfl, hd5, hs5⟩
        have HO5 : Hid (ownsR w5 B 3 (.slice a l.length c) l) := by
          have h1 : ownsI wr B 3 (.slice a l.length c) l := by have := HO.out; unfold ownsR at this; rw [flat_int] at this; exact this
          exact ownsI.rec (h1.save hs5 HG.out)
        have HS5 : Hid (Drw w5 g ∧ Save g w w5) := ⟨hd5, HS.out.2.trans hs5⟩
        clear hd5 hs5
        cases q with
        | false =>
          have HL : Hid (listB lo hi l = true) := HR.out.1.list HNE.out
          generalize l.length = ll at *
          go_wp2
          go_ret
          subst hB
          exact ⟨_, _, _, l, rfl, HO5.out.reads, HO5.out.blockOf, HL.out, HS5.out.1, HS5.out.2⟩
        | true =>
          have HL : Hid (listB lo hi (l.take 1) = true) := HR.out.1.one HNE.out
          have HRT : Hid (Reads w5 (.slice a 1 c) (l.take 1)) := HO5.out.reads.take 1 hlp c
          have HBO : Hid (∀ x, a = some x → B ≤ x.block) := HO5.out.blockOf
          obtain ⟨x, hx⟩ : ∃ x, l[0]? = some x := ⟨_, List.getElem?_eq_getElem (by omega)⟩
          obtain ⟨b, o, rfl, _, _⟩ := int_at HO5.out.reads hx
          clear hx
          have hrun : ∀ wx, (Instr.slice 24 (.slice (some ⟨b, o, none⟩) l.length c) none (some (.int .i64 1)) none).run Tryd.prog wx = .ok (.slice (some ⟨b, o, none⟩) 1 c) wx := fun wx => by
            simp [go_sem, Instr.slice]
            intro h
            omega
          generalize l.length = ll at *
          go_wp2
          go_ret
          subst hB
          exact ⟨_, _, _, _, rfl, HRT.out, HBO.out, HL.out, HS5.out.1, HS5.out.2⟩

theorem Reads.save {g : Nat} {w w' : World} {ao : Option Addr} {n c : Nat} {l : List Int} (h : Reads w (.slice ao n c) l) (hs : Save g w w') (hb : ∀ a, ao = some a → a.block ≠ g) : Reads w' (.slice ao n c) l := by
  obtain ⟨ao', cap, e, h⟩ := h
  simp only [Value.slice.injEq] at e
  obtain ⟨rfl, rfl, rfl⟩ := e
  refine ⟨ao, c, rfl, fun hne => ?_⟩
  obtain ⟨b, o, rfl, hlt, hc⟩ := h hne
  exact ⟨b, o, rfl, Nat.lt_of_lt_of_le hlt hs.size, fun i x hx j u hu => hs.cell (hb ⟨b, o, none⟩ rfl) (hc i x hx j u hu)⟩
theorem save_set5 (W : World) (b : Nat) (u0 u1 u2 u3 u4 : Value) : Save b W (set5 W b u0 u1 u2 u3 u4) := by
  have h0 : Save b W (W.setCell ⟨b, 0, none⟩ u0) := (Save.refl b W).setCell (p := ⟨b, 0, none⟩) rfl u0
  have h1 := h0.setCell (p := ⟨b, 1, none⟩) rfl u1
  have h2 := h1.setCell (p := ⟨b, 2, none⟩) rfl u2
  have h3 := h2.setCell (p := ⟨b, 3, none⟩) rfl u3
  exact h3.setCell (p := ⟨b, 4, none⟩) rfl u4
/-- A rule that was drawn. -/
def DrawnC (w' : World) (v0 v1 v2 v3 v4 : Value) (a b c d e : List Int) : Prop :=
  (Reads w' v0 a ∧ Reads w' v1 b ∧ Reads w' v2 c ∧ Reads w' v3 d ∧ Reads w' v4 e) ∧ cronB a b c d e = true
theorem cron_short {a b c d e : List Int} (h : cronB a b c d e = true) : a.length ≤ 60 ∧ b.length ≤ 24 ∧ c.length ≤ 31 ∧ d.length ≤ 12 ∧ e.length ≤ 7 := by
  unfold cronB at h
  simp only [Bool.and_eq_true] at h
  obtain ⟨h0, h1, h2, h3, h4⟩ := h
  have := list_len h0
  have := list_len h1
  have := list_len h2
  have := list_len h3
  have := list_len h4
  exact ⟨by omega, by omega, by omega, by omega, by omega⟩
def CronP (g : Nat) (w : World) (x : Ending) (w' : World) : Prop :=
  ∃ (ao bo co d0 eo : Option Addr) (l0 l1 l2 l3 l4 ac bc cc dc ec : Nat) (a b c d e : List Int), x = .returned (.agg #[.slice ao l0 ac, .slice bo l1 bc, .slice co l2 cc, .slice d0 l3 dc, .slice eo l4 ec]) ∧ DrawnC w' (.slice ao l0 ac) (.slice bo l1 bc) (.slice co l2 cc) (.slice d0 l3 dc) (.slice eo l4 ec) a b c d e ∧ (∀ x, ao = some x ∨ bo = some x ∨ co = some x ∨ d0 = some x ∨ eo = some x → w.heap.size ≤ x.block) ∧ Drw w' g ∧ Save g w w'
set_option maxRecDepth 10000 in
set_option maxHeartbeats 2000000 in
theorem l10Cron_any (g : Nat) (w : World) (hd : Drw w g) : Calls Tryd.prog 35 #[.pointer (some ⟨g, 0, none⟩)] w (CronP g w) := by
  have HG : Hid (g < w.heap.size) := hd.lt
  have HD0 : Hid (Drw (w.alloc (.cells #[.slice none 0 0, .slice none 0 0, .slice none 0 0, .slice none 0 0, .slice none 0 0] 26)) g) := hd.keep ((Below.refl _ _).alloc HG.out _)
  clear hd
  go_enter Tryd.func35, Tryd.ntmps35
  go_wp2_with fail
  obtain ⟨W0, hW⟩ : ∃ W, w.alloc (.cells #[.slice none 0 0, .slice none 0 0, .slice none 0 0, .slice none 0 0, .slice none 0 0] 26) = W := ⟨_, rfl⟩
  have Z0 : B5 26 W0 w.heap.size (.slice none 0 0) (.slice none 0 0) (.slice none 0 0) (.slice none 0 0) (.slice none 0 0) := by rw [← hW]; exact B5.new 26 w _ _ _ _ _
  have S0 : Save g w W0 := by rw [← hW]; exact (Save.refl g w).alloc _
  rw [hW] at HD0
  rw [hW]
  clear hW
  refine (l10Some_any g 0 59 W0 HD0.out (by decide) (by decide) (by decide)).mono ?_
  rintro x W1 ⟨a0, n0, c0, l0, rfl, r0, u0, hl0, hd0, hs0⟩
  have hz0 := Z0.lt
  have S1 : Save g w W1 := S0.trans hs0
  have Z1 : B5 26 W1 w.heap.size (.slice none 0 0) (.slice none 0 0) (.slice none 0 0) (.slice none 0 0) (.slice none 0 0) := (hs0.block _ Z0.lt (by have := HG.out; omega)).trans Z0
  have HD1 : Hid (Drw W1 g) := hd0
  have HB0 : Hid (listB 0 59 l0 = true) := hl0
  have U0 : ∀ a, a0 = some a → w.heap.size + 1 ≤ a.block := fun a ha => by have := u0 a ha; omega
  have R0_1 : Hid (Reads W1 (.slice a0 n0 c0) l0) := r0
  clear r0 u0 hl0 hd0 hs0 hz0 Z0 S0 HD0
  go_wp2_with fail
  refine (l10Some_any g 0 23 W1 HD1.out (by decide) (by decide) (by decide)).mono ?_
  rintro x W2 ⟨a1, n1, c1, l1, rfl, r1, u1, hl1, hd1, hs1⟩
  have hz1 := Z1.lt
  have S2 : Save g w W2 := S1.trans hs1
  have Z2 : B5 26 W2 w.heap.size (.slice none 0 0) (.slice none 0 0) (.slice none 0 0) (.slice none 0 0) (.slice none 0 0) := (hs1.block _ Z1.lt (by have := HG.out; omega)).trans Z1
  have HD2 : Hid (Drw W2 g) := hd1
  have HB1 : Hid (listB 0 23 l1 = true) := hl1
  have U1 : ∀ a, a1 = some a → w.heap.size + 1 ≤ a.block := fun a ha => by have := u1 a ha; omega
  have R1_2 : Hid (Reads W2 (.slice a1 n1 c1) l1) := r1
  have R0_2 : Hid (Reads W2 (.slice a0 n0 c0) l0) := R0_1.out.save hs1 (fun a ha => by have := U0 a ha; have := HG.out; omega)
  clear r1 u1 hl1 hd1 hs1 hz1 Z1 S1 HD1 R0_1
  go_wp2_with fail
  refine (l10Some_any g 1 31 W2 HD2.out (by decide) (by decide) (by decide)).mono ?_
  rintro x W3 ⟨a2, n2, c2, l2, rfl, r2, u2, hl2, hd2, hs2⟩
  have hz2 := Z2.lt
  have S3 : Save g w W3 := S2.trans hs2
  have Z3 : B5 26 W3 w.heap.size (.slice none 0 0) (.slice none 0 0) (.slice none 0 0) (.slice none 0 0) (.slice none 0 0) := (hs2.block _ Z2.lt (by have := HG.out; omega)).trans Z2
  have HD3 : Hid (Drw W3 g) := hd2
  have HB2 : Hid (listB 1 31 l2 = true) := hl2
  have U2 : ∀ a, a2 = some a → w.heap.size + 1 ≤ a.block := fun a ha => by have := u2 a ha; omega
  have R2_3 : Hid (Reads W3 (.slice a2 n2 c2) l2) := r2
  have R0_3 : Hid (Reads W3 (.slice a0 n0 c0) l0) := R0_2.out.save hs2 (fun a ha => by have := U0 a ha; have := HG.out; omega)
  have R1_3 : Hid (Reads W3 (.slice a1 n1 c1) l1) := R1_2.out.save hs2 (fun a ha => by have := U1 a ha; have := HG.out; omega)
  clear r2 u2 hl2 hd2 hs2 hz2 Z2 S2 HD2 R0_2 R1_2
  go_wp2_with fail
  refine (l10Some_any g 1 12 W3 HD3.out (by decide) (by decide) (by decide)).mono ?_
  rintro x W4 ⟨a3, n3, c3, l3, rfl, r3, u3, hl3, hd3, hs3⟩
  have hz3 := Z3.lt
  have S4 : Save g w W4 := S3.trans hs3
  have Z4 : B5 26 W4 w.heap.size (.slice none 0 0) (.slice none 0 0) (.slice none 0 0) (.slice none 0 0) (.slice none 0 0) := (hs3.block _ Z3.lt (by have := HG.out; omega)).trans Z3
  have HD4 : Hid (Drw W4 g) := hd3
  have HB3 : Hid (listB 1 12 l3 = true) := hl3
  have U3 : ∀ a, a3 = some a → w.heap.size + 1 ≤ a.block := fun a ha => by have := u3 a ha; omega
  have R3_4 : Hid (Reads W4 (.slice a3 n3 c3) l3) := r3
  have R0_4 : Hid (Reads W4 (.slice a0 n0 c0) l0) := R0_3.out.save hs3 (fun a ha => by have := U0 a ha; have := HG.out; omega)
  have R1_4 : Hid (Reads W4 (.slice a1 n1 c1) l1) := R1_3.out.save hs3 (fun a ha => by have := U1 a ha; have := HG.out; omega)
  have R2_4 : Hid (Reads W4 (.slice a2 n2 c2) l2) := R2_3.out.save hs3 (fun a ha => by have := U2 a ha; have := HG.out; omega)
  clear r3 u3 hl3 hd3 hs3 hz3 Z3 S3 HD3 R0_3 R1_3 R2_3
  go_wp2_with fail
  refine (l10Some_any g 0 6 W4 HD4.out (by decide) (by decide) (by decide)).mono ?_
  rintro x W5 ⟨a4, n4, c4, l4, rfl, r4, u4, hl4, hd4, hs4⟩
  have hz4 := Z4.lt
  have S5 : Save g w W5 := S4.trans hs4
  have Z5 : B5 26 W5 w.heap.size (.slice none 0 0) (.slice none 0 0) (.slice none 0 0) (.slice none 0 0) (.slice none 0 0) := (hs4.block _ Z4.lt (by have := HG.out; omega)).trans Z4
  have HD5 : Hid (Drw W5 g) := hd4
  have HB4 : Hid (listB 0 6 l4 = true) := hl4
  have U4 : ∀ a, a4 = some a → w.heap.size + 1 ≤ a.block := fun a ha => by have := u4 a ha; omega
  have R4_5 : Hid (Reads W5 (.slice a4 n4 c4) l4) := r4
  have R0_5 : Hid (Reads W5 (.slice a0 n0 c0) l0) := R0_4.out.save hs4 (fun a ha => by have := U0 a ha; have := HG.out; omega)
  have R1_5 : Hid (Reads W5 (.slice a1 n1 c1) l1) := R1_4.out.save hs4 (fun a ha => by have := U1 a ha; have := HG.out; omega)
  have R2_5 : Hid (Reads W5 (.slice a2 n2 c2) l2) := R2_4.out.save hs4 (fun a ha => by have := U2 a ha; have := HG.out; omega)
  have R3_5 : Hid (Reads W5 (.slice a3 n3 c3) l3) := R3_4.out.save hs4 (fun a ha => by have := U3 a ha; have := HG.out; omega)
  clear r4 u4 hl4 hd4 hs4 hz4 Z4 S4 HD4 R0_4 R1_4 R2_4 R3_4
  have q0 := Z5.c0
  have q1 := Z5.c1
  have q2 := Z5.c2
  have q3 := Z5.c3
  have q4 := Z5.c4
  have f0 := Z5.fr 0
  have f1 := Z5.fr 1
  have f2 := Z5.fr 2
  have f3 := Z5.fr 3
  have f4 := Z5.fr 4
  have HZ5 : Hid (B5 26 W5 w.heap.size (.slice none 0 0) (.slice none 0 0) (.slice none 0 0) (.slice none 0 0) (.slice none 0 0)) := Z5
  have HSV : Hid (Save g w W5) := S5
  clear Z5 S5
  go_wp2
  refine bodyPost_ret (ret_c1 rfl rfl (HZ5.out.set (.slice a0 n0 c0) (.slice a1 n1 c1) (.slice a2 n2 c2) (.slice a3 n3 c3) (.slice a4 n4 c4))) rfl ?_
  have hgw := HG.out
  have hwz := HZ5.out.lt
  have BX : Below w.heap.size W5 (set5 W5 w.heap.size (.slice a0 n0 c0) (.slice a1 n1 c1) (.slice a2 n2 c2) (.slice a3 n3 c3) (.slice a4 n4 c4)) := below_set5 (Below.refl _ _) (Nat.le_refl _) _ _ _ _ _
  have RX : ∀ (ao : Option Addr) (n c : Nat) (l : List Int), Reads W5 (.slice ao n c) l → (∀ a, ao = some a → w.heap.size + 1 ≤ a.block) → Reads (set5 W5 w.heap.size (.slice a0 n0 c0) (.slice a1 n1 c1) (.slice a2 n2 c2) (.slice a3 n3 c3) (.slice a4 n4 c4)) (.slice ao n c) l := fun ao n c l h hb => by
    have SX : Save w.heap.size W5 (set5 W5 w.heap.size (.slice a0 n0 c0) (.slice a1 n1 c1) (.slice a2 n2 c2) (.slice a3 n3 c3) (.slice a4 n4 c4)) := save_set5 _ _ _ _ _ _ _
    exact h.save SX (fun a ha => by have := hb a ha; omega)
  refine ⟨a0, a1, a2, a3, a4, n0, n1, n2, n3, n4, c0, c1, c2, c3, c4, l0, l1, l2, l3, l4, rfl, ⟨⟨RX _ _ _ _ R0_5.out U0, RX _ _ _ _ R1_5.out U1, RX _ _ _ _ R2_5.out U2, RX _ _ _ _ R3_5.out U3, RX _ _ _ _ R4_5.out U4⟩, ?_⟩, ?_, ?_, ?_⟩
  · simp [cronB, HB0.out, HB1.out, HB2.out, HB3.out, HB4.out]
  · rintro x (h | h | h | h | h)
    · have := U0 x h; omega
    · have := U1 x h; omega
    · have := U2 x h; omega
    · have := U3 x h; omega
    · have := U4 x h; omega
  · exact HD5.out.keep (BX.mono (by omega))
  · exact HSV.out.below_on BX (Nat.le_refl _)
set_option maxRecDepth 10000 in
set_option maxHeartbeats 2000000 in
theorem drawCron_any (v : Value) (n : Nat) (w : World) (hn : n ≤ 1048576) (hc : CodeAt w w.heap.size v n) :
    Calls Tryd.prog 13 #[v] w fun x w' => ∃ (v0 v1 v2 v3 v4 : Value) (a b c d e : List Int) (m : Int), x = .returned (.tuple #[.agg #[v0, v1, v2, v3, v4], .int .i64 m]) ∧ DrawnC w' v0 v1 v2 v3 v4 a b c d e ∧ 0 ≤ m ∧ m < 60000000 ∧ Below w.heap.size w w' := by
  have HCA : Hid (CodeAt (w.alloc (.cells #[.slice none 0 0, .slice none 0 0, .slice none 0 0, .slice none 0 0, .slice none 0 0] 26)) (w.alloc (.cells #[.slice none 0 0, .slice none 0 0, .slice none 0 0, .slice none 0 0, .slice none 0 0] 26)).heap.size v n) := hc.on (ba (Below.refl _ _) _)
  clear hc
  go_enter Tryd.func13, Tryd.ntmps13
  go_wp2_with fail
  refine (new_any v n _ hn HCA.out).mono ?_
  rintro x w1 ⟨g, rfl, hg0, hd1, hb1⟩
  have Z1 : B5 26 w1 w.heap.size (.slice none 0 0) (.slice none 0 0) (.slice none 0 0) (.slice none 0 0) (.slice none 0 0) := (B5.new 26 w _ _ _ _ _).up hb1
  have B1 := below_new hb1
  have hg1 : w.heap.size + 1 ≤ g := by simpa using hg0
  have HG : Hid (w.heap.size < g) := hg1
  clear hg1
  clear hb1 hg0 HCA
  go_wp2_with fail
  refine (l10Cron_any g _ hd1).mono ?_
  rintro x w2 ⟨ao, bo, co, d0, eo, l0, l1, l2, l3, l4, ac, bc, cc, dc, ec, a, b, c, d, e, rfl, ⟨⟨r0, r1, r2, r3, r4⟩, hcr⟩, hbl, hd2, hs2⟩
  have hgl : g < w1.heap.size := hd1.lt
  have B2 : Below w.heap.size w w2 := B1.trans (hs2.below (by have := HG.out; omega) B1.size)
  have Z2 : B5 26 w2 w.heap.size (.slice none 0 0) (.slice none 0 0) (.slice none 0 0) (.slice none 0 0) (.slice none 0 0) := (hs2.block _ Z1.lt (by have := HG.out; omega)).trans Z1
  have HR : Hid (Reads w2 (.slice ao l0 ac) a ∧ Reads w2 (.slice bo l1 bc) b ∧ Reads w2 (.slice co l2 cc) c ∧ Reads w2 (.slice d0 l3 dc) d ∧ Reads w2 (.slice eo l4 ec) e) := ⟨r0, r1, r2, r3, r4⟩
  have HBL : Hid (∀ x, ao = some x ∨ bo = some x ∨ co = some x ∨ d0 = some x ∨ eo = some x → w1.heap.size ≤ x.block) := hbl
  clear hd1 Z1 B1 r0 r1 r2 r3 r4 hbl hs2
  go_wp2_with fail
  refine (below_any g 60000000 _ hd2 (by decide) (by decide)).mono ?_
  rintro x w3 ⟨m, rfl, m0, m1, hd3, hs3⟩
  have B3 : Below w.heap.size w w3 := B2.trans (hs3.below (by have := HG.out; omega) B2.size)
  have Z3 : B5 26 w3 w.heap.size (.slice none 0 0) (.slice none 0 0) (.slice none 0 0) (.slice none 0 0) (.slice none 0 0) := (hs3.block _ Z2.lt (by have := HG.out; omega)).trans Z2
  have HR3 : Hid (Reads w3 (.slice ao l0 ac) a ∧ Reads w3 (.slice bo l1 bc) b ∧ Reads w3 (.slice co l2 cc) c ∧ Reads w3 (.slice d0 l3 dc) d ∧ Reads w3 (.slice eo l4 ec) e) :=
    ⟨HR.out.1.save hs3 (fun x h => by have := HBL.out x (.inl h); omega), HR.out.2.1.save hs3 (fun x h => by have := HBL.out x (.inr (.inl h)); omega), HR.out.2.2.1.save hs3 (fun x h => by have := HBL.out x (.inr (.inr (.inl h))); omega), HR.out.2.2.2.1.save hs3 (fun x h => by have := HBL.out x (.inr (.inr (.inr (.inl h)))); omega), HR.out.2.2.2.2.save hs3 (fun x h => by have := HBL.out x (.inr (.inr (.inr (.inr h)))); omega)⟩
  have HZ3 : Hid (B5 26 w3 w.heap.size (.slice none 0 0) (.slice none 0 0) (.slice none 0 0) (.slice none 0 0) (.slice none 0 0)) := Z3
  have q0 := Z3.c0
  have q1 := Z3.c1
  have q2 := Z3.c2
  have q3 := Z3.c3
  have q4 := Z3.c4
  have f0 := Z3.fr 0
  have f1 := Z3.fr 1
  have f2 := Z3.fr 2
  have f3 := Z3.fr 3
  have f4 := Z3.fr 4
  have HB3 : Hid (Below w.heap.size w w3) := B3
  have HWG : Hid (w.heap.size < w1.heap.size) := by have := HG.out; show _ < _; omega
  clear Z2 Z3 B2 B3 hs3 hd2 hd3 HR hgl
  go_wp2
  refine bodyPost_ret (ret_c2 rfl rfl rfl (HZ3.out.set (.slice ao l0 ac) (.slice bo l1 bc) (.slice co l2 cc) (.slice d0 l3 dc) (.slice eo l4 ec))) rfl ?_
  have hlt := HWG.out
  have SX : Save w.heap.size w3 (set5 w3 w.heap.size (.slice ao l0 ac) (.slice bo l1 bc) (.slice co l2 cc) (.slice d0 l3 dc) (.slice eo l4 ec)) := save_set5 _ _ _ _ _ _ _
  refine ⟨_, _, _, _, _, a, b, c, d, e, m, rfl, ⟨⟨HR3.out.1.save SX (fun x h => by have := HBL.out x (.inl h); omega), HR3.out.2.1.save SX (fun x h => by have := HBL.out x (.inr (.inl h)); omega), HR3.out.2.2.1.save SX (fun x h => by have := HBL.out x (.inr (.inr (.inl h))); omega), HR3.out.2.2.2.1.save SX (fun x h => by have := HBL.out x (.inr (.inr (.inr (.inl h)))); omega), HR3.out.2.2.2.2.save SX (fun x h => by have := HBL.out x (.inr (.inr (.inr (.inr h)))); omega)⟩, hcr⟩, m0, m1, ?_⟩
  exact below_set5 HB3.out (Nat.le_refl _) _ _ _ _ _
end Go.Proofs.YtgeimliibddhmaaDoor

namespace Go.Proofs.YtgeimliibddhmaaDoor
open Go Go.RowKit

/-- A row of texts that lies apart from the cursor. -/
def TextsAt (w : World) (g r : Nat) (l : List ByteArray) : Prop := r ≠ g ∧ ∀ j (h : j < l.length), w.cell? ⟨r, j, none⟩ = some (.string l[j])
set_option maxHeartbeats 400000 in
theorem pick_any (g r n cap : Nat) (l : List ByteArray) (w : World) (hd : Drw w g) (h0 : 0 < n) (h1 : n ≤ 1000000) (hl : l.length = n) (hr : TextsAt w g r l) :
    Calls Tryd.prog 78 #[.pointer (some ⟨g, 0, none⟩), .slice (some ⟨r, 0, none⟩) n cap] w fun e w' => ∃ x ∈ l, e = .returned (.string x) ∧ Drw w' g ∧ Save g w w' := by
  go_enter Tryd.func78, Tryd.ntmps78
  go_wp2_with (go_at_call 36; refine (below_any g n _ hd (by omega) (by omega)).mono ?_; rintro e w1 ⟨x, rfl, hx0, hx1, hd1, hs1⟩; obtain ⟨k, rfl⟩ := Int.eq_ofNat_of_zero_le hx0; have hkl : k < l.length := (by omega); have hz2 : w1.cell? ⟨r, k, none⟩ = some (.string l[k]) := hs1.cell hr.1 (hr.2 k hkl))
  go_ret
  exact ⟨l[k], List.getElem_mem hkl, rfl, hd1, hs1⟩
/-- One of a row just written out. -/
theorem pickText_from (g : Nat) (l : List ByteArray) (w0 w : World) (hd : Drw w g) (hs : Save g w0 w) (h0 : 0 < l.length) (h1 : l.length ≤ 1000000) (cs : Array Value) (hcs : cs = (l.map Value.string).toArray) (n : Nat) (hn : n = l.length) :
    Calls Tryd.prog 78 #[.pointer (some ⟨g, 0, none⟩), .slice (some ⟨w.heap.size, 0, none⟩) n n] (w.alloc (.cells cs 9)) fun e w' => ∃ x ∈ l, e = .returned (.string x) ∧ Drw w' g ∧ Save g w0 w' := by
  have hg := hd.lt
  subst hn hcs
  refine (pick_any g w.heap.size l.length l.length l _ (hd.keep ((Below.refl _ _).alloc (by omega) _)) h0 h1 rfl ⟨by omega, fun j hj => by simp [hj]⟩).mono fun _ _ ⟨x, h1, h2, h3, h4⟩ => ⟨x, h1, h2, h3, (hs.alloc _).trans h4⟩
end Go.Proofs.YtgeimliibddhmaaDoor

namespace Go.Proofs.YtgeimliibddhmaaDoor
open Go Go.RowKit
set_option linter.unusedVariables false

set_option maxHeartbeats 1000000 in
theorem sameInts_any (ao bo : Option Addr) (n c d : Nat) (l : List Int) (w : World) (ha : Reads w (.slice ao n c) l) (hb : Reads w (.slice bo n d) l) (hn : n ≤ 1048577) :
    Calls Tryd.prog 17 #[.slice ao n c, .slice bo n d] w fun e w' => e = .returned (.bool true) ∧ Below w.heap.size w w' := by
  have HN : Hid (n = l.length) := ha.len
  have HA : Hid (Reads w (.slice ao n c) l) := ha
  have HB : Hid (Reads w (.slice bo n d) l) := hb
  clear ha hb
  go_enter Tryd.func17, Tryd.ntmps17
  go_wp2
  go_loopw [5] (fun i wr => ∃ k : Nat, k ≤ n ∧ i = .int .i64 k ∧ Below w.heap.size w wr) (fun i _ => n - (intOf i).toNat)
  case atStart => exact ⟨0, Nat.zero_le _, rfl, Below.refl _ _⟩
  case round =>
    obtain ⟨k, hk, rfl, hbel⟩ := hrel
    by_cases hlt : k < n
    · obtain ⟨f, hf⟩ : ∃ f, l[k]? = some f := ⟨_, List.getElem?_eq_getElem (by rw [← HN.out]; exact hlt)⟩
      obtain ⟨a, oa, rfl, hga, a0⟩ := int_at (HA.out.below hbel) hf
      obtain ⟨b, ob, rfl, hgb, b0⟩ := int_at (HB.out.below hbel) hf
      clear hf
      go_wp2
      go_quiet (fail)
      go_wp2
      go_roundw
      case rel => exact ⟨k + 1, by omega, by go_num, bdrewN hbel _⟩
      case measure => simp [intOf]; omega
    · go_wp2
      go_ret
      exact ⟨rfl, hbel⟩
/-- A text is drawn. -/
def TxtP (g m : Nat) (w : World) (e : Ending) (w' : World) : Prop := ∃ t : ByteArray, e = .returned (.string t) ∧ t.size ≤ m ∧ Drw w' g ∧ Save g w w'
theorem dtext_one (g : Nat) (w : World) (hd : Drw w g) : Calls Tryd.prog 79 #[.pointer (some ⟨g, 0, none⟩), .int .i64 1] w fun e w' => ∃ t : ByteArray, e = .returned (.string t) ∧ t.size = 1 ∧ Drw w' g ∧ Save g w w' := dtext_any g 1 w hd (by decide)
/-- Any world. -/
structure Anw where
  at' : World
set_option maxRecDepth 10000 in
set_option maxHeartbeats 2000000 in
theorem spoilt_any (g : Nat) (s : ByteArray) (w : World) (hd : Drw w g) (hs : s.size ≤ 10000) :
    Calls Tryd.prog 45 #[.pointer (some ⟨g, 0, none⟩), .string s] w (TxtP g 10001 w) := by
  go_enter Tryd.func45, Tryd.ntmps45
  go_wp2_with fail
  refine (below_any g 12 _ hd (by decide) (by decide)).mono ?_
  rintro e w1 ⟨x, rfl, x0, x1, hd1, hs1⟩
  clear hd
  obtain rfl | rfl | rfl | rfl | hx : x = 0 ∨ x = 1 ∨ x = 2 ∨ x = 3 ∨ 3 < x := by omega
  · go_wp2_with fail
    refine (dtext_one g _ hd1).mono ?_
    rintro e w2 ⟨t, rfl, ht, hd2, hs2⟩
    go_wp2
    go_ret
    exact ⟨_, rfl, by rw [ByteArray.size_append]; omega, hd2, hs1.trans hs2⟩
  · go_wp2_with fail
    refine (below_any g ((s.size : Int) + 1) _ hd1 (by omega) (by omega)).mono ?_
    rintro e w2 ⟨y, rfl, y0, y1, hd2, hs2⟩
    obtain ⟨k, rfl⟩ := Int.eq_ofNat_of_zero_le y0
    have hk : k ≤ s.size := by omega
    go_wp2
    go_ret
    exact ⟨_, rfl, by rw [ByteArray.size_extract]; omega, hd2, hs1.trans hs2⟩
  · by_cases h0 : (0 : Int) < (s.size : Int)
    · go_wp2_with fail
      refine (below_any g (s.size : Int) _ hd1 (by omega) (by omega)).mono ?_
      rintro e w2 ⟨y, rfl, y0, y1, hd2, hs2⟩
      obtain ⟨k, rfl⟩ := Int.eq_ofNat_of_zero_le y0
      have hk : k < s.size := by omega
      have HS2 : Hid (Save g w w2) := hs1.trans hs2
      clear hs1 hs2 hd1
      go_wp2
      haveI : Nonempty Anw := ⟨⟨w2⟩⟩
      refine wp_region_pick (fun w' => ∃ x : Anw, w' = x.at') [0, 1, 2, 3, 6, 7, 8, 9] 11 3 (by kernel_rfl) (by decide) (by decide) (by kernel_rfl) (fun _ _ d _ _ h => by cases d <;> exact h) ⟨⟨_⟩, rfl⟩ ?_
      repeat (refine wpTakes_l rfl (fun x h => by cases h) ?_; go_big_quiet_step (fail); refine wpQuiet_nil ?_)
      refine takes_nil ?_
      refine any_one (fuel := 2) (i := 4) (by kernel_rfl) rfl rfl ?_
      intro K hK
      go_wp2_with fail
      refine (dtext_one g _ (hd2.keep (Below.refl _ _).drew)).mono ?_
      rintro e w3 ⟨t, rfl, ht, hd3, hs3⟩
      have HS3 : Hid (Save g w w3) := (HS2.out.drew).trans hs3
      go_wp2
      refine hK.out _ _ ⟨⟨_⟩, rfl⟩ ?_
      clear hK K
      refine any_one (fuel := 1) (i := 5) (by kernel_rfl) rfl rfl ?_
      intro K hK
      go_wp2
      refine hK.out _ _ ⟨⟨_⟩, rfl⟩ ?_
      clear hK K
      refine any_one (fuel := 0) (i := 10) (by kernel_rfl) rfl rfl ?_
      intro K hK
      go_wp2
      refine hK.out _ _ ⟨⟨_⟩, rfl⟩ ?_
      clear hK K
      refine any_done (by kernel_rfl) ?_
      simp only [List.drop_succ_cons, List.drop_zero]
      go_wp2
      go_ret
      exact ⟨_, rfl, by simp only [ByteArray.size_append, ByteArray.size_extract]; omega, hd3, HS3.out⟩
    · go_wp2
      go_ret
      exact ⟨_, rfl, by omega, hd1, hs1⟩
  · by_cases h0 : (0 : Int) < (s.size : Int)
    · go_wp2_with fail
      refine (below_any g (s.size : Int) _ hd1 (by omega) (by omega)).mono ?_
      rintro e w2 ⟨y, rfl, y0, y1, hd2, hs2⟩
      obtain ⟨k, rfl⟩ := Int.eq_ofNat_of_zero_le y0
      have hk : k < s.size := by omega
      have HS2 : Hid (Save g w w2) := hs1.trans hs2
      clear hs1 hs2 hd1
      go_wp2
      haveI : Nonempty Anw := ⟨⟨w2⟩⟩
      refine wp_region_pick (fun w' => ∃ x : Anw, w' = x.at') [0, 1, 2, 3, 6, 7, 8, 9] 11 3 (by kernel_rfl) (by decide) (by decide) (by kernel_rfl) (fun _ _ d _ _ h => by cases d <;> exact h) ⟨⟨_⟩, rfl⟩ ?_
      repeat (refine wpTakes_l rfl (fun x h => by cases h) ?_; go_big_quiet_step (fail); refine wpQuiet_nil ?_)
      refine takes_nil ?_
      refine any_one (fuel := 2) (i := 4) (by kernel_rfl) rfl rfl ?_
      intro K hK
      go_wp2_with fail
      refine (dtext_one g _ (hd2.keep (Below.refl _ _).drew)).mono ?_
      rintro e w3 ⟨t, rfl, ht, hd3, hs3⟩
      have HS3 : Hid (Save g w w3) := (HS2.out.drew).trans hs3
      go_wp2
      refine hK.out _ _ ⟨⟨_⟩, rfl⟩ ?_
      clear hK K
      refine any_one (fuel := 1) (i := 5) (by kernel_rfl) rfl rfl ?_
      intro K hK
      go_wp2
      refine hK.out _ _ ⟨⟨_⟩, rfl⟩ ?_
      clear hK K
      refine any_one (fuel := 0) (i := 10) (by kernel_rfl) rfl rfl ?_
      intro K hK
      go_wp2
      refine hK.out _ _ ⟨⟨_⟩, rfl⟩ ?_
      clear hK K
      refine any_done (by kernel_rfl) ?_
      simp only [List.drop_succ_cons, List.drop_zero]
      go_wp2
      go_ret
      exact ⟨_, rfl, by simp only [ByteArray.size_append, ByteArray.size_extract]; omega, hd3, HS3.out⟩
    · go_wp2
      go_ret
      exact ⟨_, rfl, by omega, hd1, hs1⟩
  · have n0 : ¬ x = 0 := by omega
    have n1 : ¬ x = 1 := by omega
    have n2 : ¬ x = 2 := by omega
    have n3 : ¬ x = 3 := by omega
    go_wp2
    go_ret
    exact ⟨_, rfl, by omega, hd1, hs1⟩

theorem cronX_size (a b c d e : List Int) : (cronX a b c d e).size ≤ 1000 := by
  unfold cronX
  cases h : cronB a b c d e with
  | false => exact Nat.zero_le _
  | true =>
    unfold cronB at h
    simp only [Bool.and_eq_true] at h
    obtain ⟨b0, b1, b2, b3, b4⟩ := h
    have z0 := showS_size 60 (listB_bd (by decide) (by decide) (by decide) b0)
    have z1 := showS_size 24 (listB_bd (by decide) (by decide) (by decide) b1)
    have z2 := showS_size 31 (listB_bd (by decide) (by decide) (by decide) b2)
    have z3 := showS_size 12 (listB_bd (by decide) (by decide) (by decide) b3)
    have z4 := showS_size 7 (listB_bd (by decide) (by decide) (by decide) b4)
    have e1 : (⟨#[32]⟩ : ByteArray).size = 1 := rfl
    simp only [if_true, cronS, ByteArray.size_append, e1]
    omega
def fieldsT : List ByteArray := [⟨#[42]⟩, ⟨#[42, 47, 53]⟩, ⟨#[48]⟩, ⟨#[51, 44, 49, 44, 51]⟩, ⟨#[49, 45, 52]⟩, ⟨#[49, 45, 51, 44, 55]⟩, ⟨#[42, 47, 51, 48]⟩, ⟨#[50]⟩]
def sepsT : List ByteArray := [⟨#[32]⟩, ⟨#[32]⟩, ⟨#[32, 32]⟩]
def badT : List ByteArray := [⟨#[]⟩, ⟨#[42, 32, 42, 32, 42, 32, 42]⟩, ⟨#[42, 32, 42, 32, 42, 32, 42, 32, 42, 32, 42]⟩, ⟨#[54, 48, 32, 42, 32, 42, 32, 42, 32, 42]⟩, ⟨#[42, 32, 42, 32, 48, 32, 42, 32, 42]⟩, ⟨#[53, 45, 51, 32, 42, 32, 42, 32, 42, 32, 42]⟩, ⟨#[42, 47, 48, 32, 42, 32, 42, 32, 42, 32, 42]⟩, ⟨#[49, 45, 32, 42, 32, 42, 32, 42, 32, 42]⟩, ⟨#[49, 45, 50, 45, 51, 32, 42, 32, 42, 32, 42, 32, 42]⟩, ⟨#[97, 32, 42, 32, 42, 32, 42, 32, 42]⟩, ⟨#[48, 49, 32, 42, 32, 42, 32, 42, 32, 42]⟩, ⟨#[42, 32, 42, 32, 42, 32, 42, 32, 55]⟩, ⟨#[44, 32, 42, 32, 42, 32, 42, 32, 42]⟩, ⟨#[42, 47, 32, 42, 32, 42, 32, 42, 32, 42]⟩]
theorem fieldsT_sz : ∀ t ∈ fieldsT, t.size ≤ 8 := by decide
theorem sepsT_sz : ∀ t ∈ sepsT, t.size ≤ 2 := by decide
theorem badT_sz : ∀ t ∈ badT, t.size ≤ 40 := by decide
set_option maxRecDepth 10000 in
set_option maxHeartbeats 4000000 in
theorem l10Text_any (g : Nat) (w : World) (hd : Drw w g) : Calls Tryd.prog 43 #[.pointer (some ⟨g, 0, none⟩)] w (TxtP g 10000 w) := by
  have HG : Hid (g < w.heap.size) := hd.lt
  obtain ⟨V, HV⟩ : ∃ V, Hid (w.alloc (.cells (fieldsT.map Value.string).toArray 9) = V) := ⟨_, rfl⟩
  have HR0 : Hid (Drw V g ∧ Save g w V ∧ TextsAt V g w.heap.size fieldsT) := by
    show Drw _ _ ∧ _
    rw [← HV.out]
    exact ⟨hd.keep ((Below.refl _ _).alloc HG.out _), (Save.refl g w).alloc _, by have := HG.out; omega, fun j hj => by simp [hj]⟩
  have HPK : Hid (∀ W, Drw W g → TextsAt W g w.heap.size fieldsT → Calls Tryd.prog 78 #[.pointer (some ⟨g, 0, none⟩), .slice (some ⟨w.heap.size, 0, none⟩) 8 8] W fun e w' => ∃ x : ByteArray, e = .returned (.string x) ∧ x.size ≤ 8 ∧ Drw w' g ∧ Save g W w') := fun W hdW ht =>
    (pick_any g w.heap.size 8 8 fieldsT W hdW (by decide) (by decide) rfl ht).mono fun _ _ ⟨x, hx, he, h1, h2⟩ => ⟨x, he, fieldsT_sz x hx, h1, h2⟩
  have HSP : Hid (∀ W, Drw W g → Calls Tryd.prog 78 #[.pointer (some ⟨g, 0, none⟩), .slice (some ⟨W.heap.size, 0, none⟩) 3 3] (W.alloc (.cells #[.string ⟨#[32]⟩, .string ⟨#[32]⟩, .string ⟨#[32, 32]⟩] 9)) fun e w' => ∃ x : ByteArray, e = .returned (.string x) ∧ x.size ≤ 2 ∧ Drw w' g ∧ Save g W w') := fun W hdW =>
    (pickText_from g sepsT W W hdW (Save.refl _ _) (by decide) (by decide) _ rfl 3 rfl).mono fun _ _ ⟨x, hx, he, h1, h2⟩ => ⟨x, he, sepsT_sz x hx, h1, h2⟩
  have HBD : Hid (∀ W (cs : Array Value), cs = (badT.map Value.string).toArray → Drw W g → Calls Tryd.prog 78 #[.pointer (some ⟨g, 0, none⟩), .slice (some ⟨W.heap.size, 0, none⟩) 14 14] (W.alloc (.cells cs 9)) fun e w' => ∃ x : ByteArray, e = .returned (.string x) ∧ x.size ≤ 40 ∧ Drw w' g ∧ Save g W w') := fun W cs hcs hdW =>
    (pickText_from g badT W W hdW (Save.refl _ _) (by decide) (by decide) cs hcs 14 rfl).mono fun _ _ ⟨x, hx, he, h1, h2⟩ => ⟨x, he, badT_sz x hx, h1, h2⟩
  have HVE : Hid (w.alloc (.cells #[.string ⟨#[42]⟩, .string ⟨#[42, 47, 53]⟩, .string ⟨#[48]⟩, .string ⟨#[51, 44, 49, 44, 51]⟩, .string ⟨#[49, 45, 52]⟩, .string ⟨#[49, 45, 51, 44, 55]⟩, .string ⟨#[42, 47, 51, 48]⟩, .string ⟨#[50]⟩] 9) = V) := HV.out
  clear hd HV
  go_enter Tryd.func43, Tryd.ntmps43
  go_wp2_with (rw [HVE.out])
  clear HVE
  generalize hB : w.heap.size = B at *
  go_loopw [4, 5] (fun q i wr => ∃ (k : Nat) (t : ByteArray), k ≤ 5 ∧ i = .int .i64 k ∧ q = .string t ∧ t.size ≤ 10 * k ∧ Hid (Drw wr g ∧ Save g w wr ∧ TextsAt wr g B fieldsT)) (fun _ i _ => 5 - (intOf i).toNat)
  case atStart => exact ⟨0, ⟨#[]⟩, Nat.zero_le _, rfl, rfl, Nat.zero_le _, HR0⟩
  case round =>
    obtain ⟨k, t, hk, rfl, rfl, ht, HS⟩ := hrel
    clear HR0
    by_cases hlt : k < 5
    · by_cases hk0 : 0 < k
      · have hk0' : (0 : Int) < (k : Int) := by omega
        go_wp2_with fail
        refine (HSP.out _ HS.out.1).mono ?_
        rintro e w2 ⟨x, rfl, hx, hd2, hs2⟩
        have HS2 : Hid (Drw w2 g ∧ Save g w w2 ∧ TextsAt w2 g B fieldsT) := ⟨hd2, HS.out.2.1.trans hs2, HS.out.2.2.1, fun j hj => hs2.cell HS.out.2.2.1 (HS.out.2.2.2 j hj)⟩
        clear hd2 hs2 HS
        go_wp2_with fail
        refine (HPK.out _ HS2.out.1 HS2.out.2.2).mono ?_
        rintro e w3 ⟨y, rfl, hy, hd3, hs3⟩
        have HS3 : Hid (Drw w3 g ∧ Save g w w3 ∧ TextsAt w3 g B fieldsT) := ⟨hd3, HS2.out.2.1.trans hs3, HS2.out.2.2.1, fun j hj => hs3.cell HS2.out.2.2.1 (HS2.out.2.2.2 j hj)⟩
        clear hd3 hs3 HS2
        go_wp2
        go_roundw
        case rel => exact ⟨k + 1, _, by omega, by go_num, rfl, by simp only [ByteArray.size_append]; omega, HS3⟩
        case measure => simp [intOf]; omega
      · have hk0' : ¬ (0 : Int) < (k : Int) := by omega
        go_wp2_with fail
        refine (HPK.out _ HS.out.1 HS.out.2.2).mono ?_
        rintro e w3 ⟨y, rfl, hy, hd3, hs3⟩
        have HS3 : Hid (Drw w3 g ∧ Save g w w3 ∧ TextsAt w3 g B fieldsT) := ⟨hd3, HS.out.2.1.trans hs3, HS.out.2.2.1, fun j hj => hs3.cell HS.out.2.2.1 (HS.out.2.2.2 j hj)⟩
        clear hd3 hs3 HS
        go_wp2
        go_roundw
        case rel => exact ⟨k + 1, _, by omega, by go_num, rfl, by simp only [ByteArray.size_append]; omega, HS3⟩
        case measure => simp [intOf]; omega
    · go_wp2_with fail
      refine (below_any g 8 _ HS.out.1 (by decide) (by decide)).mono ?_
      rintro e w2 ⟨x, rfl, x0, x1, hd2, hs2⟩
      have HS2 : Hid (Save g w w2) := HS.out.2.1.trans hs2
      clear hs2 HS
      obtain rfl | rfl | hx : x = 0 ∨ x = 1 ∨ 1 < x := by omega
      · go_wp2_with fail
        refine (HBD.out _ _ rfl hd2).mono ?_
        rintro e w3 ⟨y, rfl, hy, hd3, hs3⟩
        go_wp2
        go_ret
        subst hB
        exact ⟨_, rfl, by omega, hd3, HS2.out.trans hs3⟩
      · go_wp2_with fail
        refine (l10Cron_any g _ hd2).mono ?_
        rintro e w3 ⟨ao, bo, co, d0, eo, l0, l1, l2, l3, l4, ac, bc, cc, dc, ec, a, b, c, d, e, rfl, ⟨⟨r0, r1, r2, r3, r4⟩, hcr⟩, hbl, hd3, hs3⟩
        have HCT : Hid (Calls Tryd.prog 20 #[.agg #[.slice ao l0 ac, .slice bo l1 bc, .slice co l2 cc, .slice d0 l3 dc, .slice eo l4 ec]] w3 fun x w' => x = .returned (.tuple #[.string (cronX a b c d e), .bool (cronB a b c d e)]) ∧ Below w3.heap.size w3 w') := by
          have hsh := cron_short hcr
          exact cronText_any _ _ _ _ _ a b c d e w3 r0 r1 r2 r3 r4 (by omega) (by omega) (by omega) (by omega) (by omega)
        have HSZ : Hid ((cronX a b c d e).size ≤ 1000) := cronX_size a b c d e
        obtain ⟨X, HX⟩ : ∃ X, Hid (cronX a b c d e = X) := ⟨_, rfl⟩
        rw [HX.out] at HCT HSZ
        have HS3 : Hid (Save g w w3) := HS2.out.trans hs3
        have HG3 : Hid (g < w3.heap.size) := hd3.lt
        clear r0 r1 r2 r3 r4 hcr hbl hs3 HX
        go_wp2_with fail
        refine HCT.out.mono ?_
        rintro e w4 ⟨rfl, hb4⟩
        have HD4 : Hid (Drw w4 g) := hd3.keep (hb4.mono HG3.out)
        have HS4 : Hid (Save g w w4) := HS3.out.below_on hb4 HS3.out.size
        clear hb4 hd3
        go_wp2
        go_ret
        subst hB
        exact ⟨_, rfl, by have := HSZ.out; omega, HD4.out, HS4.out⟩
      · have n0 : ¬ x = 0 := by omega
        have n1 : ¬ x = 1 := by omega
        go_wp2
        go_ret
        subst hB
        exact ⟨_, rfl, by omega, hd2, HS2.out⟩
set_option maxRecDepth 10000 in
set_option maxHeartbeats 2000000 in
theorem drawParse_any (v : Value) (n : Nat) (w : World) (hn : n ≤ 1048576) (hc : CodeAt w w.heap.size v n) :
    Calls Tryd.prog 18 #[v] w fun x w' => ∃ t : ByteArray, x = .returned (.string t) ∧ t.size ≤ 10001 ∧ Below w.heap.size w w' := by
  go_enter Tryd.func18, Tryd.ntmps18
  go_wp2_with fail
  refine (new_any v n _ hn hc).mono ?_
  rintro x w1 ⟨g, rfl, hg0, hd1, hb1⟩
  have HG : Hid (w.heap.size ≤ g) := hg0
  clear hg0
  go_wp2_with fail
  refine (l10Text_any g _ hd1).mono ?_
  rintro x w2 ⟨t, rfl, ht, hd2, hs2⟩
  have B2 : Below w.heap.size w w2 := hb1.trans (hs2.below HG.out hb1.size)
  clear hb1 hd1 hs2
  go_wp2_with fail
  refine (once_any g 8 _ hd2 (by decide) (by decide)).mono ?_
  rintro x w3 ⟨q, rfl, hd3, hs3⟩
  have B3 : Below w.heap.size w w3 := B2.trans (hs3.below HG.out B2.size)
  clear hd2 hs3 B2
  cases q with
  | false =>
    go_wp2
    go_ret
    exact ⟨_, rfl, by omega, B3⟩
  | true =>
    go_wp2_with fail
    refine (spoilt_any g t _ hd3 (by omega)).mono ?_
    rintro x w4 ⟨u, rfl, hu, hd4, hs4⟩
    have B4 : Below w.heap.size w w4 := B3.trans (hs4.below HG.out B3.size)
    go_wp2
    go_ret
    exact ⟨_, rfl, hu, B4⟩
end Go.Proofs.YtgeimliibddhmaaDoor
