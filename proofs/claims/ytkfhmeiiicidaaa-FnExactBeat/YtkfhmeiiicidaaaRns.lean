/-
  Rows of runs: what lies there and what it reads as; sizes, copies, held against each other: the walks of the law's helpers.
-/
import Derived.Test.YtkfhmeiiicidaaaDpr
import Derived.Test.YtkfhmeiiicidaaaRlh
import Derived.Test.YtkfhmeiiicidaaaTot
namespace Go.Proofs.Ytkfhmeiiicidaaa
open Go Go.RowKit
set_option linter.unusedVariables false

structure Rk where
  nm : ByteArray
  fr : Int
  up : Int
  ep : Int
  tv : Value
instance : Rec Rk := ⟨5, fun s => [.string s.nm, .int .i64 s.fr, .int .i64 s.up, .int .i64 s.ep, s.tv], fun _ => rfl, by decide⟩
instance : Inhabited Rk := ⟨⟨⟨#[]⟩, 0, 0, 0, .slice none 0 0⟩⟩
theorem rk_width : Rec.width Rk = 5 := rfl

/-- One run reads as a plain one. -/
structure OneRk (w : World) (k : Rk) (r : Rr) : Prop where
  nm : k.nm = r.nm
  fr : k.fr = r.fr
  up : k.up = r.up
  ep : k.ep = r.ep
  st : Reads w k.tv r.st
theorem oneRk_below : ∀ (w w' : World) (k : Rk) (t : Rr), OneRk w k t → Below w.heap.size w w' → OneRk w' k t := fun _ _ _ _ h hb => ⟨h.nm, h.fr, h.up, h.ep, h.st.below hb⟩
theorem reads_slice {α : Type} [Rec α] {w : World} {v : Value} {l : List α} (h : Reads w v l) : ∃ ao cap, v = .slice ao l.length cap := by
  obtain ⟨ao, cap, e, _⟩ := h
  exact ⟨ao, cap, e⟩
/-- The same, its states from a block on. -/
structure OneRkB (C : Nat) (w : World) (k : Rk) (r : Rr) : Prop where
  nm : k.nm = r.nm
  fr : k.fr = r.fr
  up : k.up = r.up
  ep : k.ep = r.ep
  st : Reads w k.tv r.st
  far : ∀ b o n c, k.tv = .slice (some ⟨b, o, none⟩) n c → C ≤ b
  room : Roomy k.tv
theorem OneRkB.one {C : Nat} {w : World} {k : Rk} {r : Rr} (h : OneRkB C w k r) : OneRk w k r := ⟨h.nm, h.fr, h.up, h.ep, h.st⟩
theorem keepsRk : Keeps OneRkB where
  up _ _ _ _ _ h hb := ⟨h.nm, h.fr, h.up, h.ep, h.st.below hb, h.far, h.room⟩
  hi _ _ _ _ _ h hs hW := ⟨h.nm, h.fr, h.up, h.ep, reads_hi h.st hs hW h.far, h.far, h.room⟩
  mono _ _ _ _ _ h hc := ⟨h.nm, h.fr, h.up, h.ep, h.st, fun b o n c e => Nat.le_trans hc (h.far b o n c e), h.room⟩
theorem rk_at {C : Nat} {w : World} {ao : Option Addr} {n cap : Nat} {l : List Rr} (h : DRow (OneRk) w (.slice ao n cap) l) {k : Nat} {x : Rr} (hk : l[k]? = some x) :
    ∃ b o tvx, ao = some ⟨b, o, none⟩ ∧ b < w.heap.size ∧ w.cell? ⟨b, o + k * 5, none⟩ = some (.string x.nm) ∧ w.cell? ⟨b, o + k * 5 + 1, none⟩ = some (.int .i64 x.fr) ∧ w.cell? ⟨b, o + k * 5 + 2, none⟩ = some (.int .i64 x.up) ∧ w.cell? ⟨b, o + k * 5 + 3, none⟩ = some (.int .i64 x.ep) ∧ w.cell? ⟨b, o + k * 5 + 4, none⟩ = some (tvx) ∧ Reads w tvx x.st := by
  obtain ⟨y, b, o, rfl, hlt, hc, ho⟩ := h.at hk
  refine ⟨b, o, y.tv, rfl, hlt, ?_, ?_, ?_, ?_, ?_, ho.st⟩
  · rw [← ho.nm]; exact hc 0 _ rfl
  · rw [← ho.fr]; exact hc 1 _ rfl
  · rw [← ho.up]; exact hc 2 _ rfl
  · rw [← ho.ep]; exact hc 3 _ rfl
  · exact hc 4 _ rfl
theorem rk_atB {C : Nat} {w : World} {ao : Option Addr} {n cap : Nat} {l : List Rr} (h : DRow (OneRkB C) w (.slice ao n cap) l) {k : Nat} {x : Rr} (hk : l[k]? = some x) :
    ∃ b o tvx, ao = some ⟨b, o, none⟩ ∧ b < w.heap.size ∧ w.cell? ⟨b, o + k * 5, none⟩ = some (.string x.nm) ∧ w.cell? ⟨b, o + k * 5 + 1, none⟩ = some (.int .i64 x.fr) ∧ w.cell? ⟨b, o + k * 5 + 2, none⟩ = some (.int .i64 x.up) ∧ w.cell? ⟨b, o + k * 5 + 3, none⟩ = some (.int .i64 x.ep) ∧ w.cell? ⟨b, o + k * 5 + 4, none⟩ = some (tvx) ∧ Reads w tvx x.st ∧ Roomy tvx := by
  obtain ⟨y, b, o, rfl, hlt, hc, ho⟩ := h.at hk
  refine ⟨b, o, y.tv, rfl, hlt, ?_, ?_, ?_, ?_, ?_, ⟨ho.st, ho.room⟩⟩
  · rw [← ho.nm]; exact hc 0 _ rfl
  · rw [← ho.fr]; exact hc 1 _ rfl
  · rw [← ho.up]; exact hc 2 _ rfl
  · rw [← ho.ep]; exact hc 3 _ rfl
  · exact hc 4 _ rfl
theorem infoRk : (Try.prog.info? 52).map (fun i => (i.zero, i.size, i.bytes)) = some (some (.agg #[.string ⟨#[]⟩, .int .i64 0, .int .i64 0, .int .i64 0, .slice none 0 0]), 5, 64) := by kernel_rfl
theorem underRk : Try.prog.underlying 30 = some (.slice 52) := by kernel_rfl
theorem madeRk (n : Nat) : (madeCells (Value.cells (.agg #[.string ⟨#[]⟩, .int .i64 0, .int .i64 0, .int .i64 0, .slice none 0 0])) (n * 5)).toList = (List.replicate n (default : Rk)).flatMap Rec.cells := by
  apply List.ext_getElem?
  intro m
  have hm := Nat.div_add_mod m 5
  have h3 : m % 5 < 5 := Nat.mod_lt _ (by decide)
  have e := flat_at (List.replicate n (default : Rk)) (m / 5) (m % 5) h3
  rw [rk_width, show m / 5 * 5 + m % 5 = m by omega] at e
  rw [e]
  simp only [madeCells, Value.cells, Array.toList_map, Array.toList_range, List.getElem?_map, List.getElem?_replicate]
  by_cases hlt : m / 5 < n
  · rw [if_pos hlt, List.getElem?_range (by omega)]
    match hx : m % 5, h3 with
    | 0, _ => simp [hx]; rfl
    | 1, _ => simp [hx]; rfl
    | 2, _ => simp [hx]; rfl
    | 3, _ => simp [hx]; rfl
    | 4, _ => simp [hx]; rfl
  · rw [if_neg hlt, List.getElem?_eq_none (by simp; omega)]
    rfl
/-- The stores of a whole record. -/
abbrev putRk (w : World) (g i : Nat) (f : Rk) : World := ((((w.setCell ⟨g, i * 5, none⟩ (.string f.nm)).setCell ⟨g, i * 5 + 1, none⟩ (.int .i64 f.fr)).setCell ⟨g, i * 5 + 2, none⟩ (.int .i64 f.up)).setCell ⟨g, i * 5 + 3, none⟩ (.int .i64 f.ep)).setCell ⟨g, i * 5 + 4, none⟩ (f.tv)
theorem rk_put {w : World} {B : Nat} {g n cap : Nat} {l : List Rk} (h : ownsR w B 52 (.slice (some ⟨g, 0, none⟩) n cap) l) {i : Nat} {y : Rk} (f : Rk) (hi : l[i]? = some y) :
    ownsR (putRk w g i f) B 52 (.slice (some ⟨g, 0, none⟩) n cap) (l.set i f) := by
  have hil : i < l.length := (List.getElem?_eq_some_iff.1 hi).1
  have h1 := h.put (j := 0) (u := .string f.nm) { y with nm := f.nm } hi (by decide) rfl
  have h2 := h1.put (i := i) (j := 1) (u := .int .i64 f.fr) { y with nm := f.nm, fr := f.fr } (List.getElem?_set_self (by simpa using hil)) (by decide) rfl
  have h3 := h2.put (i := i) (j := 2) (u := .int .i64 f.up) { y with nm := f.nm, fr := f.fr, up := f.up } (List.getElem?_set_self (by simpa using hil)) (by decide) rfl
  have h4 := h3.put (i := i) (j := 3) (u := .int .i64 f.ep) { y with nm := f.nm, fr := f.fr, up := f.up, ep := f.ep } (List.getElem?_set_self (by simpa using hil)) (by decide) rfl
  have h5 := h4.put (i := i) (j := 4) (u := f.tv) f (List.getElem?_set_self (by simpa using hil)) (by decide) rfl
  simpa only [rk_width, Nat.add_zero, List.set_set] using h5
theorem putRk_other (w : World) (g i : Nat) (f : Rk) {k : Nat} (hk : k ≠ g) : (putRk w g i f).heap[k]? = w.heap[k]? := by
  unfold putRk
  rw [heap_setCell_other _ ⟨g, i * 5 + 4, none⟩ k _ hk, heap_setCell_other _ ⟨g, i * 5 + 3, none⟩ k _ hk, heap_setCell_other _ ⟨g, i * 5 + 2, none⟩ k _ hk, heap_setCell_other _ ⟨g, i * 5 + 1, none⟩ k _ hk, heap_setCell_other _ ⟨g, i * 5, none⟩ k _ hk]
theorem putRk_size (w : World) (g i : Nat) (f : Rk) : (putRk w g i f).heap.size = w.heap.size := by simp [putRk]
theorem below_putRk {B : Nat} {V w : World} {g : Nat} (h : Below B V w) (hb : B ≤ g) (i : Nat) (f : Rk) : Below B V (putRk w g i f) :=
  Below.setCell (Below.setCell (Below.setCell (Below.setCell (Below.setCell h hb _) hb _) hb _) hb _) hb _
/-- A run that came in. -/
structure FitR (r : Rr) : Prop where
  nm : r.nm.size ≤ maxLen
  few : r.st.length ≤ maxLen
/-- What a run weighs at most. -/
def WeiR (r : Rr) (L : Int) : Prop := (r.nm.size : Int) ≤ L ∧ (r.st.length : Int) ≤ L
theorem WeiR.more {r : Rr} {C L : Int} (h : WeiR r C) (hc : C ≤ L) : WeiR r L := ⟨Int.le_trans h.1 hc, Int.le_trans h.2 hc⟩
set_option maxRecDepth 10000 in
set_option maxHeartbeats 2000000 in
theorem szRunW_any (ao : Option Addr) (n cap : Nat) (nm : ByteArray) (fr up ep left : Int) (w : World) (hl : left ≤ 1048576) (h0 : 0 ≤ left) (hn : n ≤ 9223372036854775807) (hz : nm.size ≤ 9223372036854775807) :
    Calls Try.prog 42 #[.agg #[.string nm, .int .i64 fr, .int .i64 up, .int .i64 ep, .slice ao n cap], .int .i64 left] w fun e w' => ∃ r : Int, e = .returned (.int .i64 r) ∧ r ≤ left ∧ -1 ≤ r ∧ (0 ≤ r → (nm.size : Int) ≤ left ∧ (n : Int) ≤ left) ∧ Below w.heap.size w w' := by
  obtain ⟨W1, hW1⟩ : ∃ W1, w.alloc (.cells #[.string nm, .int .i64 fr, .int .i64 up, .int .i64 ep, .slice ao n cap] 90) = W1 := ⟨_, rfl⟩
  have Z1 : K5 W1 w.heap.size nm fr up ep (.slice ao n cap) := by rw [← hW1]; exact K5.new _ _ _ _ _ _
  have B1 : Below w.heap.size w W1 := by rw [← hW1]; exact ba (Below.refl _ _) _
  have c0 := Z1.c0
  have c4 := Z1.c4
  by_cases h1 : left - nm.size < 0
  · go_enter Try.func42, Try.ntmps42
    go_wp2
    go_ret
    exact ⟨_, rfl, by omega, by decide, fun h => absurd h (by decide), B1⟩
  · have HS : Hid (∀ W, Calls Try.prog 64 #[.slice ao n cap, .int .i64 (left - nm.size)] W fun e w' => ∃ r : Int, e = .returned (.int .i64 r) ∧ (r = -1 ∨ 0 ≤ r ∧ r = left - nm.size - n) ∧ w' = W) := fun W => szStateS_any ao n cap _ W (by omega) (by omega) hn
    go_enter Try.func42, Try.ntmps42
    go_wp2_with fail
    refine (HS.out _).mono ?_
    rintro e w2 ⟨r, rfl, hr, hw⟩
    have hw2 := hw.symm
    subst hw2
    have HR : Hid (r = -1 ∨ 0 ≤ r ∧ r = left - nm.size - n) := hr
    clear hr
    by_cases hneg : r < 0
    · go_wp2
      go_ret
      exact ⟨_, rfl, by omega, by decide, fun h => absurd h (by decide), B1⟩
    · go_wp2
      go_ret
      exact ⟨r, rfl, by have := HR.out; omega, by omega, fun h => by have := HR.out; omega, B1⟩
set_option maxRecDepth 10000 in
set_option maxHeartbeats 2000000 in
theorem szRunS_any (ao : Option Addr) (n cap : Nat) (l : List Rr) (L : Int) (w : World) (hr : DRow OneRk w (.slice ao n cap) l) (hn : n ≤ maxLen) (hf : ∀ x ∈ l, FitR x) (h0 : 0 ≤ L) (h1 : L ≤ 1048576) :
    Calls Try.prog 16 #[.slice ao n cap, .int .i64 L] w fun e w' => ∃ r : Int, e = .returned (.int .i64 r) ∧ r ≤ L ∧ -1 ≤ r ∧ (0 ≤ r → (l.length : Int) ≤ L ∧ ∀ x ∈ l, WeiR x L) ∧ Below w.heap.size w w' := by
  unfold maxLen at hn
  have HN : Hid (l.length = n) := hr.len
  have HR : Hid (∀ W, Below w.heap.size w W → DRow OneRk W (.slice ao n cap) l) := fun W hb => hr.below oneRk_below hb
  have HF : Hid (∀ x ∈ l, FitR x) := hf
  clear hr hf
  by_cases hlt : L - n < 0
  · go_enter Try.func16, Try.ntmps16
    go_wp2
    go_ret
    exact ⟨_, rfl, by omega, by omega, fun h => by omega, Below.refl _ _⟩
  · have hge : 0 ≤ L - n := by omega
    go_enter Try.func16, Try.ntmps16
    go_wp2
    go_loopw [1, 5] (fun c i wr => ∃ (k : Nat) (C : Int), k ≤ n ∧ i = .int .i64 k ∧ c = .int .i64 C ∧ 0 ≤ C ∧ C ≤ L - n ∧ Hid (∀ j t, j < k → l[j]? = some t → WeiR t L) ∧ Below w.heap.size w wr) (fun _ i _ => n - (intOf i).toNat)
    case atStart => exact ⟨0, L - n, Nat.zero_le _, rfl, rfl, hge, Int.le_refl _, fun j s hj => by omega, Below.refl _ _⟩
    case round =>
      obtain ⟨k, C, hk, rfl, rfl, hC0, hC1, HE, hbel⟩ := hrel
      by_cases hkn : k < n
      · obtain ⟨t, ht⟩ : ∃ t, l[k]? = some t := ⟨_, List.getElem?_eq_getElem (by rw [HN.out]; exact hkn)⟩
        obtain ⟨b', o, av, rfl, hb, c0, c1, c2, c3, c4, hav⟩ := rk_at (C := 0) (HR.out wr hbel) ht
        have hft := HF.out t (List.mem_of_getElem? ht)
        have HE2 : Hid (WeiR t L → ∀ j u, j < k + 1 → l[j]? = some u → WeiR u L) := fun hw j u hj hu => by
          by_cases e : j = k
          · subst e; rw [ht] at hu; cases hu; exact hw
          · exact HE.out j u (by omega) hu
        obtain ⟨fo, fc, rfl⟩ := reads_slice hav
        obtain ⟨m, HM⟩ : ∃ m, Hid (t.st.length = m) := ⟨_, rfl⟩
        rw [HM.out] at hav c4
        have HC : Hid (Calls Try.prog 42 #[.agg #[.string t.nm, .int .i64 t.fr, .int .i64 t.up, .int .i64 t.ep, .slice fo m fc], .int .i64 C] wr fun e w' => ∃ r : Int, e = .returned (.int .i64 r) ∧ r ≤ C ∧ -1 ≤ r ∧ (0 ≤ r → WeiR t L) ∧ Below wr.heap.size wr w') :=
          Calls.mono (szRunW_any fo m fc t.nm t.fr t.up t.ep C wr (by omega) hC0 (by have := hft.few; rw [HM.out] at this; exact this) hft.nm) (fun e w' ⟨r, h1, h2, h3, h4, h5⟩ => ⟨r, h1, h2, h3, fun h => by obtain ⟨y1, y2⟩ := h4 h; exact ⟨by omega, by rw [HM.out]; omega⟩, h5⟩)
        clear ht HE hav hft HR
        go_wp2_with fail
        refine HC.out.mono ?_
        rintro e w1 ⟨r, rfl, hr1, hr2, hr3, hb1⟩
        have HR3 : Hid (0 ≤ r → WeiR t L) := hr3
        have hbel2 := Below.on hbel hb1
        clear hr3 hbel hb1 HC
        by_cases hd : r < 0
        · go_wp2
          go_ret
          exact ⟨_, rfl, by omega, by omega, fun h => by omega, hbel2⟩
        · have hd2 : 0 ≤ r := by omega
          have HE3 := HE2.out (HR3.out hd2)
          go_wp2
          go_roundw
          case rel => exact ⟨k + 1, r, by omega, by go_num, rfl, hd2, by omega, HE3, hbel2⟩
          case measure => simp [intOf]; omega
      · go_wp2
        go_ret
        refine ⟨_, rfl, by omega, by omega, fun _ => ⟨by rw [HN.out]; omega, fun t ht => ?_⟩, hbel⟩
        obtain ⟨j, hj, rfl⟩ := List.getElem_of_mem ht
        exact HE.out j _ (by rw [HN.out] at hj; omega) (List.getElem?_eq_getElem hj)
/-- A run made anew, as a row wants it. -/
theorem toRunB_any (ao : Option Addr) (n cap : Nat) (r : Rr) (w : World) (hr : Reads w (.slice ao n cap) r.st) (hn : n ≤ 1048576) (hl : r.st.length = n) :
    Calls Try.prog 47 #[.agg #[.string r.nm, .int .i64 r.fr, .int .i64 r.up, .int .i64 r.ep, .slice ao n cap]] w fun e w' => ∃ (va : Option Addr) (vc : Nat), e = .returned (.agg #[.string r.nm, .int .i64 r.fr, .int .i64 r.up, .int .i64 r.ep, .slice va n vc]) ∧ OneRkB w.heap.size w' ⟨r.nm, r.fr, r.up, r.ep, .slice va n vc⟩ r ∧ Below w.heap.size w w' :=
  (toRun_any ao n cap r.nm r.fr r.up r.ep r.st w hr hn).mono fun e w' ⟨v, he, ho, hb⟩ => by
    obtain ⟨va, vc, ev, hc⟩ := ho.cap
    rw [hl] at ev hc
    subst ev
    exact ⟨va, vc, he, ⟨rfl, rfl, rfl, rfl, ho.reads, fun b o n c e => by
      have e' : Value.slice va r.st.length vc = .slice (some ⟨b, o, none⟩) n c := by rw [hl]; exact e
      rcases ho.2 with ⟨h1, h2⟩ | ⟨g, cap, cur, h1, hg, _⟩
      · rw [hl] at e'; rw [e'] at h1; cases h1
      · rw [hl] at e'; rw [e'] at h1; injection h1 with h1 _ _; injection h1 with h1; injection h1 with h1 _ _; omega, fun a n' c' e => by injection e with _ e2 e3; omega⟩, hb⟩

set_option maxRecDepth 10000 in
set_option maxHeartbeats 4000000 in
theorem toRunS_any (ao : Option Addr) (n cap : Nat) (l : List Rr) (w : World) (hr : DRow OneRk w (.slice ao n cap) l) (hn : n ≤ 1048576) (ha : ∀ x ∈ l, x.st.length ≤ 1048576) :
    Calls Try.prog 21 #[.slice ao n cap] w fun e w' => e = .returned (.slice (some ⟨w.heap.size, 0, none⟩) n n) ∧ DRowB OneRkB w.heap.size w' (.slice (some ⟨w.heap.size, 0, none⟩) n n) l ∧ Below w.heap.size w w' := by
  obtain ⟨i0, hi0, hz0, hz1, hz2⟩ := info_parts infoRk
  have HN : Hid (l.length = n) := hr.len
  have HR : Hid (∀ W, Below w.heap.size w W → DRow OneRk W (.slice ao n cap) l) := fun W hb => hr.below oneRk_below hb
  have HA : Hid (∀ x ∈ l, x.st.length ≤ 1048576) := ha
  clear hr ha
  go_enter Try.func21, Try.ntmps21
  go_wp2_with (at_make; refine wpList_make_full _ rfl _ _ 30 rfl w.heap.size 52 i0 _ 5 underRk hi0 hz0 hz1 .i64 .i64 _ _ n rfl rfl rfl rfl (by rw [hz2]; omega) (by unfold maxLen; omega) (Nat.le_refl _) ?_; intro w1 ho hg)
  rw [madeRk] at ho
  have hS : OnWay OneRkB 52 w w.heap.size n l 0 (List.replicate n default) w1 := by
    refine OnWay.start ?_ ((Below.refl _ w).grown hg (Nat.le_refl _) (fun j hj => by cases hj))
    unfold ownsR
    rw [List.length_replicate]
    exact ho
  clear ho hg
  generalize hB : w.heap.size = B at *
  go_loopw [4] (fun i wr => ∃ (k : Nat) (ks : List Rk), k ≤ n ∧ i = .int .i64 k ∧ Hid (OnWay OneRkB 52 w B n l k ks wr)) (fun i _ => n - (intOf i).toNat)
  case atStart => exact ⟨0, _, Nat.zero_le _, rfl, hS⟩
  case round =>
    clear hS
    obtain ⟨k, ks, hk, rfl, HS⟩ := hrel
    by_cases hlt : k < n
    · obtain ⟨t, ht⟩ : ∃ t, l[k]? = some t := ⟨_, List.getElem?_eq_getElem (by rw [HN.out]; exact hlt)⟩
      have HT : Hid (l[k]? = some t) := ht
      obtain ⟨b', o, av, rfl, hb, c0, c1, c2, c3, c4, hav⟩ := rk_at (C := 0) (HR.out wr (hB ▸ HS.out.bel)) ht
      obtain ⟨fo, fc, rfl⟩ := reads_slice hav
      obtain ⟨m, HM⟩ : ∃ m, Hid (t.st.length = m) := ⟨_, rfl⟩
      have hA := HA.out t (List.mem_of_getElem? ht)
      rw [HM.out] at hav c4
      have HC := (show Hid (Calls Try.prog 47 #[.agg #[.string t.nm, .int .i64 t.fr, .int .i64 t.up, .int .i64 t.ep, .slice fo m fc]] wr fun e w' => ∃ (va : Option Addr) (vc : Nat), e = .returned (.agg #[.string t.nm, .int .i64 t.fr, .int .i64 t.up, .int .i64 t.ep, .slice va m vc]) ∧ OneRkB wr.heap.size w' ⟨t.nm, t.fr, t.up, t.ep, .slice va m vc⟩ t ∧ Below wr.heap.size wr w') from toRunB_any fo m fc t wr hav (by rw [← HM.out]; exact hA) HM.out)
      clear ht hav hA
      obtain ⟨hgs, -, -, _⟩ := HS.out.own.at (HS.out.rest k (Nat.le_refl _) hlt)
      go_wp2_with fail
      refine HC.out.mono ?_
      rintro e w2 ⟨g, gc, rfl, hone, hb2⟩
      have HS2 : Hid (OnWay OneRkB 52 w B n l k ks w2) := HS.out.up keepsRk hb2
      have hwr : B + 1 ≤ wr.heap.size := by omega
      have HP : Hid (OnWay OneRkB 52 w B n l (k + 1) (ks.set k ⟨t.nm, t.fr, t.up, t.ep, .slice g m gc⟩) (putRk w2 B k ⟨t.nm, t.fr, t.up, t.ep, .slice g m gc⟩)) :=
        HS2.out.put keepsRk hlt HT.out _ (keepsRk.mono _ _ _ _ _ hone hwr) (rk_put HS2.out.own _ (HS2.out.rest k (Nat.le_refl _) hlt)) (Nat.le_of_eq (putRk_size _ _ _ _).symm) (fun j hj => putRk_other _ _ _ _ hj) (below_putRk HS2.out.bel (Nat.le_refl _) _ _)
      obtain ⟨hgs2, -, -, hat⟩ := HS2.out.own.at (HS2.out.rest k (Nat.le_refl _) hlt)
      have d0 : w2.cell? ⟨B, k * 5, none⟩ = some (.string ⟨#[]⟩) := (hat 0 (by decide)).1
      have f0 : w2.frozen? ⟨B, k * 5, none⟩ = false := (hat 0 (by decide)).2
      have d1 : w2.cell? ⟨B, k * 5 + 1, none⟩ = some (.int .i64 0) := (hat 1 (by decide)).1
      have f1 : w2.frozen? ⟨B, k * 5 + 1, none⟩ = false := (hat 1 (by decide)).2
      have d2 : w2.cell? ⟨B, k * 5 + 2, none⟩ = some (.int .i64 0) := (hat 2 (by decide)).1
      have f2 : w2.frozen? ⟨B, k * 5 + 2, none⟩ = false := (hat 2 (by decide)).2
      have d3 : w2.cell? ⟨B, k * 5 + 3, none⟩ = some (.int .i64 0) := (hat 3 (by decide)).1
      have f3 : w2.frozen? ⟨B, k * 5 + 3, none⟩ = false := (hat 3 (by decide)).2
      have d4 : w2.cell? ⟨B, k * 5 + 4, none⟩ = some (.slice none 0 0) := (hat 4 (by decide)).1
      have f4 : w2.frozen? ⟨B, k * 5 + 4, none⟩ = false := (hat 4 (by decide)).2
      clear hat HS HS2 HC hone hb2 c0 c1 c2 c3 c4
      go_wp2
      go_roundw
      case rel => exact ⟨k + 1, _, by omega, by go_num, HP⟩
      case measure => simp [intOf]; omega
    · have hkn : k = n := by omega
      subst hkn
      go_wp2
      go_ret
      subst hB
      exact ⟨rfl, HS.out.all keepsRk HN.out, HS.out.bel⟩

set_option maxRecDepth 10000 in
set_option maxHeartbeats 2000000 in
theorem eqRunS_any (ao bo : Option Addr) (n c d : Nat) (l : List Rr) (w : World) (ha : DRow OneRk w (.slice ao n c) l) (hb : DRow OneRk w (.slice bo n d) l) (hn : n ≤ 1048577) (hs : ∀ x ∈ l, x.st.length ≤ 1048577) :
    Calls Try.prog 26 #[.slice ao n c, .slice bo n d] w fun e w' => e = .returned (.bool true) ∧ Below w.heap.size w w' := by
  have HN : Hid (l.length = n) := ha.len
  have HA : Hid (DRow OneRk w (.slice ao n c) l) := ha
  have HB : Hid (DRow OneRk w (.slice bo n d) l) := hb
  have HS : Hid (∀ x ∈ l, x.st.length ≤ 1048577) := hs
  clear ha hb hs
  go_enter Try.func26, Try.ntmps26
  go_wp2
  go_loopw [5] (fun i wr => ∃ k : Nat, k ≤ n ∧ i = .int .i64 k ∧ Below w.heap.size w wr) (fun i _ => n - (intOf i).toNat)
  case atStart => exact ⟨0, Nat.zero_le _, rfl, Below.refl _ _⟩
  case round =>
    obtain ⟨k, hk, rfl, hbel⟩ := hrel
    by_cases hlt : k < n
    · obtain ⟨t, ht⟩ : ∃ t, l[k]? = some t := ⟨_, List.getElem?_eq_getElem (by rw [HN.out]; exact hlt)⟩
      obtain ⟨a, oa, av, rfl, hga, a0, a1, a2, a3, a4, hav⟩ := rk_at (C := 0) (HA.out.below oneRk_below hbel) ht
      obtain ⟨b, ob, bv, rfl, hgb, b0, b1, b2, b3, b4, hbv⟩ := rk_at (C := 0) (HB.out.below oneRk_below hbel) ht
      obtain ⟨fo, fc, rfl⟩ := reads_slice hav
      obtain ⟨ho, hc, rfl⟩ := reads_slice hbv
      have hm0 := HS.out t (List.mem_of_getElem? ht)
      obtain ⟨m, HM⟩ : ∃ m, Hid (t.st.length = m) := ⟨_, rfl⟩
      rw [HM.out] at hav hbv a4 b4 hm0
      have H1 : Hid (∀ x : Wd wr, Calls Try.prog 54 #[.agg #[.string t.nm, .int .i64 t.fr, .int .i64 t.up, .int .i64 t.ep, .slice fo m fc], .agg #[.string t.nm, .int .i64 t.fr, .int .i64 t.up, .int .i64 t.ep, .slice ho m hc]] x.at' fun e w' => e = .returned (.bool true) ∧ Below x.at'.heap.size x.at' w') := fun x => eqRun_any _ _ _ _ _ t.nm t.fr t.up t.ep t.st x.at' (hav.below x.ok) (hbv.below x.ok) hm0
      clear ht hav hbv
      have q0 := Wd.cell a0
      have q1 := Wd.cell a1
      have q2 := Wd.cell a2
      have q3 := Wd.cell a3
      have q4 := Wd.cell a4
      have r0 := Wd.cell b0
      have r1 := Wd.cell b1
      have r2 := Wd.cell b2
      have r3 := Wd.cell b3
      have r4 := Wd.cell b4
      go_wp2
      refine wp_region_wd (by kernel_rfl) (by kernel_rfl) ?_
      repeat (go_big_quiet_step ((go_at_call 54; refine calls_wd (v := .bool true) ?_; with_reducible exact H1.out _)))
      refine wpQuiet_nil ?_
      rintro _ ⟨x, rfl⟩
      have BX := Below.on hbel x.ok
      clear q0 r0 a0 b0 q1 r1 a1 b1 q2 r2 a2 b2 q3 r3 a3 b3 q4 r4 a4 b4 H1
      go_wp2
      go_roundw
      case rel => exact ⟨k + 1, by omega, by go_num, BX⟩
      case measure => simp [intOf]; omega
    · go_wp2
      go_ret
      exact ⟨rfl, hbel⟩
end Go.Proofs.Ytkfhmeiiicidaaa
