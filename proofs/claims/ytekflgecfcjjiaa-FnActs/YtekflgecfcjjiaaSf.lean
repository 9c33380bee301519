/-
  Files behind pointers in a map: what the map and the memory say together; the acts on them: the walks.
-/
import Derived.Test.YtekflgecfcjjiaaAc
import Derived.Test.YtekflgecfcjjiaaMx
import Derived.Maps.OwnSet
namespace Go.Proofs.Ytekflgecfcjjiaa
open Go Go.RowKit Go.Maps

/-- How a pointer in the map reads: the number of its block. -/
def ptrR : Value → Option (DataW Unit × List MemPlace)
  | .pointer none => some (.lit (.int .i64 (-1)), [])
  | .pointer (some ⟨b, 0, none⟩) => some (.lit (.int .i64 (b : Int)), [])
  | _ => none
theorem ptrR_inv {v : Value} {x : Int} {ps : List MemPlace} (h : ptrR v = some (.lit (.int .i64 x), ps)) : (x = -1 ∧ v = .pointer none) ∨ ∃ b : Nat, x = (b : Int) ∧ v = .pointer (some ⟨b, 0, none⟩) := by
  unfold ptrR at h
  split at h
  · simp at h; exact .inl ⟨h.1.symm, rfl⟩
  · simp at h; exact .inr ⟨_, h.1.symm, rfl⟩
  · cases h

def keyP (p : Nat × Fl) : List UInt8 := p.2.key
abbrev putP := putK keyP
abbrev delP := delK keyP
def findP (fs : List (Nat × Fl)) (s : ByteArray) : Option (Nat × Fl) := fs.find? fun p => keyP p == s.data.toList

/-- A file's three cells. -/
def CellsAt (w : World) (b : Nat) (f : Fl) : Prop :=
  (w.cell? ⟨b, 0, none⟩ = some (.string f.name) ∧ w.cell? ⟨b, 1, none⟩ = some (.string f.text) ∧ w.cell? ⟨b, 2, none⟩ = some (.int .i64 f.kept)) ∧
  w.frozen? ⟨b, 0, none⟩ = false ∧ w.frozen? ⟨b, 1, none⟩ = false ∧ w.frozen? ⟨b, 2, none⟩ = false
def Rel (D : DataW Unit) (fs : List (Nat × Fl)) : Prop :=
  (∀ s, has D (.string s) = fs.any (fun p => keyP p == s)) ∧ (∀ p ∈ fs, ∀ z, D.atKey (.string (keyP p)) z = .lit (.int .i64 (p.1 : Int))) ∧ size D = fs.length
/-- In w the map M holds these files, all from block B on. -/
def ShIs (w : World) (M B : Nat) (fs : List (Nat × Fl)) : Prop :=
  (∃ D, w.ownsMap Try.prog 9 ptrR M fs.length D ∧ Rel D fs) ∧ Asc keyP fs ∧ (∀ p ∈ fs, B ≤ p.1 ∧ p.1 ≠ M ∧ CellsAt w p.1 p.2) ∧ (∀ p ∈ fs, ∀ q ∈ fs, p.1 = q.1 → p = q) ∧ B ≤ M

theorem law9 : Keyed Try.prog 9 := string_keyed Try.underlying9
theorem under85 : Try.prog.underlying 85 = some (.map 9 109) := by kernel_rfl
theorem zero109 (w : World) : (zeroValue 109).run Try.prog w = .ok (.pointer none) w := by kernel_rfl
theorem key9 {s : ByteArray} (hs : s.size ≤ 9223372036854775807) : keyOf Try.prog 9 (.string s) = some (.string s.data.toList) := WideMaps.keyOf_string_mk Try.underlying9 hs
theorem litKey (s : List UInt8) : WideAt.IsKeyLit (.string s) := trivial
theorem lit_ne {s t : List UInt8} (h : s ≠ t) : (Lit.string s) ≠ .string t := fun e => h (by injection e)

theorem own_exact {w : World} {M n : Nat} {D : DataW Unit} (h : w.ownsMap Try.prog 9 ptrR M n D) : w.ownsMap Try.prog 9 ptrR M (size D) D := by
  obtain ⟨es, clock, hb, F, hs, rfl⟩ := h
  refine ⟨es, clock, hb, F, ?_, rfl⟩
  rw [size_eq, length_sorted]
  simp

theorem findP_some {fs : List (Nat × Fl)} {s : ByteArray} {p : Nat × Fl} (h : findP fs s = some p) : p ∈ fs ∧ keyP p = s.data.toList := by
  unfold findP at h
  exact ⟨List.mem_of_find?_eq_some h, by simpa using List.find?_some h⟩
theorem findP_none {fs : List (Nat × Fl)} {s : ByteArray} (h : findP fs s = none) : fs.any (fun p => keyP p == s.data.toList) = false := by
  unfold findP at h
  rw [List.find?_eq_none] at h
  rw [List.any_eq_false]
  exact h

def ptrOf : Option (Nat × Fl) → Value
  | none => .pointer none
  | some p => .pointer (some ⟨p.1, 0, none⟩)

theorem sh_look {w : World} {M B : Nat} {fs : List (Nat × Fl)} {s : ByteArray} (h : ShIs w M B fs) (hs : s.size ≤ 9223372036854775807) :
    (Instr.lookup 85 (.map (some M)) (.string s) false).run Try.prog w = .ok (ptrOf (findP fs s)) w := by
  obtain ⟨⟨D, hown, h1, h2, h3⟩, _⟩ := h
  obtain ⟨v, ps, hrun, hv⟩ := hown.lookup law9 under85 (zero109 w) (show ptrR (.pointer none) = some (.lit (.int .i64 (-1)), []) from rfl) (key9 hs)
  rw [hrun]
  refine congrArg (fun x => Result.ok x w) ?_
  cases hf : findP fs s with
  | none =>
    have hno := findP_none hf
    rw [← h1] at hno
    rw [atKey_of_not_has hno] at hv
    rcases ptrR_inv hv with ⟨_, e⟩ | ⟨b, e, _⟩
    · exact e
    · omega
  | some p =>
    obtain ⟨hp, hk⟩ := findP_some hf
    have := h2 p hp (.lit (.int .i64 (-1)))
    rw [hk] at this
    rw [this] at hv
    rcases ptrR_inv hv with ⟨e, _⟩ | ⟨b, e, e2⟩
    · omega
    · have : p.1 = b := by omega
      rw [e2, ← this]
      rfl

theorem Rel.put {D : DataW Unit} {fs : List (Nat × Fl)} (h : Rel D fs) (ha : Asc keyP fs) (ht : Tidy D) (p : Nat × Fl) : Rel (D.put (.string (keyP p)) (.lit (.int .i64 (p.1 : Int)))) (putP fs p) := by
  obtain ⟨h1, h2, h3⟩ := h
  refine ⟨fun s => ?_, fun q hq z => ?_, ?_⟩
  · rw [any_put]
    by_cases hs : s = keyP p
    · subst hs
      rw [has_put_same ht.isMap (litKey _)]
      simp
    · rw [has_put_other (lit_ne hs), h1]
      have : (keyP p == s) = false := by simpa using fun e => hs e.symm
      rw [this, Bool.false_or]
  · rcases mem_put.1 hq with rfl | ⟨hq, hne⟩
    · exact atKey_put_same ht.isMap (litKey _) _ _
    · rw [atKey_put_other (lit_ne hne)]
      exact h2 q hq z
  · rw [size_put ht, length_put ha, h1, h3]
theorem Rel.del {D : DataW Unit} {fs : List (Nat × Fl)} (h : Rel D fs) (ha : Asc keyP fs) (ht : Tidy D) (s : List UInt8) : Rel (D.del (.string s)) (delP fs s) := by
  obtain ⟨h1, h2, h3⟩ := h
  refine ⟨fun t => ?_, fun q hq z => ?_, ?_⟩
  · rw [any_del]
    by_cases hs : t = s
    · subst hs
      rw [has_del_same]
      simp
    · rw [has_del_other (lit_ne hs), h1]
      simp [hs]
  · obtain ⟨hq, hne⟩ := mem_del.1 hq
    rw [atKey_del_other (lit_ne hne)]
    exact h2 q hq z
  · have e1 := size_del (k := .string s) ht
    have e2 := length_del ha s
    rw [h1, h3] at e1
    exact Nat.add_right_cancel (e1.trans e2.symm)

theorem CellsAt.grown {w w' : World} {b : Nat} {f : Fl} {r : Option Nat} (h : CellsAt w b f) (hg : w.grownBy w' r) (hne : some b ≠ r) : CellsAt w' b f := by
  obtain ⟨⟨c0, c1, c2⟩, f0, f1, f2⟩ := h
  have hb : b < w.heap.size := World.block_lt_of_cell? w ⟨b, 0, none⟩ c0
  have e := hg.block b hb hne
  exact ⟨⟨(World.cell?_of_block (a := ⟨b, 0, none⟩) e).trans c0, (World.cell?_of_block (a := ⟨b, 1, none⟩) e).trans c1, (World.cell?_of_block (a := ⟨b, 2, none⟩) e).trans c2⟩, (World.frozen?_of_block (a := ⟨b, 0, none⟩) e).trans f0, (World.frozen?_of_block (a := ⟨b, 1, none⟩) e).trans f1, (World.frozen?_of_block (a := ⟨b, 2, none⟩) e).trans f2⟩
theorem CellsAt.lt {w : World} {b : Nat} {f : Fl} (h : CellsAt w b f) : b < w.heap.size := World.block_lt_of_cell? w ⟨b, 0, none⟩ h.1.1

theorem ShIs.lt {w : World} {M B : Nat} {fs : List (Nat × Fl)} (h : ShIs w M B fs) : M < w.heap.size := by
  obtain ⟨⟨D, hown, _⟩, _⟩ := h
  exact hown.lt
/-- While nothing that lay there is turned. -/
theorem ShIs.below {w w' : World} {M B : Nat} {fs : List (Nat × Fl)} (h : ShIs w M B fs) (hb : Below w.heap.size w w') : ShIs w' M B fs := by
  obtain ⟨⟨D, hown, hr⟩, ha, hc, hi, hB⟩ := h
  have hg : w.grownBy w' none := ⟨hb.os, hb.tape, hb.output, hb.size, fun k hk _ => hb.block k hk⟩
  exact ⟨⟨D, hown.kept hg (by simp), hr⟩, ha, fun p hp => ⟨(hc p hp).1, (hc p hp).2.1, (hc p hp).2.2.grown hg (by simp)⟩, hi, hB⟩
theorem ShIs.drew {w : World} {M B : Nat} {fs : List (Nat × Fl)} (h : ShIs w M B fs) : ShIs w.drew M B fs := h.below (Below.refl _ _).drew

/-- A file is taken out of the map. -/
theorem ShIs.del {w w' : World} {M B : Nat} {fs : List (Nat × Fl)} {D : DataW Unit} (h : ShIs w M B fs) (hown : w.ownsMap Try.prog 9 ptrR M fs.length D) (hr : Rel D fs) (s : List UInt8) (h1 : w'.ownsMap Try.prog 9 ptrR M fs.length (D.del (.string s))) (hg : w.grownBy w' (some M)) : ShIs w' M B (delP fs s) := by
  obtain ⟨_, ha, hc, hi, hB⟩ := h
  have hr' := hr.del ha (hown.tidy law9) s
  refine ⟨⟨_, by have := own_exact h1; rw [hr'.2.2] at this; exact this, hr'⟩, asc_del ha s, fun p hp => ?_, fun p hp q hq => hi p (mem_del.1 hp).1 q (mem_del.1 hq).1, hB⟩
  have := hc p (mem_del.1 hp).1
  exact ⟨this.1, this.2.1, this.2.2.grown hg (by simpa using this.2.1)⟩

set_option maxHeartbeats 1000000 in
theorem drop_any (M B : Nat) (fs : List (Nat × Fl)) (s : ByteArray) (w : World) (h : ShIs w M B fs) (hs : s.size ≤ 9223372036854775807) :
    Calls Try.prog 87 #[.map (some M), .string s] w fun e w' => e = .returned (.bool (fs.any fun p => keyP p == s.data.toList)) ∧ ShIs w' M B (delP fs s.data.toList) ∧ Below B w w' := by
  have hlk := sh_look h hs
  obtain ⟨D, hown, hr⟩ := h.1
  have HH : Hid (ShIs w M B fs) := h
  have HW : Hid (w.ownsMap Try.prog 9 ptrR M fs.length D) := hown
  have HR : Hid (Rel D fs) := hr
  clear h hown hr
  cases hf : findP fs s with
  | none =>
    rw [hf] at hlk
    simp only [ptrOf] at hlk
    have HN : Hid ((fs.any fun p => keyP p == s.data.toList) = false) := findP_none hf
    clear hf
    go_enter Try.func87, Try.ntmps87
    go_wp2
    go_ret
    refine ⟨by rw [HN.out]; rfl, ?_, Below.refl _ _⟩
    have e : delP fs s.data.toList = fs := by
      unfold delP delK
      refine filter_all fun p hp => ?_
      have := List.any_eq_false.1 HN.out p hp
      simpa using this
    rw [e]
    exact HH.out
  | some p =>
    rw [hf] at hlk
    simp only [ptrOf] at hlk
    have HN : Hid ((fs.any fun p => keyP p == s.data.toList) = true) := by
      obtain ⟨hp, hk⟩ := findP_some hf
      exact List.any_eq_true.2 ⟨p, hp, by simpa using hk⟩
    clear hf
    go_enter Try.func87, Try.ntmps87
    go_wp2_with (at_delete; refine wpList_delete_own _ rfl _ _ 85 9 rfl 109 law9 under85 ptrR M fs.length D rfl HW.out _ _ rfl (key9 hs) ?_; intro w1 hown1 hturn1)
    go_ret
    exact ⟨by rw [HN.out]; rfl, HH.out.del HW.out HR.out _ hown1 hturn1.grown, (Below.refl _ _).grown hturn1.grown (Nat.le_trans HH.out.2.2.2.2 (Nat.le_of_lt HH.out.lt)) (fun k hk => by cases hk; exact HH.out.2.2.2.2)⟩

theorem putK_idem {α : Type} {key : α → List UInt8} (l : List α) (x : α) : putK key (putK key l x) x = putK key l x := by
  unfold putK
  have e1 : decide (key x < key x) = false := decide_eq_false (List.lt_irrefl _)
  rw [List.filter_append, List.filter_append, List.filter_cons, List.filter_cons, e1]
  simp only [Bool.false_eq_true, if_false, List.filter_filter]
  have a1 : l.filter (fun a => decide (key a < key x) && decide (key a < key x)) = l.filter (fun a => decide (key a < key x)) := by congr 1; funext a; simp
  have a2 : l.filter (fun a => decide (key x < key a) && decide (key x < key a)) = l.filter (fun a => decide (key x < key a)) := by congr 1; funext a; simp
  have a3 : l.filter (fun a => decide (key a < key x) && decide (key x < key a)) = [] := filter_none fun a _ => by
    by_cases h : key a < key x
    · simp [h, lt_not h]
    · simp [h]
  have a4 : l.filter (fun a => decide (key x < key a) && decide (key a < key x)) = [] := filter_none fun a _ => by
    by_cases h : key x < key a
    · simp [h, lt_not h]
    · simp [h]
  rw [a1, a2, a3, a4]
  simp

/-- Another block is written. -/
theorem ShIs.frame {w w' : World} {M B b : Nat} {fs : List (Nat × Fl)} (h : ShIs w M B fs) (hg : w.grownBy w' (some b)) (hq : ∀ q ∈ fs, q.1 ≠ b) (hM : M ≠ b) : ShIs w' M B fs := by
  obtain ⟨⟨D, hown, hr⟩, ha, hc, hi, hB⟩ := h
  exact ⟨⟨D, hown.kept hg (by simpa using hM), hr⟩, ha, fun p hp => ⟨(hc p hp).1, (hc p hp).2.1, (hc p hp).2.2.grown hg (by simpa using hq p hp)⟩, hi, hB⟩
/-- A file's own block is written, its name stays. -/
theorem ShIs.turn {w w' : World} {M B b : Nat} {f f' : Fl} {fs : List (Nat × Fl)} (h : ShIs w M B fs) (hp : (b, f) ∈ fs) (hk : f'.key = f.key) (hg : w.grownBy w' (some b)) (hc' : CellsAt w' b f') : ShIs w' M B (putP fs (b, f')) := by
  obtain ⟨⟨D, hown, h1, h2, h3⟩, ha, hc, hi, hB⟩ := h
  have hkp : keyP (b, f') = keyP (b, f) := hk
  have hany : fs.any (fun q => keyP q == keyP (b, f')) = true := List.any_eq_true.2 ⟨(b, f), hp, by simp [hkp]⟩
  have hlen : (putP fs (b, f')).length = fs.length := by rw [length_put ha, hany]; rfl
  have hM := (hc (b, f) hp).2.1
  have hne : ∀ q ∈ fs, keyP q ≠ keyP (b, f') → q.1 ≠ b := fun q hq hkq e => hkq (by rw [hi q hq (b, f) hp e]; exact hkp.symm)
  refine ⟨⟨D, by rw [hlen]; exact hown.kept hg (by simpa using fun e => hM e.symm), fun s => ?_, fun q hq z => ?_, by rw [hlen]; exact h3⟩, asc_put ha _, fun q hq => ?_, fun q hq r hr => ?_, hB⟩
  · rw [h1, any_put, hkp]
    by_cases hs : keyP (b, f) = s
    · have : fs.any (fun q => keyP q == s) = true := List.any_eq_true.2 ⟨(b, f), hp, by simp [hs]⟩
      simp [this, hs]
    · have : (keyP (b, f) == s) = false := by simpa using hs
      rw [this, Bool.false_or]
  · rcases mem_put.1 hq with rfl | ⟨hq, _⟩
    · rw [hkp]; exact h2 (b, f) hp z
    · exact h2 q hq z
  · rcases mem_put.1 hq with rfl | ⟨hq, hkq⟩
    · exact ⟨(hc (b, f) hp).1, hM, hc'⟩
    · exact ⟨(hc q hq).1, (hc q hq).2.1, (hc q hq).2.2.grown hg (by simpa using hne q hq hkq)⟩
  · intro e
    rcases mem_put.1 hq with rfl | ⟨hq, hkq⟩
    · rcases mem_put.1 hr with rfl | ⟨hr, hkr⟩
      · rfl
      · exact absurd e.symm (hne r hr hkr)
    · rcases mem_put.1 hr with rfl | ⟨hr, hkr⟩
      · exact absurd e (hne q hq hkq)
      · exact hi q hq r hr e
/-- A file is put into the map. -/
theorem ShIs.put {w w' : World} {M B : Nat} {fs : List (Nat × Fl)} {D : DataW Unit} {n : Nat} (h : ShIs w M B fs) (hown : w.ownsMap Try.prog 9 ptrR M fs.length D) (hr : Rel D fs) (p : Nat × Fl) (hB : B ≤ p.1) (hM : p.1 ≠ M) (hc' : CellsAt w p.1 p.2) (hne : ∀ q ∈ fs, keyP q ≠ keyP p → q.1 ≠ p.1)
    (h1 : w'.ownsMap Try.prog 9 ptrR M n (D.put (.string (keyP p)) (.lit (.int .i64 (p.1 : Int))))) (hg : w.grownBy w' (some M)) : ShIs w' M B (putP fs p) := by
  obtain ⟨_, ha, hc, hi, hBM⟩ := h
  have hr' := hr.put ha (hown.tidy law9) p
  refine ⟨⟨_, by have := own_exact h1; rw [hr'.2.2] at this; exact this, hr'⟩, asc_put ha p, fun q hq => ?_, fun q hq r hr => ?_, hBM⟩
  · rcases mem_put.1 hq with rfl | ⟨hq, _⟩
    · exact ⟨hB, hM, hc'.grown hg (by simpa using hM)⟩
    · exact ⟨(hc q hq).1, (hc q hq).2.1, (hc q hq).2.2.grown hg (by simpa using (hc q hq).2.1)⟩
  · intro e
    rcases mem_put.1 hq with hq1 | ⟨hq1, hkq⟩
    · rcases mem_put.1 hr with hr1 | ⟨hr1, hkr⟩
      · rw [hq1, hr1]
      · exact absurd (hq1 ▸ e.symm) (hne r hr1 hkr)
    · rcases mem_put.1 hr with hr1 | ⟨hr1, hkr⟩
      · exact absurd (hr1 ▸ e) (hne q hq1 hkq)
      · exact hi q hq1 r hr1 e

theorem own_uniq {w : World} {M n n' : Nat} {D D' : DataW Unit} (h : w.ownsMap Try.prog 9 ptrR M n D) (h' : w.ownsMap Try.prog 9 ptrR M n' D') : D = D' := by
  obtain ⟨es, cl, e1, _, _, e2⟩ := h
  obtain ⟨es', cl', e1', _, _, e2'⟩ := h'
  rw [e1] at e1'
  simp only [Option.some.injEq, Obj.map.injEq] at e1'
  rw [e2, e2', e1'.1]
theorem ShIs.put' {w w' : World} {M B n n0 : Nat} {fs : List (Nat × Fl)} {D : DataW Unit} (h : ShIs w M B fs) (hown : w.ownsMap Try.prog 9 ptrR M n0 D) (p : Nat × Fl) {s : ByteArray} (hs : keyP p = s.data.toList) (hB : B ≤ p.1) (hM : p.1 ≠ M) (hc' : CellsAt w p.1 p.2) (hne : ∀ q ∈ fs, keyP q ≠ keyP p → q.1 ≠ p.1)
    (h1 : w'.ownsMap Try.prog 9 ptrR M n (D.put (.string s.data.toList) (.lit (.int .i64 (p.1 : Int))))) (hg : w.grownBy w' (some M)) : ShIs w' M B (putP fs p) := by
  obtain ⟨D0, hown0, hr0⟩ := h.1
  have e := own_uniq hown hown0
  subst e
  rw [← hs] at h1
  exact h.put hown0 hr0 p hB hM hc' hne h1 hg

theorem grown_cell_set (w : World) (g j : Nat) (u : Value) : w.grownBy (w.setCell ⟨g, j, none⟩ u) (some g) := ⟨rfl, rfl, rfl, by simp, fun k _ hk => heap_setCell_other w ⟨g, j, none⟩ k u (fun e => hk (by rw [e]))⟩
theorem CellsAt.setText {w : World} {b : Nat} {f : Fl} (h : CellsAt w b f) (t : ByteArray) : CellsAt (w.setCell ⟨b, 1, none⟩ (.string t)) b ⟨f.name, t, f.kept⟩ := by
  obtain ⟨⟨c0, c1, c2⟩, f0, f1, f2⟩ := h
  exact ⟨⟨by simp [go_sem, c0], by simp [go_sem, c1], by simp [go_sem, c2]⟩, by simp [go_sem, f0], by simp [go_sem, f1], by simp [go_sem, f2]⟩
theorem CellsAt.setKept {w : World} {b : Nat} {f : Fl} (h : CellsAt w b f) (k : Int) : CellsAt (w.setCell ⟨b, 2, none⟩ (.int .i64 k)) b ⟨f.name, f.text, k⟩ := by
  obtain ⟨⟨c0, c1, c2⟩, f0, f1, f2⟩ := h
  exact ⟨⟨by simp [go_sem, c0], by simp [go_sem, c1], by simp [go_sem, c2]⟩, by simp [go_sem, f0], by simp [go_sem, f1], by simp [go_sem, f2]⟩
theorem CellsAt.setName {w : World} {b : Nat} {f : Fl} (h : CellsAt w b f) (t : ByteArray) : CellsAt (w.setCell ⟨b, 0, none⟩ (.string t)) b ⟨t, f.text, f.kept⟩ := by
  obtain ⟨⟨c0, c1, c2⟩, f0, f1, f2⟩ := h
  exact ⟨⟨by simp [go_sem, c0], by simp [go_sem, c1], by simp [go_sem, c2]⟩, by simp [go_sem, f0], by simp [go_sem, f1], by simp [go_sem, f2]⟩

/-- What keep leaves. -/
def keepP (fs : List (Nat × Fl)) (s : ByteArray) : Bool × List (Nat × Fl) := match findP fs s with
  | none => (false, fs)
  | some p => (true, putP fs (p.1, ⟨p.2.name, p.2.text, (p.2.text.size : Int)⟩))

set_option maxHeartbeats 1000000 in
theorem keep_any (M B : Nat) (fs : List (Nat × Fl)) (s : ByteArray) (w : World) (h : ShIs w M B fs) (hs : s.size ≤ 9223372036854775807) :
    Calls Try.prog 85 #[.map (some M), .string s] w fun e w' => e = .returned (.bool (keepP fs s).1) ∧ ShIs w' M B (keepP fs s).2 ∧ Below B w w' := by
  have hlk := sh_look h hs
  have HH : Hid (ShIs w M B fs) := h
  clear h
  unfold keepP
  cases hf : findP fs s with
  | none =>
    rw [hf] at hlk
    simp only [ptrOf] at hlk
    go_enter Try.func85, Try.ntmps85
    go_wp2
    go_ret
    exact ⟨rfl, HH.out, Below.refl _ _⟩
  | some p =>
    obtain ⟨b, nm, tx, kp⟩ := p
    rw [hf] at hlk
    simp only [ptrOf] at hlk
    have HP : Hid ((b, (⟨nm, tx, kp⟩ : Fl)) ∈ fs) := (findP_some hf).1
    obtain ⟨hbB, hbM, hc⟩ := HH.out.2.2.1 _ HP.out
    have HC : Hid (CellsAt w b ⟨nm, tx, kp⟩) := hc
    obtain ⟨⟨c0, c1, c2⟩, f0, f1, f2⟩ := hc
    dsimp only at c0 c1 c2 hbB
    clear hf
    go_enter Try.func85, Try.ntmps85
    go_wp2
    go_ret
    exact ⟨rfl, HH.out.turn (f' := ⟨nm, tx, (tx.size : Int)⟩) HP.out rfl (grown_cell_set _ _ _ _) (HC.out.setKept _), (Below.refl _ _).setCell (p := ⟨b, 2, none⟩) hbB _⟩

theorem grownB {w w' : World} (hb : Below w.heap.size w w') : w.grownBy w' none := ⟨hb.os, hb.tape, hb.output, hb.size, fun k hk _ => hb.block k hk⟩

/-- What add leaves. -/
def addP (fs : List (Nat × Fl)) (g : Nat) (s t : ByteArray) : Bool × List (Nat × Fl) := match findP fs s with
  | none => if nameR s = true ∧ fs.length ≠ 30 ∧ t.size ≤ 20000 then (true, putP fs (g, ⟨s, t, 0⟩)) else (false, fs)
  | some p => if p.2.text.size + t.size ≤ 20000 then (true, putP fs (p.1, ⟨p.2.name, p.2.text ++ t, p.2.kept⟩)) else (false, fs)

set_option maxHeartbeats 2000000 in
theorem add_some (M B b : Nat) (nm tx : ByteArray) (kp : Int) (fs : List (Nat × Fl)) (s t : ByteArray) (w : World) (h : ShIs w M B fs) (hs : s.size ≤ 9223372036854775807) (htx : tx.size ≤ 20000) (hfl : fs.length ≤ 30) (hf : findP fs s = some (b, ⟨nm, tx, kp⟩)) :
    Calls Try.prog 84 #[.map (some M), .string s, .string t] w fun e w' => ∃ g, e = .returned (.bool (addP fs g s t).1) ∧ ShIs w' M B (addP fs g s t).2 ∧ Below B w w' := by
  have hlk := sh_look h hs
  obtain ⟨D, hown, hr⟩ := h.1
  have HH : Hid (ShIs w M B fs) := h
  have HW : Hid (w.ownsMap Try.prog 9 ptrR M fs.length D) := hown
  have HR : Hid (Rel D fs) := hr
  clear h hown hr
  rw [hf] at hlk
  simp only [ptrOf] at hlk
  obtain ⟨hp, hkk⟩ := findP_some hf
  have HF : Hid (findP fs s = some (b, ⟨nm, tx, kp⟩)) := hf
  have HP : Hid ((b, (⟨nm, tx, kp⟩ : Fl)) ∈ fs) := hp
  have HK : Hid (nm.data.toList = s.data.toList) := hkk
  obtain ⟨hbB, hbM, hc⟩ := HH.out.2.2.1 _ hp
  have HC : Hid (CellsAt w b ⟨nm, tx, kp⟩) := hc
  obtain ⟨⟨c0, c1, c2⟩, f0, f1, f2⟩ := hc
  dsimp only at c0 c1 c2 f0 f1 f2 hbB hbM
  clear hf hp hkk
  by_cases hlen : (20000 : Int) - (tx.size : Int) < (t.size : Int)
  · have E : ∀ g, addP fs g s t = (false, fs) := fun g => by unfold addP; rw [HF.out]; exact if_neg (by simp only []; omega)
    suffices H : Calls Try.prog 84 #[.map (some M), .string s, .string t] w fun e w' => e = .returned (.bool false) ∧ ShIs w' M B (fs) ∧ Below B w w' from H.mono fun e w' h => ⟨0, by rw [E]; exact h⟩
    clear E
    go_enter Try.func84, Try.ntmps84
    go_wp2
    go_ret
    exact ⟨rfl, HH.out, Below.refl _ _⟩
  · have E : ∀ g, addP fs g s t = (true, putP fs (b, ⟨nm, tx ++ t, kp⟩)) := fun g => by unfold addP; rw [HF.out]; exact if_pos (by simp only []; omega)
    suffices H : Calls Try.prog 84 #[.map (some M), .string s, .string t] w fun e w' => e = .returned (.bool true) ∧ ShIs w' M B (putP fs (b, ⟨nm, tx ++ t, kp⟩)) ∧ Below B w w' from H.mono fun e w' h => ⟨0, by rw [E]; exact h⟩
    clear E
    have hadd : ∀ wx, (Op.stringOp .add tx t).run Try.prog wx = .ok (.string (tx ++ t)) wx := fun wx => run_string_add_sum wx _ _ (by omega)
    have hmb : M ≠ b := fun e => hbM e.symm
    have W1 : Hid ((w.setCell ⟨b, 1, none⟩ (.string (tx ++ t))).ownsMap Try.prog 9 ptrR M fs.length D) := HW.out.setCell hmb _
    have S1 : Hid (ShIs (w.setCell ⟨b, 1, none⟩ (.string (tx ++ t))) M B (putP fs (b, ⟨nm, tx ++ t, kp⟩))) := HH.out.turn (f' := ⟨nm, tx ++ t, kp⟩) HP.out rfl (grown_cell_set _ _ _ _) (HC.out.setText _)
    go_enter Try.func84, Try.ntmps84
    go_wp2_with (at_mapUpdate; refine wpList_mapUpdate_own _ rfl _ _ _ 85 rfl 9 109 law9 under85 ptrR M fs.length D rfl W1.out (by unfold maxLen; omega) _ _ _ rfl rfl (key9 hs) (.lit (.int .i64 (b : Int))) [] rfl ?_; intro w1 hown1 hgrow1)
    go_ret
    refine ⟨rfl, ?_, ((Below.refl _ _).setCell (p := ⟨b, 1, none⟩) hbB _).grown hgrow1 (Nat.le_trans HH.out.2.2.2.2 (Nat.le_of_lt (by simpa using HH.out.lt))) (fun k hk => by cases hk; exact HH.out.2.2.2.2)⟩
    have h2 : ShIs w1 M B (putK keyP (putK keyP fs (b, ⟨nm, tx ++ t, kp⟩)) (b, ⟨nm, tx ++ t, kp⟩)) := S1.out.put' W1.out (b, ⟨nm, tx ++ t, kp⟩) HK.out hbB hbM (HC.out.setText _) (fun q hq hkq => by
      rcases mem_put.1 hq with rfl | ⟨hq1, _⟩
      · exact absurd rfl hkq
      · exact fun e => hkq (by rw [HH.out.2.2.2.1 q hq1 _ HP.out e]; rfl)) hown1 hgrow1
    rw [putK_idem] at h2
    exact h2

set_option maxRecDepth 10000 in
set_option maxHeartbeats 2000000 in
theorem add_none (M B : Nat) (fs : List (Nat × Fl)) (s t : ByteArray) (w : World) (h : ShIs w M B fs) (hs : s.size ≤ 9223372036854775807) (ht : t.size ≤ 1048576) (hfl : fs.length ≤ 30) (hf : findP fs s = none) :
    Calls Try.prog 84 #[.map (some M), .string s, .string t] w fun e w' => ∃ g, e = .returned (.bool (addP fs g s t).1) ∧ ShIs w' M B (addP fs g s t).2 ∧ Below B w w' := by
  have hlk := sh_look h hs
  obtain ⟨D, hown, hr⟩ := h.1
  have hlen : ∀ ty, (Builtin.len_ #[85] ty #[.map (some M)]).run Try.prog w = .ok (.int .i64 (fs.length : Int)) w := fun ty => by rw [hown.len under85 ty, hr.2.2]
  have HH : Hid (ShIs w M B fs) := h
  have HW : Hid (w.ownsMap Try.prog 9 ptrR M fs.length D) := hown
  have HR : Hid (Rel D fs) := hr
  clear h hown hr
  rw [hf] at hlk
  simp only [ptrOf] at hlk
  have HF : Hid (findP fs s = none) := hf
  clear hf
  cases hnm : nameR s with
  | false =>
    have E : ∀ g, addP fs g s t = (false, fs) := fun g => by unfold addP; rw [HF.out]; exact if_neg (by simp [hnm])
    suffices H : Calls Try.prog 84 #[.map (some M), .string s, .string t] w fun e w' => e = .returned (.bool false) ∧ ShIs w' M B (fs) ∧ Below B w w' from H.mono fun e w' h => ⟨0, by rw [E]; exact h⟩
    clear E
    go_enter Try.func84, Try.ntmps84
    go_wp2_with (go_at_call 78; refine (isName_any _ _).mono ?_; rintro e w2 ⟨he, hw⟩; rw [hnm] at he; subst he; have hw2 := hw.symm; subst hw2)
    go_ret
    exact ⟨rfl, HH.out, Below.refl _ _⟩
  | true =>
    by_cases h30 : fs.length = 30
    · have E : ∀ g, addP fs g s t = (false, fs) := fun g => by unfold addP; rw [HF.out]; exact if_neg (by simp [h30])
      suffices H : Calls Try.prog 84 #[.map (some M), .string s, .string t] w fun e w' => e = .returned (.bool false) ∧ ShIs w' M B fs ∧ Below B w w' from H.mono fun e w' h => ⟨0, by rw [E]; exact h⟩
      clear E
      have hd : ((fs.length : Int) == 30) = true := by simp [h30]
      go_enter Try.func84, Try.ntmps84
      go_wp2_with (go_at_call 78; refine (isName_any _ _).mono ?_; rintro e w2 ⟨he, hw⟩; rw [hnm] at he; subst he; have hw2 := hw.symm; subst hw2)
      go_ret
      exact ⟨rfl, HH.out, Below.refl _ _⟩
    · have hd : ((fs.length : Int) == 30) = false := by simp; omega
      by_cases hl : (20000 : Int) < (t.size : Int)
      · have E : ∀ g, addP fs g s t = (false, fs) := fun g => by unfold addP; rw [HF.out]; exact if_neg (by omega)
        suffices H : Calls Try.prog 84 #[.map (some M), .string s, .string t] w fun e w' => e = .returned (.bool false) ∧ ShIs w' M B (fs) ∧ Below B w w' from H.mono fun e w' h => ⟨0, by rw [E]; exact h⟩
        clear E
        go_enter Try.func84, Try.ntmps84
        go_wp2_with (go_at_call 78; refine (isName_any _ _).mono ?_; rintro e w2 ⟨he, hw⟩; rw [hnm] at he; subst he; have hw2 := hw.symm; subst hw2)
        go_ret
        exact ⟨rfl, HH.out.below (ba (Below.refl _ _) _), (ba (Below.refl _ _) _).mono (Nat.le_trans HH.out.2.2.2.2 (Nat.le_of_lt HH.out.lt))⟩
      · have E : ∀ g, addP fs g s t = (true, putP fs (g, ⟨s, t, 0⟩)) := fun g => by unfold addP; rw [HF.out]; exact if_pos ⟨hnm, h30, by omega⟩
        simp only [E]
        clear E
        have hadd : ∀ wx, (Op.stringOp .add ByteArray.empty t).run Try.prog wx = .ok (.string t) wx := fun wx => by rw [run_string_add_sum wx _ _ (by have : ByteArray.empty.size = 0 := rfl; omega)]; simp
        have W1 : Hid ((w.alloc (Obj.cells #[.string s, .string t, .int .i64 0] 36)).ownsMap Try.prog 9 ptrR M fs.length D) := HW.out.alloc _
        go_enter Try.func84, Try.ntmps84
        go_wp2_with (first | (go_at_call 78; refine (isName_any _ _).mono ?_; rintro e w2 ⟨he, hw⟩; rw [hnm] at he; subst he; have hw2 := hw.symm; subst hw2) | (at_mapUpdate; refine wpList_mapUpdate_own _ rfl _ _ _ 85 rfl 9 109 law9 under85 ptrR M fs.length D rfl W1.out (by unfold maxLen; omega) _ _ _ rfl rfl (key9 hs) (.lit (.int .i64 (w.heap.size : Int))) [] rfl ?_; intro w1 hown1 hgrow1))
        go_ret
        have hBs := Nat.le_trans HH.out.2.2.2.2 (Nat.le_of_lt HH.out.lt)
        refine ⟨w.heap.size, rfl, ?_, ((ba (Below.refl _ w) _).mono hBs).grown hgrow1 (by simp; omega) (fun k hk => by cases hk; exact HH.out.2.2.2.2)⟩
        have S1 := HH.out.below (ba (Below.refl _ w) (Obj.cells #[.string s, .string t, .int .i64 0] 36))
        have hC : CellsAt (w.alloc (Obj.cells #[.string s, .string t, .int .i64 0] 36)) w.heap.size ⟨s, t, 0⟩ := ⟨⟨by simp [go_sem], by simp [go_sem], by simp [go_sem]⟩, by simp [go_sem], by simp [go_sem], by simp [go_sem]⟩
        exact S1.put W1.out HR.out (w.heap.size, ⟨s, t, 0⟩) hBs (Nat.ne_of_gt HH.out.lt) hC (fun q hq _ => Nat.ne_of_lt (HH.out.2.2.1 q hq).2.2.lt) hown1 hgrow1

/-- What move leaves. -/
def moveP (fs : List (Nat × Fl)) (s to : ByteArray) : Bool × List (Nat × Fl) := match findP fs s with
  | none => (false, fs)
  | some p => if p.2.kept = (p.2.text.size : Int) ∧ nameR to = true ∧ to ≠ s then (true, putP (delP fs s.data.toList) (p.1, ⟨to, p.2.text, p.2.kept⟩)) else (false, fs)

set_option maxRecDepth 10000 in
set_option maxHeartbeats 2000000 in
theorem move_any (M B : Nat) (fs : List (Nat × Fl)) (s to : ByteArray) (w : World) (h : ShIs w M B fs) (hs : s.size ≤ 9223372036854775807) (ht : to.size ≤ 9223372036854775807) (hfl : fs.length ≤ 30) :
    Calls Try.prog 86 #[.map (some M), .string s, .string to] w fun e w' => e = .returned (.bool (moveP fs s to).1) ∧ ShIs w' M B (moveP fs s to).2 ∧ Below B w w' := by
  have hlk := sh_look h hs
  obtain ⟨D, hown, hr⟩ := h.1
  have HH : Hid (ShIs w M B fs) := h
  have HW : Hid (w.ownsMap Try.prog 9 ptrR M fs.length D) := hown
  have HR : Hid (Rel D fs) := hr
  have hBs := Nat.le_trans h.2.2.2.2 (Nat.le_of_lt h.lt)
  clear h hown hr
  cases hf : findP fs s with
  | none =>
    have E : moveP fs s to = (false, fs) := by unfold moveP; rw [hf]
    rw [E]
    rw [hf] at hlk
    simp only [ptrOf] at hlk
    clear E hf
    go_enter Try.func86, Try.ntmps86
    go_wp2
    go_ret
    exact ⟨rfl, HH.out, Below.refl _ _⟩
  | some p =>
    obtain ⟨b, nm, tx, kp⟩ := p
    rw [hf] at hlk
    simp only [ptrOf] at hlk
    obtain ⟨hp, hkk⟩ := findP_some hf
    have HF : Hid (findP fs s = some (b, ⟨nm, tx, kp⟩)) := hf
    have HP : Hid ((b, (⟨nm, tx, kp⟩ : Fl)) ∈ fs) := hp
    have HK : Hid (nm.data.toList = s.data.toList) := hkk
    obtain ⟨hbB, hbM, hc⟩ := HH.out.2.2.1 _ hp
    have HC : Hid (CellsAt w b ⟨nm, tx, kp⟩) := hc
    obtain ⟨⟨c0, c1, c2⟩, f0, f1, f2⟩ := hc
    dsimp only at c0 c1 c2 f0 f1 f2 hbB hbM
    clear hf hp hkk
    by_cases hkp : kp = (tx.size : Int)
    · have hkd : decide (kp = (tx.size : Int)) = true := decide_eq_true hkp
      cases hnm : nameR to with
      | false =>
        have E : moveP fs s to = (false, fs) := by unfold moveP; rw [HF.out]; exact if_neg (by simp [hnm])
        rw [E]
        clear E hkp
        go_enter Try.func86, Try.ntmps86
        go_wp2_with (first | (go_at_call 54; refine (isAllKept_any _ _ _ _).mono ?_; rintro e w2 ⟨he, hb2⟩; rw [hkd] at he; subst he) | (go_at_call 78; refine (isName_any _ _).mono ?_; rintro e w3 ⟨he, hw⟩; rw [hnm] at he; subst he; have hw2 := hw.symm; subst hw2))
        go_ret
        exact ⟨rfl, HH.out.below hb2, hb2.mono hBs⟩
      | true =>
        cases hq : (to.toList == s.toList) with
        | true =>
          have E : moveP fs s to = (false, fs) := by unfold moveP; rw [HF.out]; exact if_neg (fun h => h.2.2 ((toList_eq_iff _ _).1 hq))
          rw [E]
          clear E hkp
          go_enter Try.func86, Try.ntmps86
          go_wp2_with (first | (go_at_call 54; refine (isAllKept_any _ _ _ _).mono ?_; rintro e w2 ⟨he, hb2⟩; rw [hkd] at he; subst he) | (go_at_call 78; refine (isName_any _ _).mono ?_; rintro e w3 ⟨he, hw⟩; rw [hnm] at he; subst he; have hw2 := hw.symm; subst hw2))
          go_ret
          exact ⟨rfl, HH.out.below hb2, hb2.mono hBs⟩
        | false =>
          have hts : to ≠ s := fun e => by rw [(toList_eq_iff _ _).2 e] at hq; cases hq
          have E : moveP fs s to = (true, putP (delP fs s.data.toList) (b, ⟨to, tx, kp⟩)) := by unfold moveP; rw [HF.out]; exact if_pos ⟨hkp, hnm, hts⟩
          rw [E]
          clear E hkp hts
          have hmb : M ≠ b := fun e => hbM e.symm
          go_enter Try.func86, Try.ntmps86
          go_wp2_with (first | (go_at_call 54; refine (isAllKept_any _ _ _ _).mono ?_; rintro e w2 ⟨he, hb2⟩; rw [hkd] at he; subst he; have S2 : Hid (ShIs w2 M B fs) := HH.out.below hb2; have W2 : Hid (w2.ownsMap Try.prog 9 ptrR M fs.length D) := HW.out.kept (grownB hb2) (by simp); have C2 : Hid (CellsAt w2 b ⟨nm, tx, kp⟩) := HC.out.grown (grownB hb2) (by simp)) | (go_at_call 78; refine (isName_any _ _).mono ?_; rintro e w3 ⟨he, hw⟩; rw [hnm] at he; subst he; have hw2 := hw.symm; subst hw2) | (at_delete; refine wpList_delete_own _ rfl _ _ 85 9 rfl 109 law9 under85 ptrR M fs.length D rfl W2.out _ _ rfl (key9 hs) ?_; intro w4 hown4 hturn4; have hg4 := hturn4.grown; have S4 : Hid (ShIs w4 M B (delP fs s.data.toList)) := S2.out.del W2.out HR.out _ hown4 hg4; have C4 : Hid (CellsAt w4 b ⟨nm, tx, kp⟩) := C2.out.grown hg4 (by simpa using hbM); have d0 := C4.out.1.1; have z0 := C4.out.2.1; dsimp only at d0 z0; have W5 : Hid ((w4.setCell ⟨b, 0, none⟩ (.string to)).ownsMap Try.prog 9 ptrR M fs.length (D.del (Lit.string s.data.toList))) := hown4.setCell hmb _; clear hown4 hturn4) | (at_mapUpdate; refine wpList_mapUpdate_own _ rfl _ _ _ 85 rfl 9 109 law9 under85 ptrR M fs.length (D.del (Lit.string s.data.toList)) rfl W5.out (by unfold maxLen; omega) _ _ _ rfl rfl (key9 ht) (.lit (.int .i64 (b : Int))) [] rfl ?_; intro w6 hown6 hgrow6))
          go_ret
          have hno : ∀ q ∈ delP fs s.data.toList, q.1 ≠ b := fun q hq e => by
            obtain ⟨hq1, hq2⟩ := mem_del.1 hq
            exact hq2 (by rw [HH.out.2.2.2.1 q hq1 _ HP.out e]; exact HK.out)
          have S5 := S4.out.frame (grown_cell_set w4 b 0 (.string to)) hno hmb
          refine ⟨rfl, S5.put' W5.out (b, ⟨to, tx, kp⟩) rfl hbB hbM (C4.out.setName _) (fun q hq _ => hno q hq) hown6 hgrow6, ?_⟩
          have h2s := hb2.size
          exact ((((hb2.mono hBs).grown hg4 (by omega) (fun k hk => by cases hk; exact HH.out.2.2.2.2)).setCell (p := ⟨b, 0, none⟩) hbB _).grown hgrow6 (by have := hg4.size; simp; omega) (fun k hk => by cases hk; exact HH.out.2.2.2.2))
    · have hkd : decide (kp = (tx.size : Int)) = false := decide_eq_false hkp
      have E : moveP fs s to = (false, fs) := by unfold moveP; rw [HF.out]; exact if_neg (fun h => hkp h.1)
      rw [E]
      clear E hkp
      go_enter Try.func86, Try.ntmps86
      go_wp2_with (go_at_call 54; refine (isAllKept_any _ _ _ _).mono ?_; rintro e w2 ⟨he, hb2⟩; rw [hkd] at he; subst he)
      go_ret
      exact ⟨rfl, HH.out.below hb2, hb2.mono hBs⟩
end Go.Proofs.Ytekflgecfcjjiaa
