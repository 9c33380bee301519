/-
  The law on what is kept: its helpers: the walks; and what is left of a disk, in plain words.
-/
import Derived.Test.YtekflgecfcjjiaaDr
import Derived.Test.YtekflgecfcjjiaaLld
namespace Go.Proofs.Ytekflgecfcjjiaa
open Go Go.RowKit

set_option maxHeartbeats 400000 in
theorem big_any (a : Option Addr) (n cap : Nat) (w : World) (hn : n ≤ 9223372036854775807) :
    Calls Try.prog 12 #[.slice a n cap] w fun e w' => e = .returned (.bool (decide (1048576 < n))) ∧ w' = w := by
  by_cases h : 1048576 < n
  · go_enter Try.func12, Try.ntmps12
    go_wp2
    go_ret
    exact ⟨by simp [h]; omega, rfl⟩
  · go_enter Try.func12, Try.ntmps12
    go_wp2
    go_ret
    exact ⟨by simp [h]; omega, rfl⟩
theorem CodeAt.on {w w' : World} {v : Value} {n : Nat} (h : CodeAt w w.heap.size v n) (hb : Below w.heap.size w w') : CodeAt w' w'.heap.size v n := by
  obtain ⟨a, cap, hv, hc⟩ := h.keep (w' := w') hb.block
  refine ⟨a, cap, hv, fun j hj => ?_⟩
  obtain ⟨x, z, ha, hlt, hr⟩ := hc j hj
  exact ⟨x, z, ha, Nat.lt_of_lt_of_le hlt hb.size, hr⟩
theorem Below.on {w w1 w2 : World} (h1 : Below w.heap.size w w1) (h2 : Below w1.heap.size w1 w2) : Below w.heap.size w w2 := h1.trans (h2.mono h1.size)

theorem flat_int : ∀ l : List Int, l.flatMap (Rec.cells (α := Int)) = l.map (Value.int .i64)
  | [] => rfl
  | x :: r => by rw [List.flatMap_cons, List.map_cons, flat_int r]; rfl
theorem ownsI.toR {w : World} {B : Nat} {v : Value} {l : List Int} (h : ownsI w B 3 v l) : ownsR w B 3 v l := by
  unfold ownsR
  rw [flat_int]
  exact h

set_option maxHeartbeats 1000000 in
/-- Six numbers out of twelve. -/
theorem lefts_any (r c : Nat) (l : List Int) (w : World) (hl : l.length = 12) (hr : ∀ j (hj : j < l.length), w.cell? ⟨r, j, none⟩ = some (.int .i64 l[j])) (hlt : r < w.heap.size) (hb : ∀ x ∈ l, 0 ≤ x ∧ x < 10000) :
    Calls Try.prog 14 #[.slice (some ⟨r, 0, none⟩) 12 c] w fun e w' => ∃ v q, e = .returned v ∧ ownsI w' w.heap.size 3 v q ∧ Below w.heap.size w w' := by
  have HR : Hid (∀ j (hj : j < l.length), w.cell? ⟨r, j, none⟩ = some (.int .i64 l[j])) := hr
  have HB : Hid (∀ x ∈ l, 0 ≤ x ∧ x < 10000) := hb
  have HL : Hid (l.length = 12) := hl
  clear hr hb hl
  go_enter Try.func14, Try.ntmps14
  go_wp2
  go_loopw [3, 4] (fun out i wr => ∃ (k : Nat) (q : List Int), k ≤ 6 ∧ i = .int .i64 k ∧ q.length = k ∧ ownsI wr w.heap.size 3 out q ∧ Below w.heap.size w wr) (fun _ i _ => 6 - (intOf i).toNat)
  case atStart => exact ⟨0, [], Nat.zero_le _, rfl, rfl, ownsI_made _ _ _ _ _ (Nat.le_refl _) (by decide) rfl, (Below.refl _ _).alloc (Nat.le_refl _) _⟩
  case round =>
    obtain ⟨k, q, hk, rfl, hq, hown, hbel⟩ := hrel
    have hsz := hbel.size
    by_cases hlt2 : k < 6
    · have hkl : k < l.length := by rw [HL.out]; omega
      have hc : wr.cell? ⟨r, k, none⟩ = some (.int .i64 l[k]) := (hbel.cell (p := ⟨r, k, none⟩) hlt).trans (HR.out k hkl)
      have hx := HB.out l[k] (List.getElem_mem hkl)
      generalize l[k] = x at hc hx
      obtain ⟨hx0, hx1⟩ := hx
      have hk12 : (k : Int) < 12 := by omega
      go_wp2_with (at_builtin; refine wpList_append_int _ w (by rfl) _ _ 28 (by rfl) w.heap.size 3 Try.underlying28 info3 _ q (by rfl) (hown.alloc _) (hbel.alloc hsz _) ⟨wr.heap.size, 0, none⟩ 1 (x % 300) (by rfl) ?c1 ?c2 ?c3 ?_)
      case c1 => simp
      case c2 => omega
      case c3 => simp; omega
      intro v' w1 hown1 hbel1
      clear hown hbel
      go_wp2
      go_roundw
      case rel => exact ⟨k + 1, q ++ [x % 300], by omega, by go_num, by simp; omega, hown1, hbel1⟩
      case measure => simp [intOf]; omega
    · go_wp2
      go_ret
      exact ⟨_, q, rfl, hown, hbel⟩

set_option maxHeartbeats 400000 in
/-- A text begins so. -/
theorem begins_any (a b : ByteArray) (w : World) (h1 : a.size ≤ b.size) (h2 : b.extract 0 a.size = a) :
    Calls Try.prog 20 #[.string a, .string b] w fun e w' => e = .returned (.bool true) ∧ w' = w := by
  have k1 : decide ((a.size : Int) ≤ (b.size : Int)) = true := decide_eq_true (by omega)
  have k2 : (a.size : Int) ≤ (b.size : Int) := by omega
  have hsl : ∀ wx, (Instr.slice 9 (.string b) none (some (.int .i64 (a.size : Int))) none).run Try.prog wx = .ok (.string a) wx := fun wx => by
    rw [run_slice_string_h (P := Try.prog) wx 9 b Try.underlying9 .i64 (a.size : Int) (by omega) (by omega), Int.toNat_natCast, h2]
  go_enter Try.func20, Try.ntmps20
  go_wp2
  go_ret
  exact ⟨by simp, rfl⟩

set_option maxHeartbeats 2000000 in
/-- Two disks of the same files. -/
theorem same_any (va vb : Value) (l : List Fl) (w : World) (ha : Reads w va l) (hb : Reads w vb l) (hn : l.length ≤ 1048577) :
    Calls Try.prog 17 #[.agg #[va], .agg #[vb]] w fun e w' => e = .returned (.bool true) ∧ Below w.heap.size w w' := by
  obtain ⟨ao, c, rfl, _⟩ := id ha
  obtain ⟨bo, d, rfl, _⟩ := id hb
  have HA : Hid (Reads w (.slice ao l.length c) l) := ha
  have HB : Hid (Reads w (.slice bo l.length d) l) := hb
  clear ha hb
  go_enter Try.func17, Try.ntmps17
  go_wp2
  obtain ⟨W, hW⟩ : ∃ W, (w.alloc (.cells #[.slice ao l.length c] 26)).alloc (.cells #[.slice bo l.length d] 26) = W := ⟨_, rfl⟩
  have BW : Below w.heap.size w W := by rw [← hW]; exact ba (ba (Below.refl _ _) _) _
  have q1 : W.cell? ⟨w.heap.size, 0, none⟩ = some (.slice ao l.length c) := by rw [← hW]; simp [go_sem]
  have q2 : W.cell? ⟨w.heap.size + 1, 0, none⟩ = some (.slice bo l.length d) := by rw [← hW]; simp [go_sem]
  rw [hW]
  clear hW
  go_loopw [5] (fun i wr => ∃ (k m : Nat), k ≤ l.length ∧ i = .int .i64 k ∧ wr = W.drewN m) (fun i _ => l.length - (intOf i).toNat)
  case atStart => exact ⟨0, 0, Nat.zero_le _, rfl, rfl⟩
  case round =>
    obtain ⟨k, m, hk, rfl, rfl⟩ := hrel
    by_cases hlt : k < l.length
    · obtain ⟨f, hf⟩ : ∃ f, l[k]? = some f := ⟨_, List.getElem?_eq_getElem hlt⟩
      obtain ⟨a, oa, rfl, hga, a0, a1, a2⟩ := fl_at (HA.out.below BW) hf
      obtain ⟨b, ob, rfl, hgb, b0, b1, b2⟩ := fl_at (HB.out.below BW) hf
      clear hf
      go_wp2
      go_quiet (fail)
      go_wp2
      go_roundw
      case rel => exact ⟨k + 1, _, by omega, by go_num, rfl⟩
      case measure => simp [intOf]; omega
    · go_wp2
      go_ret
      exact ⟨rfl, below_drewN BW _⟩
/-- Of a right file as much is left as is told, and it is all kept. -/
theorem stays_bd {f : Fl} (h : f.right = true) (x : Int) : 0 ≤ staysN x f.kept f.text.size ∧ f.kept ≤ staysN x f.kept f.text.size ∧ staysN x f.kept f.text.size ≤ f.text.size ∧ 0 ≤ f.kept := by
  simp only [Fl.right, Bool.and_eq_true, decide_eq_true_eq] at h
  unfold staysN
  omega
theorem begun_size {f : Fl} (h : f.right = true) (x : Int) : ((f.begun x).text.size : Int) = (f.begun x).kept := by
  have := stays_bd h x
  show ((f.text.extract 0 (staysN x f.kept f.text.size).toNat).size : Int) = staysN x f.kept f.text.size
  rw [ByteArray.size_extract]
  omega
theorem begun_right {f : Fl} (h : f.right = true) (x : Int) : (f.begun x).right = true := by
  have h1 := begun_size h x
  have h2 := stays_bd h x
  have h3 : (f.begun x).kept = staysN x f.kept f.text.size := rfl
  have h4 : (f.begun x).name = f.name := rfl
  simp only [Fl.right, Bool.and_eq_true, decide_eq_true_eq] at h ⊢
  rw [h4]
  refine ⟨h.1, by omega, by omega, by omega⟩
theorem loseL_get {l : List Fl} {left : List Int} {i : Nat} {g : Fl} (h : (loseL l left)[i]? = some g) : ∃ f, l[i]? = some f ∧ g = f.begun (leftAt left i) := by
  have hi : i < l.length := by have := (List.getElem?_eq_some_iff.1 h).1; rw [loseL_length] at this; exact this
  have e := loseL_at left (List.getElem?_eq_getElem hi)
  rw [h] at e
  exact ⟨l[i], List.getElem?_eq_getElem hi, Option.some.inj e⟩
theorem loseL_diskR {l : List Fl} (h : diskR l = true) (left : List Int) : diskR (loseL l left) = true := by
  obtain ⟨h1, h2, h3⟩ := diskR_iff.1 h
  refine diskR_iff.2 ⟨by rw [loseL_length]; exact h1, fun g hg => ?_, asc_of_next fun i p f hp hf => ?_⟩
  · obtain ⟨i, hi, rfl⟩ := List.getElem_of_mem hg
    obtain ⟨f, hf, e⟩ := loseL_get (List.getElem?_eq_getElem hi)
    rw [e]
    exact begun_right (h2 f (List.mem_of_getElem? hf)) _
  · obtain ⟨p', hp', rfl⟩ := loseL_get hp
    obtain ⟨f', hf', rfl⟩ := loseL_get hf
    show p'.key < f'.key
    obtain ⟨i1, e1⟩ := List.getElem?_eq_some_iff.1 hp'
    obtain ⟨i2, e2⟩ := List.getElem?_eq_some_iff.1 hf'
    have := List.pairwise_iff_getElem.1 h3 i (i + 1) i1 i2 (by omega)
    rw [e1, e2] at this
    exact this
theorem loseL_kept {l : List Fl} (h : diskR l = true) (left : List Int) : keptR (loseL l left) = true :=
  keptR_true fun i f _ hf => by
    obtain ⟨g, hg, rfl⟩ := loseL_get hf
    exact (begun_size ((diskR_iff.1 h).2.1 g (List.mem_of_getElem? hg)) _).symm
theorem loseL_again {l : List Fl} (h : diskR l = true) (left : List Int) : loseL (loseL l left) [] = loseL l left := by
  apply List.ext_getElem?
  intro i
  by_cases hi : i < l.length
  · have hf := List.getElem?_eq_getElem hi
    have hg := loseL_at left hf
    rw [loseL_at [] hg, hg]
    have hr := (diskR_iff.1 h).2.1 _ (List.mem_of_getElem? hf)
    have hz := begun_size hr (leftAt left i)
    have hb := stays_bd (begun_right hr (leftAt left i)) (leftAt [] i)
    generalize (l[i]).begun (leftAt left i) = g at hz hb
    have hs : staysN (leftAt [] i) g.kept g.text.size = g.kept := by omega
    show some (⟨g.name, g.text.extract 0 (staysN (leftAt [] i) g.kept g.text.size).toNat, staysN (leftAt [] i) g.kept g.text.size⟩ : Fl) = some g
    rw [hs]
    have e : g.text.extract 0 g.kept.toNat = g.text := by
      rw [show g.kept.toNat = g.text.size by omega, ByteArray.extract_zero_size]
    rw [e]
  · rw [List.getElem?_eq_none (by rw [loseL_length, loseL_length]; omega), List.getElem?_eq_none (by rw [loseL_length]; omega)]
end Go.Proofs.Ytekflgecfcjjiaa
