/-
  The law's own helpers: texts held against each other, marked, and found marked: the walks.
-/
import Derived.Test.YtlkdknincjlncaaDoorDec
import Derived.Test.YtlkdknincjlncaaDoorParti
import Derived.Deep.QuietTactic
import Derived.BigQuiet
import Derived.Deep.RegionHeld
namespace Go.Proofs.YtlkdknincjlncaaDoor
open Go.RowKit

/-- The k-th mark. -/
def markB (k : Nat) : ByteArray := bstr (109 :: decI k)
/-- n marks from k on. -/
def marks (k : Nat) : Nat → List ByteArray
  | 0 => []
  | n + 1 => markB k :: marks (k + 1) n
theorem marks_length (k : Nat) : ∀ n, (marks k n).length = n := by
  intro n
  induction n generalizing k with
  | zero => rfl
  | succ n ih => simp [marks, ih]
theorem marks_at (k : Nat) : ∀ (n j : Nat), j < n → (marks k n)[j]? = some (markB (k + j)) := by
  intro n
  induction n generalizing k with
  | zero => intro j h; omega
  | succ n ih =>
    intro j h
    cases j with
    | zero => simp [marks]
    | succ j =>
      simp only [marks, List.getElem?_cons_succ]
      rw [ih (k + 1) j (by omega)]
      congr 2
      omega

set_option maxHeartbeats 400000 in
theorem markText_any (n : Nat) (w : World) (h0 : 0 < n) (hn : n ≤ 1000000000) :
    Calls Tryd.prog 17 #[.int .i64 n] w fun e w' => e = .returned (.string (markB n)) ∧ Below w.heap.size w w' := by
  have hz : decide ((n : Int) ≤ 0) = false := decide_eq_false (by omega)
  go_enter Tryd.func17, Tryd.ntmps17
  go_wp2
  go_loopw [0, 3] (fun c st wr => ∃ (m : Nat) (t : List Int), c = .int .i64 m ∧ st = .string (bstr t) ∧ m ≤ n ∧ Hid (decI n = decPre m ++ t) ∧ Below w.heap.size w wr) (fun c _ _ => (intOf c).toNat)
  case atStart => exact ⟨n, [], rfl, rfl, by simp, (by show decI n = decPre n ++ []; unfold decPre; rw [if_neg (by omega)]; simp), Below.refl _ _⟩
  case round =>
    obtain ⟨m, t, rfl, rfl, hle, HE, hbel⟩ := hrel
    have hsz := hbel.size
    have htl := told_len (by omega) HE
    by_cases hm : m = 0
    · subst hm
      have hadd : ∀ wx, (Op.stringOp .add { data := #[109] } (bstr t)).run Tryd.prog wx = .ok (.string (bstr (109 :: t))) wx := run_add_one 109 t htl
      go_wp2
      go_ret
      exact ⟨by unfold markB; rw [HE.out]; rfl, hbel⟩
    · have hm2 : 0 < m := by omega
      have hcv := run_one_string wr (48 + (m : Int) % 10)
      have hadd := run_add_one (48 + (m : Int) % 10) t htl
      go_wp2
      go_roundw
      case rel => exact ⟨m / 10, (48 + (m : Int) % 10) :: t, by go_num, rfl, by omega, (by show decI n = _; rw [HE.out, decPre_step hm]), hbel.alloc hsz _⟩
      case measure => simp [intOf]; omega

set_option maxHeartbeats 400000 in
theorem eqS_none (a b : Option Addr) (c d : Nat) (w : World) :
    Calls Tryd.prog 9 #[.slice a 0 c, .slice b 0 d] w fun e w' => e = .returned (.bool true) ∧ Below w.heap.size w w' := by
  go_enter Tryd.func9, Tryd.ntmps9
  go_wp2
  refine wp_loop_rounds 1 ?_
  rw [rounds_succ]
  go_wp2
  go_ret
  exact ⟨rfl, Below.refl _ _⟩

set_option maxHeartbeats 1000000 in
theorem eqS_some (g h n c d : Nat) (l : List ByteArray) (w : World) (hn : n ≤ 1048577) (hl : l.length = n) (ha : ∀ j (hj : j < l.length), w.cell? ⟨g, j, none⟩ = some (.string l[j])) (hb : ∀ j (hj : j < l.length), w.cell? ⟨h, j, none⟩ = some (.string l[j])) :
    Calls Tryd.prog 9 #[.slice (some ⟨g, 0, none⟩) n c, .slice (some ⟨h, 0, none⟩) n d] w fun e w' => e = .returned (.bool true) ∧ Below w.heap.size w w' := by
  have HA : Hid (∀ j (hj : j < l.length), w.cell? ⟨g, j, none⟩ = some (.string l[j])) := ha
  have HB : Hid (∀ j (hj : j < l.length), w.cell? ⟨h, j, none⟩ = some (.string l[j])) := hb
  have HL : Hid (l.length = n) := hl
  clear ha hb hl
  go_enter Tryd.func9, Tryd.ntmps9
  go_wp2
  go_loopw [5] (fun i wr => ∃ (k m : Nat), k ≤ n ∧ i = .int .i64 k ∧ wr = w.drewN m) (fun i _ => n - (intOf i).toNat)
  case atStart => exact ⟨0, 0, Nat.zero_le _, rfl, rfl⟩
  case round =>
    obtain ⟨k, m, hk, rfl, rfl⟩ := hrel
    by_cases hlt : k < n
    · obtain ⟨t, hta, htb⟩ : ∃ t, w.cell? ⟨g, k, none⟩ = some (.string t) ∧ w.cell? ⟨h, k, none⟩ = some (.string t) := ⟨_, HA.out k (by rw [HL.out]; exact hlt), HB.out k (by rw [HL.out]; exact hlt)⟩
      go_wp2
      go_quiet (fail)
      go_wp2
      go_roundw
      case rel => exact ⟨k + 1, _, by omega, by go_num, rfl⟩
      case measure => simp [intOf]; omega
    · go_wp2
      go_ret
      exact ⟨rfl, ⟨rfl, rfl, rfl, Nat.le_refl _, fun _ _ => rfl⟩⟩

theorem eqS_any {w : World} {A B : Nat} {va vb : Value} {l : List ByteArray} (ha : ownsS w A 9 va l) (hb : ownsS w B 9 vb l) (hl : l.length ≤ 1048577) :
    Calls Tryd.prog 9 #[va, vb] w fun e w' => e = .returned (.bool true) ∧ Below w.heap.size w w' := by
  by_cases hne : l = []
  · subst hne
    obtain ⟨ao, c, rfl⟩ := ownsS_empty ha
    obtain ⟨bo, d, rfl⟩ := ownsS_empty hb
    exact eqS_none ao bo c d w
  · obtain ⟨g, c, rfl, _, _, _, hca, _⟩ := ownsS_form ha hne
    obtain ⟨h, d, rfl, _, _, _, hcb, _⟩ := ownsS_form hb hne
    exact eqS_some g h l.length c d l w hl rfl hca hcb

set_option maxHeartbeats 400000 in
theorem markS_none (a : Option Addr) (c : Nat) (w : World) :
    Calls Tryd.prog 10 #[.slice a 0 c, .int .i64 1] w fun e w' => e = .returned (.int .i64 1) ∧ Below w.heap.size w w' := by
  go_enter Tryd.func10, Tryd.ntmps10
  go_wp2
  refine wp_loop_rounds 1 ?_
  rw [rounds_succ]
  go_wp2
  go_ret
  exact ⟨rfl, Below.refl _ _⟩

/-- The first k marked, the rest as they were. -/
def marked (l : List ByteArray) (k : Nat) : List ByteArray := marks 1 k ++ l.drop k
theorem marked_length (l : List ByteArray) (k : Nat) (h : k ≤ l.length) : (marked l k).length = l.length := by simp [marked, marks_length]; omega
theorem marks_snoc (k : Nat) : ∀ n, marks k (n + 1) = marks k n ++ [markB (k + n)] := by
  intro n
  induction n generalizing k with
  | zero => simp [marks]
  | succ n ih => rw [marks, ih (k + 1)]; simp [marks]; congr 1; omega
theorem marked_set (l : List ByteArray) (k : Nat) (h : k < l.length) : (marked l k).set k (markB (k + 1)) = marked l (k + 1) := by
  unfold marked
  rw [marks_snoc, List.drop_eq_getElem_cons h, List.set_append_right _ _ (by rw [marks_length]; omega), marks_length, Nat.add_comm 1 k]
  simp
  rw [List.drop_eq_getElem_cons h]
  rfl
theorem marked_all (l : List ByteArray) : marked l l.length = marks 1 l.length := by simp [marked]

set_option maxHeartbeats 1000000 in
theorem markS_some (g n cap B : Nat) (l : List ByteArray) (w : World) (hn : n ≤ 1048577) (hl : l.length = n) (hB : B ≤ w.heap.size) (ho : ownsS w B 9 (.slice (some ⟨g, 0, none⟩) n cap) l) (hg : B ≤ g) :
    Calls Tryd.prog 10 #[.slice (some ⟨g, 0, none⟩) n cap, .int .i64 1] w fun e w' => e = .returned (.int .i64 ((n : Int) + 1)) ∧ ownsS w' B 9 (.slice (some ⟨g, 0, none⟩) n cap) (marks 1 n) ∧ Below B w w' := by
  have HL : Hid (l.length = n) := hl
  clear hl
  go_enter Tryd.func10, Tryd.ntmps10
  go_wp2
  go_loopw [1, 5] (fun c i wr => ∃ k : Nat, k ≤ n ∧ i = .int .i64 k ∧ c = .int .i64 ((k : Int) + 1) ∧ ownsS wr B 9 (.slice (some ⟨g, 0, none⟩) n cap) (marked l k) ∧ Below B w wr) (fun _ i _ => n - (intOf i).toNat)
  case atStart => exact ⟨0, Nat.zero_le _, rfl, rfl, ho, Below.refl _ _⟩
  case round =>
    obtain ⟨k, hk, rfl, rfl, hown, hbel⟩ := hrel
    clear ho
    have hsz := hbel.size
    by_cases hlt : k < n
    · obtain ⟨t, ht2, hcell, hfr, hgs, hnn⟩ := ownsS_cell hown hlt
      clear hnn ht2
      go_wp2_with (go_at_call 17; refine (markText_any (k + 1) _ (by omega) (by omega)).mono ?_; rintro e w2 ⟨rfl, hb2⟩; have hc2 := (hb2.cell (p := ⟨g, k, none⟩) hgs).trans hcell; have hf2 := (hb2.frozen (p := ⟨g, k, none⟩) hgs).trans hfr)
      have R := ownsS_store (hown.all hb2) k (markB (k + 1))
      rw [marked_set l k (by rw [HL.out]; exact hlt)] at R
      clear hown hcell hfr hc2 hf2
      go_roundw
      case rel => exact ⟨k + 1, by omega, by go_num, by go_num, R, (hbel.trans (hb2.mono (by omega))).setCell (p := ⟨g, k, none⟩) hg _⟩
      case measure => simp [intOf]; omega
    · have hkn : k = n := by omega
      subst hkn
      have R : ownsS wr B 9 (.slice (some ⟨g, 0, none⟩) k cap) (marks 1 k) := by
        have e := marked_all l
        rw [HL.out] at e
        rw [← e]
        exact hown
      clear hown
      go_wp2
      go_ret
      exact ⟨rfl, R, hbel⟩

theorem markS_any {w : World} {B : Nat} {v : Value} {l : List ByteArray} (ho : ownsS w B 9 v l) (hl : l.length ≤ 1048577) (hB : B ≤ w.heap.size) :
    Calls Tryd.prog 10 #[v, .int .i64 1] w fun e w' => e = .returned (.int .i64 ((l.length : Int) + 1)) ∧ ownsS w' B 9 v (marks 1 l.length) ∧ Below B w w' := by
  by_cases hne : l = []
  · subst hne
    have ho2 := ho
    obtain ⟨ao, c, rfl⟩ := ownsS_empty ho
    exact (markS_none ao c w).mono fun e w' ⟨he, hb⟩ => ⟨he, ho2.all hb, hb.mono hB⟩
  · have ho2 := ho
    obtain ⟨g, c, rfl, hg, _⟩ := ownsS_form ho hne
    exact markS_some g l.length c B l w hl rfl hB ho2 hg

set_option maxHeartbeats 400000 in
theorem heldS_none (a : Option Addr) (c : Nat) (w : World) :
    Calls Tryd.prog 11 #[.slice a 0 c, .int .i64 1] w fun e w' => e = .returned (.int .i64 1) ∧ Below w.heap.size w w' := by
  go_enter Tryd.func11, Tryd.ntmps11
  go_wp2
  refine wp_loop_rounds 1 ?_
  rw [rounds_succ]
  go_wp2
  go_ret
  exact ⟨rfl, Below.refl _ _⟩

set_option maxHeartbeats 1000000 in
theorem heldS_some (g n cap : Nat) (w : World) (hn : n ≤ 1048577) (hg : g < w.heap.size) (ha : ∀ j, j < n → w.cell? ⟨g, j, none⟩ = some (.string (markB (j + 1)))) :
    Calls Tryd.prog 11 #[.slice (some ⟨g, 0, none⟩) n cap, .int .i64 1] w fun e w' => e = .returned (.int .i64 ((n : Int) + 1)) ∧ Below w.heap.size w w' := by
  have HA : Hid (∀ j, j < n → w.cell? ⟨g, j, none⟩ = some (.string (markB (j + 1)))) := ha
  clear ha
  go_enter Tryd.func11, Tryd.ntmps11
  go_wp2
  go_loopw [1, 5] (fun c i wr => ∃ k : Nat, k ≤ n ∧ i = .int .i64 k ∧ c = .int .i64 ((k : Int) + 1) ∧ Below w.heap.size w wr) (fun _ i _ => n - (intOf i).toNat)
  case atStart => exact ⟨0, Nat.zero_le _, rfl, rfl, Below.refl _ _⟩
  case round =>
    obtain ⟨k, hk, rfl, rfl, hbel⟩ := hrel
    have hsz := hbel.size
    by_cases hlt : k < n
    · have hc := (hbel.cell (p := ⟨g, k, none⟩) hg).trans (HA.out k hlt)
      have hgr : g < wr.heap.size := by omega
      go_wp2
      go_region_held (fun w' => w'.cell? ⟨g, k, none⟩ = some (.string (markB (k + 1)))) ((first | exact hc | exact (hb2.cell (p := ⟨g, k, none⟩) hgr).trans hc)) ((go_at_call 17; refine (markText_any (k + 1) _ (by omega) (by omega)).mono ?_; rintro e w2 ⟨rfl, hb2⟩))
      go_wp2
      go_roundw
      case rel => exact ⟨k + 1, by omega, by go_num, by go_num, hbel.trans (((Below.refl _ _).drew.trans hb2).mono hsz)⟩
      case measure => simp [intOf]; omega
    · have hkn : k = n := by omega
      subst hkn
      go_wp2
      go_ret
      exact ⟨rfl, hbel⟩

theorem heldS_any {w : World} {B n : Nat} {v : Value} (ho : ownsS w B 9 v (marks 1 n)) (hn : n ≤ 1048577) :
    Calls Tryd.prog 11 #[v, .int .i64 1] w fun e w' => e = .returned (.int .i64 ((n : Int) + 1)) ∧ Below w.heap.size w w' := by
  by_cases h0 : n = 0
  · subst h0
    obtain ⟨ao, c, rfl⟩ := ownsS_empty ho
    exact heldS_none ao c w
  · obtain ⟨g, c, rfl, _, hg, _, hc, _⟩ := ownsS_form ho (by intro e; have := congrArg List.length e; rw [marks_length] at this; simp at this; omega)
    rw [marks_length]
    refine heldS_some g n c w hn hg fun j hj => ?_
    rw [hc j (by rw [marks_length]; exact hj)]
    have := marks_at 1 n j hj
    rw [List.getElem?_eq_getElem (by rw [marks_length]; exact hj)] at this
    rw [Option.some.inj this, Nat.add_comm 1 j]

theorem partsR_le (s : ByteArray) : (texts (partsR s).1).length ≤ 10 := by
  rw [texts_length]
  unfold partsR
  split
  · simp
  · split
    · split
      · simp
      · simp only []; omega
    · simp

set_option maxHeartbeats 1000000 in
theorem law_PartsOf (s : ByteArray) (w : World) (hs0 : s.size ≤ maxLen) (ht : SpaceIs w) :
    Calls Tryd.prog 4 #[.string s] w fun e w' => e = .returned (.bool true) ∧ Below w.heap.size w w' := by
  unfold maxLen at hs0
  by_cases hs : (1048576 : Int) < (s.size : Int)
  · go_enter Tryd.func4, Tryd.ntmps4
    go_wp2
    go_ret
    exact ⟨rfl, Below.refl _ _⟩
  · have hs2 : s.size ≤ 1048576 := by omega
    have hl := partsR_le s
    have C7 : Hid (∀ w, Calls Tryd.prog 7 #[.string s] w fun e w' => PartsEnd s w e w') := fun w => specParts_any s w hs2
    have C8 : Hid (∀ w, SpaceIs w → Calls Tryd.prog 8 #[.string s] w fun e w' => PartsEnd s w e w') := fun w h => parts_any s w hs2 h
    unfold PartsEnd at C7 C8
    generalize texts (partsR s).1 = L at *
    generalize (partsR s).2 = z at *
    go_enter Tryd.func4, Tryd.ntmps4
    go_wp2_with fail
    refine (C7.out _).mono ?_
    rintro e w1 ⟨v0, rfl, ho0, hb1⟩
    go_wp2_with fail
    refine (C8.out _ (ht.below hb1)).mono ?_
    rintro e w2 ⟨vg, rfl, hog, hb2⟩
    go_wp2_with fail
    refine (eqS_any hog (ho0.all hb2) (by omega)).mono ?_
    rintro e w3 ⟨rfl, hb3⟩
    go_wp2_with fail
    refine (markS_any (hog.all hb3) (by omega) (Nat.le_trans hb2.size hb3.size)).mono ?_
    rintro e w4 ⟨rfl, hom, hb4⟩
    go_wp2_with fail
    refine (heldS_any hom (by omega)).mono ?_
    rintro e w5 ⟨rfl, hb5⟩
    have B1 : Below w.heap.size w w5 := (((hb1.trans (hb2.mono hb1.size)).trans (hb3.mono (Nat.le_trans hb1.size hb2.size))).trans (hb4.mono hb1.size)).trans (hb5.mono (Nat.le_trans (Nat.le_trans (Nat.le_trans hb1.size hb2.size) hb3.size) hb4.size))
    have o0 : ownsS w5 w.heap.size 9 v0 L := (((ho0.all hb2).all hb3).below hb4 fun k hk => (ho0.lt k hk).2).all hb5
    have om : ownsS w5 w1.heap.size 9 vg (marks 1 L.length) := hom.all hb5
    clear hb1 hb2 hb3 hb4 hb5 ho0 hog hom
    go_wp2_with fail
    refine (C8.out _ (ht.below B1)).mono ?_
    rintro e w6 ⟨vh, rfl, hoh, hb6⟩
    go_wp2_with fail
    refine (eqS_any hoh (o0.all hb6) (by omega)).mono ?_
    rintro e w7 ⟨rfl, hb7⟩
    go_wp2_with fail
    refine (heldS_any ((om.all hb6).all hb7) (by omega)).mono ?_
    rintro e w8 ⟨rfl, hb8⟩
    go_wp2_with fail
    go_ret
    exact ⟨rfl, ((B1.trans (hb6.mono B1.size)).trans (hb7.mono (Nat.le_trans B1.size hb6.size))).trans (hb8.mono (Nat.le_trans (Nat.le_trans B1.size hb6.size) hb7.size))⟩

end Go.Proofs.YtlkdknincjlncaaDoor
