/-
  The law's helpers on lists of texts: held against another, marked, looked at: the walks. Plans held against each other by the law: the walks of eqStringS, eqTask, eqTaskS and eqDag on what is alike. A plan's block of six cells.
-/
import Derived.Test.YteefacjjdalncaaGreatDoorMt
import Derived.Test.YteefacjjdalncaaGreatDoorA1
import Derived.Deep.QuietTactic
import Derived.BigQuiet
import Derived.Deep.RegionHeld
import Derived.WalkSpells
import Derived.WalkLawsBesides
import Derived.Handy
import Derived.Test.YteefacjjdalncaaGreatDoorC1
import Derived.Test.YteefacjjdalncaaGreatDoorGn
namespace Go.Proofs.YteefacjjdalncaaGreatDoor
open Go.RowKit

/-- n marksT from k on. -/
def marksT (k : Nat) : Nat → List ByteArray
  | 0 => []
  | n + 1 => markB k :: marksT (k + 1) n
theorem marksT_length (k : Nat) : ∀ n, (marksT k n).length = n := by
  intro n
  induction n generalizing k with
  | zero => rfl
  | succ n ih => simp [marksT, ih]
theorem marks_at (k : Nat) : ∀ (n j : Nat), j < n → (marksT k n)[j]? = some (markB (k + j)) := by
  intro n
  induction n generalizing k with
  | zero => intro j h; omega
  | succ n ih =>
    intro j h
    cases j with
    | zero => simp [marksT]
    | succ j =>
      simp only [marksT, List.getElem?_cons_succ]
      rw [ih (k + 1) j (by omega)]
      congr 2
      omega

set_option maxHeartbeats 400000 in
theorem eqS_none (a b : Option Addr) (c d : Nat) (w : World) :
    Calls Tryz.prog 172 #[.slice a 0 c, .slice b 0 d] w fun e w' => e = .returned (.bool true) ∧ Below w.heap.size w w' := by
  go_enter Tryz.func172, Tryz.ntmps172
  go_wp2
  refine wp_loop_rounds 1 ?_
  rw [rounds_succ]
  go_wp2
  go_ret
  exact ⟨rfl, Below.refl _ _⟩

set_option maxHeartbeats 1000000 in
theorem eqS_some (g h n c d : Nat) (l : List ByteArray) (w : World) (hn : n ≤ 1048577) (hl : l.length = n) (ha : ∀ j (hj : j < l.length), w.cell? ⟨g, j, none⟩ = some (.string l[j])) (hb : ∀ j (hj : j < l.length), w.cell? ⟨h, j, none⟩ = some (.string l[j])) :
    Calls Tryz.prog 172 #[.slice (some ⟨g, 0, none⟩) n c, .slice (some ⟨h, 0, none⟩) n d] w fun e w' => e = .returned (.bool true) ∧ Below w.heap.size w w' := by
  have HA : Hid (∀ j (hj : j < l.length), w.cell? ⟨g, j, none⟩ = some (.string l[j])) := ha
  have HB : Hid (∀ j (hj : j < l.length), w.cell? ⟨h, j, none⟩ = some (.string l[j])) := hb
  have HL : Hid (l.length = n) := hl
  clear ha hb hl
  go_enter Tryz.func172, Tryz.ntmps172
  go_wp2
  go_loopw [5] (fun i wr => ∃ (k m : Nat), k ≤ n ∧ i = .int .i64 k ∧ wr = w.drewN m) (fun i _ => n - (intOf i).toNat)
  case atStart => exact ⟨0, 0, Nat.zero_le _, rfl, rfl⟩
  case round =>
    obtain ⟨k, m, hk, rfl, rfl⟩ := hrel
    by_cases hlt : k < n
    · obtain ⟨t, hta, htb⟩ : ∃ t, w.cell? ⟨g, k, none⟩ = some (.string t) ∧ w.cell? ⟨h, k, none⟩ = some (.string t) := ⟨_, HA.out k (by rw [HL.out]; exact hlt), HB.out k (by rw [HL.out]; exact hlt)⟩
      go_wp2
      go_quiet (fail)
      go_wp2
      go_roundw
      case rel => exact ⟨k + 1, _, by omega, by go_num, rfl⟩
      case measure => simp [intOf]; omega
    · go_wp2
      go_ret
      exact ⟨rfl, ⟨rfl, rfl, rfl, Nat.le_refl _, fun _ _ => rfl⟩⟩

theorem eqS_any {w : World} {A B : Nat} {va vb : Value} {l : List ByteArray} (ha : ownsS w A 9 va l) (hb : ownsS w B 9 vb l) (hl : l.length ≤ 1048577) :
    Calls Tryz.prog 172 #[va, vb] w fun e w' => e = .returned (.bool true) ∧ Below w.heap.size w w' := by
  by_cases hne : l = []
  · subst hne
    obtain ⟨ao, c, rfl⟩ := ownsS_empty ha
    obtain ⟨bo, d, rfl⟩ := ownsS_empty hb
    exact eqS_none ao bo c d w
  · obtain ⟨g, c, rfl, _, _, _, hca, _⟩ := ownsS_form ha hne
    obtain ⟨h, d, rfl, _, _, _, hcb, _⟩ := ownsS_form hb hne
    exact eqS_some g h l.length c d l w hl rfl hca hcb

set_option maxHeartbeats 400000 in
theorem markS_none (a : Option Addr) (c : Nat) (w : World) :
    Calls Tryz.prog 129 #[.slice a 0 c, .int .i64 1] w fun e w' => e = .returned (.int .i64 1) ∧ Below w.heap.size w w' := by
  go_enter Tryz.func129, Tryz.ntmps129
  go_wp2
  refine wp_loop_rounds 1 ?_
  rw [rounds_succ]
  go_wp2
  go_ret
  exact ⟨rfl, Below.refl _ _⟩

/-- The first k marked, the rest as they were. -/
def marked (l : List ByteArray) (k : Nat) : List ByteArray := marksT 1 k ++ l.drop k
theorem marked_length (l : List ByteArray) (k : Nat) (h : k ≤ l.length) : (marked l k).length = l.length := by simp [marked, marksT_length]; omega
theorem marks_snoc (k : Nat) : ∀ n, marksT k (n + 1) = marksT k n ++ [markB (k + n)] := by
  intro n
  induction n generalizing k with
  | zero => simp [marksT]
  | succ n ih => rw [marksT, ih (k + 1)]; simp [marksT]; congr 1; omega
theorem marked_set (l : List ByteArray) (k : Nat) (h : k < l.length) : (marked l k).set k (markB (k + 1)) = marked l (k + 1) := by
  unfold marked
  rw [marks_snoc, List.drop_eq_getElem_cons h, List.set_append_right _ _ (by rw [marksT_length]; omega), marksT_length, Nat.add_comm 1 k]
  simp
  rw [List.drop_eq_getElem_cons h]
  rfl
theorem marked_all (l : List ByteArray) : marked l l.length = marksT 1 l.length := by simp [marked]

set_option maxHeartbeats 1000000 in
theorem markS_some (g n cap B : Nat) (l : List ByteArray) (w : World) (hn : n ≤ 1048577) (hl : l.length = n) (hB : B ≤ w.heap.size) (ho : ownsS w B 9 (.slice (some ⟨g, 0, none⟩) n cap) l) (hg : B ≤ g) :
    Calls Tryz.prog 129 #[.slice (some ⟨g, 0, none⟩) n cap, .int .i64 1] w fun e w' => e = .returned (.int .i64 ((n : Int) + 1)) ∧ ownsS w' B 9 (.slice (some ⟨g, 0, none⟩) n cap) (marksT 1 n) ∧ Below B w w' := by
  have HL : Hid (l.length = n) := hl
  clear hl
  go_enter Tryz.func129, Tryz.ntmps129
  go_wp2
  go_loopw [1, 5] (fun c i wr => ∃ k : Nat, k ≤ n ∧ i = .int .i64 k ∧ c = .int .i64 ((k : Int) + 1) ∧ ownsS wr B 9 (.slice (some ⟨g, 0, none⟩) n cap) (marked l k) ∧ Below B w wr) (fun _ i _ => n - (intOf i).toNat)
  case atStart => exact ⟨0, Nat.zero_le _, rfl, rfl, ho, Below.refl _ _⟩
  case round =>
    obtain ⟨k, hk, rfl, rfl, hown, hbel⟩ := hrel
    clear ho
    have hsz := hbel.size
    by_cases hlt : k < n
    · obtain ⟨t, ht2, hcell, hfr, hgs, hnn⟩ := ownsS_cell hown hlt
      clear hnn ht2
      go_wp2_with (go_at_call 128; refine (markText_any (k + 1) _ (by omega) (by omega)).mono ?_; rintro e w2 ⟨rfl, hb2⟩; have hc2 := (hb2.cell (p := ⟨g, k, none⟩) hgs).trans hcell; have hf2 := (hb2.frozen (p := ⟨g, k, none⟩) hgs).trans hfr)
      have R := ownsS_store (hown.all hb2) k (markB (k + 1))
      rw [marked_set l k (by rw [HL.out]; exact hlt)] at R
      clear hown hcell hfr hc2 hf2
      go_roundw
      case rel => exact ⟨k + 1, by omega, by go_num, by go_num, R, (hbel.trans (hb2.mono (by omega))).setCell (p := ⟨g, k, none⟩) hg _⟩
      case measure => simp [intOf]; omega
    · have hkn : k = n := by omega
      subst hkn
      have R : ownsS wr B 9 (.slice (some ⟨g, 0, none⟩) k cap) (marksT 1 k) := by
        have e := marked_all l
        rw [HL.out] at e
        rw [← e]
        exact hown
      clear hown
      go_wp2
      go_ret
      exact ⟨rfl, R, hbel⟩

theorem markS_any {w : World} {B : Nat} {v : Value} {l : List ByteArray} (ho : ownsS w B 9 v l) (hl : l.length ≤ 1048577) (hB : B ≤ w.heap.size) :
    Calls Tryz.prog 129 #[v, .int .i64 1] w fun e w' => e = .returned (.int .i64 ((l.length : Int) + 1)) ∧ ownsS w' B 9 v (marksT 1 l.length) ∧ Below B w w' := by
  by_cases hne : l = []
  · subst hne
    have ho2 := ho
    obtain ⟨ao, c, rfl⟩ := ownsS_empty ho
    exact (markS_none ao c w).mono fun e w' ⟨he, hb⟩ => ⟨he, ho2.all hb, hb.mono hB⟩
  · have ho2 := ho
    obtain ⟨g, c, rfl, hg, _⟩ := ownsS_form ho hne
    exact markS_some g l.length c B l w hl rfl hB ho2 hg

set_option maxHeartbeats 400000 in
theorem heldS_none (a : Option Addr) (c : Nat) (w : World) :
    Calls Tryz.prog 130 #[.slice a 0 c, .int .i64 1] w fun e w' => e = .returned (.int .i64 1) ∧ Below w.heap.size w w' := by
  go_enter Tryz.func130, Tryz.ntmps130
  go_wp2
  refine wp_loop_rounds 1 ?_
  rw [rounds_succ]
  go_wp2
  go_ret
  exact ⟨rfl, Below.refl _ _⟩

set_option maxHeartbeats 1000000 in
theorem heldS_some (g n cap : Nat) (w : World) (hn : n ≤ 1048577) (hg : g < w.heap.size) (ha : ∀ j, j < n → w.cell? ⟨g, j, none⟩ = some (.string (markB (j + 1)))) :
    Calls Tryz.prog 130 #[.slice (some ⟨g, 0, none⟩) n cap, .int .i64 1] w fun e w' => e = .returned (.int .i64 ((n : Int) + 1)) ∧ Below w.heap.size w w' := by
  have HA : Hid (∀ j, j < n → w.cell? ⟨g, j, none⟩ = some (.string (markB (j + 1)))) := ha
  clear ha
  go_enter Tryz.func130, Tryz.ntmps130
  go_wp2
  go_loopw [1, 5] (fun c i wr => ∃ k : Nat, k ≤ n ∧ i = .int .i64 k ∧ c = .int .i64 ((k : Int) + 1) ∧ Below w.heap.size w wr) (fun _ i _ => n - (intOf i).toNat)
  case atStart => exact ⟨0, Nat.zero_le _, rfl, rfl, Below.refl _ _⟩
  case round =>
    obtain ⟨k, hk, rfl, rfl, hbel⟩ := hrel
    have hsz := hbel.size
    by_cases hlt : k < n
    · have hc := (hbel.cell (p := ⟨g, k, none⟩) hg).trans (HA.out k hlt)
      have hgr : g < wr.heap.size := by omega
      go_wp2
      go_region_held (fun w' => w'.cell? ⟨g, k, none⟩ = some (.string (markB (k + 1)))) ((first | exact hc | exact (hb2.cell (p := ⟨g, k, none⟩) hgr).trans hc)) ((go_at_call 128; refine (markText_any (k + 1) _ (by omega) (by omega)).mono ?_; rintro e w2 ⟨rfl, hb2⟩))
      go_wp2
      go_roundw
      case rel => exact ⟨k + 1, by omega, by go_num, by go_num, hbel.trans (((Below.refl _ _).drew.trans hb2).mono hsz)⟩
      case measure => simp [intOf]; omega
    · have hkn : k = n := by omega
      subst hkn
      go_wp2
      go_ret
      exact ⟨rfl, hbel⟩

theorem heldS_any {w : World} {B n : Nat} {v : Value} (ho : ownsS w B 9 v (marksT 1 n)) (hn : n ≤ 1048577) :
    Calls Tryz.prog 130 #[v, .int .i64 1] w fun e w' => e = .returned (.int .i64 ((n : Int) + 1)) ∧ Below w.heap.size w w' := by
  by_cases h0 : n = 0
  · subst h0
    obtain ⟨ao, c, rfl⟩ := ownsS_empty ho
    exact heldS_none ao c w
  · obtain ⟨g, c, rfl, _, hg, _, hc, _⟩ := ownsS_form ho (by intro e; have := congrArg List.length e; rw [marksT_length] at this; simp at this; omega)
    rw [marksT_length]
    refine heldS_some g n c w hn hg fun j hj => ?_
    rw [hc j (by rw [marksT_length]; exact hj)]
    have := marks_at 1 n j hj
    rw [List.getElem?_eq_getElem (by rw [marksT_length]; exact hj)] at this
    rw [Option.some.inj this, Nat.add_comm 1 j]

end Go.Proofs.YteefacjjdalncaaGreatDoor

namespace Go.Proofs.YteefacjjdalncaaGreatDoor
open Go Go.RowKit

set_option maxRecDepth 10000 in
set_option maxHeartbeats 1000000 in
theorem eqSR_any (ao bo : Option Addr) (n c d : Nat) (l : List ByteArray) (w : World) (ha : Reads w (.slice ao n c) l) (hb : Reads w (.slice bo n d) l) (hn : n ≤ 1048577) :
    Calls Tryz.prog 172 #[.slice ao n c, .slice bo n d] w fun e w' => e = .returned (.bool true) ∧ Below w.heap.size w w' := by
  have HN : Hid (n = l.length) := ha.len
  have HA : Hid (Reads w (.slice ao n c) l) := ha
  have HB : Hid (Reads w (.slice bo n d) l) := hb
  clear ha hb
  go_enter Tryz.func172, Tryz.ntmps172
  go_wp2
  go_loopw [5] (fun i wr => ∃ k : Nat, k ≤ n ∧ i = .int .i64 k ∧ Below w.heap.size w wr) (fun i _ => n - (intOf i).toNat)
  case atStart => exact ⟨0, Nat.zero_le _, rfl, Below.refl _ _⟩
  case round =>
    obtain ⟨k, hk, rfl, hbel⟩ := hrel
    by_cases hlt : k < n
    · obtain ⟨f, hf⟩ : ∃ f, l[k]? = some f := ⟨_, List.getElem?_eq_getElem (by rw [← HN.out]; exact hlt)⟩
      obtain ⟨a, oa, rfl, hga, a0⟩ := text_at (HA.out.below hbel) hf
      obtain ⟨b, ob, rfl, hgb, b0⟩ := text_at (HB.out.below hbel) hf
      clear hf
      have q0 := Wd.cell a0
      have q1 := Wd.cell b0
      go_wp2
      refine wp_region_wd (by kernel_rfl) (by kernel_rfl) ?_
      repeat (go_big_quiet_step (fail))
      refine wpQuiet_nil ?_
      rintro _ ⟨x, rfl⟩
      have BX := Below.on hbel x.ok
      clear q0 q1
      go_wp2
      go_roundw
      case rel => exact ⟨k + 1, by omega, by go_num, BX⟩
      case measure => simp [intOf]; omega
    · go_wp2
      go_ret
      exact ⟨rfl, hbel⟩
set_option maxRecDepth 10000 in
set_option maxHeartbeats 1000000 in
theorem eqT_any (nm po : ByteArray) (rt : Int) (pa : Bool) (fo go : Option Addr) (m fc gc : Nat) (af : List ByteArray) (w : World) (ha : Reads w (.slice fo m fc) af) (hb : Reads w (.slice go m gc) af) (hm : m ≤ 1048577) :
    Calls Tryz.prog 127 #[.agg #[.string nm, .string po, .int .i64 rt, .bool pa, .slice fo m fc], .agg #[.string nm, .string po, .int .i64 rt, .bool pa, .slice go m gc]] w fun e w' => e = .returned (.bool true) ∧ Below w.heap.size w w' := by
  have HE : Hid (∀ W, Below w.heap.size w W → Calls Tryz.prog 172 #[.slice fo m fc, .slice go m gc] W fun e w' => e = .returned (.bool true) ∧ Below W.heap.size W w') := fun W h => eqSR_any fo go m fc gc af W (ha.below h) (hb.below h) hm
  clear ha hb
  go_enter Tryz.func127, Tryz.ntmps127
  go_wp2_with (go_at_call 172; refine (HE.out _ (ba (ba (Below.refl _ _) _) _)).mono ?_; rintro e w1 ⟨rfl, hb1⟩)
  go_ret
  exact ⟨rfl, Below.on (ba (ba (Below.refl _ _) _) _) hb1⟩
set_option maxRecDepth 10000 in
set_option maxHeartbeats 1000000 in
theorem eqTS_any (ao bo : Option Addr) (n c d : Nat) (ts : List Ta) (w : World) (ha : Tasks w (.slice ao n c) ts) (hb : Tasks w (.slice bo n d) ts) (hn : n ≤ 1048577) (hs : ∀ t ∈ ts, t.after.length ≤ 1048577) :
    Calls Tryz.prog 81 #[.slice ao n c, .slice bo n d] w fun e w' => e = .returned (.bool true) ∧ Below w.heap.size w w' := by
  have HN : Hid (ts.length = n) := by
    obtain ⟨ao', cap', e⟩ := ha.slice
    injection e with _ e2 _
    exact e2.symm
  have HA : Hid (Tasks w (.slice ao n c) ts) := ha
  have HB : Hid (Tasks w (.slice bo n d) ts) := hb
  have HS : Hid (∀ t ∈ ts, t.after.length ≤ 1048577) := hs
  clear ha hb hs
  go_enter Tryz.func81, Tryz.ntmps81
  go_wp2
  go_loopw [5] (fun i wr => ∃ k : Nat, k ≤ n ∧ i = .int .i64 k ∧ Below w.heap.size w wr) (fun i _ => n - (intOf i).toNat)
  case atStart => exact ⟨0, Nat.zero_le _, rfl, Below.refl _ _⟩
  case round =>
    obtain ⟨k, hk, rfl, hbel⟩ := hrel
    by_cases hlt : k < n
    · obtain ⟨t, ht⟩ : ∃ t, ts[k]? = some t := ⟨_, List.getElem?_eq_getElem (by rw [HN.out]; exact hlt)⟩
      obtain ⟨a, oa, av, rfl, hga, a0, a1, a2, a3, a4, hav⟩ := (HA.out.below hbel).at ht
      obtain ⟨b, ob, bv, rfl, hgb, b0, b1, b2, b3, b4, hbv⟩ := (HB.out.below hbel).at ht
      obtain ⟨fo, fc, rfl, _⟩ := id hav
      obtain ⟨ho, hc, rfl, _⟩ := id hbv
      have hm0 := HS.out t (List.mem_of_getElem? ht)
      obtain ⟨m, HM⟩ : ∃ m, Hid (t.after.length = m) := ⟨_, rfl⟩
      rw [HM.out] at hav hbv a4 b4 hm0
      have H1 : Hid (∀ x : Wd wr, Calls Tryz.prog 127 #[.agg #[.string t.name, .string t.pool, .int .i64 t.ret, .bool t.past, .slice fo m fc], .agg #[.string t.name, .string t.pool, .int .i64 t.ret, .bool t.past, .slice ho m hc]] x.at' fun e w' => e = .returned (.bool true) ∧ Below x.at'.heap.size x.at' w') := fun x => eqT_any _ _ _ _ _ _ _ _ _ t.after x.at' (hav.below x.ok) (hbv.below x.ok) hm0
      clear ht hav hbv
      have q0 := Wd.cell a0
      have q1 := Wd.cell a1
      have q2 := Wd.cell a2
      have q3 := Wd.cell a3
      have q4 := Wd.cell a4
      have r0 := Wd.cell b0
      have r1 := Wd.cell b1
      have r2 := Wd.cell b2
      have r3 := Wd.cell b3
      have r4 := Wd.cell b4
      go_wp2
      refine wp_region_wd (by kernel_rfl) (by kernel_rfl) ?_
      repeat (go_big_quiet_step ((go_at_call 127; refine calls_wd (v := .bool true) ?_; with_reducible exact H1.out _)))
      refine wpQuiet_nil ?_
      rintro _ ⟨x, rfl⟩
      have BX := Below.on hbel x.ok
      clear q0 q1 q2 q3 q4 r0 r1 r2 r3 r4 a0 a1 a2 a3 a4 b0 b1 b2 b3 b4 H1
      go_wp2
      go_roundw
      case rel => exact ⟨k + 1, by omega, by go_num, BX⟩
      case measure => simp [intOf]; omega
    · go_wp2
      go_ret
      exact ⟨rfl, hbel⟩
set_option maxRecDepth 10000 in
set_option maxHeartbeats 1000000 in
theorem eqD_any (nm cr : ByteArray) (fr up : Int) (cu : Bool) (ao bo : Option Addr) (n c d : Nat) (ts : List Ta) (w : World) (ha : Tasks w (.slice ao n c) ts) (hb : Tasks w (.slice bo n d) ts) (hn : n ≤ 1048577) (hs : ∀ t ∈ ts, t.after.length ≤ 1048577) :
    Calls Tryz.prog 36 #[.agg #[.string nm, .string cr, .int .i64 fr, .int .i64 up, .bool cu, .slice ao n c], .agg #[.string nm, .string cr, .int .i64 fr, .int .i64 up, .bool cu, .slice bo n d]] w fun e w' => e = .returned (.bool true) ∧ Below w.heap.size w w' := by
  have HE : Hid (∀ W, Below w.heap.size w W → Calls Tryz.prog 81 #[.slice ao n c, .slice bo n d] W fun e w' => e = .returned (.bool true) ∧ Below W.heap.size W w') := fun W h => eqTS_any ao bo n c d ts W (ha.below h) (hb.below h) hn hs
  clear ha hb
  go_enter Tryz.func36, Tryz.ntmps36
  go_wp2_with (go_at_call 81; refine (HE.out _ (ba (ba (Below.refl _ _) _) _)).mono ?_; rintro e w1 ⟨rfl, hb1⟩)
  go_ret
  exact ⟨rfl, Below.on (ba (ba (Below.refl _ _) _) _) hb1⟩
end Go.Proofs.YteefacjjdalncaaGreatDoor

namespace Go.Proofs.YteefacjjdalncaaGreatDoor
open Go Go.RowKit

def L6 (w : World) (g : Nat) (nm cr : ByteArray) (fr up : Int) (cu : Bool) (tv : Value) : Prop := w.heap[g]? = some (.cells #[.string nm, .string cr, .int .i64 fr, .int .i64 up, .bool cu, tv] 50)
section
variable {w w' : World} {g : Nat} {nm cr : ByteArray} {fr up : Int} {cu : Bool} {tv : Value}
theorem L6.lt (h : L6 w g nm cr fr up cu tv) : g < w.heap.size := (Array.getElem?_eq_some_iff.1 h).1
theorem L6.c0 (h : L6 w g nm cr fr up cu tv) : w.cell? ⟨g, 0, none⟩ = some (.string nm) := by simp [World.cell?, show w.heap[g]? = _ from h]
theorem L6.s0 (h : L6 w g nm cr fr up cu tv) (u : ByteArray) : L6 (w.setCell ⟨g, 0, none⟩ (.string u)) g u cr fr up cu tv := by simp [L6, World.setCell, Array.getElem?_modify, show w.heap[g]? = _ from h]
theorem L6.c1 (h : L6 w g nm cr fr up cu tv) : w.cell? ⟨g, 1, none⟩ = some (.string cr) := by simp [World.cell?, show w.heap[g]? = _ from h]
theorem L6.s1 (h : L6 w g nm cr fr up cu tv) (u : ByteArray) : L6 (w.setCell ⟨g, 1, none⟩ (.string u)) g nm u fr up cu tv := by simp [L6, World.setCell, Array.getElem?_modify, show w.heap[g]? = _ from h]
theorem L6.c2 (h : L6 w g nm cr fr up cu tv) : w.cell? ⟨g, 2, none⟩ = some (.int .i64 fr) := by simp [World.cell?, show w.heap[g]? = _ from h]
theorem L6.s2 (h : L6 w g nm cr fr up cu tv) (u : Int) : L6 (w.setCell ⟨g, 2, none⟩ (.int .i64 u)) g nm cr u up cu tv := by simp [L6, World.setCell, Array.getElem?_modify, show w.heap[g]? = _ from h]
theorem L6.c3 (h : L6 w g nm cr fr up cu tv) : w.cell? ⟨g, 3, none⟩ = some (.int .i64 up) := by simp [World.cell?, show w.heap[g]? = _ from h]
theorem L6.s3 (h : L6 w g nm cr fr up cu tv) (u : Int) : L6 (w.setCell ⟨g, 3, none⟩ (.int .i64 u)) g nm cr fr u cu tv := by simp [L6, World.setCell, Array.getElem?_modify, show w.heap[g]? = _ from h]
theorem L6.c4 (h : L6 w g nm cr fr up cu tv) : w.cell? ⟨g, 4, none⟩ = some (.bool cu) := by simp [World.cell?, show w.heap[g]? = _ from h]
theorem L6.s4 (h : L6 w g nm cr fr up cu tv) (u : Bool) : L6 (w.setCell ⟨g, 4, none⟩ (.bool u)) g nm cr fr up u tv := by simp [L6, World.setCell, Array.getElem?_modify, show w.heap[g]? = _ from h]
theorem L6.c5 (h : L6 w g nm cr fr up cu tv) : w.cell? ⟨g, 5, none⟩ = some (tv) := by simp [World.cell?, show w.heap[g]? = _ from h]
theorem L6.s5 (h : L6 w g nm cr fr up cu tv) (u : Value) : L6 (w.setCell ⟨g, 5, none⟩ u) g nm cr fr up cu u := by simp [L6, World.setCell, Array.getElem?_modify, show w.heap[g]? = _ from h]
theorem L6.fz (h : L6 w g nm cr fr up cu tv) (k : Nat) : w.frozen? ⟨g, k, none⟩ = false := by simp [World.frozen?, show w.heap[g]? = _ from h]
theorem L6.on (h : L6 w g nm cr fr up cu tv) (hb : Below w.heap.size w w') : L6 w' g nm cr fr up cu tv := (hb.block _ h.lt).trans h
theorem L6.grown {r : Option Nat} (h : L6 w g nm cr fr up cu tv) (hg : w.grownBy w' r) (hr : some g ≠ r) : L6 w' g nm cr fr up cu tv := (hg.block g h.lt hr).trans h
theorem L6.far (h : L6 w g nm cr fr up cu tv) {a : Addr} (ha : a.block ≠ g) (u : Value) : L6 (w.setCell a u) g nm cr fr up cu tv := (heap_setCell_other w a g u (fun e => ha e.symm)).trans h
theorem L6.new (w : World) (nm cr : ByteArray) (fr up : Int) (cu : Bool) (tv : Value) : L6 (w.alloc (.cells #[.string nm, .string cr, .int .i64 fr, .int .i64 up, .bool cu, tv] 50)) w.heap.size nm cr fr up cu tv := by
  show (w.heap.push _)[w.heap.size]? = _; simp
end
end Go.Proofs.YteefacjjdalncaaGreatDoor
