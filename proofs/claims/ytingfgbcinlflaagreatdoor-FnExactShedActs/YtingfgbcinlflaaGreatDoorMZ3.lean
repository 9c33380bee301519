/-
  Rows of records of one kind (Act): sizes, copies, held against each other, marked: the walks of the law's helpers. Files as values: small functions on one file: the walks. Rows of files: sizes, copies, held against each other: the walks. Whether a disk is right: the walks. Whether a disk is right, as the specification tells it: the walk. The file of a name: the walks; the law on whether all is kept. The built-in copy over rows of records, each of as many cells, as a law of the walk. Over any program. The built-in append of a row of records behind another one, as a run. Over any program. Rows of acts that are made; files with short names.
-/
import Derived.Test.YtingfgbcinlflaaGreatDoorGn
import Derived.Test.YtingfgbcinlflaaGreatDoorMt
import Derived.Test.YtingfgbcinlflaaGreatDoorWd
import Derived.Test.YtingfgbcinlflaaGreatDoorInf
import Derived.Test.YtingfgbcinlflaaGreatDoorAid
import Derived.Deep.QuietTactic
import Derived.BigQuiet
import Derived.Deep.RegionHeld
import Derived.Handy
import Derived.Test.YtingfgbcinlflaaGreatDoorRec
import Derived.Laws.Cover1
import Derived.Test.YtingfgbcinlflaaGreatDoorCln
import Derived.Laws.CopyRow
namespace Go.Proofs.YtingfgbcinlflaaGreatDoor
open Go Go.RowKit

structure Ac where
  kind : Int
  name : ByteArray
  text : ByteArray
  to : ByteArray
instance : Inhabited Ac := ⟨⟨0, ByteArray.empty, ByteArray.empty, ByteArray.empty⟩⟩
instance : Rec Ac := ⟨4, fun a => [.int .i64 a.kind, .string a.name, .string a.text, .string a.to], fun _ => rfl, by decide⟩
theorem ac_width : Rec.width Ac = 4 := rfl
theorem ac_at {w : World} {ao : Option Addr} {n cap : Nat} {l : List Ac} (h : Reads w (.slice ao n cap) l) {k : Nat} {f : Ac} (hk : l[k]? = some f) :
    ∃ b o, ao = some ⟨b, o, none⟩ ∧ b < w.heap.size ∧ w.cell? ⟨b, o + k * 4, none⟩ = some (.int .i64 f.kind) ∧ w.cell? ⟨b, o + k * 4 + 1, none⟩ = some (.string f.name) ∧ w.cell? ⟨b, o + k * 4 + 2, none⟩ = some (.string f.text) ∧ w.cell? ⟨b, o + k * 4 + 3, none⟩ = some (.string f.to) := by
  obtain ⟨b, o, rfl, hlt, hc⟩ := h.at hk
  exact ⟨b, o, rfl, hlt, hc 0 _ rfl, hc 1 _ rfl, hc 2 _ rfl, hc 3 _ rfl⟩
def sizeAc : List Ac → Nat
  | [] => 0
  | f :: r => f.name.size + f.text.size + f.to.size + sizeAc r
theorem sizeAc_take {l : List Ac} {k : Nat} {f : Ac} (h : l[k]? = some f) : sizeAc (l.take (k + 1)) = sizeAc (l.take k) + (f.name.size + f.text.size + f.to.size) := by
  induction l generalizing k with
  | nil => simp at h
  | cons x r ih =>
    cases k with
    | zero => simp at h; subst h; simp [sizeAc]
    | succ k => simp at h; simp [sizeAc, ih h]; omega
theorem sizeAc_mem {l : List Ac} {f : Ac} (h : f ∈ l) : f.name.size + f.text.size + f.to.size ≤ sizeAc l := by
  induction l with
  | nil => simp at h
  | cons x r ih =>
    rcases List.mem_cons.1 h with rfl | h
    · simp [sizeAc]
    · have := ih h; simp [sizeAc]; omega
def SmallAc (l : List Ac) : Prop := ∀ f ∈ l, f.name.size ≤ 9223372036854775807 ∧ f.text.size ≤ 9223372036854775807 ∧ f.to.size ≤ 9223372036854775807

theorem infoAc : (Tryz.prog.info? 47).map (fun i => (i.zero, i.size, i.bytes)) = some (some (.agg #[.int .i64 0, .string ByteArray.empty, .string ByteArray.empty, .string ByteArray.empty]), 4, 56) := by kernel_rfl
theorem underAc : Tryz.prog.underlying 26 = some (.slice 47) := by kernel_rfl
theorem madeAc (n : Nat) : (madeCells (Value.cells (.agg #[.int .i64 0, .string ByteArray.empty, .string ByteArray.empty, .string ByteArray.empty])) (n * 4)).toList = (List.replicate n (default : Ac)).flatMap Rec.cells := by
  apply List.ext_getElem?
  intro m
  have hm := Nat.div_add_mod m 4
  have h3 : m % 4 < 4 := Nat.mod_lt _ (by decide)
  have e := flat_at (List.replicate n (default : Ac)) (m / 4) (m % 4) h3
  rw [ac_width, show m / 4 * 4 + m % 4 = m by omega] at e
  rw [e]
  simp only [madeCells, Value.cells, Array.toList_map, Array.toList_range, List.getElem?_map, List.getElem?_replicate]
  by_cases hlt : m / 4 < n
  · rw [if_pos hlt, List.getElem?_range (by omega)]
    match hx : m % 4, h3 with
    | 0, _ => simp [hx]; rfl
    | 1, _ => simp [hx]; rfl
    | 2, _ => simp [hx]; rfl
    | 3, _ => simp [hx]; rfl
  · rw [if_neg hlt, List.getElem?_eq_none (by simp; omega)]
    rfl

theorem ac_put {w : World} {B : Nat} {g n cap : Nat} {l : List Ac} (h : ownsR w B 47 (.slice (some ⟨g, 0, none⟩) n cap) l) {i : Nat} {y : Ac} (f : Ac) (hi : l[i]? = some y) :
    ownsR ((((w.setCell ⟨g, i * 4, none⟩ (.int .i64 f.kind)).setCell ⟨g, i * 4 + 1, none⟩ (.string f.name)).setCell ⟨g, i * 4 + 2, none⟩ (.string f.text)).setCell ⟨g, i * 4 + 3, none⟩ (.string f.to)) B 47 (.slice (some ⟨g, 0, none⟩) n cap) (l.set i f) := by
  have hil : i < l.length := (List.getElem?_eq_some_iff.1 hi).1
  have h1 := h.put (j := 0) (u := .int .i64 f.kind) { y with kind := f.kind } hi (by decide) rfl
  have h2 := h1.put (i := i) (j := 1) (u := .string f.name) { y with kind := f.kind, name := f.name } (List.getElem?_set_self (by simpa using hil)) (by decide) rfl
  have h3 := h2.put (i := i) (j := 2) (u := .string f.text) { y with kind := f.kind, name := f.name, text := f.text } (List.getElem?_set_self (by simpa using hil)) (by decide) rfl
  have h4 := h3.put (i := i) (j := 3) (u := .string f.to) f (List.getElem?_set_self (by simpa using hil)) (by decide) rfl
  simpa only [ac_width, Nat.add_zero, List.set_set] using h4

set_option maxHeartbeats 400000 in
theorem eqAct_any (kind : Int) (name : ByteArray) (text : ByteArray) (to : ByteArray) (w : World) :
    Calls Tryz.prog 21 #[.agg #[.int .i64 kind, .string name, .string text, .string to], .agg #[.int .i64 kind, .string name, .string text, .string to]] w fun e w' => e = .returned (.bool true) ∧ Below w.heap.size w w' := by
  go_enter Tryz.func21, Tryz.ntmps21
  go_wp2
  go_ret
  exact ⟨rfl, ba (ba (Below.refl _ _) _) _⟩

set_option maxRecDepth 8000 in
set_option maxHeartbeats 2000000 in
theorem eqActS_any (ao bo : Option Addr) (n c d : Nat) (l : List Ac) (w : World) (ha : Reads w (.slice ao n c) l) (hb : Reads w (.slice bo n d) l) (hn : n ≤ 1048577) :
    Calls Tryz.prog 8 #[.slice ao n c, .slice bo n d] w fun e w' => e = .returned (.bool true) ∧ Below w.heap.size w w' := by
  have HN : Hid (n = l.length) := ha.len
  have HA : Hid (Reads w (.slice ao n c) l) := ha
  have HB : Hid (Reads w (.slice bo n d) l) := hb
  clear ha hb
  go_enter Tryz.func8, Tryz.ntmps8
  go_wp2
  go_loopw [5] (fun i wr => ∃ k : Nat, k ≤ n ∧ i = .int .i64 k ∧ Below w.heap.size w wr) (fun i _ => n - (intOf i).toNat)
  case atStart => exact ⟨0, Nat.zero_le _, rfl, Below.refl _ _⟩
  case round =>
    obtain ⟨k, hk, rfl, hbel⟩ := hrel
    by_cases hlt : k < n
    · obtain ⟨f, hf⟩ : ∃ f, l[k]? = some f := ⟨_, List.getElem?_eq_getElem (by rw [← HN.out]; exact hlt)⟩
      obtain ⟨a, oa, rfl, hga, a0, a1, a2, a3⟩ := ac_at (HA.out.below hbel) hf
      obtain ⟨b, ob, rfl, hgb, b0, b1, b2, b3⟩ := ac_at (HB.out.below hbel) hf
      clear hf
      go_wp2
      go_region_held (fun w' => w'.cell? ⟨a, oa + k * 4, none⟩ = some (.int .i64 f.kind) ∧ w'.cell? ⟨a, oa + k * 4 + 1, none⟩ = some (.string f.name) ∧ w'.cell? ⟨a, oa + k * 4 + 2, none⟩ = some (.string f.text) ∧ w'.cell? ⟨a, oa + k * 4 + 3, none⟩ = some (.string f.to) ∧ w'.cell? ⟨b, ob + k * 4, none⟩ = some (.int .i64 f.kind) ∧ w'.cell? ⟨b, ob + k * 4 + 1, none⟩ = some (.string f.name) ∧ w'.cell? ⟨b, ob + k * 4 + 2, none⟩ = some (.string f.text) ∧ w'.cell? ⟨b, ob + k * 4 + 3, none⟩ = some (.string f.to)) ((first | exact ⟨a0, a1, a2, a3, b0, b1, b2, b3⟩ | exact ⟨(hb2.cell hga).trans a0, (hb2.cell hga).trans a1, (hb2.cell hga).trans a2, (hb2.cell hga).trans a3, (hb2.cell hgb).trans b0, (hb2.cell hgb).trans b1, (hb2.cell hgb).trans b2, (hb2.cell hgb).trans b3⟩)) ((go_at_call 21; refine (eqAct_any _ _ _ _ _).mono ?_; rintro e w2 ⟨rfl, hb2⟩))
      go_wp2
      go_roundw
      case rel => exact ⟨k + 1, by omega, by go_num, hbel.trans (((Below.refl _ _).drew.trans hb2).mono hbel.size)⟩
      case measure => simp [intOf]; omega
    · go_wp2
      go_ret
      exact ⟨rfl, hbel⟩

def mkAc (x : Int) : Ac := ⟨x, mkT (x + 1), mkT (x + 1 + 1), mkT (x + 1 + 1 + 1)⟩
def marksAc (x : Int) (n : Nat) : List Ac := marksR mkAc 4 x n
theorem ac_own {w : World} {B : Nat} {g n cap : Nat} {l : List Ac} (h : ownsR w B 47 (.slice (some ⟨g, 0, none⟩) n cap) l) {i : Nat} {x : Ac} (hi : l[i]? = some x) :
    g < w.heap.size ∧ (w.cell? ⟨g, i * 4, none⟩ = some (.int .i64 x.kind) ∧ w.cell? ⟨g, i * 4 + 1, none⟩ = some (.string x.name) ∧ w.cell? ⟨g, i * 4 + 2, none⟩ = some (.string x.text) ∧ w.cell? ⟨g, i * 4 + 3, none⟩ = some (.string x.to)) ∧ w.frozen? ⟨g, i * 4, none⟩ = false ∧ w.frozen? ⟨g, i * 4 + 1, none⟩ = false ∧ w.frozen? ⟨g, i * 4 + 2, none⟩ = false ∧ w.frozen? ⟨g, i * 4 + 3, none⟩ = false := by
  obtain ⟨h1, _, _, h2⟩ := h.at hi
  exact ⟨h1, ⟨(h2 0 (by decide)).1, (h2 1 (by decide)).1, (h2 2 (by decide)).1, (h2 3 (by decide)).1⟩, (h2 0 (by decide)).2, (h2 1 (by decide)).2, (h2 2 (by decide)).2, (h2 3 (by decide)).2⟩

set_option maxHeartbeats 1000000 in
theorem markActS_none (ao : Option Addr) (c : Nat) (x : Int) (w : World) :
    Calls Tryz.prog 11 #[.slice ao 0 c, .int .i64 x] w fun e w' => e = .returned (.int .i64 x) ∧ Below w.heap.size w w' := by
  go_enter Tryz.func11, Tryz.ntmps11
  go_wp2
  refine wp_loop_rounds 1 ?_
  rw [rounds_succ]
  go_wp2
  go_ret
  exact ⟨rfl, Below.refl _ _⟩

set_option maxRecDepth 8000 in
set_option maxHeartbeats 4000000 in
theorem markActS_some (g n c B : Nat) (x : Int) (l : List Ac) (w : World) (ho : ownsR w B 47 (.slice (some ⟨g, 0, none⟩) n c) l) (hn : n ≤ 1048577) (hx0 : 0 < x) (hx : x ≤ 100000000) :
    Calls Tryz.prog 11 #[.slice (some ⟨g, 0, none⟩) n c, .int .i64 x] w fun e w' => e = .returned (.int .i64 (x + 4 * (n : Int))) ∧ ownsR w' B 47 (.slice (some ⟨g, 0, none⟩) n c) (marksAc x n) ∧ w.grownBy w' (some g) := by
  have HN : Hid (n = l.length) := ho.reads.len
  have HO : Hid (ownsR w B 47 (.slice (some ⟨g, 0, none⟩) n c) l) := ho
  clear ho
  go_enter Tryz.func11, Tryz.ntmps11
  go_wp2
  go_loopw [1, 5] (fun q i wr => ∃ k : Nat, k ≤ n ∧ i = .int .i64 k ∧ q = .int .i64 (x + 4 * (k : Int)) ∧ Hid (ownsR wr B 47 (.slice (some ⟨g, 0, none⟩) n c) (markedR mkAc 4 x l k)) ∧ w.grownBy wr (some g)) (fun _ i _ => n - (intOf i).toNat)
  case atStart => exact ⟨0, Nat.zero_le _, rfl, by simp, markedR_zero HO, grown_refl _ _⟩
  case round =>
    obtain ⟨k, hk, rfl, rfl, HL, hbel⟩ := hrel
    by_cases hlt : k < n
    · obtain ⟨f, hf⟩ : ∃ f, l[k]? = some f := ⟨_, List.getElem?_eq_getElem (by rw [← HN.out]; exact hlt)⟩
      have HF : Hid (l[k]? = some f) := hf
      clear hf
      obtain ⟨hg0, ⟨d0_0, d0_1, d0_2, d0_3⟩, f0_0, f0_1, f0_2, f0_3⟩ := ac_own HL.out (markedR_at HF.out)
      clear d0_1 f0_1 d0_2 f0_2 d0_3 f0_3
      have P0 : Hid (ownsR (wr.setCell ⟨g, k * 4, none⟩ (.int .i64 (x + 4 * (k : Int)))) B 47 (.slice (some ⟨g, 0, none⟩) n c) ((markedR mkAc 4 x l k).set k { f with kind := x + 4 * (k : Int) })) := by
        have := HL.out.put (j := 0) (u := .int .i64 (x + 4 * (k : Int))) { f with kind := x + 4 * (k : Int) } (markedR_at HF.out) (by decide) rfl
        exact this
      have at0 : ((markedR mkAc 4 x l k).set k { f with kind := x + 4 * (k : Int) })[k]? = some { f with kind := x + 4 * (k : Int) } := List.getElem?_set_self (by rw [markedR_length (by rw [← HN.out]; omega), ← HN.out]; exact hlt)
      go_wp2_with fail
      refine (markText_int _ _ (by omega) (by omega)).mono ?_
      rintro e w1 ⟨rfl, hb1⟩
      have O1 : Hid (ownsR w1 B 47 (.slice (some ⟨g, 0, none⟩) n c) ((markedR mkAc 4 x l k).set k { f with kind := x + 4 * (k : Int) })) := P0.out.all hb1
      obtain ⟨hg1, ⟨d1_0, d1_1, d1_2, d1_3⟩, f1_0, f1_1, f1_2, f1_3⟩ := ac_own O1.out at0
      clear d1_0 f1_0 d1_2 f1_2 d1_3 f1_3
      have P1 : Hid (ownsR (w1.setCell ⟨g, k * 4 + 1, none⟩ (.string (mkT (x + 4 * (k : Int) + 1)))) B 47 (.slice (some ⟨g, 0, none⟩) n c) ((markedR mkAc 4 x l k).set k { f with kind := x + 4 * (k : Int), name := mkT (x + 4 * (k : Int) + 1) })) := by
        have := O1.out.put (j := 1) (u := .string (mkT (x + 4 * (k : Int) + 1))) { f with kind := x + 4 * (k : Int), name := mkT (x + 4 * (k : Int) + 1) } at0 (by decide) rfl
        rw [List.set_set] at this
        exact this
      have at1 : ((markedR mkAc 4 x l k).set k { f with kind := x + 4 * (k : Int), name := mkT (x + 4 * (k : Int) + 1) })[k]? = some { f with kind := x + 4 * (k : Int), name := mkT (x + 4 * (k : Int) + 1) } := List.getElem?_set_self (by rw [markedR_length (by rw [← HN.out]; omega), ← HN.out]; exact hlt)
      go_wp2_with fail
      refine (markText_int _ _ (by omega) (by omega)).mono ?_
      rintro e w2 ⟨rfl, hb2⟩
      have O2 : Hid (ownsR w2 B 47 (.slice (some ⟨g, 0, none⟩) n c) ((markedR mkAc 4 x l k).set k { f with kind := x + 4 * (k : Int), name := mkT (x + 4 * (k : Int) + 1) })) := P1.out.all hb2
      obtain ⟨hg2, ⟨d2_0, d2_1, d2_2, d2_3⟩, f2_0, f2_1, f2_2, f2_3⟩ := ac_own O2.out at1
      clear d2_0 f2_0 d2_1 f2_1 d2_3 f2_3
      have P2 : Hid (ownsR (w2.setCell ⟨g, k * 4 + 2, none⟩ (.string (mkT (x + 4 * (k : Int) + 1 + 1)))) B 47 (.slice (some ⟨g, 0, none⟩) n c) ((markedR mkAc 4 x l k).set k { f with kind := x + 4 * (k : Int), name := mkT (x + 4 * (k : Int) + 1), text := mkT (x + 4 * (k : Int) + 1 + 1) })) := by
        have := O2.out.put (j := 2) (u := .string (mkT (x + 4 * (k : Int) + 1 + 1))) { f with kind := x + 4 * (k : Int), name := mkT (x + 4 * (k : Int) + 1), text := mkT (x + 4 * (k : Int) + 1 + 1) } at1 (by decide) rfl
        rw [List.set_set] at this
        exact this
      have at2 : ((markedR mkAc 4 x l k).set k { f with kind := x + 4 * (k : Int), name := mkT (x + 4 * (k : Int) + 1), text := mkT (x + 4 * (k : Int) + 1 + 1) })[k]? = some { f with kind := x + 4 * (k : Int), name := mkT (x + 4 * (k : Int) + 1), text := mkT (x + 4 * (k : Int) + 1 + 1) } := List.getElem?_set_self (by rw [markedR_length (by rw [← HN.out]; omega), ← HN.out]; exact hlt)
      go_wp2_with fail
      refine (markText_int _ _ (by omega) (by omega)).mono ?_
      rintro e w3 ⟨rfl, hb3⟩
      have O3 : Hid (ownsR w3 B 47 (.slice (some ⟨g, 0, none⟩) n c) ((markedR mkAc 4 x l k).set k { f with kind := x + 4 * (k : Int), name := mkT (x + 4 * (k : Int) + 1), text := mkT (x + 4 * (k : Int) + 1 + 1) })) := P2.out.all hb3
      obtain ⟨hg3, ⟨d3_0, d3_1, d3_2, d3_3⟩, f3_0, f3_1, f3_2, f3_3⟩ := ac_own O3.out at2
      clear d3_0 f3_0 d3_1 f3_1 d3_2 f3_2
      have P3 : Hid (ownsR (w3.setCell ⟨g, k * 4 + 3, none⟩ (.string (mkT (x + 4 * (k : Int) + 1 + 1 + 1)))) B 47 (.slice (some ⟨g, 0, none⟩) n c) (markedR mkAc 4 x l (k + 1))) := by
        have := O3.out.put (j := 3) (u := .string (mkT (x + 4 * (k : Int) + 1 + 1 + 1))) (mkAc (x + 4 * (k : Int))) at2 (by decide) rfl
        rw [List.set_set, markedR_set HF.out] at this
        exact this
      have BG : w.grownBy (w3.setCell ⟨g, k * 4 + 3, none⟩ (.string (mkT (x + 4 * (k : Int) + 1 + 1 + 1)))) (some g) := (grown_trans (grown_trans (grown_trans (grown_trans (grown_trans (grown_trans (grown_trans hbel (grown_set _ _ _ _)) (grown_of_below hb1 _)) (grown_set _ _ _ _)) (grown_of_below hb2 _)) (grown_set _ _ _ _)) (grown_of_below hb3 _)) (grown_set _ _ _ _))
      clear hbel
      go_wp2
      go_roundw
      case rel => exact ⟨k + 1, by omega, by go_num, by go_num, P3, BG⟩
      case measure => simp [intOf]; omega
    · have hkn : k = n := by omega
      have R : ownsR wr B 47 (.slice (some ⟨g, 0, none⟩) n c) (marksAc x n) := by
        have h := HL.out
        have e := markedR_all mkAc 4 x l
        rw [← HN.out] at e
        rw [hkn, e] at h
        exact h
      subst hkn
      go_wp2
      go_ret
      exact ⟨rfl, R, hbel⟩
theorem markActS_any {w : World} {B : Nat} {x : Int} {v : Value} {l : List Ac} (ho : ownsR w B 47 v l) (hn : l.length ≤ 1048577) (hx0 : 0 < x) (hx : x ≤ 100000000) :
    Calls Tryz.prog 11 #[v, .int .i64 x] w fun e w' => e = .returned (.int .i64 (x + 4 * (l.length : Int))) ∧ ownsR w' B 47 v (marksAc x l.length) ∧ w.grownBy w' v.ownBlock := by
  have ho2 := ho
  rcases ho.2 with ⟨rfl, h0⟩ | ⟨g, cap, cur, rfl, _⟩
  · have hl : l = [] := List.eq_nil_of_length_eq_zero h0
    subst hl
    exact (markActS_none none 0 x w).mono fun e w' ⟨he, h⟩ => ⟨by simpa using he, ownsR_nil _ _ _, grown_of_below h _⟩
  · exact markActS_some g l.length cap B x l w ho2 hn hx0 hx

theorem marksAc_at {x : Int} {n j : Nat} (h : j < n) : (marksAc x n)[j]? = some (mkAc (x + 4 * (j : Int))) := marksR_at h
theorem marksAc_length (x : Int) (n : Nat) : (marksAc x n).length = n := marksR_length x n
set_option maxHeartbeats 4000000 in
theorem heldActS_any (ao : Option Addr) (n c : Nat) (x : Int) (w : World) (hr : Reads w (.slice ao n c) (marksAc x n)) (hn : n ≤ 1048577) (hx0 : 0 < x) (hx : x ≤ 100000000) :
    Calls Tryz.prog 12 #[.slice ao n c, .int .i64 x] w fun e w' => e = .returned (.int .i64 (x + 4 * (n : Int))) ∧ Below w.heap.size w w' := by
  have HR : Hid (Reads w (.slice ao n c) (marksAc x n)) := hr
  clear hr
  go_enter Tryz.func12, Tryz.ntmps12
  go_wp2
  go_loopw [1, 5] (fun q i wr => ∃ k : Nat, k ≤ n ∧ i = .int .i64 k ∧ q = .int .i64 (x + 4 * (k : Int)) ∧ Below w.heap.size w wr) (fun _ i _ => n - (intOf i).toNat)
  case atStart => exact ⟨0, Nat.zero_le _, rfl, by simp, Below.refl _ _⟩
  case round =>
    obtain ⟨k, hk, rfl, rfl, hbel⟩ := hrel
    have hsz := hbel.size
    by_cases hlt : k < n
    · obtain ⟨b, o, rfl, hb, c0, c1, c2, c3⟩ := ac_at (HR.out.below hbel) (marksAc_at (x := x) hlt)
      replace c0 : wr.cell? ⟨b, o + k * 4, none⟩ = some (.int .i64 (x + 4 * (k : Int))) := c0
      replace c1 : wr.cell? ⟨b, o + k * 4 + 1, none⟩ = some (.string (mkT (x + 4 * (k : Int) + 1))) := c1
      replace c2 : wr.cell? ⟨b, o + k * 4 + 2, none⟩ = some (.string (mkT (x + 4 * (k : Int) + 1 + 1))) := c2
      replace c3 : wr.cell? ⟨b, o + k * 4 + 3, none⟩ = some (.string (mkT (x + 4 * (k : Int) + 1 + 1 + 1))) := c3
      have q1 := Wd.cell c1
      go_wp2
      refine wp_region_wd (by kernel_rfl) (by kernel_rfl) ?_
      repeat (go_big_quiet_step ((go_at_call 24; refine calls_wd (v := .string (mkT (x + 4 * (k : Int) + 1))) ?_; exact markText_int (x + 4 * (k : Int) + 1) _ (by omega) (by omega))))
      refine wpQuiet_nil ?_
      rintro _ ⟨x1, rfl⟩
      have d1_2 := Wd.cell c2 x1
      have d1_3 := Wd.cell c3 x1
      have q2 := Wd.cell d1_2
      go_wp2
      refine wp_region_wd (by kernel_rfl) (by kernel_rfl) ?_
      repeat (go_big_quiet_step ((go_at_call 24; refine calls_wd (v := .string (mkT (x + 4 * (k : Int) + 1 + 1))) ?_; exact markText_int (x + 4 * (k : Int) + 1 + 1) _ (by omega) (by omega))))
      refine wpQuiet_nil ?_
      rintro _ ⟨x2, rfl⟩
      have d2_3 := Wd.cell d1_3 x2
      have q3 := Wd.cell d2_3
      go_wp2
      refine wp_region_wd (by kernel_rfl) (by kernel_rfl) ?_
      repeat (go_big_quiet_step ((go_at_call 24; refine calls_wd (v := .string (mkT (x + 4 * (k : Int) + 1 + 1 + 1))) ?_; exact markText_int (x + 4 * (k : Int) + 1 + 1 + 1) _ (by omega) (by omega))))
      refine wpQuiet_nil ?_
      rintro _ ⟨x3, rfl⟩
      go_wp2
      go_roundw
      case rel => exact ⟨k + 1, by omega, by go_num, by go_num, (((hbel.trans (x1.ok.mono hsz)).trans (x2.ok.mono (Nat.le_trans hsz x1.ok.size))).trans (x3.ok.mono (Nat.le_trans (Nat.le_trans hsz x1.ok.size) x2.ok.size)))⟩
      case measure => simp [intOf]; omega
    · have hkn : k = n := by omega
      subst hkn
      go_wp2
      go_ret
      exact ⟨rfl, hbel⟩

end Go.Proofs.YtingfgbcinlflaaGreatDoor

namespace Go.Proofs.YtingfgbcinlflaaGreatDoor
open Go Go.RowKit

theorem bdrewF {B : Nat} {w w' : World} (h : Below B w w') : ∀ n, Below B w (w'.drewN n)
  | 0 => h
  | n + 1 => (bdrewF h n).drew

/-- A file as a plain record. -/
structure Fl where
  name : ByteArray
  text : ByteArray
  kept : Int
instance : Inhabited Fl := ⟨⟨ByteArray.empty, ByteArray.empty, 0⟩⟩
def Fl.cells (f : Fl) : List Value := [.string f.name, .string f.text, .int .i64 f.kept]

set_option maxHeartbeats 400000 in
theorem toFile_any (n t : ByteArray) (k : Int) (w : World) :
    Calls Tryz.prog 30 #[.agg #[.string n, .string t, .int .i64 k]] w fun e w' => e = .returned (.agg #[.string n, .string t, .int .i64 k]) ∧ Below w.heap.size w w' := by
  go_enter Tryz.func30, Tryz.ntmps30
  go_wp2
  go_returns
  exact ⟨rfl, ba (ba (ba (Below.refl _ _) _) _) _⟩

set_option maxHeartbeats 400000 in
theorem inF_any (x lo hi : Int) (w : World) :
    Calls Tryz.prog 38 #[.int .i64 x, .int .i64 lo, .int .i64 hi] w fun e w' => e = .returned (.bool (decide (lo ≤ x) && decide (x ≤ hi))) ∧ w' = w := by
  by_cases h1 : lo ≤ x
  · have h2 : decide (lo ≤ x) = true := decide_eq_true h1
    go_enter Tryz.func38, Tryz.ntmps38
    go_wp2
    go_ret
    exact ⟨by simp [h1], rfl⟩
  · have h2 : decide (lo ≤ x) = false := decide_eq_false h1
    go_enter Tryz.func38, Tryz.ntmps38
    go_wp2
    go_ret
    exact ⟨by simp, rfl⟩

/-- A name that is right. -/
def nameR (s : ByteArray) : Bool := decide (1 ≤ s.size) && decide (s.size ≤ 8)

set_option maxHeartbeats 400000 in
theorem isName_any (s : ByteArray) (w : World) :
    Calls Tryz.prog 64 #[.string s] w fun e w' => e = .returned (.bool (nameR s)) ∧ w' = w := by
  by_cases h1 : (1 : Int) ≤ (s.size : Int)
  · have h2 : decide ((1 : Int) ≤ (s.size : Int)) = true := decide_eq_true h1
    go_enter Tryz.func64, Tryz.ntmps64
    go_wp2
    go_ret
    refine ⟨?_, rfl⟩
    have : (1 : Nat) ≤ s.size := by omega
    simp [nameR, this]
    by_cases h3 : s.size ≤ 8
    · simp [h3]; omega
    · simp [h3]; omega
  · have h2 : decide ((1 : Int) ≤ (s.size : Int)) = false := decide_eq_false h1
    go_enter Tryz.func64, Tryz.ntmps64
    go_wp2
    go_ret
    refine ⟨?_, rfl⟩
    have : ¬ (1 : Nat) ≤ s.size := by omega
    simp [nameR]; omega

set_option maxHeartbeats 400000 in
theorem specName_any (s : ByteArray) (w : World) :
    Calls Tryz.prog 37 #[.string s] w fun e w' => e = .returned (.bool (nameR s)) ∧ w' = w := by
  go_enter Tryz.func37, Tryz.ntmps37
  go_wp2_with (go_at_call 38; refine (inF_any _ _ _ _).mono ?_; rintro e w2 ⟨rfl, rfl⟩)
  go_ret
  refine ⟨?_, rfl⟩
  have e1 : decide ((1 : Int) ≤ (s.size : Int)) = decide (1 ≤ s.size) := by rw [decide_eq_decide]; omega
  have e2 : decide ((s.size : Int) ≤ 8) = decide (s.size ≤ 8) := by rw [decide_eq_decide]; omega
  simp [nameR]
  rw [e1, e2]

set_option maxHeartbeats 400000 in
theorem szFile_any (n t : ByteArray) (k left : Int) (w : World) (hn : n.size ≤ 9223372036854775807) (ht : t.size ≤ 9223372036854775807) (hl : left ≤ 1048576) (h0 : 0 ≤ left) :
    Calls Tryz.prog 25 #[.agg #[.string n, .string t, .int .i64 k], .int .i64 left] w fun e w' => ∃ r : Int, e = .returned (.int .i64 r) ∧ (r = -1 ∨ 0 ≤ r ∧ r = left - n.size - t.size) ∧ Below w.heap.size w w' := by
  by_cases h1 : left - n.size < 0
  · go_enter Tryz.func25, Tryz.ntmps25
    go_wp2
    go_ret
    exact ⟨_, rfl, .inl rfl, ba (Below.refl _ _) _⟩
  · by_cases h2 : left - n.size - t.size < 0
    · go_enter Tryz.func25, Tryz.ntmps25
      go_wp2
      go_ret
      exact ⟨_, rfl, .inl rfl, ba (Below.refl _ _) _⟩
    · go_enter Tryz.func25, Tryz.ntmps25
      go_wp2
      go_ret
      exact ⟨_, rfl, .inr ⟨by omega, rfl⟩, ba (Below.refl _ _) _⟩

set_option maxHeartbeats 400000 in
theorem eqFile_any (n t : ByteArray) (k : Int) (w : World) :
    Calls Tryz.prog 36 #[.agg #[.string n, .string t, .int .i64 k], .agg #[.string n, .string t, .int .i64 k]] w fun e w' => e = .returned (.bool true) ∧ Below w.heap.size w w' := by
  go_enter Tryz.func36, Tryz.ntmps36
  go_wp2
  go_ret
  exact ⟨rfl, ba (ba (Below.refl _ _) _) _⟩

/-- A file that is right. -/
def Fl.right (f : Fl) : Bool := nameR f.name && (decide ((f.text.size : Int) ≤ 20000) && (decide (0 ≤ f.kept) && decide (f.kept ≤ (f.text.size : Int))))

set_option maxHeartbeats 800000 in
theorem fileRight_any (n t : ByteArray) (k : Int) (w : World) :
    Calls Tryz.prog 46 #[.agg #[.string n, .string t, .int .i64 k]] w fun e w' => e = .returned (.bool (Fl.right ⟨n, t, k⟩)) ∧ Below w.heap.size w w' := by
  unfold Fl.right
  simp only []
  by_cases h1 : nameR n = true
  · by_cases h2 : (t.size : Int) ≤ 20000
    · by_cases h3 : 0 ≤ k
      · go_enter Tryz.func46, Tryz.ntmps46
        go_wp2_with (go_at_call 64; refine (isName_any _ _).mono ?_; rintro e w2 ⟨rfl, rfl⟩)
        go_ret
        exact ⟨by simp [h1, h2, h3], ba (Below.refl _ _) _⟩
      · go_enter Tryz.func46, Tryz.ntmps46
        go_wp2_with (go_at_call 64; refine (isName_any _ _).mono ?_; rintro e w2 ⟨rfl, rfl⟩)
        go_ret
        exact ⟨by simp; omega, ba (Below.refl _ _) _⟩
    · go_enter Tryz.func46, Tryz.ntmps46
      go_wp2_with (go_at_call 64; refine (isName_any _ _).mono ?_; rintro e w2 ⟨rfl, rfl⟩)
      go_ret
      exact ⟨by simp; omega, ba (Below.refl _ _) _⟩
  · have h1' : nameR n = false := by simpa using h1
    go_enter Tryz.func46, Tryz.ntmps46
    go_wp2_with (go_at_call 64; refine (isName_any _ _).mono ?_; rintro e w2 ⟨rfl, rfl⟩)
    go_ret
    exact ⟨by simp [h1'], ba (Below.refl _ _) _⟩
end Go.Proofs.YtingfgbcinlflaaGreatDoor

namespace Go.Proofs.YtingfgbcinlflaaGreatDoor
open Go Go.RowKit

instance : Rec Fl := ⟨3, Fl.cells, fun _ => rfl, by decide⟩
theorem fl_width : Rec.width Fl = 3 := rfl
/-- The three cells of the k-th file. -/
theorem fl_at {w : World} {ao : Option Addr} {n cap : Nat} {l : List Fl} (h : Reads w (.slice ao n cap) l) {k : Nat} {f : Fl} (hk : l[k]? = some f) :
    ∃ b o, ao = some ⟨b, o, none⟩ ∧ b < w.heap.size ∧ w.cell? ⟨b, o + k * 3, none⟩ = some (.string f.name) ∧ w.cell? ⟨b, o + k * 3 + 1, none⟩ = some (.string f.text) ∧ w.cell? ⟨b, o + k * 3 + 2, none⟩ = some (.int .i64 f.kept) := by
  obtain ⟨b, o, rfl, hlt, hc⟩ := h.at hk
  exact ⟨b, o, rfl, hlt, hc 0 _ rfl, hc 1 _ rfl, hc 2 _ rfl⟩

/-- How much a list of files is. -/
def sizeL : List Fl → Nat
  | [] => 0
  | f :: r => f.name.size + f.text.size + sizeL r

theorem sizeL_take {l : List Fl} {k : Nat} {f : Fl} (h : l[k]? = some f) : sizeL (l.take (k + 1)) = sizeL (l.take k) + (f.name.size + f.text.size) := by
  induction l generalizing k with
  | nil => simp at h
  | cons x r ih =>
    cases k with
    | zero => simp at h; subst h; simp [sizeL]
    | succ k => simp at h; simp [sizeL, ih h]; omega

def Small (l : List Fl) : Prop := ∀ f ∈ l, f.name.size ≤ 9223372036854775807 ∧ f.text.size ≤ 9223372036854775807

set_option maxHeartbeats 1000000 in
theorem szFileS_any (ao : Option Addr) (n cap : Nat) (l : List Fl) (left : Int) (w : World) (hr : Reads w (.slice ao n cap) l) (hs : Small l) (hl : left ≤ 1048576) (h0 : 0 ≤ left) (hn : n ≤ 9223372036854775807) :
    Calls Tryz.prog 13 #[.slice ao n cap, .int .i64 left] w fun e w' => ∃ r : Int, e = .returned (.int .i64 r) ∧ (r = -1 ∨ 0 ≤ r ∧ r = left - n - sizeL l) ∧ Below w.heap.size w w' := by
  have hnl := hr.len
  by_cases h1 : left - n < 0
  · go_enter Tryz.func13, Tryz.ntmps13
    go_wp2
    go_ret
    exact ⟨_, rfl, .inl rfl, Below.refl _ _⟩
  · have HR : Hid (Reads w (.slice ao n cap) l) := hr
    have HS : Hid (Small l) := hs
    have HN : Hid (n = l.length) := hnl
    clear hr hs hnl
    go_enter Tryz.func13, Tryz.ntmps13
    go_wp2
    go_loopw [1, 5] (fun c i wr => ∃ (k : Nat) (r : Int), k ≤ n ∧ i = .int .i64 k ∧ c = .int .i64 r ∧ 0 ≤ r ∧ Hid (r = left - n - sizeL (l.take k)) ∧ r ≤ 1048576 ∧ Below w.heap.size w wr) (fun _ i _ => n - (intOf i).toNat)
    case atStart => exact ⟨0, _, Nat.zero_le _, rfl, rfl, by omega, by simp [Hid, sizeL], by omega, Below.refl _ _⟩
    case round =>
      obtain ⟨k, r, hk, rfl, rfl, hr0, HE, hr1, hbel⟩ := hrel
      by_cases hlt : k < n
      · obtain ⟨f, hf⟩ : ∃ f, l[k]? = some f := ⟨_, List.getElem?_eq_getElem (by rw [← HN.out]; exact hlt)⟩
        have HF : Hid (l[k]? = some f) := hf
        obtain ⟨b, o, rfl, hb, c0, c1, c2⟩ := fl_at (HR.out.below hbel) hf
        obtain ⟨s1, s2⟩ := HS.out f (List.mem_of_getElem? hf)
        clear hf
        go_wp2_with (go_at_call 25; refine (szFile_any _ _ _ _ _ s1 s2 hr1 hr0).mono ?_; rintro e w2 ⟨r2, rfl, h2, hb2⟩)
        · go_ret
          exact ⟨-1, rfl, .inl rfl, hbel.trans (hb2.mono hbel.size)⟩
        · go_roundw
          case rel => exact ⟨k + 1, r2, by omega, by go_num, rfl, by omega, (by have e := sizeL_take HF.out; have e2 := HE.out; show r2 = _; rw [e]; omega), by omega, hbel.trans (hb2.mono hbel.size)⟩
          case measure => simp [intOf]; omega
      · have hkn : k = n := by omega
        subst hkn
        go_wp2
        go_ret
        refine ⟨r, rfl, .inr ⟨hr0, ?_⟩, hbel⟩
        have e := HE.out
        rw [List.take_of_length_le (by rw [HN.out]; exact Nat.le_refl _)] at e
        exact e

set_option maxHeartbeats 1000000 in
theorem szDisk_any (v : Value) (l : List Fl) (left : Int) (w : World) (hr : Reads w v l) (hs : Small l) (hl : left ≤ 1048576) (h0 : 0 ≤ left) (hn : l.length ≤ 9223372036854775807) :
    Calls Tryz.prog 4 #[.agg #[v], .int .i64 left] w fun e w' => ∃ r : Int, e = .returned (.int .i64 r) ∧ (r = -1 ∨ 0 ≤ r ∧ r = left - l.length - sizeL l) ∧ Below w.heap.size w w' := by
  obtain ⟨ao, cap, rfl, _⟩ := id hr
  have HR : Hid (Reads w (.slice ao l.length cap) l) := hr
  clear hr
  go_enter Tryz.func4, Tryz.ntmps4
  go_wp2_with (go_at_call 13; refine (szFileS_any ao l.length cap l left _ (HR.out.alloc _) hs hl h0 hn).mono ?_; rintro e w2 ⟨r2, rfl, h2, hb2⟩)
  · go_ret
    exact ⟨-1, rfl, .inl rfl, (ba (Below.refl _ _) _).trans (hb2.mono (by simp))⟩
  · go_ret
    exact ⟨r2, rfl, h2, (ba (Below.refl _ _) _).trans (hb2.mono (by simp))⟩

theorem infoFl : (Tryz.prog.info? 56).map (fun i => (i.zero, i.size, i.bytes)) = some (some (.agg #[.string ByteArray.empty, .string ByteArray.empty, .int .i64 0]), 3, 40) := by kernel_rfl
theorem underFl : Tryz.prog.underlying 28 = some (.slice 56) := by kernel_rfl

theorem made_zero (n : Nat) : (madeCells (Value.cells (.agg #[.string ByteArray.empty, .string ByteArray.empty, .int .i64 0])) (n * 3)).toList = (List.replicate n (default : Fl)).flatMap Rec.cells := by
  apply List.ext_getElem?
  intro m
  have hm := Nat.div_add_mod m 3
  have h3 : m % 3 < 3 := Nat.mod_lt _ (by decide)
  have e := flat_at (List.replicate n (default : Fl)) (m / 3) (m % 3) h3
  rw [fl_width, show m / 3 * 3 + m % 3 = m by omega] at e
  rw [e]
  simp only [madeCells, Value.cells, Array.toList_map, Array.toList_range, List.getElem?_map, List.getElem?_replicate]
  by_cases hlt : m / 3 < n
  · rw [if_pos hlt, List.getElem?_range (by omega)]
    match hx : m % 3, h3 with
    | 0, _ => simp [hx]; rfl
    | 1, _ => simp [hx]; rfl
    | 2, _ => simp [hx]; rfl
  · rw [if_neg hlt, List.getElem?_eq_none (by simp; omega)]
    rfl

/-- The first k copied, the rest as it was made. -/
def filled (l : List Fl) (k : Nat) : List Fl := l.take k ++ List.replicate (l.length - k) default
theorem filled_at {l : List Fl} {k : Nat} (h : k < l.length) : (filled l k)[k]? = some default := by
  unfold filled
  rw [List.getElem?_append_right (by simp; omega), List.getElem?_replicate, if_pos (by simp; omega)]
theorem filled_set {l : List Fl} {k : Nat} {f : Fl} (h : l[k]? = some f) : (filled l k).set k f = filled l (k + 1) := by
  have hk : k < l.length := (List.getElem?_eq_some_iff.1 h).1
  unfold filled
  rw [List.take_add_one, h, List.set_append_right _ _ (by simp; omega)]
  have e : k - (List.take k l).length = 0 := by simp; omega
  rw [e, show l.length - k = (l.length - (k + 1)) + 1 by omega, List.replicate_succ]
  simp
theorem filled_all (l : List Fl) : filled l l.length = l := by simp [filled]
theorem filled_length {l : List Fl} {k : Nat} (h : k ≤ l.length) : (filled l k).length = l.length := by simp [filled]; omega
theorem filled_none (l : List Fl) : filled l 0 = List.replicate l.length default := by simp [filled]

/-- A whole file is stored into an owned row. -/
theorem fl_put {w : World} {B : Nat} {g n cap : Nat} {l : List Fl} (h : ownsR w B 56 (.slice (some ⟨g, 0, none⟩) n cap) l) {i : Nat} {y : Fl} (f : Fl) (hi : l[i]? = some y) :
    ownsR (((w.setCell ⟨g, i * 3, none⟩ (.string f.name)).setCell ⟨g, i * 3 + 1, none⟩ (.string f.text)).setCell ⟨g, i * 3 + 2, none⟩ (.int .i64 f.kept)) B 56 (.slice (some ⟨g, 0, none⟩) n cap) (l.set i f) := by
  have hil : i < l.length := (List.getElem?_eq_some_iff.1 hi).1
  have h1 := h.put (j := 0) (u := .string f.name) { y with name := f.name } hi (by decide) rfl
  have h2 := h1.put (i := i) (j := 1) (u := .string f.text) { y with name := f.name, text := f.text } (List.getElem?_set_self hil) (by decide) rfl
  have h3 := h2.put (i := i) (j := 2) (u := .int .i64 f.kept) f (List.getElem?_set_self (by simpa using hil)) (by decide) rfl
  simpa only [fl_width, Nat.add_zero, List.set_set] using h3

set_option maxRecDepth 8000 in
set_option maxHeartbeats 1000000 in
theorem toFileS_any (ao : Option Addr) (n cap : Nat) (l : List Fl) (w : World) (hr : Reads w (.slice ao n cap) l) (hn : n ≤ 1048576) :
    Calls Tryz.prog 17 #[.slice ao n cap] w fun e w' => ∃ v, e = .returned v ∧ ownsR w' w.heap.size 56 v l ∧ Below w.heap.size w w' := by
  obtain ⟨i0, hi0, hz0, hz1, hz2⟩ := info_parts infoFl
  have hnl := hr.len
  have HR : Hid (Reads w (.slice ao n cap) l) := hr
  have HN : Hid (n = l.length) := hnl
  clear hr hnl
  go_enter Tryz.func17, Tryz.ntmps17
  go_wp2_with (at_make; refine wpList_make_full _ rfl _ _ 28 rfl w.heap.size 56 i0 _ 3 underFl hi0 hz0 hz1 .i64 .i64 _ _ n rfl rfl rfl rfl (by rw [hz2]; omega) (by unfold maxLen; omega) (Nat.le_refl _) ?_; intro w1 ho hg)
  rw [made_zero, HN.out, ← filled_none, ← HN.out] at ho
  have ho : ownsR w1 w.heap.size 56 (.slice (some ⟨w.heap.size, 0, none⟩) n n) (filled l 0) := by unfold ownsR; rw [filled_length (Nat.zero_le _), ← HN.out]; exact ho
  have hbel1 : Below w.heap.size w w1 := (Below.refl _ w).grown hg (Nat.le_refl _) (fun j hj => by cases hj)
  generalize hB : w.heap.size = B at *
  go_loopw [4] (fun i wr => ∃ k : Nat, k ≤ n ∧ i = .int .i64 k ∧ ownsR wr B 56 (.slice (some ⟨B, 0, none⟩) n n) (filled l k) ∧ Below B w wr) (fun i _ => n - (intOf i).toNat)
  case atStart => exact ⟨0, Nat.zero_le _, rfl, ho, hbel1⟩
  case round =>
    obtain ⟨k, hk, rfl, hown, hbel⟩ := hrel
    clear ho hbel1
    by_cases hlt : k < n
    · obtain ⟨f, hf⟩ : ∃ f, l[k]? = some f := ⟨_, List.getElem?_eq_getElem (by rw [← HN.out]; exact hlt)⟩
      have HF : Hid (l[k]? = some f) := hf
      obtain ⟨b, o, rfl, hb, c0, c1, c2⟩ := fl_at (HR.out.below (hB ▸ hbel)) hf
      clear hf
      have HO : Hid (ownsR wr B 56 (.slice (some ⟨B, 0, none⟩) n n) (filled l k)) := hown
      clear hown
      obtain ⟨hgs, -, -, hat⟩ := HO.out.at (filled_at (l := l) (k := k) (by rw [← HN.out]; exact hlt))
      have d0 : wr.cell? ⟨B, k * 3, none⟩ = some (.string ByteArray.empty) := (hat 0 (by decide)).1
      have d1 : wr.cell? ⟨B, k * 3 + 1, none⟩ = some (.string ByteArray.empty) := (hat 1 (by decide)).1
      have d2 : wr.cell? ⟨B, k * 3 + 2, none⟩ = some (.int .i64 0) := (hat 2 (by decide)).1
      have f0 : wr.frozen? ⟨B, k * 3, none⟩ = false := (hat 0 (by decide)).2
      have f1 : wr.frozen? ⟨B, k * 3 + 1, none⟩ = false := (hat 1 (by decide)).2
      have f2 : wr.frozen? ⟨B, k * 3 + 2, none⟩ = false := (hat 2 (by decide)).2
      clear hat
      go_wp2_with (go_at_call 30; refine (toFile_any _ _ _ _).mono ?_; rintro e w2 ⟨rfl, hb2⟩; have d0' := (hb2.cell (p := ⟨B, k * 3, none⟩) hgs).trans d0; have d1' := (hb2.cell (p := ⟨B, k * 3 + 1, none⟩) hgs).trans d1; have d2' := (hb2.cell (p := ⟨B, k * 3 + 2, none⟩) hgs).trans d2; have f0' := (hb2.frozen (p := ⟨B, k * 3, none⟩) hgs).trans f0; have f1' := (hb2.frozen (p := ⟨B, k * 3 + 1, none⟩) hgs).trans f1; have f2' := (hb2.frozen (p := ⟨B, k * 3 + 2, none⟩) hgs).trans f2)
      have R := fl_put (HO.out.all hb2) f (filled_at (l := l) (k := k) (by rw [← HN.out]; exact hlt))
      rw [filled_set HF.out] at R
      clear d0 d1 d2 f0 f1 f2 d0' d1' d2' f0' f1' f2'
      go_roundw
      case rel => exact ⟨k + 1, by omega, by go_num, R, (((hbel.trans (hb2.mono (by omega))).setCell (p := ⟨B, k * 3, none⟩) (Nat.le_refl _) _).setCell (p := ⟨B, k * 3 + 1, none⟩) (Nat.le_refl _) _).setCell (p := ⟨B, k * 3 + 2, none⟩) (Nat.le_refl _) _⟩
      case measure => simp [intOf]; omega
    · have hkn : k = n := by omega
      have R : ownsR wr B 56 (.slice (some ⟨B, 0, none⟩) n n) l := by rw [hkn, HN.out, filled_all] at hown; rw [HN.out]; exact hown
      clear hown
      go_wp2
      go_ret
      subst hB
      exact ⟨_, rfl, R, hbel⟩

theorem ret_disk {fn : Func} {p : Tmp} {w : World} {g : Nat} {v : Value} {tmps : Array Value} (h : fn.results = #[.cell p 30]) (hp : tmps.getD p undef = .pointer (some ⟨g, 0, none⟩)) (hc : w.cell? ⟨g, 0, none⟩ = some v) :
    (results fn tmps).run Tryz.prog w = .ok (.agg #[v]) w := by
  have hp' : tmps[p]?.getD undef = .pointer (some ⟨g, 0, none⟩) := by simpa using hp
  simp [results, h, hp', hc, asAddr, go_sem]
theorem ret_disk2 {fn : Func} {p u : Tmp} {w : World} {g : Nat} {v x : Value} {tmps : Array Value} (h : fn.results = #[.cell p 30, .tmp u]) (hp : tmps.getD p undef = .pointer (some ⟨g, 0, none⟩)) (hu : tmps.getD u undef = x) (hc : w.cell? ⟨g, 0, none⟩ = some v) :
    (results fn tmps).run Tryz.prog w = .ok (.tuple #[.agg #[v], x]) w := by
  have hp' : tmps[p]?.getD undef = .pointer (some ⟨g, 0, none⟩) := by simpa using hp
  have hu' : tmps[u]?.getD undef = x := by simpa using hu
  simp [results, h, hp', hu', hc, asAddr, go_sem]
set_option maxHeartbeats 1000000 in
theorem toDisk_any (v : Value) (l : List Fl) (w : World) (hr : Reads w v l) (hn : l.length ≤ 1048576) :
    Calls Tryz.prog 6 #[.agg #[v]] w fun e w' => ∃ v', e = .returned (.agg #[v']) ∧ ownsR w' w.heap.size 56 v' l ∧ Below w.heap.size w w' := by
  obtain ⟨ao, cap, rfl, _⟩ := id hr
  have HR : Hid (Reads w (.slice ao l.length cap) l) := hr
  clear hr
  go_enter Tryz.func6, Tryz.ntmps6
  go_wp2_with (go_at_call 17; refine (toFileS_any ao l.length cap l _ (((HR.out.alloc _).alloc _).alloc _) hn).mono ?_; rintro e w2 ⟨v2, rfl, h2, hb2⟩; obtain ⟨ao2, cap2, rfl⟩ := h2.slice; have q2 : w2.cell? ⟨w.heap.size + 1 + 1, 0, none⟩ = some (.slice none 0 0) := (hb2.cell (by simp)).trans (by simp [go_sem]); have q1 : w2.cell? ⟨w.heap.size + 1, 0, none⟩ = some (.slice none 0 0) := (hb2.cell (by simp)).trans (by simp [go_sem]); have z2 : w2.frozen? ⟨w.heap.size + 1 + 1, 0, none⟩ = false := (hb2.frozen (by simp)).trans (by simp [go_sem]); have z1 : w2.frozen? ⟨w.heap.size + 1, 0, none⟩ = false := (hb2.frozen (by simp)).trans (by simp [go_sem]))
  refine bodyPost_ret (ret_disk rfl rfl (World.cell?_setCell_same' _ _ _ (by simp [go_sem, q1]))) rfl ?_
  have hb3 : Below w.heap.size w w2 := (ba (ba (ba (Below.refl _ _) _) _) _).trans (hb2.mono (by simp; omega))
  refine ⟨_, rfl, ?_, (hb3.setCell (by simp; omega) _).setCell (by simp) _⟩
  exact ownsR.mono ((ownsR.setBelow h2 (by simp) _).setBelow (by simp) _) (by simp; omega)

set_option maxHeartbeats 1000000 in
theorem eqFileS_any (ao bo : Option Addr) (n c d : Nat) (l : List Fl) (w : World) (ha : Reads w (.slice ao n c) l) (hb : Reads w (.slice bo n d) l) (hn : n ≤ 1048577) :
    Calls Tryz.prog 22 #[.slice ao n c, .slice bo n d] w fun e w' => e = .returned (.bool true) ∧ Below w.heap.size w w' := by
  have HN : Hid (n = l.length) := ha.len
  have HA : Hid (Reads w (.slice ao n c) l) := ha
  have HB : Hid (Reads w (.slice bo n d) l) := hb
  clear ha hb
  go_enter Tryz.func22, Tryz.ntmps22
  go_wp2
  go_loopw [5] (fun i wr => ∃ k : Nat, k ≤ n ∧ i = .int .i64 k ∧ Below w.heap.size w wr) (fun i _ => n - (intOf i).toNat)
  case atStart => exact ⟨0, Nat.zero_le _, rfl, Below.refl _ _⟩
  case round =>
    obtain ⟨k, hk, rfl, hbel⟩ := hrel
    by_cases hlt : k < n
    · obtain ⟨f, hf⟩ : ∃ f, l[k]? = some f := ⟨_, List.getElem?_eq_getElem (by rw [← HN.out]; exact hlt)⟩
      obtain ⟨a, oa, rfl, hga, a0, a1, a2⟩ := fl_at (HA.out.below hbel) hf
      obtain ⟨b, ob, rfl, hgb, b0, b1, b2⟩ := fl_at (HB.out.below hbel) hf
      clear hf
      go_wp2
      go_region_held (fun w' => w'.cell? ⟨a, oa + k * 3, none⟩ = some (.string f.name) ∧ w'.cell? ⟨a, oa + k * 3 + 1, none⟩ = some (.string f.text) ∧ w'.cell? ⟨a, oa + k * 3 + 2, none⟩ = some (.int .i64 f.kept) ∧ w'.cell? ⟨b, ob + k * 3, none⟩ = some (.string f.name) ∧ w'.cell? ⟨b, ob + k * 3 + 1, none⟩ = some (.string f.text) ∧ w'.cell? ⟨b, ob + k * 3 + 2, none⟩ = some (.int .i64 f.kept)) ((first | exact ⟨a0, a1, a2, b0, b1, b2⟩ | exact ⟨(hb2.cell hga).trans a0, (hb2.cell hga).trans a1, (hb2.cell hga).trans a2, (hb2.cell hgb).trans b0, (hb2.cell hgb).trans b1, (hb2.cell hgb).trans b2⟩)) ((go_at_call 36; refine (eqFile_any _ _ _ _).mono ?_; rintro e w2 ⟨rfl, hb2⟩))
      go_wp2
      go_roundw
      case rel => exact ⟨k + 1, by omega, by go_num, hbel.trans (((Below.refl _ _).drew.trans hb2).mono hbel.size)⟩
      case measure => simp [intOf]; omega
    · go_wp2
      go_ret
      exact ⟨rfl, hbel⟩

set_option maxHeartbeats 1000000 in
theorem eqDisk_any (va vb : Value) (l : List Fl) (w : World) (ha : Reads w va l) (hb : Reads w vb l) (hn : l.length ≤ 1048577) :
    Calls Tryz.prog 9 #[.agg #[va], .agg #[vb]] w fun e w' => e = .returned (.bool true) ∧ Below w.heap.size w w' := by
  obtain ⟨ao, c, rfl, _⟩ := id ha
  obtain ⟨bo, d, rfl, _⟩ := id hb
  have HA : Hid (Reads w (.slice ao l.length c) l) := ha
  have HB : Hid (Reads w (.slice bo l.length d) l) := hb
  clear ha hb
  go_enter Tryz.func9, Tryz.ntmps9
  go_wp2_with (go_at_call 22; refine (eqFileS_any ao bo l.length c d l _ ((HA.out.alloc _).alloc _) ((HB.out.alloc _).alloc _) hn).mono ?_; rintro e w2 ⟨rfl, hb2⟩)
  go_ret
  exact ⟨rfl, (ba (ba (Below.refl _ _) _) _).trans (hb2.mono (by simp; omega))⟩

end Go.Proofs.YtingfgbcinlflaaGreatDoor

namespace Go.Proofs.YtingfgbcinlflaaGreatDoor
open Go Go.RowKit

/-- Texts in their order, as the program compares them. -/
def ltB (a b : ByteArray) : Bool := Op.bytesLess a.toList b.toList
/-- The i-th file is right, and its name is behind that of the one ahead of it. -/
def okAt (l : List Fl) (i : Nat) : Bool :=
  match l[i]? with
  | none => true
  | some f => f.right && (match i with
    | 0 => true
    | j + 1 => match l[j]? with
      | none => true
      | some p => ltB p.name f.name)
/-- A disk that is right. -/
def diskR (l : List Fl) : Bool := decide (l.length ≤ 30) && (List.range l.length).all (okAt l)
theorem diskR_false {l : List Fl} {i : Nat} (h : i < l.length) (hf : okAt l i = false) : diskR l = false := by
  unfold diskR
  have : (List.range l.length).all (okAt l) = false := by
    rw [List.all_eq_false]
    exact ⟨i, List.mem_range.2 h, by simp [hf]⟩
  simp [this]
theorem diskR_long {l : List Fl} (h : 30 < l.length) : diskR l = false := by
  unfold diskR
  rw [decide_eq_false (by omega)]
  rfl
theorem diskR_true {l : List Fl} (h : l.length ≤ 30) (hf : ∀ i, i < l.length → okAt l i = true) : diskR l = true := by
  unfold diskR
  rw [decide_eq_true h, Bool.true_and, List.all_eq_true]
  exact fun i hi => hf i (List.mem_range.1 hi)
theorem okAt_wrong {l : List Fl} {k : Nat} {f : Fl} (h : l[k]? = some f) (hr : f.right = false) : okAt l k = false := by simp [okAt, h, hr]
theorem okAt_first {l : List Fl} {f : Fl} (h : l[0]? = some f) : okAt l 0 = f.right := by simp [okAt, h]
theorem okAt_next {l : List Fl} {k : Nat} {f p : Fl} (h : l[k + 1]? = some f) (hp : l[k]? = some p) : okAt l (k + 1) = (f.right && ltB p.name f.name) := by simp [okAt, h, hp]

set_option maxHeartbeats 2000000 in
theorem diskOk_try (ao : Option Addr) (n c : Nat) (l : List Fl) (w : World) (hr : Reads w (.slice ao n c) l) :
    Calls Tryz.prog 31 #[.agg #[.slice ao n c]] w fun e w' => e = .returned (.bool (diskR l)) ∧ Below w.heap.size w w' := by
  have HR : Hid (Reads w (.slice ao n c) l) := hr
  have HN : Hid (n = l.length) := hr.len
  clear hr
  by_cases h30 : (30 : Int) < (n : Int)
  · have HD : Hid (diskR l = false) := diskR_long (by rw [← HN.out]; omega)
    go_enter Tryz.func31, Tryz.ntmps31
    go_wp2
    go_ret
    exact ⟨by rw [HD.out]; rfl, ba (Below.refl _ _) _⟩
  · go_enter Tryz.func31, Tryz.ntmps31
    go_wp2
    go_loopw [12] (fun i wr => ∃ k : Nat, k ≤ n ∧ i = .int .i64 k ∧ Hid (∀ i, i < k → okAt l i = true) ∧ Below (w.heap.size + 1) (w.alloc (Obj.cells #[.slice ao n c] 30)) wr) (fun i _ => n - (intOf i).toNat)
    case atStart => exact ⟨0, Nat.zero_le _, rfl, (fun i hi => absurd hi (by omega)), Below.refl _ _⟩
    case round =>
      obtain ⟨k, hk, rfl, HE, hbel⟩ := hrel
      have hsz := hbel.size
      simp only [World.size_alloc] at hsz
      have hb0 : Below w.heap.size w wr := (ba (Below.refl _ _) _).trans (hbel.mono (by omega))
      by_cases hlt : k < n
      · obtain ⟨⟨nm, tx, kp⟩, hf⟩ : ∃ f, l[k]? = some f := ⟨_, List.getElem?_eq_getElem (by rw [← HN.out]; exact hlt)⟩
        have HF : Hid (l[k]? = some ⟨nm, tx, kp⟩) := hf
        obtain ⟨b, o, rfl, hb, c0, c1, c2⟩ := fl_at (HR.out.below hb0) hf
        have hd0 : wr.cell? ⟨w.heap.size, 0, none⟩ = some (.slice (some ⟨b, o, none⟩) n c) := (hbel.cell (by simp)).trans (by simp [go_sem])
        clear hf
        dsimp only at c0 c1 c2
        have hba : Below wr.heap.size wr (wr.alloc (Obj.cells #[.string nm, .string tx, .int .i64 kp] 56)) := (Below.refl _ wr).alloc (Nat.le_refl _) _
        have g0 : (wr.alloc (Obj.cells #[.string nm, .string tx, .int .i64 kp] 56)).cell? ⟨wr.heap.size, 0, none⟩ = some (.string nm) := by simp [go_sem]
        have g1 : (wr.alloc (Obj.cells #[.string nm, .string tx, .int .i64 kp] 56)).cell? ⟨wr.heap.size, 1, none⟩ = some (.string tx) := by simp [go_sem]
        have g2 : (wr.alloc (Obj.cells #[.string nm, .string tx, .int .i64 kp] 56)).cell? ⟨wr.heap.size, 2, none⟩ = some (.int .i64 kp) := by simp [go_sem]
        have g3 : (wr.alloc (Obj.cells #[.string nm, .string tx, .int .i64 kp] 56)).cell? ⟨w.heap.size, 0, none⟩ = some (.slice (some ⟨b, o, none⟩) n c) := (hba.cell (p := ⟨w.heap.size, 0, none⟩) (by show w.heap.size < wr.heap.size; omega)).trans hd0
        have q0 := Wd.cell g0
        have q1 := Wd.cell g1
        have q2 := Wd.cell g2
        have q3 := Wd.cell g3
        have fin : ∀ x : Wd (wr.alloc (Obj.cells #[.string nm, .string tx, .int .i64 kp] 56)), Below w.heap.size w x.at' := fun x => hb0.trans ((hba.trans (x.ok.mono (by simp))).mono (by omega))
        have fin2 : ∀ x : Wd (wr.alloc (Obj.cells #[.string nm, .string tx, .int .i64 kp] 56)), Below (w.heap.size + 1) (w.alloc (Obj.cells #[.slice (some ⟨b, o, none⟩) n c] 30)) x.at' := fun x => hbel.trans ((hba.trans (x.ok.mono (by simp))).mono (by omega))
        cases hfr : Fl.right ⟨nm, tx, kp⟩ with
        | false =>
          have HB : Hid (okAt l k = false) := okAt_wrong HF.out hfr
          go_wp2
          refine wp_region_wd (by kernel_rfl) (by kernel_rfl) ?_
          repeat (go_big_quiet_step ((go_at_call 46; refine calls_wd (v := .bool false) ?_; rw [← hfr]; exact fileRight_any _ _ _ _)))
          refine wpQuiet_nil ?_
          rintro _ ⟨x, rfl⟩
          go_wp2
          go_ret
          exact ⟨by rw [diskR_false (by rw [← HN.out]; exact hlt) HB.out]; rfl, fin x⟩
        | true =>
          rcases Nat.eq_zero_or_pos k with hk0 | hk0
          · have HB : Hid (okAt l k = true) := by show okAt l k = true; rw [hk0]; exact (okAt_first (hk0 ▸ HF.out)).trans hfr
            have HK : Hid (k = 0) := hk0
            have hg0 : decide ((0 : Int) < (k : Int)) = false := decide_eq_false (by omega)
            have hg1 : decide (0 < k) = false := decide_eq_false (by omega)
            clear hk0
            go_wp2
            refine wp_region_wd (by kernel_rfl) (by kernel_rfl) ?_
            repeat (go_big_quiet_step ((go_at_call 46; refine calls_wd (v := .bool true) ?_; rw [← hfr]; exact fileRight_any _ _ _ _)))
            refine wpQuiet_nil ?_
            rintro _ ⟨x, rfl⟩
            go_wp2
            go_roundw
            case rel => exact ⟨k + 1, by omega, by go_num, (fun i hi => (show i = k by have := HK.out; omega) ▸ HB.out), fin2 x⟩
            case measure => simp [intOf]; omega
          · obtain ⟨j, rfl⟩ : ∃ j, k = j + 1 := ⟨k - 1, by omega⟩
            obtain ⟨⟨pn, pt, pk⟩, hp⟩ : ∃ p, l[j]? = some p := ⟨_, List.getElem?_eq_getElem (by rw [← HN.out]; omega)⟩
            have HP : Hid (l[j]? = some ⟨pn, pt, pk⟩) := hp
            obtain ⟨b', o', hbo, -, p0, -, -⟩ := fl_at (HR.out.below hb0) hp
            clear hp
            simp only [Option.some.injEq, Addr.mk.injEq, and_true] at hbo
            obtain ⟨rfl, rfl⟩ := hbo
            dsimp only at p0
            have g4 := (hba.cell (p := ⟨b, o + j * 3, none⟩) hb).trans p0
            have q4 := Wd.cell g4
            cases hlb : Op.bytesLess pn.toList nm.toList with
            | false =>
              have HB : Hid (okAt l (j + 1) = false) := by show okAt l (j + 1) = false; rw [okAt_next HF.out HP.out]; simp [ltB, hlb]
              go_wp2
              refine wp_region_wd (by kernel_rfl) (by kernel_rfl) ?_
              repeat (go_big_quiet_step ((go_at_call 46; refine calls_wd (v := .bool true) ?_; rw [← hfr]; exact fileRight_any _ _ _ _)))
              refine wpQuiet_nil ?_
              rintro _ ⟨x, rfl⟩
              go_wp2
              go_ret
              exact ⟨by rw [diskR_false (by rw [← HN.out]; exact hlt) HB.out]; rfl, fin x⟩
            | true =>
              have HB : Hid (okAt l (j + 1) = true) := by show okAt l (j + 1) = true; rw [okAt_next HF.out HP.out]; simp [ltB, hlb, hfr]
              go_wp2
              refine wp_region_wd (by kernel_rfl) (by kernel_rfl) ?_
              repeat (go_big_quiet_step ((go_at_call 46; refine calls_wd (v := .bool true) ?_; rw [← hfr]; exact fileRight_any _ _ _ _)))
              refine wpQuiet_nil ?_
              rintro _ ⟨x, rfl⟩
              go_wp2
              go_roundw
              case rel => exact ⟨j + 2, by omega, by go_num, (fun i hi => by
                rcases Nat.lt_succ_iff_lt_or_eq.1 hi with h | h
                · exact HE.out i h
                · subst h; exact HB.out), fin2 x⟩
              case measure => simp [intOf]; omega
      · have hkn : k = n := by omega
        subst hkn
        have HD : Hid (diskR l = true) := diskR_true (by rw [← HN.out]; omega) (by rw [← HN.out]; exact HE.out)
        go_wp2
        go_ret
        exact ⟨by rw [HD.out]; rfl, hb0⟩
end Go.Proofs.YtingfgbcinlflaaGreatDoor

namespace Go.Proofs.YtingfgbcinlflaaGreatDoor
open Go Go.RowKit

theorem right_false {f : Fl} (h : f.right = false) : nameR f.name = false ∨ nameR f.name = true ∧ ((20000 : Int) < (f.text.size : Int) ∨ (f.text.size : Int) ≤ 20000 ∧ (decide (0 ≤ f.kept) && decide (f.kept ≤ (f.text.size : Int))) = false) := by
  unfold Fl.right at h
  cases h1 : nameR f.name with
  | false => exact .inl rfl
  | true =>
    refine .inr ⟨rfl, ?_⟩
    rw [h1, Bool.true_and] at h
    by_cases h2 : (f.text.size : Int) ≤ 20000
    · rw [decide_eq_true h2, Bool.true_and] at h
      exact .inr ⟨h2, h⟩
    · exact .inl (by omega)
theorem right_true {f : Fl} (h : f.right = true) : nameR f.name = true ∧ (f.text.size : Int) ≤ 20000 ∧ (decide (0 ≤ f.kept) && decide (f.kept ≤ (f.text.size : Int))) = true := by
  unfold Fl.right at h
  simp only [Bool.and_eq_true, decide_eq_true_eq] at h
  exact ⟨h.1, h.2.1, by simp [h.2.2.1, h.2.2.2]⟩

set_option maxHeartbeats 2000000 in
theorem specDiskOk_try (ao : Option Addr) (n c : Nat) (l : List Fl) (w : World) (hr : Reads w (.slice ao n c) l) :
    Calls Tryz.prog 26 #[.agg #[.slice ao n c]] w fun e w' => e = .returned (.bool (diskR l)) ∧ Below w.heap.size w w' := by
  have HR : Hid (Reads w (.slice ao n c) l) := hr
  have HN : Hid (n = l.length) := hr.len
  clear hr
  by_cases h30 : (30 : Int) < (n : Int)
  · have HD : Hid (diskR l = false) := diskR_long (by rw [← HN.out]; omega)
    go_enter Tryz.func26, Tryz.ntmps26
    go_wp2
    go_ret
    exact ⟨by rw [HD.out]; rfl, ba (Below.refl _ _) _⟩
  · go_enter Tryz.func26, Tryz.ntmps26
    go_wp2
    go_loopw [3] (fun i wr => ∃ k : Nat, k ≤ n ∧ i = .int .i64 k ∧ Hid (∀ i, i < k → okAt l i = true) ∧ Below (w.heap.size + 1) (w.alloc (Obj.cells #[.slice ao n c] 30)) wr) (fun i _ => n - (intOf i).toNat)
    case atStart => exact ⟨0, Nat.zero_le _, rfl, (fun i hi => absurd hi (by omega)), Below.refl _ _⟩
    case round =>
      obtain ⟨k, hk, rfl, HE, hbel⟩ := hrel
      have hsz := hbel.size
      simp only [World.size_alloc] at hsz
      have hb0 : Below w.heap.size w wr := (ba (Below.refl _ _) _).trans (hbel.mono (by omega))
      have hd0 : wr.cell? ⟨w.heap.size, 0, none⟩ = some (.slice ao n c) := (hbel.cell (by simp)).trans (by simp [go_sem])
      by_cases hlt : k < n
      · obtain ⟨⟨nm, tx, kp⟩, hf⟩ : ∃ f, l[k]? = some f := ⟨_, List.getElem?_eq_getElem (by rw [← HN.out]; exact hlt)⟩
        have HF : Hid (l[k]? = some ⟨nm, tx, kp⟩) := hf
        obtain ⟨b, o, rfl, hb, c0, c1, c2⟩ := fl_at (HR.out.below hb0) hf
        clear hf
        dsimp only at c0 c1 c2
        have hba : Below wr.heap.size wr (wr.alloc (Obj.cells #[.string nm, .string tx, .int .i64 kp] 56)) := (Below.refl _ wr).alloc (Nat.le_refl _) _
        have g0 : (wr.alloc (Obj.cells #[.string nm, .string tx, .int .i64 kp] 56)).cell? ⟨wr.heap.size, 0, none⟩ = some (.string nm) := by simp [go_sem]
        have g1 : (wr.alloc (Obj.cells #[.string nm, .string tx, .int .i64 kp] 56)).cell? ⟨wr.heap.size, 1, none⟩ = some (.string tx) := by simp [go_sem]
        have g2 : (wr.alloc (Obj.cells #[.string nm, .string tx, .int .i64 kp] 56)).cell? ⟨wr.heap.size, 2, none⟩ = some (.int .i64 kp) := by simp [go_sem]
        have g3 : (wr.alloc (Obj.cells #[.string nm, .string tx, .int .i64 kp] 56)).cell? ⟨w.heap.size, 0, none⟩ = some (.slice (some ⟨b, o, none⟩) n c) := (hba.cell (p := ⟨w.heap.size, 0, none⟩) (by show w.heap.size < wr.heap.size; omega)).trans hd0
        have q0 := Wd.cell g0
        have q1 := Wd.cell g1
        have q2 := Wd.cell g2
        have q3 := Wd.cell g3
        have fin : ∀ x : Wd (wr.alloc (Obj.cells #[.string nm, .string tx, .int .i64 kp] 56)), Below w.heap.size w x.at' := fun x => hb0.trans ((hba.trans (x.ok.mono (by simp))).mono (by omega))
        have fin2 : ∀ x : Wd (wr.alloc (Obj.cells #[.string nm, .string tx, .int .i64 kp] 56)), Below (w.heap.size + 1) (w.alloc (Obj.cells #[.slice (some ⟨b, o, none⟩) n c] 30)) x.at' := fun x => hbel.trans ((hba.trans (x.ok.mono (by simp))).mono (by omega))
        cases hfr : Fl.right ⟨nm, tx, kp⟩ with
        | false =>
          have HB : Hid (okAt l k = false) := okAt_wrong HF.out hfr
          rcases right_false hfr with h1 | ⟨h1, h2 | ⟨h2, h3⟩⟩
          · dsimp only at h1
            go_wp2
            refine wp_region_wd (by kernel_rfl) (by kernel_rfl) ?_
            repeat (go_big_quiet_step ((go_at_call 37; refine calls_wd_same (v := .bool false) ?_; rw [← h1]; exact specName_any _ _)))
            refine wpQuiet_nil ?_
            rintro _ ⟨x, rfl⟩
            go_wp2
            go_ret
            exact ⟨by rw [diskR_false (by rw [← HN.out]; exact hlt) HB.out]; rfl, fin x⟩
          · dsimp only at h1 h2
            have h2' : decide ((20000 : Int) < (tx.size : Int)) = true := decide_eq_true h2
            go_wp2
            refine wp_region_wd (by kernel_rfl) (by kernel_rfl) ?_
            repeat (go_big_quiet_step ((go_at_call 37; refine calls_wd_same (v := .bool true) ?_; rw [← h1]; exact specName_any _ _)))
            refine wpQuiet_nil ?_
            rintro _ ⟨x, rfl⟩
            go_wp2
            go_ret
            exact ⟨by rw [diskR_false (by rw [← HN.out]; exact hlt) HB.out]; rfl, fin x⟩
          · dsimp only at h1 h2 h3
            have h2' : decide ((20000 : Int) < (tx.size : Int)) = false := decide_eq_false (by omega)
            go_wp2
            refine wp_region_wd (by kernel_rfl) (by kernel_rfl) ?_
            repeat (go_big_quiet_step ((first | (go_at_call 37; refine calls_wd_same (v := .bool true) ?_; rw [← h1]; exact specName_any _ _) | (go_at_call 38; refine calls_wd_same (v := .bool false) ?_; rw [← h3]; exact inF_any _ _ _ _))))
            refine wpQuiet_nil ?_
            rintro _ ⟨x, rfl⟩
            go_wp2
            go_ret
            exact ⟨by rw [diskR_false (by rw [← HN.out]; exact hlt) HB.out]; rfl, fin x⟩
        | true =>
          obtain ⟨h1, h2, h3⟩ := right_true hfr
          dsimp only at h1 h2 h3
          have h2' : decide ((20000 : Int) < (tx.size : Int)) = false := decide_eq_false (by omega)
          rcases Nat.eq_zero_or_pos k with hk0 | hk0
          · have HB : Hid (okAt l k = true) := by show okAt l k = true; rw [hk0]; exact (okAt_first (hk0 ▸ HF.out)).trans hfr
            have HK : Hid (k = 0) := hk0
            have hg0 : decide ((0 : Int) < (k : Int)) = false := decide_eq_false (by omega)
            have hg1 : decide (0 < k) = false := decide_eq_false (by omega)
            clear hk0
            go_wp2
            refine wp_region_wd (by kernel_rfl) (by kernel_rfl) ?_
            repeat (go_big_quiet_step ((first | (go_at_call 37; refine calls_wd_same (v := .bool true) ?_; rw [← h1]; exact specName_any _ _) | (go_at_call 38; refine calls_wd_same (v := .bool true) ?_; rw [← h3]; exact inF_any _ _ _ _))))
            refine wpQuiet_nil ?_
            rintro _ ⟨x, rfl⟩
            go_wp2
            go_roundw
            case rel => exact ⟨k + 1, by omega, by go_num, (fun i hi => (show i = k by have := HK.out; omega) ▸ HB.out), fin2 x⟩
            case measure => simp [intOf]; omega
          · obtain ⟨j, rfl⟩ : ∃ j, k = j + 1 := ⟨k - 1, by omega⟩
            obtain ⟨⟨pn, pt, pk⟩, hp⟩ : ∃ p, l[j]? = some p := ⟨_, List.getElem?_eq_getElem (by rw [← HN.out]; omega)⟩
            have HP : Hid (l[j]? = some ⟨pn, pt, pk⟩) := hp
            obtain ⟨b', o', hbo, -, p0, -, -⟩ := fl_at (HR.out.below hb0) hp
            clear hp
            simp only [Option.some.injEq, Addr.mk.injEq, and_true] at hbo
            obtain ⟨rfl, rfl⟩ := hbo
            dsimp only at p0
            have g4 := (hba.cell (p := ⟨b, o + j * 3, none⟩) hb).trans p0
            have q4 := Wd.cell g4
            cases hlb : Op.bytesLess pn.toList nm.toList with
            | false =>
              have HB : Hid (okAt l (j + 1) = false) := by show okAt l (j + 1) = false; rw [okAt_next HF.out HP.out]; simp [ltB, hlb]
              go_wp2
              refine wp_region_wd (by kernel_rfl) (by kernel_rfl) ?_
              repeat (go_big_quiet_step ((first | (go_at_call 37; refine calls_wd_same (v := .bool true) ?_; rw [← h1]; exact specName_any _ _) | (go_at_call 38; refine calls_wd_same (v := .bool true) ?_; rw [← h3]; exact inF_any _ _ _ _))))
              refine wpQuiet_nil ?_
              rintro _ ⟨x, rfl⟩
              go_wp2
              go_ret
              exact ⟨by rw [diskR_false (by rw [← HN.out]; exact hlt) HB.out]; rfl, fin x⟩
            | true =>
              have HB : Hid (okAt l (j + 1) = true) := by show okAt l (j + 1) = true; rw [okAt_next HF.out HP.out]; simp [ltB, hlb, hfr]
              go_wp2
              refine wp_region_wd (by kernel_rfl) (by kernel_rfl) ?_
              repeat (go_big_quiet_step ((first | (go_at_call 37; refine calls_wd_same (v := .bool true) ?_; rw [← h1]; exact specName_any _ _) | (go_at_call 38; refine calls_wd_same (v := .bool true) ?_; rw [← h3]; exact inF_any _ _ _ _))))
              refine wpQuiet_nil ?_
              rintro _ ⟨x, rfl⟩
              go_wp2
              go_roundw
              case rel => exact ⟨j + 2, by omega, by go_num, (fun i hi => by
                rcases Nat.lt_succ_iff_lt_or_eq.1 hi with h | h
                · exact HE.out i h
                · subst h; exact HB.out), fin2 x⟩
              case measure => simp [intOf]; omega
      · have hkn : k = n := by omega
        subst hkn
        have HD : Hid (diskR l = true) := diskR_true (by rw [← HN.out]; omega) (by rw [← HN.out]; exact HE.out)
        go_wp2
        go_ret
        exact ⟨by rw [HD.out]; rfl, hb0⟩

theorem diskOk_any {w : World} {v : Value} {l : List Fl} (hr : Reads w v l) : Calls Tryz.prog 31 #[.agg #[v]] w fun e w' => e = .returned (.bool (diskR l)) ∧ Below w.heap.size w w' := by
  obtain ⟨ao, c, rfl, _⟩ := id hr
  exact diskOk_try ao _ c l w hr
theorem specDiskOk_any {w : World} {v : Value} {l : List Fl} (hr : Reads w v l) : Calls Tryz.prog 26 #[.agg #[v]] w fun e w' => e = .returned (.bool (diskR l)) ∧ Below w.heap.size w w' := by
  obtain ⟨ao, c, rfl, _⟩ := id hr
  exact specDiskOk_try ao _ c l w hr

theorem diskR_right {l : List Fl} (h : diskR l = true) : ∀ (i : Nat) (f : Fl), l[i]? = some f → f.right = true := by
  intro i f hf
  unfold diskR at h
  rw [Bool.and_eq_true, List.all_eq_true] at h
  have := h.2 i (List.mem_range.2 (List.getElem?_eq_some_iff.1 hf).1)
  unfold okAt at this
  rw [hf] at this
  simp only [Bool.and_eq_true] at this
  exact this.1
end Go.Proofs.YtingfgbcinlflaaGreatDoor

namespace Go.Proofs.YtingfgbcinlflaaGreatDoor
open Go Go.RowKit


/-- The first file of a name. -/
def findF (l : List Fl) (s : ByteArray) : Option Fl := l.find? fun f => f.name.toList == s.toList
theorem findF_at {l : List Fl} {s : ByteArray} {k : Nat} {f : Fl} (h : l[k]? = some f) (he : (f.name.toList == s.toList) = true) (hno : ∀ (i : Nat) (g : Fl), i < k → l[i]? = some g → (g.name.toList == s.toList) = false) : findF l s = some f := by
  unfold findF
  induction l generalizing k with
  | nil => simp at h
  | cons x r ih =>
    cases k with
    | zero => simp at h; subst h; simp only [List.find?_cons, he]
    | succ k =>
      have h0 := hno 0 x (by omega) rfl
      simp only [List.find?_cons, h0]
      exact ih (by simpa using h) fun i g hi hg => hno (i + 1) g (by omega) (by simpa using hg)
theorem findF_none {l : List Fl} {s : ByteArray} (hno : ∀ (i : Nat) (g : Fl), i < l.length → l[i]? = some g → (g.name.toList == s.toList) = false) : findF l s = none := by
  unfold findF
  rw [List.find?_eq_none]
  intro f hf
  obtain ⟨i, hi⟩ := List.getElem?_of_mem hf
  simp [hno i f (List.getElem?_eq_some_iff.1 hi).1 hi]
/-- What FileAt tells. -/
def fileR (l : List Fl) (s : ByteArray) : ByteArray × Bool := match findF l s with | some f => (f.text, true) | none => (ByteArray.empty, false)

def TextsL (l : List Fl) : Prop := ∀ f ∈ l, f.text.size ≤ 1048576

set_option maxHeartbeats 1000000 in
theorem fileAt_try (ao : Option Addr) (n c : Nat) (l : List Fl) (s : ByteArray) (w : World) (hr : Reads w (.slice ao n c) l) (hn : n ≤ 1048577) (hs : TextsL l) :
    Calls Tryz.prog 34 #[.agg #[.slice ao n c], .string s] w fun e w' => e = .returned (.tuple #[.string (fileR l s).1, .bool (fileR l s).2]) ∧ Below w.heap.size w w' := by
  have HR : Hid (Reads w (.slice ao n c) l) := hr
  have HN : Hid (n = l.length) := hr.len
  have HS : Hid (TextsL l) := hs
  clear hr hs
  go_enter Tryz.func34, Tryz.ntmps34
  go_wp2
  go_loopw [11] (fun i wr => ∃ k : Nat, k ≤ n ∧ i = .int .i64 k ∧ Hid (∀ (i : Nat) (g : Fl), i < k → l[i]? = some g → (g.name.toList == s.toList) = false) ∧ Below w.heap.size w wr) (fun i _ => n - (intOf i).toNat)
  case atStart => exact ⟨0, Nat.zero_le _, rfl, (fun i f hi => absurd hi (by omega)), ba (Below.refl _ _) _⟩
  case round =>
    obtain ⟨k, hk, rfl, HE, hbel⟩ := hrel
    have hsz := hbel.size
    by_cases hlt : k < n
    · obtain ⟨⟨nm, tx, kp⟩, hf⟩ : ∃ f, l[k]? = some f := ⟨_, List.getElem?_eq_getElem (by rw [← HN.out]; exact hlt)⟩
      have HF : Hid (l[k]? = some ⟨nm, tx, kp⟩) := hf
      obtain ⟨b, o, rfl, hb, c0, c1, c2⟩ := fl_at (HR.out.below hbel) hf
      have hts : tx.size ≤ 1048576 := HS.out _ (List.mem_of_getElem? hf)
      clear hf
      dsimp only at c0 c1 c2
      cases he : (nm.toList == s.toList) with
      | true =>
        have HK : Hid (fileR l s = (tx, true)) := by show fileR l s = (tx, true); unfold fileR; rw [findF_at HF.out he HE.out]
        go_wp2_with (go_at_call 52; refine (clone_any _ _ hts).mono ?_; rintro e w2 ⟨rfl, hb2⟩)
        go_ret2
        exact ⟨by rw [HK.out]; rfl, hbel.trans (((ba (Below.refl _ wr) _).trans (hb2.mono (by simp))).mono hsz)⟩
      | false =>
        go_wp2
        go_roundw
        case rel => exact ⟨k + 1, by omega, by go_num, (fun i f hi hl => by
          rcases Nat.lt_succ_iff_lt_or_eq.1 hi with h | h
          · exact HE.out i f h hl
          · subst h
            have := HF.out.symm.trans hl
            simp only [Option.some.injEq] at this
            subst this
            exact he), hbel.trans ((ba (Below.refl _ wr) _).mono hsz)⟩
        case measure => simp [intOf]; omega
    · have hkn : k = n := by omega
      subst hkn
      have HK : Hid (fileR l s = (ByteArray.empty, false)) := by show fileR l s = _; unfold fileR; rw [findF_none (by rw [← HN.out]; exact HE.out)]
      go_wp2
      go_ret2
      exact ⟨by rw [HK.out]; rfl, hbel⟩

set_option maxHeartbeats 1000000 in
theorem specAt_try (ao : Option Addr) (n c : Nat) (l : List Fl) (s : ByteArray) (w : World) (hr : Reads w (.slice ao n c) l) (hn : n ≤ 1048577) :
    Calls Tryz.prog 29 #[.agg #[.slice ao n c], .string s] w fun e w' => ∃ r : Int, e = .returned (.int .i64 r) ∧ (r = -1 ∧ findF l s = none ∨ ∃ (k : Nat) (f : Fl), r = (k : Int) ∧ l[k]? = some f ∧ findF l s = some f) ∧ Below w.heap.size w w' := by
  have HR : Hid (Reads w (.slice ao n c) l) := hr
  have HN : Hid (n = l.length) := hr.len
  clear hr
  go_enter Tryz.func29, Tryz.ntmps29
  go_wp2
  go_loopw [5] (fun i wr => ∃ k m : Nat, k ≤ n ∧ i = .int .i64 k ∧ Hid (∀ (i : Nat) (g : Fl), i < k → l[i]? = some g → (g.name.toList == s.toList) = false) ∧ wr = (w.alloc (Obj.cells #[.slice ao n c] 30)).drewN m) (fun i _ => n - (intOf i).toNat)
  case atStart => exact ⟨0, 0, Nat.zero_le _, rfl, (fun i f hi => absurd hi (by omega)), rfl⟩
  case round =>
    obtain ⟨k, m, hk, rfl, HE, rfl⟩ := hrel
    have hb0 : Below w.heap.size w ((w.alloc (Obj.cells #[.slice ao n c] 30)).drewN m) := bdrewF (ba (Below.refl _ _) _) m
    by_cases hlt : k < n
    · obtain ⟨⟨nm, tx, kp⟩, hf⟩ : ∃ f, l[k]? = some f := ⟨_, List.getElem?_eq_getElem (by rw [← HN.out]; exact hlt)⟩
      have HF : Hid (l[k]? = some ⟨nm, tx, kp⟩) := hf
      obtain ⟨b, o, rfl, hb, c0, c1, c2⟩ := fl_at (HR.out.alloc (Obj.cells #[.slice ao n c] 30)) hf
      clear hf
      dsimp only at c0 c1 c2
      cases he : (nm.toList == s.toList) with
      | true =>
        have HK : Hid (findF l s = some ⟨nm, tx, kp⟩) := findF_at HF.out he HE.out
        go_wp2
        go_ret
        exact ⟨_, rfl, .inr ⟨k, _, rfl, HF.out, HK.out⟩, hb0⟩
      | false =>
        go_wp2
        go_roundw
        case rel => exact ⟨k + 1, m, by omega, by go_num, (fun i f hi hl => by
          rcases Nat.lt_succ_iff_lt_or_eq.1 hi with h | h
          · exact HE.out i f h hl
          · subst h
            have := HF.out.symm.trans hl
            simp only [Option.some.injEq] at this
            subst this
            exact he), rfl⟩
        case measure => simp [intOf]; omega
    · have hkn : k = n := by omega
      subst hkn
      go_wp2
      go_ret
      exact ⟨_, rfl, .inl ⟨rfl, findF_none (by rw [← HN.out]; exact HE.out)⟩, hb0⟩

theorem fileAt_any {w : World} {v : Value} {l : List Fl} (s : ByteArray) (hr : Reads w v l) (hn : l.length ≤ 1048577) (hs : TextsL l) : Calls Tryz.prog 34 #[.agg #[v], .string s] w fun e w' => e = .returned (.tuple #[.string (fileR l s).1, .bool (fileR l s).2]) ∧ Below w.heap.size w w' := by
  obtain ⟨ao, c, rfl, _⟩ := id hr
  exact fileAt_try ao _ c l s w hr hn hs
end Go.Proofs.YtingfgbcinlflaaGreatDoor

namespace Go.Proofs.YtingfgbcinlflaaGreatDoor
open Go Go.RowKit
section
variable {α : Type} [Rec α]
open Rec

theorem flat_cell {l : List α} {j : Nat} {v : Value} (h : (l.flatMap cells)[j]? = some v) : ∃ x, l[j / width α]? = some x ∧ (cells x)[j % width α]? = some v := by
  have hpos : 0 < width α := Rec.pos
  have e := flat_at l (j / width α) (j % width α) (Nat.mod_lt _ hpos)
  rw [Nat.mul_comm, Nat.div_add_mod] at e
  rw [e] at h
  cases hx : l[j / width α]? with
  | none => rw [hx] at h; simp at h
  | some x => rw [hx] at h; exact ⟨x, rfl, h⟩

theorem run_copy_rec {P : Program} (w : World) (dT sT ty elem : TypeId) (g cap B : Nat) (a : Option Addr) (n sCap : Nat) (l zs : List α)
    (hu : P.underlying dT = some (.slice elem)) (hs : (P.info? elem).map (·.size) = some (width α))
    (ho : ownsR w B elem (.slice (some ⟨g, 0, none⟩) n cap) zs) (hr : Reads w (.slice a n sCap) l) (h1 : ∀ x ∈ l, ∀ v ∈ cells x, v.oneCell' = true) :
    ∃ w', (Builtin.copy_ #[dT, sT] ty #[.slice (some ⟨g, 0, none⟩) n cap, .slice a n sCap]).run P w = .ok (goInt n) w' ∧ ownsR w' B elem (.slice (some ⟨g, 0, none⟩) n cap) l ∧ w.grownBy w' (some g) := by
  have hn := hr.len
  have hzn := ho.reads.len
  cases hq : P.info? elem with
  | none => simp [hq] at hs
  | some i =>
  have hi : i.size = width α := by simpa [hq] using hs
  by_cases h0 : n = 0
  · subst h0
    have hl0 : l = [] := List.eq_nil_of_length_eq_zero hn.symm
    have hz0 : zs = [] := List.eq_nil_of_length_eq_zero hzn.symm
    subst hl0 hz0
    have hl : ∀ (x : Addr), (loadCells x 0).run P w = .ok #[] w := fun x => by simpa using run_loadCells_list (P := P) w x [] (by simp)
    refine ⟨w, ?_, ho, grown_refl _ _⟩
    cases a <;> simp [Builtin.copy_, run_underlying hu, Builtin.lenOf, Builtin.firstCells, sizeOf, typeInfo, hq, storeCells, hl]
  · obtain ⟨ao, cap', e, hc⟩ := hr
    simp only [Value.slice.injEq] at e
    obtain ⟨rfl, _, rfl⟩ := e
    obtain ⟨b, o, rfl, hlt, hcell⟩ := hc (by rintro rfl; simp at hn; omega)
    have hlen : (l.flatMap cells).length = n * width α := by rw [flat_length, ← hn]
    have hl : (loadCells ⟨b, o, none⟩ (n * width α)).run P w = .ok (l.flatMap cells).toArray w := by
      rw [← hlen]
      refine run_loadCells_list (P := P) w ⟨b, o, none⟩ _ fun j v hv => ?_
      obtain ⟨x, hx, hv⟩ := flat_cell hv
      have := hcell _ x hx _ v hv
      have hadd : (⟨b, o, none⟩ : Addr).add j = ⟨b, o + j, none⟩ := by unfold Addr.add; split <;> simp_all
      rw [hadd]
      rw [Nat.add_assoc, Nat.mul_comm, Nat.div_add_mod] at this
      exact this
    rcases ho.2 with ⟨hv, _⟩ | ⟨g', cap2, cur, hv, hBg, hg, hcap, hmax, hsz, htake⟩
    · simp at hv
    · simp only [Value.slice.injEq, Option.some.injEq, Addr.mk.injEq, and_true] at hv
      obtain ⟨rfl, _, rfl⟩ := hv
      have hfit : (l.flatMap cells).length ≤ cur.size := by rw [hlen, hsz]; exact Nat.mul_le_mul_right _ (by omega)
      have hst := run_storeCells_at P g 0 elem (l.flatMap cells) 0 cur w hg (by simpa using hfit) (fun v hv => by
        obtain ⟨x, hx, hv⟩ := List.mem_flatMap.1 hv
        exact h1 x hx v hv)
      simp only [Nat.zero_add, List.take_zero, List.nil_append] at hst
      refine ⟨w.setRow g (l.flatMap cells ++ cur.toList.drop (l.flatMap cells).length).toArray, ?_, ?_, ?_⟩
      · simp [Builtin.copy_, run_underlying hu, Builtin.lenOf, Builtin.firstCells, sizeOf, typeInfo, hq, hi, hl, hst]
      · refine ⟨by rw [flat_length], .inr ⟨g, cap, _, by rw [← hn], hBg, setRow_heap w g cur _ elem _ hg, by omega, hmax, ?_, ?_⟩⟩
        · simp only [List.size_toArray, List.length_append, List.length_drop, Array.length_toList]
          omega
        · rw [← hn, ← hlen]; simp
      · exact ⟨rfl, rfl, rfl, by simp [World.setRow], fun k _ hk => setRow_other w g k _ (fun e => hk (by rw [e]))⟩

/-- copy(out, list) where out is a row of the call's own, as long as list. -/
theorem wpList_copy_rec {P : Program} {w : World} {ops : Array Oper} {rest : List Oper} {o : Oper} {a : Act} {Q : Exit → Act → World → Prop} (hgd : o.guard = none) (d s : Operand) (dT sT : TypeId)
    (ho : o.op = .call { callee := .builtin .copy, args := #[d, s], argTypes := #[dT, sT] }) (elem : TypeId) (hu : P.underlying dT = some (.slice elem)) (hsz : (P.info? elem).map (·.size) = some (width α))
    (g n cap B : Nat) (sp : Option Addr) (sCap : Nat) (hd : a.eval d = .slice (some ⟨g, 0, none⟩) n cap) (hs : a.eval s = .slice sp n sCap) (l zs : List α)
    (hown : ownsR w B elem (.slice (some ⟨g, 0, none⟩) n cap) zs) (hr : Reads w (.slice sp n sCap) l) (h1 : ∀ x ∈ l, ∀ v ∈ cells x, v.oneCell' = true)
    (h : ∀ w', ownsR w' B elem (.slice (some ⟨g, 0, none⟩) n cap) l → w.grownBy w' (some g) → wpList P ops Q rest (a.put o.dst (goInt n)) w') :
    wpList P ops Q (o :: rest) a w := by
  refine wpList_plain hgd fun K hK => ?_
  obtain ⟨w', hrun, ho', hg'⟩ := run_copy_rec (P := P) w dT sT o.type elem g cap B sp n sCap l zs hu hsz hown hr h1
  unfold Oper.wp
  simp [execOp, ho, resolve, invoke, builtin, hd, hs, hrun, Result.andThen]
  exact hK _ _ (h w' ho' hg')
end
end Go.Proofs.YtingfgbcinlflaaGreatDoor

namespace Go.Proofs.YtingfgbcinlflaaGreatDoor
open Go Go.RowKit
section
variable {α : Type} [Rec α]
open Rec
/-- A row without anything that was just made. -/
theorem ownsR_made0 (w : World) (B : Nat) (e : TypeId) (hB : B ≤ w.heap.size) : ownsR (w.alloc (.cells #[] e)) B e (.slice (some ⟨w.heap.size, 0, none⟩) 0 0) ([] : List α) :=
  World.ownsRow_made w #[] 0 hB (Nat.zero_le _) (by simp)
theorem run_append_recs {P : Program} (w : World) (B : Nat) (t ty e : TypeId) (z : Value) (bytes : Nat) (ht : P.underlying t = some (.slice e)) (hi : (P.info? e).map (fun i => (i.zero, i.size, i.bytes)) = some (some z, width α, bytes)) (hz : z.cells.size = width α)
    (v v2 : Value) (l1 l2 : List α) (hown : ownsR w B e v l1) (hr : Reads w v2 l2) (h1 : ∀ x ∈ l2, ∀ u ∈ cells x, u.oneCell' = true) (hlen : l1.length + l2.length ≤ 1048577) (hby : bytes ≤ 134217000) (hB : B ≤ w.heap.size) :
    ∃ v' w', (Builtin.append_ #[t, t] ty #[v, v2]).run P w = .ok v' w' ∧ ownsR w' B e v' (l1 ++ l2) ∧ w.grownBy w' v.ownBlock := by
  obtain ⟨i0, hi0, hz0, hz1, hz2⟩ := info_parts hi
  have hbytes : (l1.length + l2.length) * bytes ≤ 140737488355328 := by
    have : (l1.length + l2.length) * bytes ≤ 1048577 * 134217000 := Nat.mul_le_mul hlen hby
    omega
  have h63 : l1.length + l2.length ≤ maxLen := by unfold maxLen; omega
  have hone : ∀ u ∈ l2.flatMap cells, u.oneCell' = true := fun u hu => by
    obtain ⟨x, hx, hu⟩ := List.mem_flatMap.1 hu
    exact h1 x hx u hu
  obtain ⟨ao, cap, rfl, hc⟩ := hr
  cases ao with
  | none =>
    have h0 : l2 = [] := by
      cases l2 with
      | nil => rfl
      | cons x r => obtain ⟨b, o, e, _⟩ := hc (by simp); cases e
    subst h0
    refine ⟨v, w, ?_, by simpa using hown, grown_refl _ _⟩
    rcases hown.2 with ⟨rfl, h0⟩ | ⟨g, cap, cur, rfl, _, _, hnc, _⟩
    · simp [Builtin.append_, run_underlying ht, sizeOf, typeInfo, hi0, Builtin.lenOf, Builtin.firstCells]
    · simp [Builtin.append_, run_underlying ht, sizeOf, typeInfo, hi0, Builtin.lenOf, Builtin.firstCells, hnc, storeCells]
  | some a =>
    obtain ⟨v', w', hrun, ho, hg, _⟩ := run_append_own (P := P) (w := w) B t ty e i0 z (width α) bytes ht hi0 hz0 hz1 hz2 hz Rec.pos v l1.length _ hown a l2.length cap (l2.flatMap cells) (flat_length l2) (fun j u hj => by
      obtain ⟨x, hx, hu⟩ := flat_cell hj
      obtain ⟨b, o, e, _, hcell⟩ := hc (by rintro rfl; simp at hx)
      cases e
      have := hcell _ x hx _ u hu
      have hadd : (⟨b, o, none⟩ : Addr).add j = ⟨b, o + j, none⟩ := by unfold Addr.add; split <;> simp_all
      rw [hadd]
      rw [Nat.add_assoc, Nat.mul_comm, Nat.div_add_mod] at this
      exact this) hone h63 hbytes hB
    exact ⟨v', w', hrun, by simpa [ownsR, List.flatMap_append] using ho, hg⟩
/-- append(s, x...) where s is a row of the call's own. -/
theorem wpList_append_recs {P : Program} {w : World} {ops : Array Oper} {rest : List Oper} {o : Oper} {a : Act} {Q : Exit → Act → World → Prop} (hgd : o.guard = none) (s x : Operand) (t : TypeId)
    (ho : o.op = .call { callee := .builtin .append, args := #[s, x], argTypes := #[t, t] }) (B : Nat) (e : TypeId) (z : Value) (bytes : Nat) (ht : P.underlying t = some (.slice e)) (hi : (P.info? e).map (fun i => (i.zero, i.size, i.bytes)) = some (some z, width α, bytes)) (hz : z.cells.size = width α)
    (v v2 : Value) (l1 l2 : List α) (hs : a.eval s = v) (hx : a.eval x = v2) (hown : ownsR w B e v l1) (hr : Reads w v2 l2) (h1 : ∀ x ∈ l2, ∀ u ∈ cells x, u.oneCell' = true) (hlen : l1.length + l2.length ≤ 1048577) (hby : bytes ≤ 134217000) (hB : B ≤ w.heap.size)
    (h : ∀ v' w', ownsR w' B e v' (l1 ++ l2) → w.grownBy w' v.ownBlock → wpList P ops Q rest (a.put o.dst v') w') : wpList P ops Q (o :: rest) a w := by
  refine wpList_plain hgd fun K hK => ?_
  obtain ⟨v', w', hrun, ho', hg'⟩ := run_append_recs (P := P) w B t o.type e z bytes ht hi hz v v2 l1 l2 hown hr h1 hlen hby hB
  unfold Oper.wp
  simp [execOp, ho, resolve, invoke, builtin, hs, hx, hrun, Result.andThen]
  exact hK _ _ (h v' w' ho' hg')
/-- The same as one step of a region that draws its order. -/
theorem step_append_recs {P : Program} {ops : Array Oper} {o : Oper} {a : Act} {w : World} {K : Act → World → Prop} {Q : Exit → Act → World → Prop} {E : Prop} (hgd : o.guard = none) (s x : Operand) (t : TypeId)
    (ho : o.op = .call { callee := .builtin .append, args := #[s, x], argTypes := #[t, t] }) (B : Nat) (e : TypeId) (z : Value) (bytes : Nat) (ht : P.underlying t = some (.slice e)) (hi : (P.info? e).map (fun i => (i.zero, i.size, i.bytes)) = some (some z, width α, bytes)) (hz : z.cells.size = width α)
    (v v2 : Value) (l1 l2 : List α) (hs : a.eval s = v) (hx : a.eval x = v2) (hown : ownsR w B e v l1) (hr : Reads w v2 l2) (h1 : ∀ x ∈ l2, ∀ u ∈ cells x, u.oneCell' = true) (hlen : l1.length + l2.length ≤ 1048577) (hby : bytes ≤ 134217000) (hB : B ≤ w.heap.size)
    (h : ∀ v' w', ownsR w' B e v' (l1 ++ l2) → w.grownBy w' v.ownBlock → K (a.put o.dst v') w') :
    if Region.wanted o (yielded ops a.tmps) = true then Oper.wp P o a w K Q else E := by
  have hw : Region.wanted o (yielded ops a.tmps) = true := by simp [Region.wanted, hgd]
  rw [if_pos hw]
  obtain ⟨v', w', hrun, ho', hg'⟩ := run_append_recs (P := P) w B t o.type e z bytes ht hi hz v v2 l1 l2 hown hr h1 hlen hby hB
  unfold Oper.wp
  simp [execOp, ho, resolve, invoke, builtin, hs, hx, hrun, Result.andThen]
  exact h v' w' ho' hg'
end
end Go.Proofs.YtingfgbcinlflaaGreatDoor

namespace Go.Proofs.YtingfgbcinlflaaGreatDoor
open Go Go.RowKit

/-- The names of files are short. -/
def NamesL (l : List Fl) : Prop := ∀ f ∈ l, f.name.size ≤ 8
theorem names_right {l : List Fl} (h : diskR l = true) : NamesL l := fun f hf => by
  obtain ⟨i, hi⟩ := List.getElem?_of_mem hf
  have := (right_true (diskR_right h i f hi)).1
  simp [nameR] at this
  exact this.2
theorem cells_ac {b : Nat} {x : Ac} {w : World} (h0 : w.cell? ⟨b, 0, none⟩ = some (.int .i64 x.kind)) (h1 : w.cell? ⟨b, 1, none⟩ = some (.string x.name)) (h2 : w.cell? ⟨b, 2, none⟩ = some (.string x.text)) (h3 : w.cell? ⟨b, 3, none⟩ = some (.string x.to)) :
    ∀ j u, (Rec.cells x)[j]? = some u → w.cell? ⟨b, j, none⟩ = some u ∧ u.oneCell' = true := by
  intro j u hj
  match j, hj with
  | 0, hj =>
    have : Value.int .i64 x.kind = u := by simpa [Rec.cells] using hj
    subst this
    exact ⟨h0, rfl⟩
  | 1, hj =>
    have : Value.string x.name = u := by simpa [Rec.cells] using hj
    subst this
    exact ⟨h1, rfl⟩
  | 2, hj =>
    have : Value.string x.text = u := by simpa [Rec.cells] using hj
    subst this
    exact ⟨h2, rfl⟩
  | 3, hj =>
    have : Value.string x.to = u := by simpa [Rec.cells] using hj
    subst this
    exact ⟨h3, rfl⟩
theorem ownsA_made (w : World) (B cap : Nat) (cur : Array Value) (hb : B ≤ w.heap.size) (hm : cap ≤ maxLen) (hs : cur.size = cap * 4) :
    ownsR (w.alloc (.cells cur 47)) B 47 (.slice (some ⟨w.heap.size, 0, none⟩) 0 cap) ([] : List Ac) :=
  World.ownsRow_made w cur cap hb hm (by simp [Rec.width]; omega)
theorem ac_one (l : List Ac) : ∀ x ∈ l, ∀ u ∈ Rec.cells x, u.oneCell' = true := by
  intro x _ u hu
  simp [Rec.cells] at hu
  rcases hu with rfl | rfl | rfl | rfl <;> rfl
/-- A row of one act that was just built. -/
theorem reads_act {w : World} {g c : Nat} {x : Ac} (h : w.heap[g]? = some (.cells #[.int .i64 x.kind, .string x.name, .string x.text, .string x.to] 47)) : Reads w (.slice (some ⟨g, 0, none⟩) 1 c) [x] := by
  refine ⟨some ⟨g, 0, none⟩, c, rfl, fun _ => ⟨g, 0, rfl, (Array.getElem?_eq_some_iff.1 h).1, fun i y hy j u hu => ?_⟩⟩
  match i, hy with
  | 0, hy =>
    have e : x = y := by simpa using hy
    subst e
    match j, hu with
    | 0, hu => have e : Value.int .i64 x.kind = u := by simpa [Rec.cells] using hu
               subst e; simp [World.cell?, h]
    | 1, hu => have e : Value.string x.name = u := by simpa [Rec.cells] using hu
               subst e; simp [World.cell?, h]
    | 2, hu => have e : Value.string x.text = u := by simpa [Rec.cells] using hu
               subst e; simp [World.cell?, h]
    | 3, hu => have e : Value.string x.to = u := by simpa [Rec.cells] using hu
               subst e; simp [World.cell?, h]
/-- A row of two acts that was just built. -/
theorem reads_acts2 {w : World} {g c : Nat} {x y : Ac} (h : w.heap[g]? = some (.cells #[.int .i64 x.kind, .string x.name, .string x.text, .string x.to, .int .i64 y.kind, .string y.name, .string y.text, .string y.to] 47)) : Reads w (.slice (some ⟨g, 0, none⟩) 2 c) [x, y] := by
  refine ⟨some ⟨g, 0, none⟩, c, rfl, fun _ => ⟨g, 0, rfl, (Array.getElem?_eq_some_iff.1 h).1, fun i z hz j u hu => ?_⟩⟩
  match i, hz with
  | 0, hy =>
    have e : x = z := by simpa using hy
    subst e
    match j, hu with
    | 0, hu => have e : Value.int .i64 x.kind = u := by simpa [Rec.cells] using hu
               subst e; simp [World.cell?, h]
    | 1, hu => have e : Value.string x.name = u := by simpa [Rec.cells] using hu
               subst e; simp [World.cell?, h]
    | 2, hu => have e : Value.string x.text = u := by simpa [Rec.cells] using hu
               subst e; simp [World.cell?, h]
    | 3, hu => have e : Value.string x.to = u := by simpa [Rec.cells] using hu
               subst e; simp [World.cell?, h]
  | 1, hy =>
    have e : y = z := by simpa using hy
    subst e
    match j, hu with
    | 0, hu => have e : Value.int .i64 y.kind = u := by simpa [Rec.cells] using hu
               subst e; simp [World.cell?, h, ac_width]
    | 1, hu => have e : Value.string y.name = u := by simpa [Rec.cells] using hu
               subst e; simp [World.cell?, h, ac_width]
    | 2, hu => have e : Value.string y.text = u := by simpa [Rec.cells] using hu
               subst e; simp [World.cell?, h, ac_width]
    | 3, hu => have e : Value.string y.to = u := by simpa [Rec.cells] using hu
               subst e; simp [World.cell?, h, ac_width]
end Go.Proofs.YtingfgbcinlflaaGreatDoor
