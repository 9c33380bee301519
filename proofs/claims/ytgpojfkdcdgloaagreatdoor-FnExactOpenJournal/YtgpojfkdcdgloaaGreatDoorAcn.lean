/-
  Rows of records of one kind (Act): sizes, copies, held against each other, marked: the walks of the law's helpers.
-/
import Derived.Test.YtgpojfkdcdgloaaGreatDoorGn
import Derived.Test.YtgpojfkdcdgloaaGreatDoorMt
import Derived.Test.YtgpojfkdcdgloaaGreatDoorWd
namespace Go.Proofs.YtgpojfkdcdgloaaGreatDoor
open Go Go.RowKit

structure Ac where
  kind : Int
  name : ByteArray
  text : ByteArray
  to : ByteArray
instance : Inhabited Ac := ⟨⟨0, ByteArray.empty, ByteArray.empty, ByteArray.empty⟩⟩
instance : Rec Ac := ⟨4, fun a => [.int .i64 a.kind, .string a.name, .string a.text, .string a.to], fun _ => rfl, by decide⟩
theorem ac_width : Rec.width Ac = 4 := rfl
theorem ac_at {w : World} {ao : Option Addr} {n cap : Nat} {l : List Ac} (h : Reads w (.slice ao n cap) l) {k : Nat} {f : Ac} (hk : l[k]? = some f) :
    ∃ b o, ao = some ⟨b, o, none⟩ ∧ b < w.heap.size ∧ w.cell? ⟨b, o + k * 4, none⟩ = some (.int .i64 f.kind) ∧ w.cell? ⟨b, o + k * 4 + 1, none⟩ = some (.string f.name) ∧ w.cell? ⟨b, o + k * 4 + 2, none⟩ = some (.string f.text) ∧ w.cell? ⟨b, o + k * 4 + 3, none⟩ = some (.string f.to) := by
  obtain ⟨b, o, rfl, hlt, hc⟩ := h.at hk
  exact ⟨b, o, rfl, hlt, hc 0 _ rfl, hc 1 _ rfl, hc 2 _ rfl, hc 3 _ rfl⟩
def sizeAc : List Ac → Nat
  | [] => 0
  | f :: r => f.name.size + f.text.size + f.to.size + sizeAc r
theorem sizeAc_take {l : List Ac} {k : Nat} {f : Ac} (h : l[k]? = some f) : sizeAc (l.take (k + 1)) = sizeAc (l.take k) + (f.name.size + f.text.size + f.to.size) := by
  induction l generalizing k with
  | nil => simp at h
  | cons x r ih =>
    cases k with
    | zero => simp at h; subst h; simp [sizeAc]
    | succ k => simp at h; simp [sizeAc, ih h]; omega
theorem sizeAc_mem {l : List Ac} {f : Ac} (h : f ∈ l) : f.name.size + f.text.size + f.to.size ≤ sizeAc l := by
  induction l with
  | nil => simp at h
  | cons x r ih =>
    rcases List.mem_cons.1 h with rfl | h
    · simp [sizeAc]
    · have := ih h; simp [sizeAc]; omega
def SmallAc (l : List Ac) : Prop := ∀ f ∈ l, f.name.size ≤ 9223372036854775807 ∧ f.text.size ≤ 9223372036854775807 ∧ f.to.size ≤ 9223372036854775807

theorem infoAc : (Tryz.prog.info? 57).map (fun i => (i.zero, i.size, i.bytes)) = some (some (.agg #[.int .i64 0, .string ByteArray.empty, .string ByteArray.empty, .string ByteArray.empty]), 4, 56) := by kernel_rfl
theorem underAc : Tryz.prog.underlying 31 = some (.slice 57) := by kernel_rfl
theorem madeAc (n : Nat) : (madeCells (Value.cells (.agg #[.int .i64 0, .string ByteArray.empty, .string ByteArray.empty, .string ByteArray.empty])) (n * 4)).toList = (List.replicate n (default : Ac)).flatMap Rec.cells := by
  apply List.ext_getElem?
  intro m
  have hm := Nat.div_add_mod m 4
  have h3 : m % 4 < 4 := Nat.mod_lt _ (by decide)
  have e := flat_at (List.replicate n (default : Ac)) (m / 4) (m % 4) h3
  rw [ac_width, show m / 4 * 4 + m % 4 = m by omega] at e
  rw [e]
  simp only [madeCells, Value.cells, Array.toList_map, Array.toList_range, List.getElem?_map, List.getElem?_replicate]
  by_cases hlt : m / 4 < n
  · rw [if_pos hlt, List.getElem?_range (by omega)]
    match hx : m % 4, h3 with
    | 0, _ => simp [hx]; rfl
    | 1, _ => simp [hx]; rfl
    | 2, _ => simp [hx]; rfl
    | 3, _ => simp [hx]; rfl
  · rw [if_neg hlt, List.getElem?_eq_none (by simp; omega)]
    rfl

theorem ac_put {w : World} {B : Nat} {g n cap : Nat} {l : List Ac} (h : ownsR w B 57 (.slice (some ⟨g, 0, none⟩) n cap) l) {i : Nat} {y : Ac} (f : Ac) (hi : l[i]? = some y) :
    ownsR ((((w.setCell ⟨g, i * 4, none⟩ (.int .i64 f.kind)).setCell ⟨g, i * 4 + 1, none⟩ (.string f.name)).setCell ⟨g, i * 4 + 2, none⟩ (.string f.text)).setCell ⟨g, i * 4 + 3, none⟩ (.string f.to)) B 57 (.slice (some ⟨g, 0, none⟩) n cap) (l.set i f) := by
  have hil : i < l.length := (List.getElem?_eq_some_iff.1 hi).1
  have h1 := h.put (j := 0) (u := .int .i64 f.kind) { y with kind := f.kind } hi (by decide) rfl
  have h2 := h1.put (i := i) (j := 1) (u := .string f.name) { y with kind := f.kind, name := f.name } (List.getElem?_set_self (by simpa using hil)) (by decide) rfl
  have h3 := h2.put (i := i) (j := 2) (u := .string f.text) { y with kind := f.kind, name := f.name, text := f.text } (List.getElem?_set_self (by simpa using hil)) (by decide) rfl
  have h4 := h3.put (i := i) (j := 3) (u := .string f.to) f (List.getElem?_set_self (by simpa using hil)) (by decide) rfl
  simpa only [ac_width, Nat.add_zero, List.set_set] using h4

set_option maxHeartbeats 400000 in
theorem eqAct_any (kind : Int) (name : ByteArray) (text : ByteArray) (to : ByteArray) (w : World) :
    Calls Tryz.prog 28 #[.agg #[.int .i64 kind, .string name, .string text, .string to], .agg #[.int .i64 kind, .string name, .string text, .string to]] w fun e w' => e = .returned (.bool true) ∧ Below w.heap.size w w' := by
  go_enter Tryz.func28, Tryz.ntmps28
  go_wp2
  go_ret
  exact ⟨rfl, ba (ba (Below.refl _ _) _) _⟩

set_option maxRecDepth 8000 in
set_option maxHeartbeats 2000000 in
theorem eqActS_any (ao bo : Option Addr) (n c d : Nat) (l : List Ac) (w : World) (ha : Reads w (.slice ao n c) l) (hb : Reads w (.slice bo n d) l) (hn : n ≤ 1048577) :
    Calls Tryz.prog 9 #[.slice ao n c, .slice bo n d] w fun e w' => e = .returned (.bool true) ∧ Below w.heap.size w w' := by
  have HN : Hid (n = l.length) := ha.len
  have HA : Hid (Reads w (.slice ao n c) l) := ha
  have HB : Hid (Reads w (.slice bo n d) l) := hb
  clear ha hb
  go_enter Tryz.func9, Tryz.ntmps9
  go_wp2
  go_loopw [5] (fun i wr => ∃ k : Nat, k ≤ n ∧ i = .int .i64 k ∧ Below w.heap.size w wr) (fun i _ => n - (intOf i).toNat)
  case atStart => exact ⟨0, Nat.zero_le _, rfl, Below.refl _ _⟩
  case round =>
    obtain ⟨k, hk, rfl, hbel⟩ := hrel
    by_cases hlt : k < n
    · obtain ⟨f, hf⟩ : ∃ f, l[k]? = some f := ⟨_, List.getElem?_eq_getElem (by rw [← HN.out]; exact hlt)⟩
      obtain ⟨a, oa, rfl, hga, a0, a1, a2, a3⟩ := ac_at (HA.out.below hbel) hf
      obtain ⟨b, ob, rfl, hgb, b0, b1, b2, b3⟩ := ac_at (HB.out.below hbel) hf
      clear hf
      go_wp2
      go_region_held (fun w' => w'.cell? ⟨a, oa + k * 4, none⟩ = some (.int .i64 f.kind) ∧ w'.cell? ⟨a, oa + k * 4 + 1, none⟩ = some (.string f.name) ∧ w'.cell? ⟨a, oa + k * 4 + 2, none⟩ = some (.string f.text) ∧ w'.cell? ⟨a, oa + k * 4 + 3, none⟩ = some (.string f.to) ∧ w'.cell? ⟨b, ob + k * 4, none⟩ = some (.int .i64 f.kind) ∧ w'.cell? ⟨b, ob + k * 4 + 1, none⟩ = some (.string f.name) ∧ w'.cell? ⟨b, ob + k * 4 + 2, none⟩ = some (.string f.text) ∧ w'.cell? ⟨b, ob + k * 4 + 3, none⟩ = some (.string f.to)) ((first | exact ⟨a0, a1, a2, a3, b0, b1, b2, b3⟩ | exact ⟨(hb2.cell hga).trans a0, (hb2.cell hga).trans a1, (hb2.cell hga).trans a2, (hb2.cell hga).trans a3, (hb2.cell hgb).trans b0, (hb2.cell hgb).trans b1, (hb2.cell hgb).trans b2, (hb2.cell hgb).trans b3⟩)) ((go_at_call 28; refine (eqAct_any _ _ _ _ _).mono ?_; rintro e w2 ⟨rfl, hb2⟩))
      go_wp2
      go_roundw
      case rel => exact ⟨k + 1, by omega, by go_num, hbel.trans (((Below.refl _ _).drew.trans hb2).mono hbel.size)⟩
      case measure => simp [intOf]; omega
    · go_wp2
      go_ret
      exact ⟨rfl, hbel⟩

def mkAc (x : Int) : Ac := ⟨x, mkT (x + 1), mkT (x + 1 + 1), mkT (x + 1 + 1 + 1)⟩
def marksAc (x : Int) (n : Nat) : List Ac := marksR mkAc 4 x n
theorem ac_own {w : World} {B : Nat} {g n cap : Nat} {l : List Ac} (h : ownsR w B 57 (.slice (some ⟨g, 0, none⟩) n cap) l) {i : Nat} {x : Ac} (hi : l[i]? = some x) :
    g < w.heap.size ∧ (w.cell? ⟨g, i * 4, none⟩ = some (.int .i64 x.kind) ∧ w.cell? ⟨g, i * 4 + 1, none⟩ = some (.string x.name) ∧ w.cell? ⟨g, i * 4 + 2, none⟩ = some (.string x.text) ∧ w.cell? ⟨g, i * 4 + 3, none⟩ = some (.string x.to)) ∧ w.frozen? ⟨g, i * 4, none⟩ = false ∧ w.frozen? ⟨g, i * 4 + 1, none⟩ = false ∧ w.frozen? ⟨g, i * 4 + 2, none⟩ = false ∧ w.frozen? ⟨g, i * 4 + 3, none⟩ = false := by
  obtain ⟨h1, _, _, h2⟩ := h.at hi
  exact ⟨h1, ⟨(h2 0 (by decide)).1, (h2 1 (by decide)).1, (h2 2 (by decide)).1, (h2 3 (by decide)).1⟩, (h2 0 (by decide)).2, (h2 1 (by decide)).2, (h2 2 (by decide)).2, (h2 3 (by decide)).2⟩

set_option maxHeartbeats 1000000 in
theorem markActS_none (ao : Option Addr) (c : Nat) (x : Int) (w : World) :
    Calls Tryz.prog 13 #[.slice ao 0 c, .int .i64 x] w fun e w' => e = .returned (.int .i64 x) ∧ Below w.heap.size w w' := by
  go_enter Tryz.func13, Tryz.ntmps13
  go_wp2
  refine wp_loop_rounds 1 ?_
  rw [rounds_succ]
  go_wp2
  go_ret
  exact ⟨rfl, Below.refl _ _⟩

set_option maxRecDepth 8000 in
set_option maxHeartbeats 4000000 in
theorem markActS_some (g n c B : Nat) (x : Int) (l : List Ac) (w : World) (ho : ownsR w B 57 (.slice (some ⟨g, 0, none⟩) n c) l) (hn : n ≤ 1048577) (hx0 : 0 < x) (hx : x ≤ 100000000) :
    Calls Tryz.prog 13 #[.slice (some ⟨g, 0, none⟩) n c, .int .i64 x] w fun e w' => e = .returned (.int .i64 (x + 4 * (n : Int))) ∧ ownsR w' B 57 (.slice (some ⟨g, 0, none⟩) n c) (marksAc x n) ∧ w.grownBy w' (some g) := by
  have HN : Hid (n = l.length) := ho.reads.len
  have HO : Hid (ownsR w B 57 (.slice (some ⟨g, 0, none⟩) n c) l) := ho
  clear ho
  go_enter Tryz.func13, Tryz.ntmps13
  go_wp2
  go_loopw [1, 5] (fun q i wr => ∃ k : Nat, k ≤ n ∧ i = .int .i64 k ∧ q = .int .i64 (x + 4 * (k : Int)) ∧ Hid (ownsR wr B 57 (.slice (some ⟨g, 0, none⟩) n c) (markedR mkAc 4 x l k)) ∧ w.grownBy wr (some g)) (fun _ i _ => n - (intOf i).toNat)
  case atStart => exact ⟨0, Nat.zero_le _, rfl, by simp, markedR_zero HO, grown_refl _ _⟩
  case round =>
    obtain ⟨k, hk, rfl, rfl, HL, hbel⟩ := hrel
    by_cases hlt : k < n
    · obtain ⟨f, hf⟩ : ∃ f, l[k]? = some f := ⟨_, List.getElem?_eq_getElem (by rw [← HN.out]; exact hlt)⟩
      have HF : Hid (l[k]? = some f) := hf
      clear hf
      obtain ⟨hg0, ⟨d0_0, d0_1, d0_2, d0_3⟩, f0_0, f0_1, f0_2, f0_3⟩ := ac_own HL.out (markedR_at HF.out)
      clear d0_1 f0_1 d0_2 f0_2 d0_3 f0_3
      have P0 : Hid (ownsR (wr.setCell ⟨g, k * 4, none⟩ (.int .i64 (x + 4 * (k : Int)))) B 57 (.slice (some ⟨g, 0, none⟩) n c) ((markedR mkAc 4 x l k).set k { f with kind := x + 4 * (k : Int) })) := by
        have := HL.out.put (j := 0) (u := .int .i64 (x + 4 * (k : Int))) { f with kind := x + 4 * (k : Int) } (markedR_at HF.out) (by decide) rfl
        exact this
      have at0 : ((markedR mkAc 4 x l k).set k { f with kind := x + 4 * (k : Int) })[k]? = some { f with kind := x + 4 * (k : Int) } := List.getElem?_set_self (by rw [markedR_length (by rw [← HN.out]; omega), ← HN.out]; exact hlt)
      go_wp2_with fail
      refine (markText_int _ _ (by omega) (by omega)).mono ?_
      rintro e w1 ⟨rfl, hb1⟩
      have O1 : Hid (ownsR w1 B 57 (.slice (some ⟨g, 0, none⟩) n c) ((markedR mkAc 4 x l k).set k { f with kind := x + 4 * (k : Int) })) := P0.out.all hb1
      obtain ⟨hg1, ⟨d1_0, d1_1, d1_2, d1_3⟩, f1_0, f1_1, f1_2, f1_3⟩ := ac_own O1.out at0
      clear d1_0 f1_0 d1_2 f1_2 d1_3 f1_3
      have P1 : Hid (ownsR (w1.setCell ⟨g, k * 4 + 1, none⟩ (.string (mkT (x + 4 * (k : Int) + 1)))) B 57 (.slice (some ⟨g, 0, none⟩) n c) ((markedR mkAc 4 x l k).set k { f with kind := x + 4 * (k : Int), name := mkT (x + 4 * (k : Int) + 1) })) := by
        have := O1.out.put (j := 1) (u := .string (mkT (x + 4 * (k : Int) + 1))) { f with kind := x + 4 * (k : Int), name := mkT (x + 4 * (k : Int) + 1) } at0 (by decide) rfl
        rw [List.set_set] at this
        exact this
      have at1 : ((markedR mkAc 4 x l k).set k { f with kind := x + 4 * (k : Int), name := mkT (x + 4 * (k : Int) + 1) })[k]? = some { f with kind := x + 4 * (k : Int), name := mkT (x + 4 * (k : Int) + 1) } := List.getElem?_set_self (by rw [markedR_length (by rw [← HN.out]; omega), ← HN.out]; exact hlt)
      go_wp2_with fail
      refine (markText_int _ _ (by omega) (by omega)).mono ?_
      rintro e w2 ⟨rfl, hb2⟩
      have O2 : Hid (ownsR w2 B 57 (.slice (some ⟨g, 0, none⟩) n c) ((markedR mkAc 4 x l k).set k { f with kind := x + 4 * (k : Int), name := mkT (x + 4 * (k : Int) + 1) })) := P1.out.all hb2
      obtain ⟨hg2, ⟨d2_0, d2_1, d2_2, d2_3⟩, f2_0, f2_1, f2_2, f2_3⟩ := ac_own O2.out at1
      clear d2_0 f2_0 d2_1 f2_1 d2_3 f2_3
      have P2 : Hid (ownsR (w2.setCell ⟨g, k * 4 + 2, none⟩ (.string (mkT (x + 4 * (k : Int) + 1 + 1)))) B 57 (.slice (some ⟨g, 0, none⟩) n c) ((markedR mkAc 4 x l k).set k { f with kind := x + 4 * (k : Int), name := mkT (x + 4 * (k : Int) + 1), text := mkT (x + 4 * (k : Int) + 1 + 1) })) := by
        have := O2.out.put (j := 2) (u := .string (mkT (x + 4 * (k : Int) + 1 + 1))) { f with kind := x + 4 * (k : Int), name := mkT (x + 4 * (k : Int) + 1), text := mkT (x + 4 * (k : Int) + 1 + 1) } at1 (by decide) rfl
        rw [List.set_set] at this
        exact this
      have at2 : ((markedR mkAc 4 x l k).set k { f with kind := x + 4 * (k : Int), name := mkT (x + 4 * (k : Int) + 1), text := mkT (x + 4 * (k : Int) + 1 + 1) })[k]? = some { f with kind := x + 4 * (k : Int), name := mkT (x + 4 * (k : Int) + 1), text := mkT (x + 4 * (k : Int) + 1 + 1) } := List.getElem?_set_self (by rw [markedR_length (by rw [← HN.out]; omega), ← HN.out]; exact hlt)
      go_wp2_with fail
      refine (markText_int _ _ (by omega) (by omega)).mono ?_
      rintro e w3 ⟨rfl, hb3⟩
      have O3 : Hid (ownsR w3 B 57 (.slice (some ⟨g, 0, none⟩) n c) ((markedR mkAc 4 x l k).set k { f with kind := x + 4 * (k : Int), name := mkT (x + 4 * (k : Int) + 1), text := mkT (x + 4 * (k : Int) + 1 + 1) })) := P2.out.all hb3
      obtain ⟨hg3, ⟨d3_0, d3_1, d3_2, d3_3⟩, f3_0, f3_1, f3_2, f3_3⟩ := ac_own O3.out at2
      clear d3_0 f3_0 d3_1 f3_1 d3_2 f3_2
      have P3 : Hid (ownsR (w3.setCell ⟨g, k * 4 + 3, none⟩ (.string (mkT (x + 4 * (k : Int) + 1 + 1 + 1)))) B 57 (.slice (some ⟨g, 0, none⟩) n c) (markedR mkAc 4 x l (k + 1))) := by
        have := O3.out.put (j := 3) (u := .string (mkT (x + 4 * (k : Int) + 1 + 1 + 1))) (mkAc (x + 4 * (k : Int))) at2 (by decide) rfl
        rw [List.set_set, markedR_set HF.out] at this
        exact this
      have BG : w.grownBy (w3.setCell ⟨g, k * 4 + 3, none⟩ (.string (mkT (x + 4 * (k : Int) + 1 + 1 + 1)))) (some g) := (grown_trans (grown_trans (grown_trans (grown_trans (grown_trans (grown_trans (grown_trans hbel (grown_set _ _ _ _)) (grown_of_below hb1 _)) (grown_set _ _ _ _)) (grown_of_below hb2 _)) (grown_set _ _ _ _)) (grown_of_below hb3 _)) (grown_set _ _ _ _))
      clear hbel
      go_wp2
      go_roundw
      case rel => exact ⟨k + 1, by omega, by go_num, by go_num, P3, BG⟩
      case measure => simp [intOf]; omega
    · have hkn : k = n := by omega
      have R : ownsR wr B 57 (.slice (some ⟨g, 0, none⟩) n c) (marksAc x n) := by
        have h := HL.out
        have e := markedR_all mkAc 4 x l
        rw [← HN.out] at e
        rw [hkn, e] at h
        exact h
      subst hkn
      go_wp2
      go_ret
      exact ⟨rfl, R, hbel⟩
theorem markActS_any {w : World} {B : Nat} {x : Int} {v : Value} {l : List Ac} (ho : ownsR w B 57 v l) (hn : l.length ≤ 1048577) (hx0 : 0 < x) (hx : x ≤ 100000000) :
    Calls Tryz.prog 13 #[v, .int .i64 x] w fun e w' => e = .returned (.int .i64 (x + 4 * (l.length : Int))) ∧ ownsR w' B 57 v (marksAc x l.length) ∧ w.grownBy w' v.ownBlock := by
  have ho2 := ho
  rcases ho.2 with ⟨rfl, h0⟩ | ⟨g, cap, cur, rfl, _⟩
  · have hl : l = [] := List.eq_nil_of_length_eq_zero h0
    subst hl
    exact (markActS_none none 0 x w).mono fun e w' ⟨he, h⟩ => ⟨by simpa using he, ownsR_nil _ _ _, grown_of_below h _⟩
  · exact markActS_some g l.length cap B x l w ho2 hn hx0 hx

theorem marksAc_at {x : Int} {n j : Nat} (h : j < n) : (marksAc x n)[j]? = some (mkAc (x + 4 * (j : Int))) := marksR_at h
theorem marksAc_length (x : Int) (n : Nat) : (marksAc x n).length = n := marksR_length x n
set_option maxHeartbeats 4000000 in
theorem heldActS_any (ao : Option Addr) (n c : Nat) (x : Int) (w : World) (hr : Reads w (.slice ao n c) (marksAc x n)) (hn : n ≤ 1048577) (hx0 : 0 < x) (hx : x ≤ 100000000) :
    Calls Tryz.prog 15 #[.slice ao n c, .int .i64 x] w fun e w' => e = .returned (.int .i64 (x + 4 * (n : Int))) ∧ Below w.heap.size w w' := by
  have HR : Hid (Reads w (.slice ao n c) (marksAc x n)) := hr
  clear hr
  go_enter Tryz.func15, Tryz.ntmps15
  go_wp2
  go_loopw [1, 5] (fun q i wr => ∃ k : Nat, k ≤ n ∧ i = .int .i64 k ∧ q = .int .i64 (x + 4 * (k : Int)) ∧ Below w.heap.size w wr) (fun _ i _ => n - (intOf i).toNat)
  case atStart => exact ⟨0, Nat.zero_le _, rfl, by simp, Below.refl _ _⟩
  case round =>
    obtain ⟨k, hk, rfl, rfl, hbel⟩ := hrel
    have hsz := hbel.size
    by_cases hlt : k < n
    · obtain ⟨b, o, rfl, hb, c0, c1, c2, c3⟩ := ac_at (HR.out.below hbel) (marksAc_at (x := x) hlt)
      replace c0 : wr.cell? ⟨b, o + k * 4, none⟩ = some (.int .i64 (x + 4 * (k : Int))) := c0
      replace c1 : wr.cell? ⟨b, o + k * 4 + 1, none⟩ = some (.string (mkT (x + 4 * (k : Int) + 1))) := c1
      replace c2 : wr.cell? ⟨b, o + k * 4 + 2, none⟩ = some (.string (mkT (x + 4 * (k : Int) + 1 + 1))) := c2
      replace c3 : wr.cell? ⟨b, o + k * 4 + 3, none⟩ = some (.string (mkT (x + 4 * (k : Int) + 1 + 1 + 1))) := c3
      have q1 := Wd.cell c1
      go_wp2
      refine wp_region_wd (by kernel_rfl) (by kernel_rfl) ?_
      repeat (go_big_quiet_step ((go_at_call 32; refine calls_wd (v := .string (mkT (x + 4 * (k : Int) + 1))) ?_; exact markText_int (x + 4 * (k : Int) + 1) _ (by omega) (by omega))))
      refine wpQuiet_nil ?_
      rintro _ ⟨x1, rfl⟩
      have d1_2 := Wd.cell c2 x1
      have d1_3 := Wd.cell c3 x1
      have q2 := Wd.cell d1_2
      go_wp2
      refine wp_region_wd (by kernel_rfl) (by kernel_rfl) ?_
      repeat (go_big_quiet_step ((go_at_call 32; refine calls_wd (v := .string (mkT (x + 4 * (k : Int) + 1 + 1))) ?_; exact markText_int (x + 4 * (k : Int) + 1 + 1) _ (by omega) (by omega))))
      refine wpQuiet_nil ?_
      rintro _ ⟨x2, rfl⟩
      have d2_3 := Wd.cell d1_3 x2
      have q3 := Wd.cell d2_3
      go_wp2
      refine wp_region_wd (by kernel_rfl) (by kernel_rfl) ?_
      repeat (go_big_quiet_step ((go_at_call 32; refine calls_wd (v := .string (mkT (x + 4 * (k : Int) + 1 + 1 + 1))) ?_; exact markText_int (x + 4 * (k : Int) + 1 + 1 + 1) _ (by omega) (by omega))))
      refine wpQuiet_nil ?_
      rintro _ ⟨x3, rfl⟩
      go_wp2
      go_roundw
      case rel => exact ⟨k + 1, by omega, by go_num, by go_num, (((hbel.trans (x1.ok.mono hsz)).trans (x2.ok.mono (Nat.le_trans hsz x1.ok.size))).trans (x3.ok.mono (Nat.le_trans (Nat.le_trans hsz x1.ok.size) x2.ok.size)))⟩
      case measure => simp [intOf]; omega
    · have hkn : k = n := by omega
      subst hkn
      go_wp2
      go_ret
      exact ⟨rfl, hbel⟩

end Go.Proofs.YtgpojfkdcdgloaaGreatDoor
