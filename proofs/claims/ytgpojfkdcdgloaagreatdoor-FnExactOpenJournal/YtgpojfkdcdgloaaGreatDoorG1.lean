/-
  Entries: the law's helpers, and whether one is right: the walks. Rows of records of one kind (Entry): sizes, copies, held against each other, marked: the walks of the law's helpers. Logs: the law's helpers on them (sizes, copies, held against each other, marked): the walks. Arguments that are rows of records, opened. Over any program. Whether an entry is right, on both sides, and the law on it: the walks. Whether a log is right, on both sides: the walks.
-/
import Derived.Test.YtgpojfkdcdgloaaGreatDoorRcs
import Derived.Test.YtgpojfkdcdgloaaGreatDoorGn
import Derived.Test.YtgpojfkdcdgloaaGreatDoorMt
import Derived.Test.YtgpojfkdcdgloaaGreatDoorWd
import Derived.Test.YtgpojfkdcdgloaaGreatDoorRec
import Derived.Deep.Slices
import Derived.Deep.Strs
import Derived.ProofKit
import Derived.OpenShut
namespace Go.Proofs.YtgpojfkdcdgloaaGreatDoor
open Go Go.RowKit

set_option maxHeartbeats 400000 in
theorem eqEntry_any (t k : Int) (d : ByteArray) (w : World) :
    Calls Tryz.prog 80 #[.agg #[.int .i64 t, .int .i64 k, .string d], .agg #[.int .i64 t, .int .i64 k, .string d]] w fun e w' => e = .returned (.bool true) ∧ Below w.heap.size w w' := by
  go_enter Tryz.func80, Tryz.ntmps80
  go_wp2
  go_ret
  exact ⟨rfl, ba (ba (Below.refl _ _) _) _⟩

/-- What an entry's kind asks of its data. -/
def kindOk (k : Int) (d : ByteArray) : Bool :=
  if k = 1 then d.toList.isEmpty else if k = 2 then okT d else if k = 3 then decide ((d.size : Int) ≤ 640) else false
def okE (t k : Int) (d : ByteArray) : Bool := decide (0 ≤ t) && decide (t ≤ 100000) && kindOk k d
/-- The kind of an entry, as the program tells it: a type behind an interface. -/
def contV (k : Int) (d : ByteArray) : Value := if k = 1 then .iface 204 (.string d) else if k = 2 then .iface 205 (.string d) else if k = 3 then .iface 206 (.string d) else .nilIface

theorem contentOf_any (t k : Int) (d : ByteArray) (w : World) :
    Calls Tryz.prog 129 #[.agg #[.int .i64 t, .int .i64 k, .string d]] w fun e w' => e = .returned (contV k d) ∧ Below w.heap.size w w' := by
  by_cases h1 : k = 1
  · subst h1
    go_enter Tryz.func129, Tryz.ntmps129
    go_wp2
    go_ret
    exact ⟨rfl, ba (Below.refl _ _) _⟩
  · by_cases h2 : k = 2
    · subst h2
      go_enter Tryz.func129, Tryz.ntmps129
      go_wp2
      go_ret
      exact ⟨rfl, ba (Below.refl _ _) _⟩
    · by_cases h3 : k = 3
      · subst h3
        go_enter Tryz.func129, Tryz.ntmps129
        go_wp2
        go_ret
        exact ⟨rfl, ba (Below.refl _ _) _⟩
      · have HC : Hid (contV k d = .nilIface) := by show contV k d = _; simp [contV, h1, h2, h3]
        rw [HC.out]
        go_enter Tryz.func129, Tryz.ntmps129
        go_wp2
        go_ret
        exact ⟨rfl, ba (Below.refl _ _) _⟩

theorem as_yes (t : TypeId) (ht : t = 204 ∨ t = 205 ∨ t = 206) (d : ByteArray) (w : World) : (Instr.typeAssert (.iface t (.string d)) 194 t true).run Tryz.prog w = .ok (.tuple #[.string d, .bool true]) w := by
  rcases ht with rfl | rfl | rfl <;> kernel_rfl
theorem as_64_63 (d : ByteArray) (w : World) : (Instr.typeAssert (.iface 205 (.string d)) 194 204 true).run Tryz.prog w = .ok (.tuple #[.string ByteArray.empty, .bool false]) w := by kernel_rfl
theorem as_65_63 (d : ByteArray) (w : World) : (Instr.typeAssert (.iface 206 (.string d)) 194 204 true).run Tryz.prog w = .ok (.tuple #[.string ByteArray.empty, .bool false]) w := by kernel_rfl
theorem as_65_64 (d : ByteArray) (w : World) : (Instr.typeAssert (.iface 206 (.string d)) 194 205 true).run Tryz.prog w = .ok (.tuple #[.string ByteArray.empty, .bool false]) w := by kernel_rfl
theorem as_nil_63 (w : World) : (Instr.typeAssert .nilIface 194 204 true).run Tryz.prog w = .ok (.tuple #[.string ByteArray.empty, .bool false]) w := by kernel_rfl
theorem as_nil_64 (w : World) : (Instr.typeAssert .nilIface 194 205 true).run Tryz.prog w = .ok (.tuple #[.string ByteArray.empty, .bool false]) w := by kernel_rfl
theorem as_nil_65 (w : World) : (Instr.typeAssert .nilIface 194 206 true).run Tryz.prog w = .ok (.tuple #[.string ByteArray.empty, .bool false]) w := by kernel_rfl

set_option maxHeartbeats 1000000 in
theorem isRight_any (k : Int) (d : ByteArray) (w : World) (hd : d.size ≤ maxLen) :
    Calls Tryz.prog 135 #[contV k d] w fun e w' => e = .returned (.bool (kindOk k d)) ∧ Below w.heap.size w w' := by
  have HD : Hid (d.size ≤ maxLen) := hd
  clear hd
  by_cases h1 : k = 1
  · subst h1
    have a1 := as_yes 204 (by decide) d
    show Calls Tryz.prog 135 #[.iface 204 (.string d)] w fun e w' => e = .returned (.bool d.toList.isEmpty) ∧ Below w.heap.size w w'
    go_enter Tryz.func135, Tryz.ntmps135
    go_wp2
    go_ret
    exact ⟨rfl, Below.refl _ _⟩
  · by_cases h2 : k = 2
    · subst h2
      have a1 := as_64_63 d
      have a2 := as_yes 205 (by decide) d
      show Calls Tryz.prog 135 #[.iface 205 (.string d)] w fun e w' => e = .returned (.bool (okT d)) ∧ Below w.heap.size w w'
      go_enter Tryz.func135, Tryz.ntmps135
      go_wp2_with (go_at_call 142; refine (readConf_any _ _ HD.out).mono ?_; rintro e w1 ⟨v1, rfl, ho, hb⟩; clear ho)
      go_ret
      exact ⟨rfl, hb⟩
    · by_cases h3 : k = 3
      · subst h3
        have hd := HD.out
        unfold maxLen at hd
        have a1 := as_65_63 d
        have a2 := as_65_64 d
        have a3 := as_yes 206 (by decide) d
        show Calls Tryz.prog 135 #[.iface 206 (.string d)] w fun e w' => e = .returned (.bool (decide ((d.size : Int) ≤ 640))) ∧ Below w.heap.size w w'
        go_enter Tryz.func135, Tryz.ntmps135
        go_wp2
        go_ret
        exact ⟨rfl, Below.refl _ _⟩
      · have HC : Hid (contV k d = .nilIface) := by show contV k d = _; simp [contV, h1, h2, h3]
        have HK : Hid (kindOk k d = false) := by show kindOk k d = _; simp [kindOk, h1, h2, h3]
        rw [HC.out, HK.out]
        have a1 := as_nil_63
        have a2 := as_nil_64
        have a3 := as_nil_65
        go_enter Tryz.func135, Tryz.ntmps135
        go_wp2
        go_ret
        exact ⟨rfl, Below.refl _ _⟩
end Go.Proofs.YtgpojfkdcdgloaaGreatDoor

namespace Go.Proofs.YtgpojfkdcdgloaaGreatDoor
open Go Go.RowKit

structure En where
  term : Int
  kind : Int
  data : ByteArray
instance : Inhabited En := ⟨⟨0, 0, ByteArray.empty⟩⟩
instance : Rec En := ⟨3, fun a => [.int .i64 a.term, .int .i64 a.kind, .string a.data], fun _ => rfl, by decide⟩
theorem en_width : Rec.width En = 3 := rfl
theorem en_at {w : World} {ao : Option Addr} {n cap : Nat} {l : List En} (h : Reads w (.slice ao n cap) l) {k : Nat} {f : En} (hk : l[k]? = some f) :
    ∃ b o, ao = some ⟨b, o, none⟩ ∧ b < w.heap.size ∧ w.cell? ⟨b, o + k * 3, none⟩ = some (.int .i64 f.term) ∧ w.cell? ⟨b, o + k * 3 + 1, none⟩ = some (.int .i64 f.kind) ∧ w.cell? ⟨b, o + k * 3 + 2, none⟩ = some (.string f.data) := by
  obtain ⟨b, o, rfl, hlt, hc⟩ := h.at hk
  exact ⟨b, o, rfl, hlt, hc 0 _ rfl, hc 1 _ rfl, hc 2 _ rfl⟩
def sizeEn : List En → Nat
  | [] => 0
  | f :: r => f.data.size + sizeEn r
theorem sizeEn_take {l : List En} {k : Nat} {f : En} (h : l[k]? = some f) : sizeEn (l.take (k + 1)) = sizeEn (l.take k) + (f.data.size) := by
  induction l generalizing k with
  | nil => simp at h
  | cons x r ih =>
    cases k with
    | zero => simp at h; subst h; simp [sizeEn]
    | succ k => simp at h; simp [sizeEn, ih h]; omega
theorem sizeEn_mem {l : List En} {f : En} (h : f ∈ l) : f.data.size ≤ sizeEn l := by
  induction l with
  | nil => simp at h
  | cons x r ih =>
    rcases List.mem_cons.1 h with rfl | h
    · simp [sizeEn]
    · have := ih h; simp [sizeEn]; omega
def SmallEn (l : List En) : Prop := ∀ f ∈ l, f.data.size ≤ 9223372036854775807

theorem infoEn : (Tryz.prog.info? 110).map (fun i => (i.zero, i.size, i.bytes)) = some (some (.agg #[.int .i64 0, .int .i64 0, .string ByteArray.empty]), 3, 32) := by kernel_rfl
theorem underEn : Tryz.prog.underlying 26 = some (.slice 110) := by kernel_rfl
theorem madeEn (n : Nat) : (madeCells (Value.cells (.agg #[.int .i64 0, .int .i64 0, .string ByteArray.empty])) (n * 3)).toList = (List.replicate n (default : En)).flatMap Rec.cells := by
  apply List.ext_getElem?
  intro m
  have hm := Nat.div_add_mod m 3
  have h3 : m % 3 < 3 := Nat.mod_lt _ (by decide)
  have e := flat_at (List.replicate n (default : En)) (m / 3) (m % 3) h3
  rw [en_width, show m / 3 * 3 + m % 3 = m by omega] at e
  rw [e]
  simp only [madeCells, Value.cells, Array.toList_map, Array.toList_range, List.getElem?_map, List.getElem?_replicate]
  by_cases hlt : m / 3 < n
  · rw [if_pos hlt, List.getElem?_range (by omega)]
    match hx : m % 3, h3 with
    | 0, _ => simp [hx]; rfl
    | 1, _ => simp [hx]; rfl
    | 2, _ => simp [hx]; rfl
  · rw [if_neg hlt, List.getElem?_eq_none (by simp; omega)]
    rfl

theorem en_put {w : World} {B : Nat} {g n cap : Nat} {l : List En} (h : ownsR w B 110 (.slice (some ⟨g, 0, none⟩) n cap) l) {i : Nat} {y : En} (f : En) (hi : l[i]? = some y) :
    ownsR (((w.setCell ⟨g, i * 3, none⟩ (.int .i64 f.term)).setCell ⟨g, i * 3 + 1, none⟩ (.int .i64 f.kind)).setCell ⟨g, i * 3 + 2, none⟩ (.string f.data)) B 110 (.slice (some ⟨g, 0, none⟩) n cap) (l.set i f) := by
  have hil : i < l.length := (List.getElem?_eq_some_iff.1 hi).1
  have h1 := h.put (j := 0) (u := .int .i64 f.term) { y with term := f.term } hi (by decide) rfl
  have h2 := h1.put (i := i) (j := 1) (u := .int .i64 f.kind) { y with term := f.term, kind := f.kind } (List.getElem?_set_self (by simpa using hil)) (by decide) rfl
  have h3 := h2.put (i := i) (j := 2) (u := .string f.data) f (List.getElem?_set_self (by simpa using hil)) (by decide) rfl
  simpa only [en_width, Nat.add_zero, List.set_set] using h3

set_option maxRecDepth 8000 in
set_option maxHeartbeats 2000000 in
theorem eqEntryS_any (ao bo : Option Addr) (n c d : Nat) (l : List En) (w : World) (ha : Reads w (.slice ao n c) l) (hb : Reads w (.slice bo n d) l) (hn : n ≤ 1048577) :
    Calls Tryz.prog 54 #[.slice ao n c, .slice bo n d] w fun e w' => e = .returned (.bool true) ∧ Below w.heap.size w w' := by
  have HN : Hid (n = l.length) := ha.len
  have HA : Hid (Reads w (.slice ao n c) l) := ha
  have HB : Hid (Reads w (.slice bo n d) l) := hb
  clear ha hb
  go_enter Tryz.func54, Tryz.ntmps54
  go_wp2
  go_loopw [5] (fun i wr => ∃ k : Nat, k ≤ n ∧ i = .int .i64 k ∧ Below w.heap.size w wr) (fun i _ => n - (intOf i).toNat)
  case atStart => exact ⟨0, Nat.zero_le _, rfl, Below.refl _ _⟩
  case round =>
    obtain ⟨k, hk, rfl, hbel⟩ := hrel
    by_cases hlt : k < n
    · obtain ⟨f, hf⟩ : ∃ f, l[k]? = some f := ⟨_, List.getElem?_eq_getElem (by rw [← HN.out]; exact hlt)⟩
      obtain ⟨a, oa, rfl, hga, a0, a1, a2⟩ := en_at (HA.out.below hbel) hf
      obtain ⟨b, ob, rfl, hgb, b0, b1, b2⟩ := en_at (HB.out.below hbel) hf
      clear hf
      go_wp2
      go_region_held (fun w' => w'.cell? ⟨a, oa + k * 3, none⟩ = some (.int .i64 f.term) ∧ w'.cell? ⟨a, oa + k * 3 + 1, none⟩ = some (.int .i64 f.kind) ∧ w'.cell? ⟨a, oa + k * 3 + 2, none⟩ = some (.string f.data) ∧ w'.cell? ⟨b, ob + k * 3, none⟩ = some (.int .i64 f.term) ∧ w'.cell? ⟨b, ob + k * 3 + 1, none⟩ = some (.int .i64 f.kind) ∧ w'.cell? ⟨b, ob + k * 3 + 2, none⟩ = some (.string f.data)) ((first | exact ⟨a0, a1, a2, b0, b1, b2⟩ | exact ⟨(hb2.cell hga).trans a0, (hb2.cell hga).trans a1, (hb2.cell hga).trans a2, (hb2.cell hgb).trans b0, (hb2.cell hgb).trans b1, (hb2.cell hgb).trans b2⟩)) ((go_at_call 80; refine (eqEntry_any _ _ _ _).mono ?_; rintro e w2 ⟨rfl, hb2⟩))
      go_wp2
      go_roundw
      case rel => exact ⟨k + 1, by omega, by go_num, hbel.trans (((Below.refl _ _).drew.trans hb2).mono hbel.size)⟩
      case measure => simp [intOf]; omega
    · go_wp2
      go_ret
      exact ⟨rfl, hbel⟩

def mkEn (x : Int) : En := ⟨x, x + 1, mkT (x + 1 + 1)⟩
def marksEn (x : Int) (n : Nat) : List En := marksR mkEn 3 x n
theorem en_own {w : World} {B : Nat} {g n cap : Nat} {l : List En} (h : ownsR w B 110 (.slice (some ⟨g, 0, none⟩) n cap) l) {i : Nat} {x : En} (hi : l[i]? = some x) :
    g < w.heap.size ∧ (w.cell? ⟨g, i * 3, none⟩ = some (.int .i64 x.term) ∧ w.cell? ⟨g, i * 3 + 1, none⟩ = some (.int .i64 x.kind) ∧ w.cell? ⟨g, i * 3 + 2, none⟩ = some (.string x.data)) ∧ w.frozen? ⟨g, i * 3, none⟩ = false ∧ w.frozen? ⟨g, i * 3 + 1, none⟩ = false ∧ w.frozen? ⟨g, i * 3 + 2, none⟩ = false := by
  obtain ⟨h1, _, _, h2⟩ := h.at hi
  exact ⟨h1, ⟨(h2 0 (by decide)).1, (h2 1 (by decide)).1, (h2 2 (by decide)).1⟩, (h2 0 (by decide)).2, (h2 1 (by decide)).2, (h2 2 (by decide)).2⟩

set_option maxHeartbeats 1000000 in
theorem markEntryS_none (ao : Option Addr) (c : Nat) (x : Int) (w : World) :
    Calls Tryz.prog 56 #[.slice ao 0 c, .int .i64 x] w fun e w' => e = .returned (.int .i64 x) ∧ Below w.heap.size w w' := by
  go_enter Tryz.func56, Tryz.ntmps56
  go_wp2
  refine wp_loop_rounds 1 ?_
  rw [rounds_succ]
  go_wp2
  go_ret
  exact ⟨rfl, Below.refl _ _⟩

set_option maxRecDepth 8000 in
set_option maxHeartbeats 4000000 in
theorem markEntryS_some (g n c B : Nat) (x : Int) (l : List En) (w : World) (ho : ownsR w B 110 (.slice (some ⟨g, 0, none⟩) n c) l) (hn : n ≤ 1048577) (hx0 : 0 < x) (hx : x ≤ 100000000) :
    Calls Tryz.prog 56 #[.slice (some ⟨g, 0, none⟩) n c, .int .i64 x] w fun e w' => e = .returned (.int .i64 (x + 3 * (n : Int))) ∧ ownsR w' B 110 (.slice (some ⟨g, 0, none⟩) n c) (marksEn x n) ∧ w.grownBy w' (some g) := by
  have HN : Hid (n = l.length) := ho.reads.len
  have HO : Hid (ownsR w B 110 (.slice (some ⟨g, 0, none⟩) n c) l) := ho
  clear ho
  go_enter Tryz.func56, Tryz.ntmps56
  go_wp2
  go_loopw [1, 5] (fun q i wr => ∃ k : Nat, k ≤ n ∧ i = .int .i64 k ∧ q = .int .i64 (x + 3 * (k : Int)) ∧ Hid (ownsR wr B 110 (.slice (some ⟨g, 0, none⟩) n c) (markedR mkEn 3 x l k)) ∧ w.grownBy wr (some g)) (fun _ i _ => n - (intOf i).toNat)
  case atStart => exact ⟨0, Nat.zero_le _, rfl, by simp, markedR_zero HO, grown_refl _ _⟩
  case round =>
    obtain ⟨k, hk, rfl, rfl, HL, hbel⟩ := hrel
    by_cases hlt : k < n
    · obtain ⟨f, hf⟩ : ∃ f, l[k]? = some f := ⟨_, List.getElem?_eq_getElem (by rw [← HN.out]; exact hlt)⟩
      have HF : Hid (l[k]? = some f) := hf
      clear hf
      obtain ⟨hg0, ⟨d0_0, d0_1, d0_2⟩, f0_0, f0_1, f0_2⟩ := en_own HL.out (markedR_at HF.out)
      clear d0_2 f0_2
      have P0 : Hid (ownsR (wr.setCell ⟨g, k * 3, none⟩ (.int .i64 (x + 3 * (k : Int)))) B 110 (.slice (some ⟨g, 0, none⟩) n c) ((markedR mkEn 3 x l k).set k { f with term := x + 3 * (k : Int) })) := by
        have := HL.out.put (j := 0) (u := .int .i64 (x + 3 * (k : Int))) { f with term := x + 3 * (k : Int) } (markedR_at HF.out) (by decide) rfl
        exact this
      have at0 : ((markedR mkEn 3 x l k).set k { f with term := x + 3 * (k : Int) })[k]? = some { f with term := x + 3 * (k : Int) } := List.getElem?_set_self (by rw [markedR_length (by rw [← HN.out]; omega), ← HN.out]; exact hlt)
      have P1 : Hid (ownsR ((wr.setCell ⟨g, k * 3, none⟩ (.int .i64 (x + 3 * (k : Int)))).setCell ⟨g, k * 3 + 1, none⟩ (.int .i64 (x + 3 * (k : Int) + 1))) B 110 (.slice (some ⟨g, 0, none⟩) n c) ((markedR mkEn 3 x l k).set k { f with term := x + 3 * (k : Int), kind := x + 3 * (k : Int) + 1 })) := by
        have := P0.out.put (j := 1) (u := .int .i64 (x + 3 * (k : Int) + 1)) { f with term := x + 3 * (k : Int), kind := x + 3 * (k : Int) + 1 } at0 (by decide) rfl
        rw [List.set_set] at this
        exact this
      have at1 : ((markedR mkEn 3 x l k).set k { f with term := x + 3 * (k : Int), kind := x + 3 * (k : Int) + 1 })[k]? = some { f with term := x + 3 * (k : Int), kind := x + 3 * (k : Int) + 1 } := List.getElem?_set_self (by rw [markedR_length (by rw [← HN.out]; omega), ← HN.out]; exact hlt)
      go_wp2_with fail
      refine (markText_int _ _ (by omega) (by omega)).mono ?_
      rintro e w1 ⟨rfl, hb1⟩
      have O1 : Hid (ownsR w1 B 110 (.slice (some ⟨g, 0, none⟩) n c) ((markedR mkEn 3 x l k).set k { f with term := x + 3 * (k : Int), kind := x + 3 * (k : Int) + 1 })) := P1.out.all hb1
      obtain ⟨hg1, ⟨d1_0, d1_1, d1_2⟩, f1_0, f1_1, f1_2⟩ := en_own O1.out at1
      clear d1_0 f1_0 d1_1 f1_1
      have P2 : Hid (ownsR (w1.setCell ⟨g, k * 3 + 2, none⟩ (.string (mkT (x + 3 * (k : Int) + 1 + 1)))) B 110 (.slice (some ⟨g, 0, none⟩) n c) (markedR mkEn 3 x l (k + 1))) := by
        have := O1.out.put (j := 2) (u := .string (mkT (x + 3 * (k : Int) + 1 + 1))) (mkEn (x + 3 * (k : Int))) at1 (by decide) rfl
        rw [List.set_set, markedR_set HF.out] at this
        exact this
      have BG : w.grownBy (w1.setCell ⟨g, k * 3 + 2, none⟩ (.string (mkT (x + 3 * (k : Int) + 1 + 1)))) (some g) := (grown_trans (grown_trans (grown_trans (grown_trans hbel (grown_set _ _ _ _)) (grown_set _ _ _ _)) (grown_of_below hb1 _)) (grown_set _ _ _ _))
      clear hbel
      go_wp2
      go_roundw
      case rel => exact ⟨k + 1, by omega, by go_num, by go_num, P2, BG⟩
      case measure => simp [intOf]; omega
    · have hkn : k = n := by omega
      have R : ownsR wr B 110 (.slice (some ⟨g, 0, none⟩) n c) (marksEn x n) := by
        have h := HL.out
        have e := markedR_all mkEn 3 x l
        rw [← HN.out] at e
        rw [hkn, e] at h
        exact h
      subst hkn
      go_wp2
      go_ret
      exact ⟨rfl, R, hbel⟩
theorem markEntryS_any {w : World} {B : Nat} {x : Int} {v : Value} {l : List En} (ho : ownsR w B 110 v l) (hn : l.length ≤ 1048577) (hx0 : 0 < x) (hx : x ≤ 100000000) :
    Calls Tryz.prog 56 #[v, .int .i64 x] w fun e w' => e = .returned (.int .i64 (x + 3 * (l.length : Int))) ∧ ownsR w' B 110 v (marksEn x l.length) ∧ w.grownBy w' v.ownBlock := by
  have ho2 := ho
  rcases ho.2 with ⟨rfl, h0⟩ | ⟨g, cap, cur, rfl, _⟩
  · have hl : l = [] := List.eq_nil_of_length_eq_zero h0
    subst hl
    exact (markEntryS_none none 0 x w).mono fun e w' ⟨he, h⟩ => ⟨by simpa using he, ownsR_nil _ _ _, grown_of_below h _⟩
  · exact markEntryS_some g l.length cap B x l w ho2 hn hx0 hx

end Go.Proofs.YtgpojfkdcdgloaaGreatDoor

namespace Go.Proofs.YtgpojfkdcdgloaaGreatDoor
open Go Go.RowKit

theorem marksEn_at {x : Int} {n j : Nat} (h : j < n) : (marksEn x n)[j]? = some (mkEn (x + 3 * (j : Int))) := marksR_at h
theorem marksEn_length (x : Int) (n : Nat) : (marksEn x n).length = n := marksR_length x n
set_option maxHeartbeats 2000000 in
theorem heldEntryS_any (ao : Option Addr) (n c : Nat) (x : Int) (w : World) (hr : Reads w (.slice ao n c) (marksEn x n)) (hn : n ≤ 1048577) (hx0 : 0 < x) (hx : x ≤ 100000000) :
    Calls Tryz.prog 57 #[.slice ao n c, .int .i64 x] w fun e w' => e = .returned (.int .i64 (x + 3 * (n : Int))) ∧ Below w.heap.size w w' := by
  have HR : Hid (Reads w (.slice ao n c) (marksEn x n)) := hr
  clear hr
  go_enter Tryz.func57, Tryz.ntmps57
  go_wp2
  go_loopw [1, 5] (fun q i wr => ∃ k : Nat, k ≤ n ∧ i = .int .i64 k ∧ q = .int .i64 (x + 3 * (k : Int)) ∧ Below w.heap.size w wr) (fun _ i _ => n - (intOf i).toNat)
  case atStart => exact ⟨0, Nat.zero_le _, rfl, by simp, Below.refl _ _⟩
  case round =>
    obtain ⟨k, hk, rfl, rfl, hbel⟩ := hrel
    have hsz := hbel.size
    by_cases hlt : k < n
    · obtain ⟨b, o, rfl, hb, c0, c1, c2⟩ := en_at (HR.out.below hbel) (marksEn_at (x := x) hlt)
      replace c0 : wr.cell? ⟨b, o + k * 3, none⟩ = some (.int .i64 (x + 3 * (k : Int))) := c0
      replace c1 : wr.cell? ⟨b, o + k * 3 + 1, none⟩ = some (.int .i64 (x + 3 * (k : Int) + 1)) := c1
      replace c2 : wr.cell? ⟨b, o + k * 3 + 2, none⟩ = some (.string (mkT (x + 3 * (k : Int) + 1 + 1))) := c2
      have q0 := Wd.cell c2
      go_wp2
      refine wp_region_wd (by kernel_rfl) (by kernel_rfl) ?_
      repeat (go_big_quiet_step ((go_at_call 32; refine calls_wd (v := .string (mkT (x + 3 * (k : Int) + 1 + 1))) ?_; exact markText_int (x + 3 * (k : Int) + 1 + 1) _ (by omega) (by omega))))
      refine wpQuiet_nil ?_
      rintro _ ⟨x1, rfl⟩
      go_wp2
      go_roundw
      case rel => exact ⟨k + 1, by omega, by go_num, by go_num, hbel.trans (x1.ok.mono hsz)⟩
      case measure => simp [intOf]; omega
    · have hkn : k = n := by omega
      subst hkn
      go_wp2
      go_ret
      exact ⟨rfl, hbel⟩

theorem ret_log {fn : Func} {p : Tmp} {w : World} {g : Nat} {a b c : Value} {tmps : Array Value} (h : fn.results = #[.cell p 28]) (hp : tmps.getD p undef = .pointer (some ⟨g, 0, none⟩)) (h0 : w.cell? ⟨g, 0, none⟩ = some a) (h1 : w.cell? ⟨g, 1, none⟩ = some b) (h2 : w.cell? ⟨g, 2, none⟩ = some c) :
    (results fn tmps).run Tryz.prog w = .ok (.agg #[a, b, c]) w := by
  have hp' : tmps[p]?.getD undef = .pointer (some ⟨g, 0, none⟩) := by simpa using hp
  simp [results, h, hp', h0, h1, h2, asAddr, go_sem]
theorem ret_log2 {fn : Func} {p u : Tmp} {w : World} {g : Nat} {a b c x : Value} {tmps : Array Value} (h : fn.results = #[.cell p 28, .tmp u]) (hp : tmps.getD p undef = .pointer (some ⟨g, 0, none⟩)) (hu : tmps.getD u undef = x) (h0 : w.cell? ⟨g, 0, none⟩ = some a) (h1 : w.cell? ⟨g, 1, none⟩ = some b) (h2 : w.cell? ⟨g, 2, none⟩ = some c) :
    (results fn tmps).run Tryz.prog w = .ok (.tuple #[.agg #[a, b, c], x]) w := by
  have hp' : tmps[p]?.getD undef = .pointer (some ⟨g, 0, none⟩) := by simpa using hp
  have hu' : tmps[u]?.getD undef = x := by simpa using hu
  simp [results, h, hp', hu', h0, h1, h2, asAddr, go_sem]
set_option maxHeartbeats 1000000 in
theorem eqLog_any (s t : Int) (va vb : Value) (l : List En) (w : World) (ha : Reads w va l) (hb : Reads w vb l) (hn : l.length ≤ 1048577) :
    Calls Tryz.prog 27 #[.agg #[.int .i64 s, .int .i64 t, va], .agg #[.int .i64 s, .int .i64 t, vb]] w fun e w' => e = .returned (.bool true) ∧ Below w.heap.size w w' := by
  obtain ⟨ao, c, rfl, _⟩ := id ha
  obtain ⟨bo, d, rfl, _⟩ := id hb
  have HA : Hid (Reads w (.slice ao l.length c) l) := ha
  have HB : Hid (Reads w (.slice bo l.length d) l) := hb
  clear ha hb
  go_enter Tryz.func27, Tryz.ntmps27
  go_wp2_with (go_at_call 54; refine (eqEntryS_any ao bo l.length c d l _ ((HA.out.alloc _).alloc _) ((HB.out.alloc _).alloc _) hn).mono ?_; rintro e w2 ⟨rfl, hb2⟩)
  go_ret
  exact ⟨rfl, (ba (ba (Below.refl _ _) _) _).trans (hb2.mono (by simp; omega))⟩

set_option maxHeartbeats 1000000 in
theorem markLog_any {w : World} {B : Nat} {s t x : Int} {v : Value} {l : List En} (ho : ownsR w B 110 v l) (hn : l.length ≤ 1048577) (hx0 : 0 < x) (hx : x ≤ 100000000) :
    Calls Tryz.prog 31 #[.agg #[.int .i64 s, .int .i64 t, v], .int .i64 x] w fun e w' => e = .returned (.int .i64 (x + 3 * (l.length : Int))) ∧ ownsR w' B 110 v (marksEn x l.length) ∧ w.grownBy w' v.ownBlock := by
  obtain ⟨ao, c, rfl⟩ := ho.slice
  have HO : Hid (ownsR w B 110 (.slice ao l.length c) l) := ho
  clear ho
  go_enter Tryz.func31, Tryz.ntmps31
  go_wp2_with (go_at_call 56; refine (markEntryS_any (HO.out.alloc _) hn hx0 hx).mono ?_; rintro e w2 ⟨rfl, ho2, hb2⟩)
  go_ret
  exact ⟨rfl, ho2, grown_trans (World.grownBy_alloc w _ _) hb2⟩

set_option maxHeartbeats 1000000 in
theorem heldLog_any {w : World} {s t x : Int} {n : Nat} {v : Value} (hr : Reads w v (marksEn x n)) (hn : n ≤ 1048577) (hx0 : 0 < x) (hx : x ≤ 100000000) :
    Calls Tryz.prog 33 #[.agg #[.int .i64 s, .int .i64 t, v], .int .i64 x] w fun e w' => e = .returned (.int .i64 (x + 3 * (n : Int))) ∧ Below w.heap.size w w' := by
  obtain ⟨ao, c, rfl, _⟩ := id hr
  rw [marksEn_length] at hr ⊢
  have HR : Hid (Reads w (.slice ao n c) (marksEn x n)) := hr
  clear hr
  go_enter Tryz.func33, Tryz.ntmps33
  go_wp2_with (go_at_call 57; refine (heldEntryS_any ao n c x _ (HR.out.alloc _) hn hx0 hx).mono ?_; rintro e w2 ⟨rfl, hb2⟩)
  go_ret
  exact ⟨rfl, below_new hb2⟩
end Go.Proofs.YtgpojfkdcdgloaaGreatDoor

namespace Go.Proofs.YtgpojfkdcdgloaaGreatDoor
open Go Go.RowKit Go.ChangeShapes Go.WideShapes

theorem len1 {α : Type} {l : List α} (h : l.length = 1) : ∃ a, l = [a] := by
  match l, h with
  | [a], _ => exact ⟨a, rfl⟩
theorem len3 {α : Type} {l : List α} (h : l.length = 3) : ∃ a b c, l = [a, b, c] := by
  match l, h with
  | [a, b, c], _ => exact ⟨a, b, c, rfl⟩
theorem len4 {α : Type} {l : List α} (h : l.length = 4) : ∃ a b c d, l = [a, b, c, d] := by
  match l, h with
  | [a, b, c, d], _ => exact ⟨a, b, c, d, rfl⟩
theorem arr1 {α : Type} {l : Array α} (h : l.toList.length = 1) : ∃ a, l = #[a] := by
  obtain ⟨l⟩ := l
  obtain ⟨a, rfl⟩ := len1 h
  exact ⟨a, rfl⟩
theorem arr4 {α : Type} {l : Array α} (h : l.toList.length = 4) : ∃ a b c d, l = #[a, b, c, d] := by
  obtain ⟨l⟩ := l
  obtain ⟨a, b, c, d, rfl⟩ := len4 h
  exact ⟨a, b, c, d, rfl⟩

section
variable {α : Type} [Rec α] [Inhabited α] {H : Type} {enc : TypeId × Value → H} {P : Program} {w : World} {held : Bool}

/-- A slice of records that came in: the records that it reads as. -/
theorem open_rows {t e : TypeId} {fuel : Nat} {a : Option Addr} {len cap : Nat} {x : DataW H × List MemPlace} (G : α → Prop) (ht : P.underlying t = some (.slice e)) (hc : P.cellsOf e = Rec.width α)
    (each : ∀ n cs y, DataW.trod enc P w 0 (fun _ => true) held n e cs = some y → ∃ r : α, cs = Rec.cells r ∧ G r)
    (h : DataW.trod enc P w 0 (fun _ => true) held fuel t [.slice a len cap] = some x) : ∃ l : List α, Reads w (.slice a len cap) l ∧ (∀ r ∈ l, G r) ∧ len ≤ maxLen := by
  rcases Deep.open_slice ht h with ⟨hcs, _⟩ | ⟨b, len', cap', m, n, D, Pl, hcs, _, hl, hm, hmm, _, hx⟩
  · simp only [List.cons.injEq, Value.slice.injEq, and_true] at hcs
    obtain ⟨rfl, rfl, rfl⟩ := hcs
    exact ⟨[], reads_none w none 0, fun r hr => by simp at hr, Nat.zero_le _⟩
  · simp only [List.cons.injEq, Value.slice.injEq, and_true] at hcs
    obtain ⟨rfl, rfl, rfl⟩ := hcs
    simp only [if_true] at hmm
    subst hmm
    have hex : ∀ i, i < len → ∃ r : α, G r ∧ ∀ j u, (Rec.cells r)[j]? = some u → w.cell? (b.add (i * Rec.width α + j)) = some u := by
      intro i hi
      obtain ⟨cs', h1, h2⟩ := hx i (by omega)
      obtain ⟨r, rfl, hG⟩ := each _ _ _ h2
      rw [hc] at h1
      obtain ⟨_, hlen, hcell⟩ := World.cells?_some h1
      refine ⟨r, hG, fun j u hu => ?_⟩
      have hj := (List.getElem?_eq_some_iff.1 hu).1
      have := hcell j (by rw [← Rec.len r]; exact hj)
      rw [Deep.add_add] at this
      rw [this, hu]
    obtain ⟨f, hf⟩ := Deep.choose_lt hex
    refine ⟨(List.range len).map f, ⟨some b, _, by simp; rfl, fun hne => ?_⟩, ?_, by omega⟩
    · have hpos : 0 < len := by
        rcases Nat.eq_zero_or_pos len with h0 | h0
        · subst h0; simp at hne
        · exact h0
      have hw : 0 < Rec.width α := Rec.pos
      obtain ⟨u, hu⟩ : ∃ u, (Rec.cells (f 0))[0]? = some u := ⟨_, List.getElem?_eq_getElem (by rw [Rec.len]; exact hw)⟩
      have h0 := (hf 0 hpos).2 0 u hu
      obtain ⟨bb, oo, sp⟩ := b
      have hsp : sp = none := by
        simp only [Nat.zero_mul, Nat.add_zero, Addr.add, if_true, World.cell?] at h0
        cases sp with
        | none => rfl
        | some s => split at h0 <;> simp at h0
      subst hsp
      have hlt : bb < w.heap.size := by
        have := World.block_lt_of_cell? w _ h0
        simpa [Addr.add] using this
      refine ⟨bb, oo, rfl, hlt, fun i r hr j u hu => ?_⟩
      rw [List.getElem?_map] at hr
      by_cases hi : i < len
      · rw [List.getElem?_range hi] at hr
        simp only [Option.map_some, Option.some.injEq] at hr
        subst hr
        have := (hf i hi).2 j u hu
        have hadd : (⟨bb, oo, none⟩ : Addr).add (i * Rec.width α + j) = ⟨bb, oo + (i * Rec.width α + j), none⟩ := by unfold Addr.add; split <;> simp_all
        rw [hadd, ← Nat.add_assoc] at this
        exact this
      · rw [List.getElem?_eq_none (by simp; omega)] at hr
        simp at hr
    · intro r hr
      obtain ⟨i, hi, rfl⟩ := List.mem_map.1 hr
      exact (hf i (List.mem_range.1 hi)).1
end
end Go.Proofs.YtgpojfkdcdgloaaGreatDoor

namespace Go.Proofs.YtgpojfkdcdgloaaGreatDoor
open Go Go.RowKit

theorem okE_low {t k : Int} {d : ByteArray} (h : ¬ 0 ≤ t) : okE t k d = false := by simp [okE, h]
theorem okE_high {t k : Int} {d : ByteArray} (h : ¬ t ≤ 100000) : okE t k d = false := by simp [okE, h]
theorem okE_in {t k : Int} {d : ByteArray} (h : 0 ≤ t) (h2 : t ≤ 100000) : okE t k d = kindOk k d := by simp [okE, h, h2]

set_option maxHeartbeats 1000000 in
theorem entryOk_any (t k : Int) (d : ByteArray) (w : World) (hd : d.size ≤ maxLen) :
    Calls Tryz.prog 128 #[.agg #[.int .i64 t, .int .i64 k, .string d]] w fun e w' => e = .returned (.bool (okE t k d)) ∧ Below w.heap.size w w' := by
  have HD : Hid (d.size ≤ maxLen) := hd
  clear hd
  by_cases h0 : 0 ≤ t
  · by_cases h1 : t ≤ 100000
    · rw [okE_in h0 h1]
      obtain ⟨q, HQ⟩ : ∃ q, Hid (kindOk k d = q) := ⟨_, rfl⟩
      obtain ⟨v, HV⟩ : ∃ v, Hid (contV k d = v) := ⟨_, rfl⟩
      have H1 : Hid (∀ w, Calls Tryz.prog 129 #[.agg #[.int .i64 t, .int .i64 k, .string d]] w fun e w' => e = .returned v ∧ Below w.heap.size w w') := by
        intro w; rw [← HV.out]; exact contentOf_any t k d w
      have H2 : Hid (∀ w, Calls Tryz.prog 135 #[v] w fun e w' => e = .returned (.bool q) ∧ Below w.heap.size w w') := by
        intro w; rw [← HV.out, ← HQ.out]; exact isRight_any k d w HD.out
      rw [HQ.out]
      go_enter Tryz.func128, Tryz.ntmps128
      go_wp2_with (first | (go_at_call 129; refine (H1.out _).mono ?_; rintro e w1 ⟨rfl, hb1⟩) | (go_at_call 135; refine (H2.out _).mono ?_; rintro e w2 ⟨rfl, hb2⟩))
      go_ret
      exact ⟨rfl, Below.on (below_new hb1) hb2⟩
    · rw [okE_high h1]
      go_enter Tryz.func128, Tryz.ntmps128
      go_wp2
      go_ret
      exact ⟨rfl, ba (Below.refl _ _) _⟩
  · rw [okE_low h0]
    go_enter Tryz.func128, Tryz.ntmps128
    go_wp2
    go_ret
    exact ⟨rfl, ba (Below.refl _ _) _⟩

theorem okE_out {t k : Int} {d : ByteArray} (h : (decide (0 ≤ t) && decide (t ≤ 100000)) = false) : okE t k d = false := by simp [okE, h]
theorem okE_in' {t k : Int} {d : ByteArray} (h : (decide (0 ≤ t) && decide (t ≤ 100000)) = true) : okE t k d = kindOk k d := by simp [okE, h]

set_option maxHeartbeats 1000000 in
theorem specEntryOk_any (t k : Int) (d : ByteArray) (w : World) (hd : d.size ≤ maxLen) :
    Calls Tryz.prog 63 #[.agg #[.int .i64 t, .int .i64 k, .string d]] w fun e w' => e = .returned (.bool (okE t k d)) ∧ Below w.heap.size w w' := by
  have HD : Hid (d.size ≤ maxLen) := hd
  unfold maxLen at hd
  cases hv : (decide (0 ≤ t) && decide (t ≤ 100000)) with
  | false =>
    rw [okE_out hv]
    go_enter Tryz.func63, Tryz.ntmps63
    go_wp2_with (go_at_call 36; refine (in_any _ _ _ _).mono ?_; rintro e w' ⟨rfl, hw⟩; have hw2 := hw.symm; subst hw2; rw [hv])
    go_ret
    exact ⟨rfl, ba (Below.refl _ _) _⟩
  | true =>
    rw [okE_in' hv]
    by_cases h1 : k = 1
    · subst h1
      show Calls Tryz.prog 63 _ w fun e w' => e = .returned (.bool d.toList.isEmpty) ∧ Below w.heap.size w w'
      go_enter Tryz.func63, Tryz.ntmps63
      go_wp2_with (go_at_call 36; refine (in_any _ _ _ _).mono ?_; rintro e w' ⟨rfl, hw⟩; have hw2 := hw.symm; subst hw2; rw [hv])
      go_ret
      exact ⟨rfl, ba (Below.refl _ _) _⟩
    · by_cases h2 : k = 2
      · subst h2
        show Calls Tryz.prog 63 _ w fun e w' => e = .returned (.bool (okT d)) ∧ Below w.heap.size w w'
        go_enter Tryz.func63, Tryz.ntmps63
        go_wp2_with (first | (go_at_call 36; refine (in_any _ _ _ _).mono ?_; rintro e w' ⟨rfl, hw⟩; have hw2 := hw.symm; subst hw2; rw [hv]) | (go_at_call 81; refine (specReadConf_any _ _ HD.out).mono ?_; rintro e w1 ⟨v1, rfl, ho, hb⟩; clear ho))
        go_ret
        exact ⟨rfl, below_new hb⟩
      · by_cases h3 : k = 3
        · subst h3
          show Calls Tryz.prog 63 _ w fun e w' => e = .returned (.bool (decide ((d.size : Int) ≤ 640))) ∧ Below w.heap.size w w'
          go_enter Tryz.func63, Tryz.ntmps63
          go_wp2_with (go_at_call 36; refine (in_any _ _ _ _).mono ?_; rintro e w' ⟨rfl, hw⟩; have hw2 := hw.symm; subst hw2; rw [hv])
          go_ret
          exact ⟨rfl, ba (Below.refl _ _) _⟩
        · have HK : Hid (kindOk k d = false) := by show kindOk k d = _; simp [kindOk, h1, h2, h3]
          rw [HK.out]
          go_enter Tryz.func63, Tryz.ntmps63
          go_wp2_with (go_at_call 36; refine (in_any _ _ _ _).mono ?_; rintro e w' ⟨rfl, hw⟩; have hw2 := hw.symm; subst hw2; rw [hv])
          go_ret
          exact ⟨rfl, ba (Below.refl _ _) _⟩

end Go.Proofs.YtgpojfkdcdgloaaGreatDoor

namespace Go.Proofs.YtgpojfkdcdgloaaGreatDoor
open Go Go.RowKit

def rises : Int → List En → Bool
  | _, [] => true
  | a, e :: r => okE e.term e.kind e.data && decide (a ≤ e.term) && rises e.term r
/-- A log is right. -/
def okL (s t : Int) (l : List En) : Bool := decide (0 ≤ s) && decide (s ≤ 1000000) && decide (0 ≤ t) && decide (t ≤ 100000) && decide (l.length ≤ 60) && decide (s + l.length ≤ 1000000) && rises t l
def SizedE (l : List En) : Prop := ∀ f ∈ l, f.data.size ≤ 1048576
theorem rises_at {l : List En} {k : Nat} {a : Int} {x : En} (h : l[k]? = some x) : rises a (l.drop k) = (okE x.term x.kind x.data && decide (a ≤ x.term) && rises x.term (l.drop (k + 1))) := by
  have hk : k < l.length := (List.getElem?_eq_some_iff.1 h).1
  have e : l[k] = x := by rw [List.getElem?_eq_getElem hk] at h; exact Option.some.inj h
  rw [List.drop_eq_getElem_cons hk, e]
  rfl
theorem rises_end {l : List En} {k : Nat} {a : Int} (h : k = l.length) : rises a (l.drop k) = true := by
  subst h; simp [rises]
theorem okL_0 {s t : Int} {l : List En} (h : ¬ 0 ≤ s) : okL s t l = false := by simp [okL, h]
theorem okL_1 {s t : Int} {l : List En} (h : ¬ s ≤ 1000000) : okL s t l = false := by simp [okL, h]
theorem okL_2 {s t : Int} {l : List En} (h : ¬ 0 ≤ t) : okL s t l = false := by simp [okL, h]
theorem okL_3 {s t : Int} {l : List En} (h : ¬ t ≤ 100000) : okL s t l = false := by simp [okL, h]
theorem okL_4 {s t : Int} {l : List En} (h : ¬ l.length ≤ 60) : okL s t l = false := by simp [okL, h]
theorem okL_5 {s t : Int} {l : List En} (h : ¬ s + l.length ≤ 1000000) : okL s t l = false := by simp [okL, h]
theorem okL_in {s t : Int} {l : List En} (h0 : 0 ≤ s) (h1 : s ≤ 1000000) (h2 : 0 ≤ t) (h3 : t ≤ 100000) (h4 : l.length ≤ 60) (h5 : s + l.length ≤ 1000000) : okL s t l = rises t l := by simp [okL, h0, h1, h2, h3, h4, h5]
theorem okL_all {s t : Int} {l : List En} (h : okL s t l = true) : 0 ≤ s ∧ s ≤ 1000000 ∧ 0 ≤ t ∧ t ≤ 100000 ∧ l.length ≤ 60 ∧ s + l.length ≤ 1000000 ∧ rises t l = true := by
  simp only [okL, Bool.and_eq_true, decide_eq_true_eq] at h
  obtain ⟨⟨⟨⟨⟨⟨a, b⟩, c⟩, d⟩, e⟩, f⟩, g⟩ := h
  exact ⟨a, b, c, d, e, f, g⟩

set_option maxRecDepth 10000 in
set_option maxHeartbeats 4000000 in
theorem logOk_try (s t : Int) (ao : Option Addr) (n c : Nat) (l : List En) (w : World) (hr : Reads w (.slice ao n c) l) (hn : n ≤ 1048577) (hz : SizedE l) :
    Calls Tryz.prog 113 #[.agg #[.int .i64 s, .int .i64 t, .slice ao n c]] w fun e w' => e = .returned (.bool (okL s t l)) ∧ Below w.heap.size w w' := by
  have HN : Hid (n = l.length) := hr.len
  have HR : Hid (Reads w (.slice ao n c) l) := hr
  have HZ : Hid (SizedE l) := hz
  clear hr hz
  by_cases h0 : 0 ≤ s
  rotate_left
  · rw [okL_0 h0]
    go_enter Tryz.func113, Tryz.ntmps113
    go_wp2
    go_ret
    exact ⟨rfl, ba (Below.refl _ _) _⟩
  by_cases h1 : s ≤ 1000000
  rotate_left
  · rw [okL_1 h1]
    go_enter Tryz.func113, Tryz.ntmps113
    go_wp2
    go_ret
    exact ⟨rfl, ba (Below.refl _ _) _⟩
  by_cases h2 : 0 ≤ t
  rotate_left
  · rw [okL_2 h2]
    go_enter Tryz.func113, Tryz.ntmps113
    go_wp2
    go_ret
    exact ⟨rfl, ba (Below.refl _ _) _⟩
  by_cases h3 : t ≤ 100000
  rotate_left
  · rw [okL_3 h3]
    go_enter Tryz.func113, Tryz.ntmps113
    go_wp2
    go_ret
    exact ⟨rfl, ba (Below.refl _ _) _⟩
  by_cases h4 : n ≤ 60
  rotate_left
  · rw [okL_4 (by rw [← HN.out]; exact h4)]
    go_enter Tryz.func113, Tryz.ntmps113
    go_wp2
    go_ret
    exact ⟨rfl, ba (Below.refl _ _) _⟩
  by_cases h5 : s + n ≤ 1000000
  rotate_left
  · rw [okL_5 (by rw [← HN.out]; exact h5)]
    go_enter Tryz.func113, Tryz.ntmps113
    go_wp2
    go_ret
    exact ⟨rfl, ba (Below.refl _ _) _⟩
  rw [okL_in h0 h1 h2 h3 (by rw [← HN.out]; exact h4) (by rw [← HN.out]; exact h5)]
  obtain ⟨q, HQ⟩ : ∃ q, Hid (rises t l = q) := ⟨_, rfl⟩
  rw [HQ.out]
  go_enter Tryz.func113, Tryz.ntmps113
  go_wp2
  go_loopw [3, 42] (fun x i wr => ∃ (k : Nat) (a : Int), k ≤ n ∧ i = .int .i64 k ∧ x = .int .i64 a ∧ Hid (rises a (l.drop k) = q) ∧ Below w.heap.size w wr) (fun _ i _ => n - (intOf i).toNat)
  case atStart => exact ⟨0, t, Nat.zero_le _, rfl, rfl, by simpa using HQ, ba (Below.refl _ _) _⟩
  case round =>
    obtain ⟨k, a, hk, rfl, rfl, HE, hbel⟩ := hrel
    by_cases hlt : k < n
    · obtain ⟨f, hf⟩ : ∃ f, l[k]? = some f := ⟨_, List.getElem?_eq_getElem (by rw [← HN.out]; exact hlt)⟩
      have HF : Hid (l[k]? = some f) := hf
      have HM : Hid (f.data.size ≤ maxLen) := by have := HZ.out f (List.mem_of_getElem? hf); show _ ≤ maxLen; unfold maxLen; omega
      obtain ⟨b, o, rfl, hb, c0, c1, c2⟩ := en_at (HR.out.below hbel) hf
      have HS : Hid (q = (okE f.term f.kind f.data && decide (a ≤ f.term) && rises f.term (l.drop (k + 1)))) := by
        show q = _
        rw [← HE.out]; exact rises_at hf
      clear hf
      cases hq : okE f.term f.kind f.data with
      | false =>
        have e0 : Hid (q = false) := by show q = false; rw [HS.out, hq]; rfl
        go_wp2_with (go_at_call 128; refine (entryOk_any _ _ _ _ HM.out).mono ?_; rintro e w2 ⟨rfl, hb2⟩; rw [hq])
        go_ret
        exact ⟨by rw [e0.out]; rfl, Below.on hbel (below_new hb2)⟩
      | true =>
        by_cases ha : a ≤ f.term
        · have e1 : Hid (rises f.term (l.drop (k + 1)) = q) := by
            show _ = q
            rw [HS.out, hq, decide_eq_true ha]; rfl
          go_wp2_with (go_at_call 128; refine (entryOk_any _ _ _ _ HM.out).mono ?_; rintro e w2 ⟨rfl, hb2⟩; rw [hq]; have c5 : w2.cell? ⟨wr.heap.size, 0, none⟩ = some (.int .i64 f.term) := (hb2.cell (by simp)).trans (by simp [go_sem]))
          go_roundw
          case rel => exact ⟨k + 1, f.term, by omega, by go_num, rfl, e1, Below.on hbel (below_new hb2)⟩
          case measure => simp [intOf]; omega
        · have e0 : Hid (q = false) := by show q = false; rw [HS.out, hq, decide_eq_false ha]; rfl
          go_wp2_with (go_at_call 128; refine (entryOk_any _ _ _ _ HM.out).mono ?_; rintro e w2 ⟨rfl, hb2⟩; rw [hq]; have c5 : w2.cell? ⟨wr.heap.size, 0, none⟩ = some (.int .i64 f.term) := (hb2.cell (by simp)).trans (by simp [go_sem]))
          go_ret
          exact ⟨by rw [e0.out]; rfl, Below.on hbel (below_new hb2)⟩
    · have hkn : k = n := by omega
      subst hkn
      have e1 : Hid (q = true) := by show q = true; rw [← HE.out]; exact rises_end HN.out
      go_wp2
      go_ret
      exact ⟨by rw [e1.out]; rfl, hbel⟩

theorem okL_s {s t : Int} {l : List En} (h : (decide (0 ≤ s) && decide (s ≤ 1000000)) = false) : okL s t l = false := by simp [okL, h]
theorem okL_t {s t : Int} {l : List En} (h : (decide (0 ≤ t) && decide (t ≤ 100000)) = false) : okL s t l = false := by
  unfold okL
  cases decide (0 ≤ s) <;> cases decide (s ≤ 1000000) <;> simp only [Bool.false_and, Bool.true_and, h]

set_option maxRecDepth 10000 in
set_option maxHeartbeats 4000000 in
theorem specLogOk_try (s t : Int) (ao : Option Addr) (n c : Nat) (l : List En) (w : World) (hr : Reads w (.slice ao n c) l) (hn : n ≤ 1048577) (hz : SizedE l) :
    Calls Tryz.prog 41 #[.agg #[.int .i64 s, .int .i64 t, .slice ao n c]] w fun e w' => e = .returned (.bool (okL s t l)) ∧ Below w.heap.size w w' := by
  have HN : Hid (n = l.length) := hr.len
  have HR : Hid (Reads w (.slice ao n c) l) := hr
  have HZ : Hid (SizedE l) := hz
  clear hr hz
  cases hs : (decide (0 ≤ s) && decide (s ≤ 1000000)) with
  | false =>
    rw [okL_s hs]
    go_enter Tryz.func41, Tryz.ntmps41
    go_wp2_with (go_at_call 36; refine (in_any _ _ _ _).mono ?_; rintro e w' ⟨rfl, hw⟩; have hw2 := hw.symm; subst hw2; rw [hs])
    go_ret
    exact ⟨rfl, ba (Below.refl _ _) _⟩
  | true =>
  have h0 : 0 ≤ s ∧ s ≤ 1000000 := by simpa using hs
  cases ht : (decide (0 ≤ t) && decide (t ≤ 100000)) with
  | false =>
    rw [okL_t ht]
    go_enter Tryz.func41, Tryz.ntmps41
    go_wp2_with (go_at_call 36; refine (in_any _ _ _ _).mono ?_; rintro e w' ⟨rfl, hw⟩; have hw2 := hw.symm; subst hw2; first | rw [hs] | rw [ht])
    go_ret
    exact ⟨rfl, ba (Below.refl _ _) _⟩
  | true =>
  have h2 : 0 ≤ t ∧ t ≤ 100000 := by simpa using ht
  by_cases h4 : n ≤ 60
  rotate_left
  · rw [okL_4 (by rw [← HN.out]; exact h4)]
    go_enter Tryz.func41, Tryz.ntmps41
    go_wp2_with (go_at_call 36; refine (in_any _ _ _ _).mono ?_; rintro e w' ⟨rfl, hw⟩; have hw2 := hw.symm; subst hw2; first | rw [hs] | rw [ht])
    go_ret
    exact ⟨rfl, ba (Below.refl _ _) _⟩
  by_cases h5 : s + n ≤ 1000000
  rotate_left
  · rw [okL_5 (by rw [← HN.out]; exact h5)]
    go_enter Tryz.func41, Tryz.ntmps41
    go_wp2_with (go_at_call 36; refine (in_any _ _ _ _).mono ?_; rintro e w' ⟨rfl, hw⟩; have hw2 := hw.symm; subst hw2; first | rw [hs] | rw [ht])
    go_ret
    exact ⟨rfl, ba (Below.refl _ _) _⟩
  rw [okL_in h0.1 h0.2 h2.1 h2.2 (by rw [← HN.out]; exact h4) (by rw [← HN.out]; exact h5)]
  obtain ⟨q, HQ⟩ : ∃ q, Hid (rises t l = q) := ⟨_, rfl⟩
  rw [HQ.out]
  go_enter Tryz.func41, Tryz.ntmps41
  go_wp2_with (go_at_call 36; refine (in_any _ _ _ _).mono ?_; rintro e w' ⟨rfl, hw⟩; have hw2 := hw.symm; subst hw2; first | rw [hs] | rw [ht])
  clear hs ht
  go_loopw [3, 4] (fun x i wr => ∃ (k : Nat) (a : Int), k ≤ n ∧ i = .int .i64 k ∧ x = .int .i64 a ∧ Hid (rises a (l.drop k) = q) ∧ Below (w.heap.size + 1) (w.alloc (.cells #[.int .i64 s, .int .i64 t, .slice ao n c] 28)) wr) (fun _ i _ => n - (intOf i).toNat)
  case atStart => exact ⟨0, t, Nat.zero_le _, rfl, rfl, by simpa using HQ, Below.refl _ _⟩
  case round =>
    obtain ⟨k, a, hk, rfl, rfl, HE, hbw⟩ := hrel
    have hbel : Below w.heap.size w wr := (ba (Below.refl _ _) _).trans (hbw.mono (by omega))
    have d2 : wr.cell? ⟨w.heap.size, 2, none⟩ = some (.slice ao n c) := (hbw.cell (by simp)).trans (by simp [go_sem])
    by_cases hlt : k < n
    · obtain ⟨f, hf⟩ : ∃ f, l[k]? = some f := ⟨_, List.getElem?_eq_getElem (by rw [← HN.out]; exact hlt)⟩
      have HF : Hid (l[k]? = some f) := hf
      have HM : Hid (f.data.size ≤ maxLen) := by have := HZ.out f (List.mem_of_getElem? hf); show _ ≤ maxLen; unfold maxLen; omega
      obtain ⟨b, o, rfl, hb, c0, c1, c2⟩ := en_at (HR.out.below hbel) hf
      have HS : Hid (q = (okE f.term f.kind f.data && decide (a ≤ f.term) && rises f.term (l.drop (k + 1)))) := by
        show q = _
        rw [← HE.out]; exact rises_at hf
      clear hf
      cases hq : okE f.term f.kind f.data with
      | false =>
        have e0 : Hid (q = false) := by show q = false; rw [HS.out, hq]; rfl
        go_wp2_with (go_at_call 63; refine (specEntryOk_any _ _ _ _ HM.out).mono ?_; rintro e w2 ⟨rfl, hb2⟩; rw [hq])
        go_ret
        exact ⟨by rw [e0.out]; rfl, Below.on hbel hb2⟩
      | true =>
        by_cases ha : a ≤ f.term
        · have e1 : Hid (rises f.term (l.drop (k + 1)) = q) := by
            show _ = q
            rw [HS.out, hq, decide_eq_true ha]; rfl
          go_wp2_with (go_at_call 63; refine (specEntryOk_any _ _ _ _ HM.out).mono ?_; rintro e w2 ⟨rfl, hb2⟩; rw [hq]; have c5 := cell_up hb2 c0; have d5 := cell_up hb2 d2)
          go_roundw
          case rel => exact ⟨k + 1, f.term, by omega, by go_num, rfl, e1, hbw.trans (hb2.mono (by have := hbw.size; simpa using this))⟩
          case measure => simp [intOf]; omega
        · have e0 : Hid (q = false) := by show q = false; rw [HS.out, hq, decide_eq_false ha]; rfl
          go_wp2_with (go_at_call 63; refine (specEntryOk_any _ _ _ _ HM.out).mono ?_; rintro e w2 ⟨rfl, hb2⟩; rw [hq]; have c5 := cell_up hb2 c0; have d5 := cell_up hb2 d2)
          go_ret
          exact ⟨by rw [e0.out]; rfl, Below.on hbel hb2⟩
    · have hkn : k = n := by omega
      subst hkn
      have e1 : Hid (q = true) := by show q = true; rw [← HE.out]; exact rises_end HN.out
      go_wp2
      go_ret
      exact ⟨by rw [e1.out]; rfl, hbel⟩

theorem logOk_any {s t : Int} {w : World} {v : Value} {l : List En} (hr : Reads w v l) (hn : l.length ≤ 1048577) (hz : SizedE l) :
    Calls Tryz.prog 113 #[.agg #[.int .i64 s, .int .i64 t, v]] w fun e w' => e = .returned (.bool (okL s t l)) ∧ Below w.heap.size w w' := by
  obtain ⟨ao, c, rfl, _⟩ := id hr
  exact logOk_try s t ao _ c l w hr hn hz
theorem specLogOk_any {s t : Int} {w : World} {v : Value} {l : List En} (hr : Reads w v l) (hn : l.length ≤ 1048577) (hz : SizedE l) :
    Calls Tryz.prog 41 #[.agg #[.int .i64 s, .int .i64 t, v]] w fun e w' => e = .returned (.bool (okL s t l)) ∧ Below w.heap.size w w' := by
  obtain ⟨ao, c, rfl, _⟩ := id hr
  exact specLogOk_try s t ao _ c l w hr hn hz
end Go.Proofs.YtgpojfkdcdgloaaGreatDoor
