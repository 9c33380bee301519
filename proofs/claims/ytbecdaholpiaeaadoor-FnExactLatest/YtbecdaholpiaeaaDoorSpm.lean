/-
  Rows of records of one kind (Span): sizes, copies, held against each other, marked: the walks of the law's helpers.
-/
import Derived.Test.YtbecdaholpiaeaaDoorSps
import Derived.Test.YtbecdaholpiaeaaDoorMt
namespace Go.Proofs.YtbecdaholpiaeaaDoor
open Go Go.RowKit

theorem sp_width : Rec.width Sp = 2 := rfl
theorem underSp : Tryd.prog.underlying 30 = some (.slice 34) := by kernel_rfl
theorem madeSp (n : Nat) : (madeCells (Value.cells (.agg #[.int .i64 0, .int .i64 0])) (n * 2)).toList = (List.replicate n (default : Sp)).flatMap Rec.cells := by
  apply List.ext_getElem?
  intro m
  have hm := Nat.div_add_mod m 2
  have h3 : m % 2 < 2 := Nat.mod_lt _ (by decide)
  have e := flat_at (List.replicate n (default : Sp)) (m / 2) (m % 2) h3
  rw [sp_width, show m / 2 * 2 + m % 2 = m by omega] at e
  rw [e]
  simp only [madeCells, Value.cells, Array.toList_map, Array.toList_range, List.getElem?_map, List.getElem?_replicate]
  by_cases hlt : m / 2 < n
  · rw [if_pos hlt, List.getElem?_range (by omega)]
    match hx : m % 2, h3 with
    | 0, _ => simp [hx]; rfl
    | 1, _ => simp [hx]; rfl
  · rw [if_neg hlt, List.getElem?_eq_none (by simp; omega)]
    rfl

theorem sp_put {w : World} {B : Nat} {g n cap : Nat} {l : List Sp} (h : ownsR w B 34 (.slice (some ⟨g, 0, none⟩) n cap) l) {i : Nat} {y : Sp} (f : Sp) (hi : l[i]? = some y) :
    ownsR ((w.setCell ⟨g, i * 2, none⟩ (.int .i64 f.fr)).setCell ⟨g, i * 2 + 1, none⟩ (.int .i64 f.up)) B 34 (.slice (some ⟨g, 0, none⟩) n cap) (l.set i f) := by
  have hil : i < l.length := (List.getElem?_eq_some_iff.1 hi).1
  have h1 := h.put (j := 0) (u := .int .i64 f.fr) { y with fr := f.fr } hi (by decide) rfl
  have h2 := h1.put (i := i) (j := 1) (u := .int .i64 f.up) f (List.getElem?_set_self (by simpa using hil)) (by decide) rfl
  simpa only [sp_width, Nat.add_zero, List.set_set] using h2

set_option maxHeartbeats 400000 in
theorem eqSpan_any (fr : Int) (up : Int) (w : World) :
    Calls Tryd.prog 27 #[.agg #[.int .i64 fr, .int .i64 up], .agg #[.int .i64 fr, .int .i64 up]] w fun e w' => e = .returned (.bool true) ∧ Below w.heap.size w w' := by
  go_enter Tryd.func27, Tryd.ntmps27
  go_wp2
  go_ret
  exact ⟨rfl, ba (ba (Below.refl _ _) _) _⟩

set_option maxRecDepth 8000 in
set_option maxHeartbeats 2000000 in
theorem eqSpanS_any (ao bo : Option Addr) (n c d : Nat) (l : List Sp) (w : World) (ha : Reads w (.slice ao n c) l) (hb : Reads w (.slice bo n d) l) (hn : n ≤ 1048577) :
    Calls Tryd.prog 22 #[.slice ao n c, .slice bo n d] w fun e w' => e = .returned (.bool true) ∧ Below w.heap.size w w' := by
  have HN : Hid (n = l.length) := ha.len
  have HA : Hid (Reads w (.slice ao n c) l) := ha
  have HB : Hid (Reads w (.slice bo n d) l) := hb
  clear ha hb
  go_enter Tryd.func22, Tryd.ntmps22
  go_wp2
  go_loopw [5] (fun i wr => ∃ k : Nat, k ≤ n ∧ i = .int .i64 k ∧ Below w.heap.size w wr) (fun i _ => n - (intOf i).toNat)
  case atStart => exact ⟨0, Nat.zero_le _, rfl, Below.refl _ _⟩
  case round =>
    obtain ⟨k, hk, rfl, hbel⟩ := hrel
    by_cases hlt : k < n
    · obtain ⟨f, hf⟩ : ∃ f, l[k]? = some f := ⟨_, List.getElem?_eq_getElem (by rw [← HN.out]; exact hlt)⟩
      obtain ⟨a, oa, rfl, hga, a0, a1⟩ := sp_at (HA.out.below hbel) hf
      obtain ⟨b, ob, rfl, hgb, b0, b1⟩ := sp_at (HB.out.below hbel) hf
      clear hf
      go_wp2
      go_region_held (fun w' => w'.cell? ⟨a, oa + k * 2, none⟩ = some (.int .i64 f.fr) ∧ w'.cell? ⟨a, oa + k * 2 + 1, none⟩ = some (.int .i64 f.up) ∧ w'.cell? ⟨b, ob + k * 2, none⟩ = some (.int .i64 f.fr) ∧ w'.cell? ⟨b, ob + k * 2 + 1, none⟩ = some (.int .i64 f.up)) ((first | exact ⟨a0, a1, b0, b1⟩ | exact ⟨(hb2.cell hga).trans a0, (hb2.cell hga).trans a1, (hb2.cell hgb).trans b0, (hb2.cell hgb).trans b1⟩)) ((go_at_call 27; refine (eqSpan_any _ _ _).mono ?_; rintro e w2 ⟨rfl, hb2⟩))
      go_wp2
      go_roundw
      case rel => exact ⟨k + 1, by omega, by go_num, hbel.trans (((Below.refl _ _).drew.trans hb2).mono hbel.size)⟩
      case measure => simp [intOf]; omega
    · go_wp2
      go_ret
      exact ⟨rfl, hbel⟩

def mkSp (x : Int) : Sp := ⟨x, x + 1⟩
def marksSp (x : Int) (n : Nat) : List Sp := marksR mkSp 2 x n
theorem sp_own {w : World} {B : Nat} {g n cap : Nat} {l : List Sp} (h : ownsR w B 34 (.slice (some ⟨g, 0, none⟩) n cap) l) {i : Nat} {x : Sp} (hi : l[i]? = some x) :
    g < w.heap.size ∧ (w.cell? ⟨g, i * 2, none⟩ = some (.int .i64 x.fr) ∧ w.cell? ⟨g, i * 2 + 1, none⟩ = some (.int .i64 x.up)) ∧ w.frozen? ⟨g, i * 2, none⟩ = false ∧ w.frozen? ⟨g, i * 2 + 1, none⟩ = false := by
  obtain ⟨h1, _, _, h2⟩ := h.at hi
  exact ⟨h1, ⟨(h2 0 (by decide)).1, (h2 1 (by decide)).1⟩, (h2 0 (by decide)).2, (h2 1 (by decide)).2⟩

set_option maxHeartbeats 1000000 in
theorem markSpanS_none (ao : Option Addr) (c : Nat) (x : Int) (w : World) :
    Calls Tryd.prog 25 #[.slice ao 0 c, .int .i64 x] w fun e w' => e = .returned (.int .i64 x) ∧ Below w.heap.size w w' := by
  go_enter Tryd.func25, Tryd.ntmps25
  go_wp2
  refine wp_loop_rounds 1 ?_
  rw [rounds_succ]
  go_wp2
  go_ret
  exact ⟨rfl, Below.refl _ _⟩

set_option maxRecDepth 8000 in
set_option maxHeartbeats 4000000 in
theorem markSpanS_some (g n c B : Nat) (x : Int) (l : List Sp) (w : World) (ho : ownsR w B 34 (.slice (some ⟨g, 0, none⟩) n c) l) (hn : n ≤ 1048577) (hx0 : 0 < x) (hx : x ≤ 100000000) :
    Calls Tryd.prog 25 #[.slice (some ⟨g, 0, none⟩) n c, .int .i64 x] w fun e w' => e = .returned (.int .i64 (x + 2 * (n : Int))) ∧ ownsR w' B 34 (.slice (some ⟨g, 0, none⟩) n c) (marksSp x n) ∧ w.grownBy w' (some g) := by
  have HN : Hid (n = l.length) := ho.reads.len
  have HO : Hid (ownsR w B 34 (.slice (some ⟨g, 0, none⟩) n c) l) := ho
  clear ho
  go_enter Tryd.func25, Tryd.ntmps25
  go_wp2
  go_loopw [1, 5] (fun q i wr => ∃ k : Nat, k ≤ n ∧ i = .int .i64 k ∧ q = .int .i64 (x + 2 * (k : Int)) ∧ Hid (ownsR wr B 34 (.slice (some ⟨g, 0, none⟩) n c) (markedR mkSp 2 x l k)) ∧ w.grownBy wr (some g)) (fun _ i _ => n - (intOf i).toNat)
  case atStart => exact ⟨0, Nat.zero_le _, rfl, by simp, markedR_zero HO, grown_refl _ _⟩
  case round =>
    obtain ⟨k, hk, rfl, rfl, HL, hbel⟩ := hrel
    by_cases hlt : k < n
    · obtain ⟨f, hf⟩ : ∃ f, l[k]? = some f := ⟨_, List.getElem?_eq_getElem (by rw [← HN.out]; exact hlt)⟩
      have HF : Hid (l[k]? = some f) := hf
      clear hf
      obtain ⟨hg0, ⟨d0_0, d0_1⟩, f0_0, f0_1⟩ := sp_own HL.out (markedR_at HF.out)
      have P0 : Hid (ownsR (wr.setCell ⟨g, k * 2, none⟩ (.int .i64 (x + 2 * (k : Int)))) B 34 (.slice (some ⟨g, 0, none⟩) n c) ((markedR mkSp 2 x l k).set k { f with fr := x + 2 * (k : Int) })) := by
        have := HL.out.put (j := 0) (u := .int .i64 (x + 2 * (k : Int))) { f with fr := x + 2 * (k : Int) } (markedR_at HF.out) (by decide) rfl
        exact this
      have at0 : ((markedR mkSp 2 x l k).set k { f with fr := x + 2 * (k : Int) })[k]? = some { f with fr := x + 2 * (k : Int) } := List.getElem?_set_self (by rw [markedR_length (by rw [← HN.out]; omega), ← HN.out]; exact hlt)
      have P1 : Hid (ownsR ((wr.setCell ⟨g, k * 2, none⟩ (.int .i64 (x + 2 * (k : Int)))).setCell ⟨g, k * 2 + 1, none⟩ (.int .i64 (x + 2 * (k : Int) + 1))) B 34 (.slice (some ⟨g, 0, none⟩) n c) (markedR mkSp 2 x l (k + 1))) := by
        have := P0.out.put (j := 1) (u := .int .i64 (x + 2 * (k : Int) + 1)) (mkSp (x + 2 * (k : Int))) at0 (by decide) rfl
        rw [List.set_set, markedR_set HF.out] at this
        exact this
      have BG : w.grownBy ((wr.setCell ⟨g, k * 2, none⟩ (.int .i64 (x + 2 * (k : Int)))).setCell ⟨g, k * 2 + 1, none⟩ (.int .i64 (x + 2 * (k : Int) + 1))) (some g) := (grown_trans (grown_trans hbel (grown_set _ _ _ _)) (grown_set _ _ _ _))
      clear hbel
      go_wp2
      go_roundw
      case rel => exact ⟨k + 1, by omega, by go_num, by go_num, P1, BG⟩
      case measure => simp [intOf]; omega
    · have hkn : k = n := by omega
      have R : ownsR wr B 34 (.slice (some ⟨g, 0, none⟩) n c) (marksSp x n) := by
        have h := HL.out
        have e := markedR_all mkSp 2 x l
        rw [← HN.out] at e
        rw [hkn, e] at h
        exact h
      subst hkn
      go_wp2
      go_ret
      exact ⟨rfl, R, hbel⟩
theorem markSpanS_any {w : World} {B : Nat} {x : Int} {v : Value} {l : List Sp} (ho : ownsR w B 34 v l) (hn : l.length ≤ 1048577) (hx0 : 0 < x) (hx : x ≤ 100000000) :
    Calls Tryd.prog 25 #[v, .int .i64 x] w fun e w' => e = .returned (.int .i64 (x + 2 * (l.length : Int))) ∧ ownsR w' B 34 v (marksSp x l.length) ∧ w.grownBy w' v.ownBlock := by
  have ho2 := ho
  rcases ho.2 with ⟨rfl, h0⟩ | ⟨g, cap, cur, rfl, _⟩
  · have hl : l = [] := List.eq_nil_of_length_eq_zero h0
    subst hl
    exact (markSpanS_none none 0 x w).mono fun e w' ⟨he, h⟩ => ⟨by simpa using he, ownsR_nil _ _ _, grown_of_below h _⟩
  · exact markSpanS_some g l.length cap B x l w ho2 hn hx0 hx

theorem marksSp_at {x : Int} {n j : Nat} (h : j < n) : (marksSp x n)[j]? = some (mkSp (x + 2 * (j : Int))) := marksR_at h
theorem marksSp_length (x : Int) (n : Nat) : (marksSp x n).length = n := marksR_length x n
set_option maxHeartbeats 4000000 in
theorem heldSpanS_any (ao : Option Addr) (n c : Nat) (x : Int) (w : World) (hr : Reads w (.slice ao n c) (marksSp x n)) (hn : n ≤ 1048577) (hx0 : 0 < x) (hx : x ≤ 100000000) :
    Calls Tryd.prog 26 #[.slice ao n c, .int .i64 x] w fun e w' => e = .returned (.int .i64 (x + 2 * (n : Int))) ∧ Below w.heap.size w w' := by
  have HR : Hid (Reads w (.slice ao n c) (marksSp x n)) := hr
  clear hr
  go_enter Tryd.func26, Tryd.ntmps26
  go_wp2
  go_loopw [1, 5] (fun q i wr => ∃ k : Nat, k ≤ n ∧ i = .int .i64 k ∧ q = .int .i64 (x + 2 * (k : Int)) ∧ Below w.heap.size w wr) (fun _ i _ => n - (intOf i).toNat)
  case atStart => exact ⟨0, Nat.zero_le _, rfl, by simp, Below.refl _ _⟩
  case round =>
    obtain ⟨k, hk, rfl, rfl, hbel⟩ := hrel
    have hsz := hbel.size
    by_cases hlt : k < n
    · obtain ⟨b, o, rfl, hb, c0, c1⟩ := sp_at (HR.out.below hbel) (marksSp_at (x := x) hlt)
      replace c0 : wr.cell? ⟨b, o + k * 2, none⟩ = some (.int .i64 (x + 2 * (k : Int))) := c0
      replace c1 : wr.cell? ⟨b, o + k * 2 + 1, none⟩ = some (.int .i64 (x + 2 * (k : Int) + 1)) := c1
      go_wp2
      go_roundw
      case rel => exact ⟨k + 1, by omega, by go_num, by go_num, hbel⟩
      case measure => simp [intOf]; omega
    · have hkn : k = n := by omega
      subst hkn
      go_wp2
      go_ret
      exact ⟨rfl, hbel⟩

end Go.Proofs.YtbecdaholpiaeaaDoor
