/-
  Entries cloned and moved, and what is behind an index: the walks.
-/
import Derived.Test.YtnapjkpkhdbalaaLg
import Derived.Test.YtnapjkpkhdbalaaShelf
namespace Go.Proofs.Ytnapjkpkhdbalaa
open Go Go.RowKit

theorem clone_any (s : ByteArray) (w : World) (h : s.size ≤ 1048576) :
    Calls Try.prog 45 #[.string s] w fun e w' => e = .returned (.string s) ∧ Below w.heap.size w w' := by
  go_enter Try.func45, Try.ntmps45
  go_wp2_with (go_at_call 49; refine (Try.stringslite_Clone _ _ (by omega)).mono ?_; rintro e w1 ⟨rfl, hb1⟩)
  go_ret
  exact ⟨rfl, hb1⟩
theorem cell_on {B : Nat} {W x w2 : World} {p : Addr} {v : Value} (hb : Below x.heap.size x w2) (h : Below B W x) (hp : p.block < W.heap.size) (hc : x.cell? p = some v) : w2.cell? p = some v := (hb.cell (Nat.lt_of_lt_of_le hp h.size)).trans hc
theorem frozen_on {B : Nat} {W x w2 : World} {p : Addr} {v : Bool} (hb : Below x.heap.size x w2) (h : Below B W x) (hp : p.block < W.heap.size) (hc : x.frozen? p = v) : w2.frozen? p = v := (hb.frozen (Nat.lt_of_lt_of_le hp h.size)).trans hc
theorem ret_ent {fn : Func} {p : Tmp} {w : World} {g : Nat} {a b c : Value} {tmps : Array Value} (h : fn.results = #[.cell p 42]) (hp : tmps.getD p undef = .pointer (some ⟨g, 0, none⟩)) (h0 : w.cell? ⟨g, 0, none⟩ = some a) (h1 : w.cell? ⟨g, 1, none⟩ = some b) (h2 : w.cell? ⟨g, 2, none⟩ = some c) :
    (results fn tmps).run Try.prog w = .ok (.agg #[a, b, c]) w := by
  have hp' : tmps[p]?.getD undef = .pointer (some ⟨g, 0, none⟩) := by simpa using hp
  simp [results, h, hp', h0, h1, h2, asAddr, go_sem]

set_option maxHeartbeats 1000000 in
theorem cloned_any (t k : Int) (d : ByteArray) (w : World) (hd : d.size ≤ 1048576) :
    Calls Try.prog 37 #[.agg #[.int .i64 t, .int .i64 k, .string d]] w fun e w' => e = .returned (.agg #[.int .i64 t, .int .i64 k, .string d]) ∧ Below w.heap.size w w' := by
  go_enter Try.func37, Try.ntmps37
  go_wp2
  generalize hW : (w.alloc (Obj.cells #[.int .i64 t, .int .i64 k, .string d] 42)).alloc (Obj.cells #[.int .i64 0, .int .i64 0, .string { data := #[] }] 42) = W
  have hs : W.heap.size = w.heap.size + 2 := by subst hW; simp
  have e0 := Below.cellOf (B := w.heap.size + 1) (W := W) (p := ⟨w.heap.size, 0, none⟩) (v := .int .i64 t) (by simp) (by subst hW; simp [go_sem])
  have e1 := Below.cellOf (B := w.heap.size + 1) (W := W) (p := ⟨w.heap.size, 1, none⟩) (v := .int .i64 k) (by simp) (by subst hW; simp [go_sem])
  have e2 := Below.cellOf (B := w.heap.size + 1) (W := W) (p := ⟨w.heap.size, 2, none⟩) (v := .string d) (by simp) (by subst hW; simp [go_sem])
  have hw : Below w.heap.size w W := by subst hW; exact ba (ba (Below.refl _ _) _) _
  have x0 : W.cell? ⟨w.heap.size + 1, 0, none⟩ = some (.int .i64 0) := by subst hW; simp [go_sem]
  have x1 : W.cell? ⟨w.heap.size + 1, 1, none⟩ = some (.int .i64 0) := by subst hW; simp [go_sem]
  have x2 : W.cell? ⟨w.heap.size + 1, 2, none⟩ = some (.string ByteArray.empty) := by subst hW; simp [go_sem]; rfl
  have f0 : W.frozen? ⟨w.heap.size + 1, 0, none⟩ = false := by subst hW; simp [go_sem]
  have f1 : W.frozen? ⟨w.heap.size + 1, 1, none⟩ = false := by subst hW; simp [go_sem]
  have f2 : W.frozen? ⟨w.heap.size + 1, 2, none⟩ = false := by subst hW; simp [go_sem]
  clear hW
  go_region_held3 (fun w' => Below (w.heap.size + 1) W w') ((first | exact (Below.refl _ _).drew | exact (keep_on hb2 (by assumption) (by omega)) | exact (((Below.setCell (by assumption) (by simp) _).setCell (by simp) _).setCell (by simp) _))) ((go_at_call 45; refine (clone_any _ _ hd).mono ?_; rintro e w2 ⟨rfl, hb2⟩; have hS2 := keep_on (B := w.heap.size + 1) (W := W) hb2 (by assumption) (by omega); have q0 : w2.cell? ⟨w.heap.size + 1, 0, none⟩ = some (.int .i64 0) := cell_on (B := w.heap.size + 1) (W := W) hb2 (by assumption) (by simp; omega) (by first | assumption | exact x0); have q1 : w2.cell? ⟨w.heap.size + 1, 1, none⟩ = some (.int .i64 0) := cell_on (B := w.heap.size + 1) (W := W) hb2 (by assumption) (by simp; omega) (by first | assumption | exact x1); have q2 : w2.cell? ⟨w.heap.size + 1, 2, none⟩ = some (.string ByteArray.empty) := cell_on (B := w.heap.size + 1) (W := W) hb2 (by assumption) (by simp; omega) (by first | assumption | exact x2); have z0 : w2.frozen? ⟨w.heap.size + 1, 0, none⟩ = false := frozen_on (B := w.heap.size + 1) (W := W) hb2 (by assumption) (by simp; omega) (by first | assumption | exact f0); have z1 : w2.frozen? ⟨w.heap.size + 1, 1, none⟩ = false := frozen_on (B := w.heap.size + 1) (W := W) hb2 (by assumption) (by simp; omega) (by first | assumption | exact f1); have z2 : w2.frozen? ⟨w.heap.size + 1, 2, none⟩ = false := frozen_on (B := w.heap.size + 1) (W := W) hb2 (by assumption) (by simp; omega) (by first | assumption | exact f2)))
  go_wp2
  refine bodyPost_ret (ret_ent (a := .int .i64 t) (b := .int .i64 k) (c := .string d) rfl rfl (by simp [go_sem, q0]) (by simp [go_sem, q1]) (by simp [go_sem, q2])) rfl ?_
  exact ⟨rfl, (((hw.trans (hS2.mono (by omega))).setCell (p := ⟨w.heap.size + 1, 0, none⟩) (by simp) _).setCell (p := ⟨w.heap.size + 1, 1, none⟩) (by simp) _).setCell (p := ⟨w.heap.size + 1, 2, none⟩) (by simp) _⟩
end Go.Proofs.Ytnapjkpkhdbalaa
