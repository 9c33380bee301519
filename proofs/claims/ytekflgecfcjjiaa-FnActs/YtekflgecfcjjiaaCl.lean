/-
  A file cloned; what is left of it: the walks.
-/
import Derived.Test.YtekflgecfcjjiaaFa
namespace Go.Proofs.Ytekflgecfcjjiaa
open Go Go.RowKit

theorem ret_file {fn : Func} {p : Tmp} {w : World} {g : Nat} {a b c : Value} {tmps : Array Value} (h : fn.results = #[.cell p 36]) (hp : tmps.getD p undef = .pointer (some ⟨g, 0, none⟩)) (h0 : w.cell? ⟨g, 0, none⟩ = some a) (h1 : w.cell? ⟨g, 1, none⟩ = some b) (h2 : w.cell? ⟨g, 2, none⟩ = some c) :
    (results fn tmps).run Try.prog w = .ok (.agg #[a, b, c]) w := by
  have hp' : tmps[p]?.getD undef = .pointer (some ⟨g, 0, none⟩) := by simpa using hp
  simp [results, h, hp', h0, h1, h2, asAddr, go_sem]
theorem keep_on {B : Nat} {W x w2 : World} (hb : Below x.heap.size x w2) (h : Below B W x) (hB : B ≤ W.heap.size) : Below B W w2 := h.trans (hb.mono (Nat.le_trans hB h.size))
theorem cell_on {B : Nat} {W x w2 : World} {p : Addr} {v : Value} (hb : Below x.heap.size x w2) (h : Below B W x) (hp : p.block < W.heap.size) (hc : x.cell? p = some v) : w2.cell? p = some v := (hb.cell (Nat.lt_of_lt_of_le hp h.size)).trans hc
theorem frozen_on {B : Nat} {W x w2 : World} {p : Addr} {v : Bool} (hb : Below x.heap.size x w2) (h : Below B W x) (hp : p.block < W.heap.size) (hc : x.frozen? p = v) : w2.frozen? p = v := (hb.frozen (Nat.lt_of_lt_of_le hp h.size)).trans hc
theorem Below.cellOf {B : Nat} {W : World} {p : Addr} {v : Value} (hp : p.block < B) (h : W.cell? p = some v) : ∀ w', Below B W w' → w'.cell? p = some v := fun _ hb => (hb.cell hp).trans h

set_option maxHeartbeats 1000000 in
theorem clonedF_any (n t : ByteArray) (k : Int) (w : World) (hn : n.size ≤ 1048576) (ht : t.size ≤ 1048576) :
    Calls Try.prog 77 #[.agg #[.string n, .string t, .int .i64 k]] w fun e w' => e = .returned (.agg #[.string n, .string t, .int .i64 k]) ∧ Below w.heap.size w w' := by
  go_enter Try.func77, Try.ntmps77
  go_wp2
  generalize hW : (w.alloc (Obj.cells #[.string n, .string t, .int .i64 k] 36)).alloc (Obj.cells #[.string { data := #[] }, .string { data := #[] }, .int .i64 0] 36) = W
  have hs : W.heap.size = w.heap.size + 2 := by subst hW; simp
  have e0 := Below.cellOf (B := w.heap.size + 1) (W := W) (p := ⟨w.heap.size, 0, none⟩) (v := .string n) (by simp) (by subst hW; simp [go_sem])
  have e1 := Below.cellOf (B := w.heap.size + 1) (W := W) (p := ⟨w.heap.size, 1, none⟩) (v := .string t) (by simp) (by subst hW; simp [go_sem])
  have e2 := Below.cellOf (B := w.heap.size + 1) (W := W) (p := ⟨w.heap.size, 2, none⟩) (v := .int .i64 k) (by simp) (by subst hW; simp [go_sem])
  have hw : Below w.heap.size w W := by subst hW; exact ba (ba (Below.refl _ _) _) _
  have x0 : W.cell? ⟨w.heap.size + 1, 0, none⟩ = some (.string ByteArray.empty) := by subst hW; simp [go_sem]; rfl
  have x1 : W.cell? ⟨w.heap.size + 1, 1, none⟩ = some (.string ByteArray.empty) := by subst hW; simp [go_sem]; rfl
  have x2 : W.cell? ⟨w.heap.size + 1, 2, none⟩ = some (.int .i64 0) := by subst hW; simp [go_sem]
  have f0 : W.frozen? ⟨w.heap.size + 1, 0, none⟩ = false := by subst hW; simp [go_sem]
  have f1 : W.frozen? ⟨w.heap.size + 1, 1, none⟩ = false := by subst hW; simp [go_sem]
  have f2 : W.frozen? ⟨w.heap.size + 1, 2, none⟩ = false := by subst hW; simp [go_sem]
  clear hW
  go_region_held3 (fun w' => Below (w.heap.size + 1) W w') ((first | exact (Below.refl _ _).drew | exact (keep_on hb2 (by assumption) (by omega)) | exact (((Below.setCell (by assumption) (by simp) _).setCell (by simp) _).setCell (by simp) _))) (first | (go_at_call 64; refine (clone_any _ _ (by assumption)).mono ?_; rintro e w2 ⟨rfl, hb2⟩; have hS2 := keep_on (B := w.heap.size + 1) (W := W) hb2 (by assumption) (by omega); have q0 : w2.cell? ⟨w.heap.size + 1, 0, none⟩ = some (.string ByteArray.empty) := cell_on (B := w.heap.size + 1) (W := W) hb2 (by assumption) (by simp; omega) (by first | assumption | exact x0); have q1 : w2.cell? ⟨w.heap.size + 1, 1, none⟩ = some (.string ByteArray.empty) := cell_on (B := w.heap.size + 1) (W := W) hb2 (by assumption) (by simp; omega) (by first | assumption | exact x1); have q2 : w2.cell? ⟨w.heap.size + 1, 2, none⟩ = some (.int .i64 0) := cell_on (B := w.heap.size + 1) (W := W) hb2 (by assumption) (by simp; omega) (by first | assumption | exact x2); have z0 : w2.frozen? ⟨w.heap.size + 1, 0, none⟩ = false := frozen_on (B := w.heap.size + 1) (W := W) hb2 (by assumption) (by simp; omega) (by first | assumption | exact f0); have z1 : w2.frozen? ⟨w.heap.size + 1, 1, none⟩ = false := frozen_on (B := w.heap.size + 1) (W := W) hb2 (by assumption) (by simp; omega) (by first | assumption | exact f1); have z2 : w2.frozen? ⟨w.heap.size + 1, 2, none⟩ = false := frozen_on (B := w.heap.size + 1) (W := W) hb2 (by assumption) (by simp; omega) (by first | assumption | exact f2)))
  go_wp2
  refine bodyPost_ret (ret_file (a := .string n) (b := .string t) (c := .int .i64 k) rfl rfl (by simp [go_sem, q0]) (by simp [go_sem, q1]) (by simp [go_sem, q2])) rfl ?_
  exact ⟨rfl, (((hw.trans (hS2.mono (by omega))).setCell (p := ⟨w.heap.size + 1, 0, none⟩) (by simp) _).setCell (p := ⟨w.heap.size + 1, 1, none⟩) (by simp) _).setCell (p := ⟨w.heap.size + 1, 2, none⟩) (by simp) _⟩

/-- How much of a file stays. -/
def staysN (left kept : Int) (size : Nat) : Int := min (max left kept) (size : Int)
/-- What the power leaves of a file. -/
def Fl.begun (f : Fl) (left : Int) : Fl := ⟨f.name, f.text.extract 0 (staysN left f.kept f.text.size).toNat, staysN left f.kept f.text.size⟩

set_option maxHeartbeats 1000000 in
theorem begun_any (n t : ByteArray) (k left : Int) (w : World) (hn : n.size ≤ 1048576) (ht : t.size ≤ 1048576) (hk0 : 0 ≤ k) :
    Calls Try.prog 53 #[.agg #[.string n, .string t, .int .i64 k], .int .i64 left] w fun e w' => e = .returned (.agg #[.string n, .string (t.extract 0 (staysN left k t.size).toNat), .int .i64 (staysN left k t.size)]) ∧ Below w.heap.size w w' := by
  have hm0 : 0 ≤ staysN left k t.size := by unfold staysN; omega
  have hm1 : staysN left k t.size ≤ t.size := by unfold staysN; omega
  have hm : min (max left k) (t.size : Int) = staysN left k t.size := rfl
  generalize staysN left k t.size = m at *
  have hsl : ∀ wx, (Instr.slice 9 (.string t) none (some (.int .i64 m)) none).run Try.prog wx = .ok (.string (t.extract 0 m.toNat)) wx := fun wx => by
    rw [run_slice_string_to_if (P := Try.prog) wx 9 t .i64 m Try.underlying9]
    simp [hm0, hm1]
  have hts : (t.extract 0 m.toNat).size ≤ 1048576 := by simp; omega
  generalize t.extract 0 m.toNat = u at *
  go_enter Try.func53, Try.ntmps53
  go_wp2
  generalize hW : (w.alloc (Obj.cells #[.string n, .string t, .int .i64 k] 36)).alloc (Obj.cells #[.string { data := #[] }, .string { data := #[] }, .int .i64 0] 36) = W
  have hs : W.heap.size = w.heap.size + 2 := by subst hW; simp
  have e0 := Below.cellOf (B := w.heap.size + 1) (W := W) (p := ⟨w.heap.size, 0, none⟩) (v := .string n) (by simp) (by subst hW; simp [go_sem])
  have e1 := Below.cellOf (B := w.heap.size + 1) (W := W) (p := ⟨w.heap.size, 1, none⟩) (v := .string t) (by simp) (by subst hW; simp [go_sem])
  have hw : Below w.heap.size w W := by subst hW; exact ba (ba (Below.refl _ _) _) _
  have x0 : W.cell? ⟨w.heap.size + 1, 0, none⟩ = some (.string ByteArray.empty) := by subst hW; simp [go_sem]; rfl
  have x1 : W.cell? ⟨w.heap.size + 1, 1, none⟩ = some (.string ByteArray.empty) := by subst hW; simp [go_sem]; rfl
  have x2 : W.cell? ⟨w.heap.size + 1, 2, none⟩ = some (.int .i64 0) := by subst hW; simp [go_sem]
  have f0 : W.frozen? ⟨w.heap.size + 1, 0, none⟩ = false := by subst hW; simp [go_sem]
  have f1 : W.frozen? ⟨w.heap.size + 1, 1, none⟩ = false := by subst hW; simp [go_sem]
  have f2 : W.frozen? ⟨w.heap.size + 1, 2, none⟩ = false := by subst hW; simp [go_sem]
  clear hW
  go_region_held3 (fun w' => Below (w.heap.size + 1) W w') ((first | exact (Below.refl _ _).drew | exact (keep_on hb2 (by assumption) (by omega)) | exact (((Below.setCell (by assumption) (by simp) _).setCell (by simp) _).setCell (by simp) _))) (first | (go_at_call 77; refine (clonedF_any _ _ _ _ hn hts).mono ?_; rintro e w2 ⟨rfl, hb2⟩; have hS2 := keep_on (B := w.heap.size + 1) (W := W) hb2 (by assumption) (by omega); have q0 : w2.cell? ⟨w.heap.size + 1, 0, none⟩ = some (.string ByteArray.empty) := cell_on (B := w.heap.size + 1) (W := W) hb2 (by assumption) (by simp; omega) (by first | assumption | exact x0); have q1 : w2.cell? ⟨w.heap.size + 1, 1, none⟩ = some (.string ByteArray.empty) := cell_on (B := w.heap.size + 1) (W := W) hb2 (by assumption) (by simp; omega) (by first | assumption | exact x1); have q2 : w2.cell? ⟨w.heap.size + 1, 2, none⟩ = some (.int .i64 0) := cell_on (B := w.heap.size + 1) (W := W) hb2 (by assumption) (by simp; omega) (by first | assumption | exact x2); have z0 : w2.frozen? ⟨w.heap.size + 1, 0, none⟩ = false := frozen_on (B := w.heap.size + 1) (W := W) hb2 (by assumption) (by simp; omega) (by first | assumption | exact f0); have z1 : w2.frozen? ⟨w.heap.size + 1, 1, none⟩ = false := frozen_on (B := w.heap.size + 1) (W := W) hb2 (by assumption) (by simp; omega) (by first | assumption | exact f1); have z2 : w2.frozen? ⟨w.heap.size + 1, 2, none⟩ = false := frozen_on (B := w.heap.size + 1) (W := W) hb2 (by assumption) (by simp; omega) (by first | assumption | exact f2)))
  go_wp2
  refine bodyPost_ret (ret_file (a := .string n) (b := .string u) (c := .int .i64 m) rfl rfl (by simp [go_sem, q0]) (by simp [go_sem, q1]) (by simp [go_sem, q2])) rfl ?_
  exact ⟨rfl, (((hw.trans (hS2.mono (by omega))).setCell (p := ⟨w.heap.size + 1, 0, none⟩) (by simp) _).setCell (p := ⟨w.heap.size + 1, 1, none⟩) (by simp) _).setCell (p := ⟨w.heap.size + 1, 2, none⟩) (by simp) _⟩
end Go.Proofs.Ytekflgecfcjjiaa
