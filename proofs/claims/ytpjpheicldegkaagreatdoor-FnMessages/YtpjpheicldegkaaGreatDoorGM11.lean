/- B5s,Cln,Cmt -/
import Derived.Test.YtpjpheicldegkaaGreatDoorProg
import Derived.Test.YtpjpheicldegkaaGreatDoorGn
import Derived.Test.YtpjpheicldegkaaGreatDoorGM1
import Derived.Test.YtpjpheicldegkaaGreatDoorGM2
import Derived.Deep.QuietTactic
import Derived.BigQuiet
import Derived.Handy
import Derived.Test.YtpjpheicldegkaaGreatDoorCmo
import Derived.Test.YtpjpheicldegkaaGreatDoorGM4
namespace Go.Proofs.YtpjpheicldegkaaGreatDoor
open Go Go.RowKit

def B5 (t : TypeId) (W : World) (b : Nat) (x0 x1 x2 x3 x4 : Value) : Prop := W.heap[b]? = some (.cells #[x0, x1, x2, x3, x4] t)
section B5x
variable {t : TypeId} {W W' : World} {b : Nat} {x0 x1 x2 x3 x4 : Value}
theorem B5.lt (h : B5 t W b x0 x1 x2 x3 x4) : b < W.heap.size := (Array.getElem?_eq_some_iff.1 h).1
theorem B5.up (h : B5 t W b x0 x1 x2 x3 x4) (hb : Below W.heap.size W W') : B5 t W' b x0 x1 x2 x3 x4 := (hb.block _ h.lt).trans h
theorem B5.grown {r : Option Nat} (h : B5 t W b x0 x1 x2 x3 x4) (hg : W.grownBy W' r) (hr : some b ≠ r) : B5 t W' b x0 x1 x2 x3 x4 := (hg.block b h.lt hr).trans h
theorem B5.c0 (h : B5 t W b x0 x1 x2 x3 x4) : W.cell? ⟨b, 0, none⟩ = some x0 := by simp [World.cell?, show W.heap[b]? = _ from h]
theorem B5.c1 (h : B5 t W b x0 x1 x2 x3 x4) : W.cell? ⟨b, 1, none⟩ = some x1 := by simp [World.cell?, show W.heap[b]? = _ from h]
theorem B5.c2 (h : B5 t W b x0 x1 x2 x3 x4) : W.cell? ⟨b, 2, none⟩ = some x2 := by simp [World.cell?, show W.heap[b]? = _ from h]
theorem B5.c3 (h : B5 t W b x0 x1 x2 x3 x4) : W.cell? ⟨b, 3, none⟩ = some x3 := by simp [World.cell?, show W.heap[b]? = _ from h]
theorem B5.c4 (h : B5 t W b x0 x1 x2 x3 x4) : W.cell? ⟨b, 4, none⟩ = some x4 := by simp [World.cell?, show W.heap[b]? = _ from h]
theorem B5.fr (h : B5 t W b x0 x1 x2 x3 x4) (o : Nat) : W.frozen? ⟨b, o, none⟩ = false := by simp [World.frozen?, show W.heap[b]? = _ from h]
theorem B5.s0 (h : B5 t W b x0 x1 x2 x3 x4) (u : Value) : B5 t (W.setCell ⟨b, 0, none⟩ u) b u x1 x2 x3 x4 := by simp [B5, World.setCell, Array.getElem?_modify, show W.heap[b]? = _ from h]
theorem B5.s1 (h : B5 t W b x0 x1 x2 x3 x4) (u : Value) : B5 t (W.setCell ⟨b, 1, none⟩ u) b x0 u x2 x3 x4 := by simp [B5, World.setCell, Array.getElem?_modify, show W.heap[b]? = _ from h]
theorem B5.s2 (h : B5 t W b x0 x1 x2 x3 x4) (u : Value) : B5 t (W.setCell ⟨b, 2, none⟩ u) b x0 x1 u x3 x4 := by simp [B5, World.setCell, Array.getElem?_modify, show W.heap[b]? = _ from h]
theorem B5.s3 (h : B5 t W b x0 x1 x2 x3 x4) (u : Value) : B5 t (W.setCell ⟨b, 3, none⟩ u) b x0 x1 x2 u x4 := by simp [B5, World.setCell, Array.getElem?_modify, show W.heap[b]? = _ from h]
theorem B5.s4 (h : B5 t W b x0 x1 x2 x3 x4) (u : Value) : B5 t (W.setCell ⟨b, 4, none⟩ u) b x0 x1 x2 x3 u := by simp [B5, World.setCell, Array.getElem?_modify, show W.heap[b]? = _ from h]
theorem B5.far {p : Addr} (h : B5 t W b x0 x1 x2 x3 x4) (hp : p.block ≠ b) (u : Value) : B5 t (W.setCell p u) b x0 x1 x2 x3 x4 := (heap_setCell_other W p b u (fun e => hp e.symm)).trans h
theorem B5.new (t : TypeId) (W : World) (x0 x1 x2 x3 x4 : Value) : B5 t (W.alloc (.cells #[x0, x1, x2, x3, x4] t)) W.heap.size x0 x1 x2 x3 x4 := by
  show (W.heap.push _)[W.heap.size]? = _; simp
theorem cell_far {p q : Addr} {x : Value} (h : W.cell? q = some x) (hne : p.block ≠ q.block) (u : Value) : (W.setCell p u).cell? q = some x := by
  have e := heap_setCell_other W p q.block u (fun e => hne e.symm)
  unfold World.cell? at h ⊢
  rw [e]
  exact h
theorem B5.alloc (h : B5 t W b x0 x1 x2 x3 x4) (o : Obj) : B5 t (W.alloc o) b x0 x1 x2 x3 x4 := h.up (ba (Below.refl _ _) _)
abbrev set5 (W : World) (b : Nat) (u0 u1 u2 u3 u4 : Value) : World := ((((W.setCell ⟨b, 0, none⟩ u0).setCell ⟨b, 1, none⟩ u1).setCell ⟨b, 2, none⟩ u2).setCell ⟨b, 3, none⟩ u3).setCell ⟨b, 4, none⟩ u4
theorem B5.set (h : B5 t W b x0 x1 x2 x3 x4) (u0 u1 u2 u3 u4 : Value) : B5 t (set5 W b u0 u1 u2 u3 u4) b u0 u1 u2 u3 u4 := ((((h.s0 u0).s1 u1).s2 u2).s3 u3).s4 u4
theorem qrc {B : Nat} {V : World} (h : Below B V W) (hb : B ≤ b) (u0 u1 u2 u3 u4 : Value) : Below B V (set5 W b u0 u1 u2 u3 u4) :=
  Below.setCell (Below.setCell (Below.setCell (Below.setCell (Below.setCell h hb _) hb _) hb _) hb _) hb _
theorem ownsR.setB {α : Type} [Rec α] {B : Nat} {e : TypeId} {v : Value} {l : List α} {a : Addr} (h : ownsR W B e v l) (ha : a.block < B) (u : Value) : ownsR (W.setCell a u) B e v l := ownsRow_setCell_below h ha u
theorem qbc {α : Type} [Rec α] {B : Nat} {e : TypeId} {v : Value} {l : List α} (h : ownsR W B e v l) (hb : b < B) (u0 u1 u2 u3 u4 : Value) : ownsR (set5 W b u0 u1 u2 u3 u4) B e v l :=
  ((((h.setB hb _).setB hb _).setB hb _).setB hb _).setB hb _
theorem ret_c2 {fn : Func} {p u : Tmp} {x : Value} {tmps : Array Value} (h : fn.results = #[.cell p 194, .tmp u]) (hp : tmps.getD p undef = .pointer (some ⟨b, 0, none⟩)) (hu : tmps.getD u undef = x) (hb : B5 194 W b x0 x1 x2 x3 x4) :
    (results fn tmps).run Tryz.prog W = .ok (.tuple #[.agg #[x0, x1, x2, x3, x4], x]) W := by
  have hp' : tmps[p]?.getD undef = .pointer (some ⟨b, 0, none⟩) := by simpa using hp
  have hu' : tmps[u]?.getD undef = x := by simpa using hu
  simp [results, h, hp', hu', hb.c0, hb.c1, hb.c2, hb.c3, hb.c4, asAddr, go_sem]
end B5x

end Go.Proofs.YtpjpheicldegkaaGreatDoor

namespace Go.Proofs.YtpjpheicldegkaaGreatDoor
open Go Go.RowKit

set_option maxHeartbeats 400000 in
theorem clone_any (s : ByteArray) (w : World) (h : s.size ≤ 1048576) :
    Calls Tryz.prog 91 #[.string s] w fun e w' => e = .returned (.string s) ∧ Below w.heap.size w w' := by
  go_enter Tryz.func91, Tryz.ntmps91
  go_wp2_with (go_at_call 100; refine (Tryz.stringslite_Clone _ _ (by omega)).mono ?_; rintro e w1 ⟨rfl, hb1⟩)
  go_ret
  exact ⟨rfl, hb1⟩
end Go.Proofs.YtpjpheicldegkaaGreatDoor

namespace Go.Proofs.YtpjpheicldegkaaGreatDoor
open Go Go.RowKit

theorem varF_len : ∀ f n, (varF f n).length ≤ f + 1
  | 0, n => by simp [varF]
  | f + 1, n => by
    unfold varF
    split
    · have := varF_len f (n / 128); simp; omega
    · simp
theorem qxb (n : Nat) : (bstr (varI n)).size ≤ n + 1 := by rw [qra]; exact varF_len n n
def qsa (s : ByteArray) : ByteArray := bstr (varI s.size) ++ s
def flagS (b : Bool) : ByteArray := if b then ⟨#[1]⟩ else ⟨#[0]⟩
def cmtS (op tok seq : Int) (text task : ByteArray) (num up : Int) (yes : Bool) : ByteArray := bstr [op] ++ bstr (varI tok.toNat) ++ bstr (varI seq.toNat) ++ qsa text ++ qsa task ++ bstr (varI num.toNat) ++ bstr (varI up.toNat) ++ flagS yes
def cmtX (op tok seq : Int) (text task : ByteArray) (num up : Int) (yes : Bool) : ByteArray := if cmdB op tok seq text task num up yes then cmtS op tok seq text task num up yes else ⟨#[]⟩
theorem qjd {f1 f2 f3 f4 f5 : Bool} {text task : ByteArray} {num up : Int} {yes : Bool} (h : restB f1 f2 f3 f4 f5 text task num up yes = true) : (f1 = false → text.size = 0) ∧ (f2 = false → task.size = 0) ∧ (f3 = false → num = 0) ∧ (f4 = false → up = 0) := by
  unfold restB at h
  simp only [Bool.and_eq_true, Bool.or_eq_true, decide_eq_true_eq] at h
  obtain ⟨h1, h2, h3, h4, _⟩ := h
  refine ⟨fun e => ?_, fun e => ?_, fun e => ?_, fun e => ?_⟩
  · subst e; rcases h1 with h | h; cases h; subst h; rfl
  · subst e; rcases h2 with h | h; cases h; subst h; rfl
  · subst e; rcases h3 with h | h; cases h; exact h
  · subst e; rcases h4 with h | h; cases h; exact h
theorem name_size8 {s : ByteArray} (h : nameB s = true) : s.size ≤ 8 := by
  unfold nameB at h
  simp only [Bool.and_eq_true, decide_eq_true_eq] at h
  exact h.1.2
theorem cmd_fine {op tok seq : Int} {text task : ByteArray} {num up : Int} {yes : Bool} (h : cmdB op tok seq text task num up yes = true) : 1 ≤ op ∧ op ≤ 9 ∧ 0 ≤ tok ∧ tok ≤ 1000000 ∧ 0 ≤ seq ∧ seq ≤ 1000000 ∧ text.size ≤ 600 ∧ task.size ≤ 8 ∧ 0 ≤ num ∧ num ≤ 1000000000 ∧ 0 ≤ up ∧ up ≤ 68374079 := by
  unfold cmdB opB at h
  simp only [Bool.and_eq_true, decide_eq_true_eq] at h
  obtain ⟨h1, h2, h⟩ := h
  refine (fun (k : 1 ≤ op ∧ op ≤ 9 ∧ text.size ≤ 600 ∧ task.size ≤ 8 ∧ 0 ≤ num ∧ num ≤ 1000000000 ∧ 0 ≤ up ∧ up ≤ 68374079) => ⟨k.1, k.2.1, h1.1, h1.2, h2.1, h2.2, k.2.2⟩) ?_
  repeat' split at h
  all_goals (try simp only [Bool.and_eq_true, decide_eq_true_eq] at h)
  all_goals (try (cases h; done))
  · obtain ⟨_, _, h⟩ := h; have r := qjd h; have a := r.1 rfl; have b := r.2.1 rfl; have c := r.2.2.1 rfl; have d := r.2.2.2 rfl; omega
  · obtain ⟨x, h⟩ := h; have r := qjd h; have b := r.2.1 rfl; have c := r.2.2.1 rfl; have d := r.2.2.2 rfl; omega
  · obtain ⟨x, h⟩ := h; have r := qjd h; have a := name_size8 x; have b := r.2.1 rfl; have c := r.2.2.1 rfl; have d := r.2.2.2 rfl; omega
  · obtain ⟨x, h⟩ := h; have r := qjd h; have a := r.1 rfl; have b := r.2.1 rfl; have d := r.2.2.2 rfl; omega
  · have r := qjd h; have a := r.1 rfl; have b := r.2.1 rfl; have c := r.2.2.1 rfl; have d := r.2.2.2 rfl; omega
  · obtain ⟨x, h⟩ := h; have r := qjd h; have a := r.1 rfl; have b := r.2.1 rfl; have d := r.2.2.2 rfl; omega
  · obtain ⟨x, h⟩ := h; have r := qjd h; have a := r.1 rfl; have b := r.2.1 rfl; have d := r.2.2.2 rfl; omega
  · obtain ⟨x, y, z, h⟩ := h; have r := qjd h; have a := name_size8 x; have b := r.2.1 rfl; omega
  · obtain ⟨x, y, z, h⟩ := h; have r := qjd h; have a := name_size8 x; have b := name_size8 y; have d := r.2.2.2 rfl; omega

set_option maxHeartbeats 400000 in
theorem l17Byte_any (n : Int) (w : World) (h0 : 0 ≤ n) (h1 : n ≤ 255) : Calls Tryz.prog 93 #[.int .i64 n] w fun e w' => e = .returned (.string (bstr [n])) ∧ Below w.heap.size w w' := by
  have hcv := qcc w n
  go_enter Tryz.func93, Tryz.ntmps93
  go_wp2
  go_ret
  exact ⟨rfl, ba (Below.refl _ _) _⟩
set_option maxHeartbeats 400000 in
theorem l17Short_any (s : ByteArray) (w : World) (hs : s.size ≤ 1000000) : Calls Tryz.prog 94 #[.string s] w fun e w' => e = .returned (.string (qsa s)) ∧ Below w.heap.size w w' := by
  unfold qsa
  have HV := qpc s.size w (by omega)
  have hz := qxb s.size
  obtain ⟨V, hV⟩ : ∃ V, bstr (varI s.size) = V := ⟨_, rfl⟩
  rw [hV] at HV hz ⊢
  clear hV
  go_enter Tryz.func94, Tryz.ntmps94
  go_wp2_with (go_at_call 62; refine HV.mono ?_; rintro e w1 ⟨rfl, hb1⟩)
  go_ret
  exact ⟨rfl, hb1⟩
theorem l17Flag_any (b : Bool) (w : World) : Calls Tryz.prog 95 #[.bool b] w fun e w' => e = .returned (.string (flagS b)) ∧ w' = w := by
  cases b <;>
  · go_enter Tryz.func95, Tryz.ntmps95
    go_wp2
    go_ret
    exact ⟨rfl, rfl⟩
end Go.Proofs.YtpjpheicldegkaaGreatDoor
