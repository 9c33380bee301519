/- Aid,Nl,Rec,Lw,Pt,Rg,Inf,Dci,Mt,Wd,Str,Var,Rvm,Decm,Part,Tl,Sv -/
import Derived.WalkKit
import Derived.Laws.IdiomStrings
import Derived.Handy
import Derived.WalkSpells
import Derived.Test.YtpjpheicldegkaaGreatDoorRows
import Derived.WalkMore
import Derived.Deep.QuietTactic
import Derived.BigQuiet
import Derived.Lib.Strings
import Derived.WalkLawsBesides
import Derived.Lib.Fields
import Derived.Below
namespace Go.Proofs.YtpjpheicldegkaaGreatDoor
open Go Go.RowKit

def bstr (l : List Int) : ByteArray := ⟨(l.map fun n => UInt8.ofNat n.toNat).toArray⟩

theorem foldl_push_bstr : ∀ (l : List Int) (r : ByteArray), l.foldl (fun r n => r.push (UInt8.ofNat n.toNat)) r = ⟨r.data ++ (l.map fun n => UInt8.ofNat n.toNat).toArray⟩
  | [], r => by simp
  | n :: l, r => by
    simp only [List.foldl_cons]
    rw [foldl_push_bstr l]
    simp [ByteArray.push]

def ownsB (w : World) (B : Nat) (e : TypeId) (v : Value) (l : List Int) : Prop := w.ownsRow B e 1 v l.length (l.map (Value.int .u8))

theorem qdb {P : Program} {w : World} {B : Nat} {e : TypeId} {v : Value} {l : List Int} (src dst : TypeId) (h : ownsB w B e v l)
    (hs : P.underlying src = some (.slice e)) (he : P.underlying e = some (.int .u8)) (hd : P.underlying dst = some .string) :
    (convert src dst v).run P w = .ok (.string (bstr l)) w := by
  obtain ⟨h1, h2⟩ := h
  rcases h2 with ⟨rfl, hn⟩ | ⟨g, cap, cur, rfl, hb, hg, hc1, hc2, hc3, hc4⟩
  · have : l = [] := by simpa using hn
    subst this
    rw [run_convert_bytes_string w src dst e none 0 0 hs he hd]
    rfl
  · rw [run_convert_bytes_string w src dst e _ _ _ hs he hd]
    have hl := run_loadCells_list (P := P) w ⟨g, 0, none⟩ (l.map (Value.int .u8)) (fun j u hj => by
      rw [← hc4] at hj
      have hj' : j < l.length := by
        have := (List.getElem?_eq_some_iff.1 hj).1
        simp at this
        omega
      rw [List.getElem?_take_of_lt (by omega)] at hj
      have hj2 : cur[j]? = some u := by simpa using hj
      by_cases h0 : j = 0
      · subst h0; simp [World.cell?, Addr.add, hg, hj2]
      · simp [World.cell?, Addr.add, h0, hg, hj2])
    simp only [List.length_map] at hl
    rw [run_bytesToString w ⟨g, 0, none⟩ l.length cap l hl, foldl_push_bstr]
    have he0 : ByteArray.empty.data = #[] := rfl
    rw [he0]
    simp [bstr]

theorem ownsB_made (w : World) (B cap : Nat) (e : TypeId) (cur : Array Value) (hb : B ≤ w.heap.size) (hm : cap ≤ maxLen) (hs : cur.size = cap) :
    ownsB (w.alloc (.cells cur e)) B e (.slice (some ⟨w.heap.size, 0, none⟩) 0 cap) [] :=
  World.ownsRow_made w cur cap hb hm (by omega)

theorem ownsB.alloc {w : World} {B : Nat} {e : TypeId} {v : Value} {l : List Int} (h : ownsB w B e v l) (o : Obj) : ownsB (w.alloc o) B e v l := World.ownsRow.alloc h o

theorem wpList_append_byte {P : Program} (w w0 : World) {ops : Array Oper} {rest : List Oper} {o : Oper} {a : Act} {Q : Exit → Act → World → Prop} (hgd : o.guard = none) (s x : Operand) (t : TypeId)
    (ho : o.op = .call { callee := .builtin .append, args := #[s, x], argTypes := #[t, t] })
    (B : Nat) (e : TypeId) (ht : P.underlying t = some (.slice e)) (hi : (P.info? e).map (fun i => (i.zero, i.size, i.bytes)) = some (some (.int .u8 0), 1, 1))
    (v : Value) (l : List Int) (hs : a.eval s = v) (hown : ownsB w B e v l) (hbel : Below B w0 w)
    (ad : Addr) (c : Nat) (n : Int) (hx : a.eval x = .slice (some ad) 1 c) (hc : w.cell? ad = some (.int .u8 n))
    (hlen : l.length < 140737488355328) (hB : B ≤ w.heap.size)
    (h : ∀ v' w', ownsB w' B e v' (l ++ [n]) → Below B w0 w' → wpList P ops Q rest (a.put o.dst v') w') : wpList P ops Q (o :: rest) a w := by
  obtain ⟨i0, hi0, hz0, hz1, hz2⟩ := info_parts hi
  refine wpList_append_own w hgd s x t ho B e i0 (.int .u8 0) 1 1 ht hi0 hz0 hz1 hz2 rfl (by decide) v l.length _ hs hown ad 1 c [.int .u8 n] hx rfl ?_ ?_ (by unfold maxLen; omega) (by omega) hB ?_
  · intro j u hj
    match j, hj with
    | 0, hj => simp at hj; subst hj; simpa [Addr.add] using hc
  · intro u hu; simp at hu; subst hu; rfl
  · intro v' w' h1 h2 _
    refine h v' w' (by simpa [ownsB] using h1) (hbel.grown h2 hB fun k hk => (hown.lt k hk).1)

def varF : Nat → Nat → List Int
  | 0, n => [(n : Int)]
  | f + 1, n => if 127 < n then ((n : Int) % 128 + 128) :: varF f (n / 128) else [(n : Int)]
def varI (n : Nat) : List Int := varF n n

theorem varF_enough : ∀ (f g n : Nat), n ≤ f → n ≤ g → varF f n = varF g n
  | 0, 0, n, _, _ => rfl
  | 0, g + 1, n, h, _ => by have : n = 0 := by omega
                            subst this; simp [varF]
  | f + 1, 0, n, _, h => by have : n = 0 := by omega
                            subst this; simp [varF]
  | f + 1, g + 1, n, h1, h2 => by
    unfold varF
    by_cases h : 127 < n
    · rw [if_pos h, if_pos h, varF_enough f g (n / 128) (by omega) (by omega)]
    · rw [if_neg h, if_neg h]

theorem qsb {n : Nat} (h : 127 < n) : varI n = ((n : Int) % 128 + 128) :: varI (n / 128) := by
  unfold varI
  match n, h with
  | k + 1, h =>
    rw [varF, if_pos h, varF_enough k ((k + 1) / 128) _ (by omega) (by omega)]
theorem qcb {n : Nat} (h : ¬ 127 < n) : varI n = [(n : Int)] := by
  unfold varI
  match n, h with
  | 0, _ => rfl
  | k + 1, h => rw [varF, if_neg h]

end Go.Proofs.YtpjpheicldegkaaGreatDoor

namespace Go.Proofs.YtpjpheicldegkaaGreatDoor
open Go Go.RowKit

theorem qab {a b : ByteArray} (h : a ≠ b) : (a.toList == b.toList) = false := by
  rw [beq_eq_false_iff_ne]
  intro e
  rw [ByteArray.toList_eq, ByteArray.toList_eq] at e
  exact h (ByteArray.ext (Array.ext' e))
theorem eq_list {a b : ByteArray} (h : a = b) : (a.toList == b.toList) = true := by subst h; exact beq_self_eq_true _
end Go.Proofs.YtpjpheicldegkaaGreatDoor

namespace Go.Proofs.YtpjpheicldegkaaGreatDoor
open Go Go.RowKit

class Rec (α : Type) where
  width : Nat
  cells : α → List Value
  len : ∀ x, (cells x).length = width
  pos : 0 < width

section
variable {α : Type} [Rec α]
open Rec

theorem flat_at : ∀ (l : List α) (i j : Nat), j < width α → (l.flatMap cells)[i * width α + j]? = (l[i]?).bind fun x => (cells x)[j]?
  | [], i, j, h => by simp
  | x :: r, 0, j, h => by
    simp only [List.flatMap_cons, Nat.zero_mul, Nat.zero_add]
    rw [List.getElem?_append_left (by rw [len]; exact h)]
    simp
  | x :: r, i + 1, j, h => by
    simp only [List.flatMap_cons]
    rw [List.getElem?_append_right (by rw [len, Nat.add_mul]; omega), len]
    have : (i + 1) * width α + j - width α = i * width α + j := by rw [Nat.add_mul]; omega
    rw [this, flat_at r i j h]
    simp
theorem flat_length (l : List α) : (l.flatMap cells).length = l.length * width α := by
  induction l with
  | nil => simp
  | cons x r ih => simp [ih, len, Nat.add_mul, Nat.add_comm]

def Reads (w : World) (v : Value) (l : List α) : Prop :=
  ∃ ao cap, v = .slice ao l.length cap ∧ (l ≠ [] → ∃ b o, ao = some ⟨b, o, none⟩ ∧ b < w.heap.size ∧ ∀ i x, l[i]? = some x → ∀ j u, (cells x)[j]? = some u → w.cell? ⟨b, o + i * width α + j, none⟩ = some u)

theorem Reads.below {w w' : World} {v : Value} {l : List α} (h : Reads w v l) (hb : Below w.heap.size w w') : Reads w' v l := by
  obtain ⟨ao, cap, rfl, h⟩ := h
  refine ⟨ao, cap, rfl, fun hne => ?_⟩
  obtain ⟨b, o, rfl, hlt, hc⟩ := h hne
  exact ⟨b, o, rfl, Nat.lt_of_lt_of_le hlt hb.size, fun i x hx j u hu => (hb.cell (p := ⟨b, o + i * width α + j, none⟩) hlt).trans (hc i x hx j u hu)⟩
theorem Reads.drew {w : World} {v : Value} {l : List α} (h : Reads w v l) : Reads w.drew v l := h
theorem Reads.alloc {w : World} {v : Value} {l : List α} (h : Reads w v l) (o : Obj) : Reads (w.alloc o) v l := h.below ((Below.refl _ _).alloc (Nat.le_refl _) _)
theorem reads_none (w : World) (ao : Option Addr) (cap : Nat) : Reads w (.slice ao 0 cap) ([] : List α) := ⟨ao, cap, rfl, fun h => absurd rfl h⟩
theorem Reads.at {w : World} {ao : Option Addr} {n cap : Nat} {l : List α} (h : Reads w (.slice ao n cap) l) {k : Nat} {x : α} (hk : l[k]? = some x) :
    ∃ b o, ao = some ⟨b, o, none⟩ ∧ b < w.heap.size ∧ ∀ j u, (cells x)[j]? = some u → w.cell? ⟨b, o + k * width α + j, none⟩ = some u := by
  obtain ⟨ao', cap', e, h⟩ := h
  simp only [Value.slice.injEq] at e
  obtain ⟨rfl, _, rfl⟩ := e
  obtain ⟨b, o, rfl, hlt, hc⟩ := h (by rintro rfl; simp at hk)
  exact ⟨b, o, rfl, hlt, hc k x hk⟩
theorem Reads.len {w : World} {ao : Option Addr} {n cap : Nat} {l : List α} (h : Reads w (.slice ao n cap) l) : n = l.length := by
  obtain ⟨ao', cap', e, h⟩ := h
  simp only [Value.slice.injEq] at e
  exact e.2.1
theorem Reads.take {w : World} {ao : Option Addr} {n cap : Nat} {l : List α} (h : Reads w (.slice ao n cap) l) (k : Nat) (hk : k ≤ n) (cap' : Nat) : Reads w (.slice ao k cap') (l.take k) := by
  have hn := h.len
  refine ⟨ao, cap', by simp; omega, fun hne => ?_⟩
  obtain ⟨ao', cap', e, h⟩ := h
  simp only [Value.slice.injEq] at e
  obtain ⟨rfl, _, rfl⟩ := e
  obtain ⟨b, o, rfl, hlt, hc⟩ := h (by rintro rfl; simp at hne)
  refine ⟨b, o, rfl, hlt, fun i x hx => hc i x ?_⟩
  rw [List.getElem?_take] at hx
  split at hx
  · exact hx
  · simp at hx

def ownsR (w : World) (B : Nat) (e : TypeId) (v : Value) (l : List α) : Prop := w.ownsRow B e (width α) v l.length (l.flatMap cells)

theorem ownsR.reads {w : World} {B : Nat} {e : TypeId} {v : Value} {l : List α} (h : ownsR w B e v l) : Reads w v l := by
  rcases h.2 with ⟨rfl, hn⟩ | ⟨g, cap, cur, rfl, hb, hg, hc, hrest⟩
  · have : l = [] := List.eq_nil_of_length_eq_zero hn
    subst this
    exact ⟨_, _, rfl, fun h => absurd rfl h⟩
  · refine ⟨_, cap, rfl, fun _ => ⟨g, 0, rfl, (h.lt g rfl).2, fun i x hx j u hu => ?_⟩⟩
    have hj : j < width α := by
      rw [← Rec.len x]
      exact (List.getElem?_eq_some_iff.1 hu).1
    have hi : i < l.length := (List.getElem?_eq_some_iff.1 hx).1
    have hlt : i * width α + j < l.length * width α := by
      have : (i + 1) * width α ≤ l.length * width α := Nat.mul_le_mul_right _ hi
      rw [Nat.add_mul] at this
      omega
    rw [Nat.zero_add, World.ownsRow.cellAt h _ hlt, flat_at l i j hj, hx]
    exact hu

theorem ownsR.alloc {w : World} {B : Nat} {e : TypeId} {v : Value} {l : List α} (h : ownsR w B e v l) (o : Obj) : ownsR (w.alloc o) B e v l := World.ownsRow.alloc h o
theorem ownsR.drew {w : World} {B : Nat} {e : TypeId} {v : Value} {l : List α} (h : ownsR w B e v l) : ownsR w.drew B e v l := World.ownsRow.drew h
theorem qmb (w : World) (B : Nat) (e : TypeId) : ownsR w B e (.slice none 0 0) ([] : List α) := World.ownsRow_nil w B e _
theorem ownsR.below {w w' : World} {B B' : Nat} {e : TypeId} {v : Value} {l : List α} (h : ownsR w B e v l) (hb : Below B' w w') (hB : ∀ k, v.ownBlock = some k → k < B') : ownsR w' B e v l := by
  refine ⟨h.1, ?_⟩
  rcases h.2 with hn | ⟨g, cap, cur, rfl, hb2, hgg, rest⟩
  · exact .inl hn
  · refine .inr ⟨g, cap, cur, rfl, hb2, ?_, rest⟩
    rw [hb.block g (hB g rfl)]
    exact hgg
theorem ownsR.all {w w' : World} {B : Nat} {e : TypeId} {v : Value} {l : List α} (h : ownsR w B e v l) (hb : Below w.heap.size w w') : ownsR w' B e v l :=
  h.below hb fun k hk => (h.lt k hk).2
theorem ownsR.mono {w : World} {B B' : Nat} {e : TypeId} {v : Value} {l : List α} (h : ownsR w B e v l) (hB : B' ≤ B) : ownsR w B' e v l := by
  refine ⟨h.1, ?_⟩
  rcases h.2 with hn | ⟨g, cap, cur, rfl, hb2, rest⟩
  · exact .inl hn
  · exact .inr ⟨g, cap, cur, rfl, by omega, rest⟩
theorem ownsR.qta {w : World} {B : Nat} {e : TypeId} {v : Value} {l : List α} (h : ownsR w B e v l) {a : Addr} (ha : a.block < B) (u : Value) : ownsR (w.setCell a u) B e v l := ownsRow_setCell_below h ha u
theorem ownsR.slice {w : World} {B : Nat} {e : TypeId} {v : Value} {l : List α} (h : ownsR w B e v l) : ∃ ao cap, v = .slice ao l.length cap := by
  rcases h.2 with ⟨rfl, hn⟩ | ⟨g, cap, cur, rfl, _⟩
  · rw [hn]; exact ⟨_, _, rfl⟩
  · exact ⟨_, _, rfl⟩

theorem flat_set {l : List α} {i j : Nat} {x x' : α} {u : Value} (hi : l[i]? = some x) (hj : j < width α) (hc : cells x' = (cells x).set j u) : (l.flatMap cells).set (i * width α + j) u = (l.set i x').flatMap cells := by
  apply List.ext_getElem?
  intro m
  have hpos : 0 < width α := Rec.pos
  have hm : m / width α * width α + m % width α = m := by rw [Nat.mul_comm]; exact Nat.div_add_mod m _
  have h3 : m % width α < width α := Nat.mod_lt _ hpos
  have e := flat_at (l.set i x') (m / width α) (m % width α) h3
  have e0 := flat_at l (m / width α) (m % width α) h3
  rw [hm] at e e0
  have hil : i < l.length := (List.getElem?_eq_some_iff.1 hi).1
  have hlt : i * width α + j < (l.flatMap cells).length := by
    rw [flat_length]
    have : (i + 1) * width α ≤ l.length * width α := Nat.mul_le_mul_right _ hil
    rw [Nat.add_mul] at this
    omega
  rw [e, List.getElem?_set, List.getElem?_set]
  by_cases hq : i = m / width α
  · subst hq
    by_cases hr : j = m % width α
    · subst hr
      rw [if_pos hm, if_pos hlt, if_pos rfl, if_pos hil, Option.bind_some, hc, List.getElem?_set, if_pos rfl, if_pos (by rw [Rec.len]; exact h3)]
    · rw [if_neg (by omega), if_pos rfl, if_pos hil, Option.bind_some, hc, List.getElem?_set, if_neg hr, e0, hi]
      rfl
  · rw [if_neg hq, e0, if_neg]
    intro h
    apply hq
    rw [← h, Nat.mul_comm, Nat.mul_add_div hpos, Nat.div_eq_of_lt hj, Nat.add_zero]

theorem ownsR.put {w : World} {B : Nat} {e : TypeId} {g n cap : Nat} {l : List α} (h : ownsR w B e (.slice (some ⟨g, 0, none⟩) n cap) l) {i j : Nat} {x : α} (x' : α) {u : Value} (hi : l[i]? = some x) (hj : j < width α) (hc : cells x' = (cells x).set j u) :
    ownsR (w.setCell ⟨g, i * width α + j, none⟩ u) B e (.slice (some ⟨g, 0, none⟩) n cap) (l.set i x') := by
  have hn : n = l.length := by
    rcases h.2 with ⟨h', _⟩ | ⟨g', cap', cur, h', _⟩
    · simp at h'
    · simp only [Value.slice.injEq] at h'
      exact h'.2.1
  subst hn
  have := (World.ownsRow.stored h (i * width α + j) u).1
  unfold ownsR
  rw [← flat_set hi hj hc]
  simpa using this
theorem ownsR.at {w : World} {B : Nat} {e : TypeId} {g n cap : Nat} {l : List α} (h : ownsR w B e (.slice (some ⟨g, 0, none⟩) n cap) l) {i : Nat} {x : α} (hi : l[i]? = some x) :
    g < w.heap.size ∧ B ≤ g ∧ n = l.length ∧ ∀ j, j < width α → w.cell? ⟨g, i * width α + j, none⟩ = (cells x)[j]? ∧ w.frozen? ⟨g, i * width α + j, none⟩ = false := by
  have hn : n = l.length := by
    rcases h.2 with ⟨h', _⟩ | ⟨g', cap', cur, h', _⟩
    · simp at h'
    · simp only [Value.slice.injEq] at h'
      exact h'.2.1
  subst hn
  refine ⟨(h.lt g rfl).2, (h.lt g rfl).1, rfl, fun j hj => ⟨?_, World.ownsRow.frozenAt h _⟩⟩
  have hil : i < l.length := (List.getElem?_eq_some_iff.1 hi).1
  rw [World.ownsRow.cellAt h _ (by
    have : (i + 1) * width α ≤ l.length * width α := Nat.mul_le_mul_right _ hil
    rw [Nat.add_mul] at this
    omega), flat_at l i j hj, hi]
  rfl

theorem qkc {P : Program} (w w0 : World) {ops : Array Oper} {rest : List Oper} {o : Oper} {a : Act} {Q : Exit → Act → World → Prop} (hgd : o.guard = none) (s x : Operand) (t : TypeId)
    (ho : o.op = .call { callee := .builtin .append, args := #[s, x], argTypes := #[t, t] })
    (B : Nat) (e : TypeId) (z : Value) (bytes : Nat) (ht : P.underlying t = some (.slice e)) (hi : (P.info? e).map (fun i => (i.zero, i.size, i.bytes)) = some (some z, width α, bytes)) (hz : z.cells.size = width α)
    (v : Value) (l : List α) (hs : a.eval s = v) (hown : ownsR w B e v l) (hbel : Below B w0 w)
    (b c : Nat) (n : α) (hx : a.eval x = .slice (some ⟨b, 0, none⟩) 1 c) (hc : ∀ j u, (cells n)[j]? = some u → w.cell? ⟨b, j, none⟩ = some u ∧ u.oneCell' = true)
    (hlen : l.length ≤ 1048576) (hby : bytes ≤ 134217000) (hB : B ≤ w.heap.size)
    (h : ∀ v' w', ownsR w' B e v' (l ++ [n]) → Below B w0 w' → w.heap.size ≤ w'.heap.size → wpList P ops Q rest (a.put o.dst v') w') : wpList P ops Q (o :: rest) a w := by
  obtain ⟨i0, hi0, hz0, hz1, hz2⟩ := info_parts hi
  refine wpList_append_own w hgd s x t ho B e i0 z (width α) bytes ht hi0 hz0 hz1 hz2 hz Rec.pos v l.length _ hs hown ⟨b, 0, none⟩ 1 c (cells n) hx (by rw [Rec.len]; simp) ?_ ?_ (by unfold maxLen; omega) ?_ hB ?_
  · intro j u hj
    have := (hc j u hj).1
    by_cases h0 : j = 0
    · subst h0; simpa [Addr.add] using this
    · simpa [Addr.add, h0] using this
  · intro u hu
    obtain ⟨j, hj⟩ := List.getElem?_of_mem hu
    exact (hc j u hj).2
  · have : (l.length + 1) * bytes ≤ 1048577 * 134217000 := Nat.mul_le_mul (by omega) hby
    omega
  · intro v' w' h1 h2 _
    refine h v' w' (by simpa [ownsR, Rec.len] using h1) (hbel.grown h2 hB fun k hk => (hown.lt k hk).1) h2.size

end
end Go.Proofs.YtpjpheicldegkaaGreatDoor

namespace Go.Proofs.YtpjpheicldegkaaGreatDoor
open Go Go.RowKit
theorem qia {w w' : World} {p : Addr} {v : Value} (hb : Below w.heap.size w w') (h : w.cell? p = some v) : w'.cell? p = some v := (hb.cell (World.block_lt_of_cell? w p h)).trans h
theorem qma {w w' : World} {o : Obj} (hb : Below (w.alloc o).heap.size (w.alloc o) w') : Below w.heap.size w w' := ((Below.refl _ w).alloc (Nat.le_refl _) _).trans (hb.mono (by simp))
section
variable {α β : Type} [Rec α] [Rec β]
theorem ownsR.other {w w' : World} {B : Nat} {e : TypeId} {v : Value} {l : List α} {r : Option Nat} (h : ownsR w B e v l) (hg : w.grownBy w' r) (hne : v.ownBlock = none ∨ v.ownBlock ≠ r) : ownsR w' B e v l := World.ownsRow.kept h hg hne
end
end Go.Proofs.YtpjpheicldegkaaGreatDoor

namespace Go.Proofs.YtpjpheicldegkaaGreatDoor
open Go Go.RowKit

def putAll (a : Act) : List (Nat × Value) → Act
  | [] => a
  | x :: l => putAll (a.put (some x.1) x.2) l

theorem wp_puts {P : Program} {c : Code} {Q : Exit → Act → World → Prop} {a : Act} {w : World} {α : Type} (f : α → List (Nat × Value)) (F : α → World → Prop)
    (h : c.wp P (fun e a' w' => e = .normal ∧ ∃ x : α, a' = putAll a (f x) ∧ F x w') a w) (h2 : ∀ x w', F x w' → Q .normal (putAll a (f x)) w') : c.wp P Q a w :=
  Go.wp_mono h fun e a' w' => by
    rintro ⟨rfl, x, rfl, hF⟩
    exact h2 x w' hF

structure NewRow {α : Type} [Rec α] (w0 w' : World) (e : TypeId) (X : Nat) (v : Value) (l : List α) : Prop where
  below : Below w0.heap.size w0 w'
  cellAt : w'.cell? ⟨X, 0, none⟩ = some v
  old : w0.heap.size ≤ X
  own : ownsR w' w0.heap.size e v l
  apart : some X ≠ v.ownBlock

section
variable {α : Type} [Rec α]
end
end Go.Proofs.YtpjpheicldegkaaGreatDoor

namespace Go.Proofs.YtpjpheicldegkaaGreatDoor
open Go Go.RowKit
section
variable {α : Type} [Rec α] [Inhabited α]
def filledR (l : List α) (k : Nat) : List α := l.take k ++ List.replicate (l.length - k) default
omit [Rec α] in
end
section
variable {α : Type} (mk : Int → α) (s : Int)
def markedR (x : Int) (l : List α) (j : Nat) : List α := (List.range j).map (fun i : Nat => mk (x + s * (i : Int))) ++ l.drop j
def marksR (x : Int) (n : Nat) : List α := (List.range n).map (fun i : Nat => mk (x + s * (i : Int)))
variable {mk : Int → α} {s : Int}
end
end Go.Proofs.YtpjpheicldegkaaGreatDoor

namespace Go.Proofs.YtpjpheicldegkaaGreatDoor
open Go Go.RowKit
theorem info5 : (Tryz.prog.info? 5).map (fun i => (i.zero, i.size, i.bytes)) = some (some (.int .u8 0), 1, 1) := by kernel_rfl
theorem info3 : (Tryz.prog.info? 3).map (fun i => (i.zero, i.size, i.bytes)) = some (some (.int .i64 0), 1, 8) := by kernel_rfl
theorem info9 : (Tryz.prog.info? 9).map (fun i => (i.zero, i.size, i.bytes)) = some (some (.string ByteArray.empty), 1, 16) := by kernel_rfl
end Go.Proofs.YtpjpheicldegkaaGreatDoor

namespace Go.Proofs.YtpjpheicldegkaaGreatDoor
open Go Go.RowKit

def decF : Nat → Nat → List Int
  | 0, n => [48 + (n : Int)]
  | f + 1, n => if n < 10 then [48 + (n : Int)] else decF f (n / 10) ++ [48 + (n : Int) % 10]
def decI (n : Nat) : List Int := decF n n
theorem decF_enough : ∀ (f g n : Nat), n ≤ f → n ≤ g → decF f n = decF g n
  | 0, 0, n, _, _ => rfl
  | 0, g + 1, n, h, _ => by have : n = 0 := by omega
                            subst this; simp [decF]
  | f + 1, 0, n, _, h => by have : n = 0 := by omega
                            subst this; simp [decF]
  | f + 1, g + 1, n, h1, h2 => by
    unfold decF
    by_cases h : n < 10
    · rw [if_pos h, if_pos h]
    · rw [if_neg h, if_neg h, decF_enough f g (n / 10) (by omega) (by omega)]
theorem qnc {n : Nat} (h : n < 10) : decI n = [48 + (n : Int)] := by
  unfold decI
  match n, h with
  | 0, _ => rfl
  | k + 1, h => rw [decF, if_pos h]
theorem decI_more {n : Nat} (h : ¬ n < 10) : decI n = decI (n / 10) ++ [48 + (n : Int) % 10] := by
  unfold decI
  match n, h with
  | k + 1, h => rw [decF, if_neg h, decF_enough k ((k + 1) / 10) _ (by omega) (by omega)]

def decPre (m : Nat) : List Int := if m = 0 then [] else decI m
theorem decPre_step {m : Nat} (h : m ≠ 0) (t : List Int) : decPre m ++ t = decPre (m / 10) ++ ((48 + (m : Int) % 10) :: t) := by
  unfold decPre
  rw [if_neg h]
  by_cases hm : m < 10
  · rw [qnc hm, if_pos (by omega)]
    simp
    omega
  · rw [decI_more hm, if_neg (by omega)]
    simp

theorem bstr_cons (x : Int) (t : List Int) : bstr [x] ++ bstr t = bstr (x :: t) := by
  apply ByteArray.ext
  simp [bstr]
theorem qra (l : List Int) : (bstr l).size = l.length := by simp [bstr, ByteArray.size]

theorem qcc (wr : World) (x : Int) :
    (convert 22 9 (.slice (some ⟨wr.heap.size, 0, none⟩) 1 1)).run Tryz.prog (wr.alloc (.cells #[.int .u8 x] 5)) = .ok (.string (bstr [x])) (wr.alloc (.cells #[.int .u8 x] 5)) :=
  qdb (P := Tryz.prog) (B := 0) 22 9 (show ownsB (wr.alloc (.cells #[.int .u8 x] 5)) 0 5 (.slice (some ⟨wr.heap.size, 0, none⟩) 1 1) [x] from
    World.ownsRow_lit wr #[.int .u8 x] 1 (Nat.zero_le _) (by decide) rfl) Tryz.underlying22 Tryz.underlying5 Tryz.underlying9
end Go.Proofs.YtpjpheicldegkaaGreatDoor

namespace Go.Proofs.YtpjpheicldegkaaGreatDoor
open Go Go.RowKit

theorem decI_len : ∀ (k n : Nat), n < 10 ^ (k + 1) → (decI n).length ≤ k + 1
  | 0, n, h => by rw [qnc (by simpa using h)]; simp
  | k + 1, n, h => by
    by_cases hn : n < 10
    · rw [qnc hn]; simp
    · rw [decI_more hn]
      have := decI_len k (n / 10) (by rw [Nat.pow_succ] at h; omega)
      simp; omega
def markB (k : Nat) : ByteArray := bstr (109 :: decI k)
def mkT (x : Int) : ByteArray := markB x.toNat
end Go.Proofs.YtpjpheicldegkaaGreatDoor

namespace Go.Proofs.YtpjpheicldegkaaGreatDoor
open Go Go.RowKit

structure Wd (w : World) where
  at' : World
  ok : Below w.heap.size w at'
instance {w : World} : Nonempty (Wd w) := ⟨⟨w, Below.refl _ _⟩⟩
theorem Wd.cell {w : World} {a : Addr} {v : Value} (h : w.cell? a = some v) : ∀ x : Wd w, x.at'.cell? a = some v :=
  fun x => (x.ok.cell (World.block_lt_of_cell? w a h)).trans h

theorem qba {P : Program} {id : Nat} {Q : Exit → Act → World → Prop} {a : Act} {w : World} {l : List Oper} (hm : P.follows .mixedOrders = true) (hB : Region.lexB .any l.toArray = true)
    (h : wpQuiet P l.toArray (fun w' => ∃ x : Wd w, w' = x.at') (fun a' => ∀ w', (∃ x : Wd w, w' = x.at') → Q .normal a' w') l a) : (Code.region id l.toArray true).wp P Q a w :=
  wp_region_quiet (C := fun w' => ∃ x : Wd w, w' = x.at') hm hB ⟨⟨_, (Below.refl _ w).drew⟩, rfl⟩ (by simpa using h)

theorem qwa {P : Program} {f : FuncId} {args : Array Value} {w : World} {x : Wd w} {v : Value}
    (h : Calls P f args x.at' fun e w' => e = .returned v ∧ Below x.at'.heap.size x.at' w') : Calls P f args x.at' fun e w'' => e = .returned v ∧ ∃ y : Wd w, w'' = y.at' :=
  h.mono fun _ w' ⟨he, hb⟩ => ⟨he, ⟨w', x.ok.trans (hb.mono x.ok.size)⟩, rfl⟩
theorem qaa {P : Program} {f : FuncId} {args : Array Value} {w : World} {x : Wd w} {v : Value}
    (h : Calls P f args x.at' fun e w' => e = .returned v ∧ w' = x.at') : Calls P f args x.at' fun e w'' => e = .returned v ∧ ∃ y : Wd w, w'' = y.at' :=
  h.mono fun _ _ ⟨he, hb⟩ => ⟨he, x, hb⟩
end Go.Proofs.YtpjpheicldegkaaGreatDoor

namespace Go.Proofs.YtpjpheicldegkaaGreatDoor
open Go Go.RowKit

def ownsS (w : World) (B : Nat) (e : TypeId) (v : Value) (l : List ByteArray) : Prop := w.ownsRow B e 1 v l.length (l.map Value.string)

theorem ownsS.alloc {w : World} {B : Nat} {e : TypeId} {v : Value} {l : List ByteArray} (h : ownsS w B e v l) (o : Obj) : ownsS (w.alloc o) B e v l := World.ownsRow.alloc h o
theorem ownsS.drew {w : World} {B : Nat} {e : TypeId} {v : Value} {l : List ByteArray} (h : ownsS w B e v l) : ownsS w.drew B e v l := World.ownsRow.drew h
theorem qmd (w : World) (B cap : Nat) (e : TypeId) (cur : Array Value) (hb : B ≤ w.heap.size) (hm : cap ≤ maxLen) (hs : cur.size = cap) :
    ownsS (w.alloc (.cells cur e)) B e (.slice (some ⟨w.heap.size, 0, none⟩) 0 cap) [] :=
  World.ownsRow_made w cur cap hb hm (by omega)
theorem ownsS.below {w w' : World} {B B' : Nat} {e : TypeId} {v : Value} {l : List ByteArray} (h : ownsS w B e v l) (hb : Below B' w w') (hB : ∀ k, v.ownBlock = some k → k < B') : ownsS w' B e v l := by
  refine ⟨h.1, ?_⟩
  rcases h.2 with hn | ⟨g, cap, cur, rfl, hb2, hgg, rest⟩
  · exact .inl hn
  · refine .inr ⟨g, cap, cur, rfl, hb2, ?_, rest⟩
    rw [hb.block g (hB g rfl)]
    exact hgg
theorem ownsS.all {w w' : World} {B : Nat} {e : TypeId} {v : Value} {l : List ByteArray} (h : ownsS w B e v l) (hb : Below w.heap.size w w') : ownsS w' B e v l :=
  h.below hb fun k hk => (h.lt k hk).2
theorem ownsS.mono {w : World} {B B' : Nat} {e : TypeId} {v : Value} {l : List ByteArray} (h : ownsS w B e v l) (hB : B' ≤ B) : ownsS w B' e v l := by
  refine ⟨h.1, ?_⟩
  rcases h.2 with hn | ⟨g, cap, cur, rfl, hb2, rest⟩
  · exact .inl hn
  · exact .inr ⟨g, cap, cur, rfl, by omega, rest⟩

theorem wpList_append_text {P : Program} (w w0 : World) {ops : Array Oper} {rest : List Oper} {o : Oper} {a : Act} {Q : Exit → Act → World → Prop} (hgd : o.guard = none) (s x : Operand) (t : TypeId)
    (ho : o.op = .call { callee := .builtin .append, args := #[s, x], argTypes := #[t, t] })
    (B : Nat) (e : TypeId) (ht : P.underlying t = some (.slice e)) (hi : (P.info? e).map (fun i => (i.zero, i.size, i.bytes)) = some (some (.string ByteArray.empty), 1, 16))
    (v : Value) (l : List ByteArray) (hs : a.eval s = v) (hown : ownsS w B e v l) (hbel : Below B w0 w)
    (ad : Addr) (c : Nat) (n : ByteArray) (hx : a.eval x = .slice (some ad) 1 c) (hc : w.cell? ad = some (.string n))
    (hlen : l.length < 8796093022207) (hB : B ≤ w.heap.size)
    (h : ∀ v' w', ownsS w' B e v' (l ++ [n]) → Below B w0 w' → wpList P ops Q rest (a.put o.dst v') w') : wpList P ops Q (o :: rest) a w := by
  obtain ⟨i0, hi0, hz0, hz1, hz2⟩ := info_parts hi
  refine wpList_append_own w hgd s x t ho B e i0 (.string ByteArray.empty) 1 16 ht hi0 hz0 hz1 hz2 rfl (by decide) v l.length _ hs hown ad 1 c [.string n] hx rfl ?_ ?_ (by unfold maxLen; omega) (by omega) hB ?_
  · intro j u hj
    match j, hj with
    | 0, hj => simp at hj; subst hj; simpa [Addr.add] using hc
  · intro u hu; simp at hu; subst hu; rfl
  · intro v' w' h1 h2 _
    refine h v' w' (by simpa [ownsS] using h1) (hbel.grown h2 hB fun k hk => (hown.lt k hk).1)

theorem ownsS_form {w : World} {B : Nat} {e : TypeId} {v : Value} {l : List ByteArray} (h : ownsS w B e v l) (hne : l ≠ []) :
    ∃ g cap, v = .slice (some ⟨g, 0, none⟩) l.length cap ∧ B ≤ g ∧ g < w.heap.size ∧ l.length ≤ cap ∧ (∀ j (hj : j < l.length), w.cell? ⟨g, j, none⟩ = some (.string l[j])) ∧ ∀ j, w.frozen? ⟨g, j, none⟩ = false := by
  rcases h.2 with ⟨_, hn⟩ | ⟨g, cap, cur, rfl, hb, hg, hc, _⟩
  · exact absurd (List.eq_nil_of_length_eq_zero hn) hne
  · refine ⟨g, cap, rfl, hb, (h.lt g rfl).2, hc, fun j hj => ?_, fun j => World.ownsRow.frozenAt h j⟩
    rw [World.ownsRow.cellAt h j (by omega)]
    simp [hj]
theorem ownsS_empty {w : World} {B : Nat} {e : TypeId} {v : Value} (h : ownsS w B e v []) : ∃ ao cap, v = .slice ao 0 cap := by
  rcases h.2 with ⟨h, _⟩ | ⟨g, cap, cur, rfl, _⟩
  · exact ⟨none, 0, h⟩
  · exact ⟨_, _, rfl⟩
theorem ownsS_cell {w : World} {B : Nat} {e : TypeId} {g n cap : Nat} {l : List ByteArray} (h : ownsS w B e (.slice (some ⟨g, 0, none⟩) n cap) l) {k : Nat} (hk : k < n) :
    ∃ t, l[k]? = some t ∧ w.cell? ⟨g, k, none⟩ = some (.string t) ∧ w.frozen? ⟨g, k, none⟩ = false ∧ g < w.heap.size ∧ n = l.length := by
  have hn : n = l.length := by
    rcases h.2 with ⟨h', _⟩ | ⟨g', cap', cur, h', _⟩
    · simp at h'
    · simp only [Value.slice.injEq] at h'
      exact h'.2.1
  subst hn
  have hc := World.ownsRow.cellAt h k (by omega)
  refine ⟨l[k], List.getElem?_eq_getElem hk, ?_, World.ownsRow.frozenAt h k, (h.lt g rfl).2, rfl⟩
  rw [hc]
  simp [hk]
end Go.Proofs.YtpjpheicldegkaaGreatDoor

namespace Go.Proofs.YtpjpheicldegkaaGreatDoor
open Go.RowKit

set_option maxRecDepth 10000 in
set_option maxHeartbeats 400000 in
theorem qpc (n : Nat) (w : World) (hn : n ≤ 1000000000) :
    Calls Tryz.prog 62 #[.int .i64 n] w fun e w' => e = .returned (.string (bstr (varI n))) ∧ Below w.heap.size w w' := by
  go_enter Tryz.func62, Tryz.ntmps62
  go_wp2
  go_loopw [0, 3] (fun c out wr => ∃ (m : Nat) (pre : List Int), c = .int .i64 m ∧ pre.length + m ≤ n ∧ varI n = pre ++ varI m ∧ ownsB wr w.heap.size 5 out pre ∧ Below w.heap.size w wr) (fun c _ _ => (intOf c).toNat)
  case atStart => exact ⟨n, [], rfl, by simp, by simp, ownsB_made _ _ _ _ _ (Nat.le_refl _) (by decide) rfl, (Below.refl _ _).alloc (Nat.le_refl _) _⟩
  case round =>
    obtain ⟨m, pre, rfl, hle, heq, hown, hbel⟩ := hrel
    have HE : Hid (varI n = pre ++ varI m) := heq
    clear heq
    have hsz := hbel.size
    by_cases hm : 127 < m
    · go_wp2_with (at_builtin; refine wpList_append_byte _ w rfl (.tmp 7) (.tmp 12) 22 rfl w.heap.size 5 Tryz.underlying22 info5 _ pre rfl (hown.alloc _) (hbel.alloc hsz _) ⟨wr.heap.size, 0, none⟩ 1 ((m : Int) % 128 + 128) rfl ?c1 ?c2 ?c3 ?_)
      case c1 => simp
      case c2 => omega
      case c3 => simp; omega
      intro v' w1 hown1 hbel1
      clear hown hbel
      go_wp2
      go_roundw
      case rel => exact ⟨m / 128, pre ++ [(m : Int) % 128 + 128], by go_num, by simp; omega, by rw [HE.out, qsb hm]; simp, hown1, hbel1⟩
      case measure => simp [intOf]; omega
    · go_wp2_with (at_builtin; refine wpList_append_byte _ w rfl (.tmp 16) (.tmp 19) 22 rfl w.heap.size 5 Tryz.underlying22 info5 _ pre rfl (hown.alloc _) (hbel.alloc hsz _) ⟨wr.heap.size, 0, none⟩ 1 (m : Int) rfl ?d1 ?d2 ?d3 ?_)
      case d1 => simp
      case d2 => omega
      case d3 => simp; omega
      intro v' w1 hown1 hbel1
      have hcv := qdb (P := Tryz.prog) 22 9 hown1 Tryz.underlying22 Tryz.underlying5 Tryz.underlying9
      clear hown hbel
      go_wp2
      go_ret
      exact ⟨by rw [HE.out, qcb hm]; rfl, hbel1⟩

set_option maxRecDepth 10000 in
set_option maxHeartbeats 400000 in
theorem qdd (n : Nat) (w : World) (hn : n ≤ 1000000000) :
    Calls Tryz.prog 47 #[.int .i64 n] w fun e w' => e = .returned (.tuple #[.string (bstr (varI n)), .bool true]) ∧ Below w.heap.size w w' := by
  have hmk : ∀ w, (Instr.makeSlice 22 (.int .i64 0) (.int .i64 5)).run Tryz.prog w = .ok (.slice (some ⟨w.heap.size, 0, none⟩) 0 5) (w.alloc (.cells #[.int .u8 0, .int .u8 0, .int .u8 0, .int .u8 0, .int .u8 0] 5)) := fun _ => by kernel_rfl
  have h0 : ¬ (n : Int) < 0 := by omega
  have h1 : ¬ 1000000000 < (n : Int) := by omega
  go_enter Tryz.func47, Tryz.ntmps47
  go_wp2
  go_loopw [0, 4] (fun c out wr => ∃ (m : Nat) (pre : List Int), c = .int .i64 m ∧ pre.length + m ≤ n ∧ varI n = pre ++ varI m ∧ ownsB wr w.heap.size 5 out pre ∧ Below w.heap.size w wr) (fun c _ _ => (intOf c).toNat)
  case atStart => exact ⟨n, [], rfl, by simp, by simp, ownsB_made _ _ _ _ _ (Nat.le_refl _) (by decide) rfl, (Below.refl _ _).alloc (Nat.le_refl _) _⟩
  case round =>
    obtain ⟨m, pre, rfl, hle, heq, hown, hbel⟩ := hrel
    have HE : Hid (varI n = pre ++ varI m) := heq
    clear heq
    have hsz := hbel.size
    by_cases hm : 127 < m
    · go_wp2_with (at_builtin; refine wpList_append_byte _ w rfl (.tmp 14) (.tmp 19) 22 rfl w.heap.size 5 Tryz.underlying22 info5 _ pre rfl (hown.alloc _) (hbel.alloc hsz _) ⟨wr.heap.size, 0, none⟩ 1 ((m : Int) % 128 + 128) rfl ?c1 ?c2 ?c3 ?_)
      case c1 => simp
      case c2 => omega
      case c3 => simp; omega
      intro v' w1 hown1 hbel1
      clear hown hbel
      go_wp2
      go_roundw
      case rel => exact ⟨m / 128, pre ++ [(m : Int) % 128 + 128], by go_num, by simp; omega, by rw [HE.out, qsb hm]; simp, hown1, hbel1⟩
      case measure => simp [intOf]; omega
    · go_wp2_with (at_builtin; refine wpList_append_byte _ w rfl (.tmp 23) (.tmp 26) 22 rfl w.heap.size 5 Tryz.underlying22 info5 _ pre rfl (hown.alloc _) (hbel.alloc hsz _) ⟨wr.heap.size, 0, none⟩ 1 (m : Int) rfl ?d1 ?d2 ?d3 ?_)
      case d1 => simp
      case d2 => omega
      case d3 => simp; omega
      intro v' w1 hown1 hbel1
      have hcv := qdb (P := Tryz.prog) 22 9 hown1 Tryz.underlying22 Tryz.underlying5 Tryz.underlying9
      clear hown hbel
      go_wp2
      go_ret2
      exact ⟨by rw [HE.out, qcb hm]; rfl, hbel1⟩

set_option maxRecDepth 10000 in
set_option maxHeartbeats 400000 in
theorem l01In_yes (x a b : Int) (w : World) (h1 : a ≤ x) (h2 : x ≤ b) :
    Calls Tryz.prog 24 #[.int .i64 x, .int .i64 a, .int .i64 b] w fun e w' => e = .returned (.bool true) ∧ w' = w := by
  go_enter Tryz.func24, Tryz.ntmps24
  go_wp2
  go_ret
  exact ⟨rfl, rfl⟩

set_option maxRecDepth 10000 in
set_option maxHeartbeats 400000 in
theorem l01In_no (x a b : Int) (w : World) (h : x < a ∨ b < x) :
    Calls Tryz.prog 24 #[.int .i64 x, .int .i64 a, .int .i64 b] w fun e w' => e = .returned (.bool false) ∧ w' = w := by
  by_cases h1 : a ≤ x
  · have h2 : b < x := by omega
    clear h
    go_enter Tryz.func24, Tryz.ntmps24
    go_wp2
    go_ret
    exact ⟨congrArg Ending.returned (congrArg Value.bool (decide_eq_false (by omega))), rfl⟩
  · clear h
    go_enter Tryz.func24, Tryz.ntmps24
    go_wp2
    go_ret
    exact ⟨rfl, rfl⟩

end Go.Proofs.YtpjpheicldegkaaGreatDoor

namespace Go.Proofs.YtpjpheicldegkaaGreatDoor
open Go Go.RowKit

def valN : List Nat → Nat
  | [] => 0
  | b :: t => b % 128 + 128 * valN t

theorem valN_snoc : ∀ (l : List Nat) (c : Nat), valN (l ++ [c]) = valN l + c % 128 * 128 ^ l.length
  | [], c => by simp [valN]
  | b :: t, c => by
    simp only [List.cons_append, valN, valN_snoc t c, List.length_cons]
    rw [Nat.mul_add, Nat.pow_succ]
    have : 128 * (c % 128 * 128 ^ t.length) = c % 128 * (128 ^ t.length * 128) := by
      rw [Nat.mul_comm 128, Nat.mul_assoc]
    omega

def ints (l : List Nat) : List Int := l.map Int.ofNat

theorem varI_nought : ∀ (f n : Nat) (q : List Int), n ≤ f → varI n = q ++ [0] → n = 0 ∧ q = []
  | 0, n, q, h, e => by
    have : n = 0 := by omega
    subst this
    rw [qcb (by omega)] at e
    refine ⟨rfl, ?_⟩
    have := congrArg List.length e
    simp at this
    exact this
  | f + 1, n, q, h, e => by
    by_cases hn : 127 < n
    · rw [qsb hn] at e
      match q, e with
      | [], e => simp at e; omega
      | x :: q', e =>
        simp at e
        have := (varI_nought f (n / 128) q' (by omega) e.2).1
        omega
    · rw [qcb hn] at e
      have h1 := congrArg List.length e
      simp at h1
      subst h1
      simp at e
      exact ⟨by omega, rfl⟩

theorem varI_valN : ∀ (p : List Nat) (c : Nat), (∀ b ∈ p, 128 ≤ b ∧ b < 256) → c < 128 → (p = [] ∨ c ≠ 0) → varI (valN (p ++ [c])) = ints (p ++ [c])
  | [], c, _, hc, _ => by
    have : valN ([] ++ [c]) = c := by simp [valN]; omega
    rw [this, qcb (by omega)]
    rfl
  | b :: t, c, hb, hc, hne => by
    have hc0 : c ≠ 0 := by simpa using hne
    have ih := varI_valN t c (fun x hx => hb x (by simp [hx])) hc (Or.inr hc0)
    have hb0 := hb b (by simp)
    have hv : 0 < valN (t ++ [c]) := by
      rw [valN_snoc]
      have : 0 < c % 128 * 128 ^ t.length := Nat.mul_pos (by omega) (Nat.pow_pos (by decide))
      omega
    have e : valN (b :: t ++ [c]) = b % 128 + 128 * valN (t ++ [c]) := rfl
    rw [e, qsb (by omega)]
    have h2 : (b % 128 + 128 * valN (t ++ [c])) / 128 = valN (t ++ [c]) := by omega
    rw [h2, ih]
    show _ = (b : Int) :: ints (t ++ [c])
    congr 1
    omega

theorem varI_valN_not (p : List Nat) (hp : p ≠ []) : varI (valN (p ++ [0])) ≠ ints (p ++ [0]) := by
  intro e
  have : ints (p ++ [0]) = ints p ++ [0] := by simp [ints]
  rw [this] at e
  have := (varI_nought _ _ _ (Nat.le_refl _) e).2
  simp [ints] at this
  exact hp this

def rvGo (s : ByteArray) : Nat → Nat → Nat → Nat → Int × Int × Bool
  | 0, _, _, _ => (0, 0, false)
  | f + 1, i, k, n =>
    if h : i < s.size then
      if s[i].toNat < 128 then
        if 1000000000 < n + s[i].toNat % 128 * 128 ^ k ∨ (s[i].toNat = 0 ∧ 0 < k) then (0, 0, false)
        else (((n + s[i].toNat % 128 * 128 ^ k : Nat) : Int), (i : Int) + 1, true)
      else rvGo s f (i + 1) (k + 1) (n + s[i].toNat % 128 * 128 ^ k)
    else (0, 0, false)

theorem rvGo_end {s : ByteArray} {f i k n : Nat} (h : ¬ i < s.size) : rvGo s f i k n = (0, 0, false) := by
  cases f with
  | zero => rfl
  | succ f => rw [rvGo, dif_neg h]

theorem rvGo_more {s : ByteArray} {f i k n : Nat} (h : i < s.size) (hb : ¬ s[i].toNat < 128) : rvGo s (f + 1) i k n = rvGo s f (i + 1) (k + 1) (n + s[i].toNat % 128 * 128 ^ k) := by
  rw [rvGo, dif_pos h, if_neg hb]

theorem rvGo_bad {s : ByteArray} {f i k n : Nat} (h : i < s.size) (hb : s[i].toNat < 128) (hx : 1000000000 < n + s[i].toNat % 128 * 128 ^ k ∨ (s[i].toNat = 0 ∧ 0 < k)) : rvGo s (f + 1) i k n = (0, 0, false) := by
  rw [rvGo, dif_pos h, if_pos hb, if_pos hx]

theorem rvGo_ok {s : ByteArray} {f i k n : Nat} (h : i < s.size) (hb : s[i].toNat < 128) (hx : ¬ (1000000000 < n + s[i].toNat % 128 * 128 ^ k ∨ (s[i].toNat = 0 ∧ 0 < k))) :
    rvGo s (f + 1) i k n = (((n + s[i].toNat % 128 * 128 ^ k : Nat) : Int), (i : Int) + 1, true) := by
  rw [rvGo, dif_pos h, if_pos hb, if_neg hx]

def rv (s : ByteArray) (at' : Int) : Int × Int × Bool := if 0 ≤ at' ∧ at' ≤ s.size then rvGo s 5 at'.toNat 0 0 else (0, 0, false)

def rvV (r : Int × Int × Bool) : Value := .tuple #[.int .i64 r.1, .int .i64 r.2.1, .bool r.2.2]

def bytesAt (s : ByteArray) (at' : Nat) (p : List Nat) : Prop := at' + p.length ≤ s.size ∧ ∀ j (h : at' + j < s.size), j < p.length → p[j]? = some s[at' + j].toNat

theorem bytesAt_snoc {s : ByteArray} {at' : Nat} {p : List Nat} (h : bytesAt s at' p) (hl : at' + p.length < s.size) : bytesAt s at' (p ++ [s[at' + p.length].toNat]) := by
  refine ⟨by simp; omega, fun j hj hk => ?_⟩
  by_cases e : j < p.length
  · rw [List.getElem?_append_left e]; exact h.2 j hj e
  · have e2 : j = p.length := by simp at hk; omega
    subst e2
    simp

theorem extract_bytesAt {s : ByteArray} {at' : Nat} {p : List Nat} (h : bytesAt s at' p) : s.extract at' (at' + p.length) = bstr (ints p) := by
  apply ByteArray.ext
  apply Array.ext
  · simp [bstr, ints]; have := h.1; have : s.data.size = s.size := rfl; omega
  · intro i h1 h2
    have hi : i < p.length := by simpa [bstr, ints] using h2
    have hs : at' + i < s.size := by have := h.1; omega
    have := h.2 i hs hi
    have e : p[i] = s[at' + i].toNat := by simpa [List.getElem?_eq_getElem hi] using this
    simp [bstr, ints, e]
    rfl

theorem varI_range : ∀ (f n : Nat), n ≤ f → ∀ x ∈ varI n, 0 ≤ x ∧ x < 256
  | 0, n, h, x, hx => by
    rw [qcb (by omega)] at hx
    simp at hx; omega
  | f + 1, n, h, x, hx => by
    by_cases hn : 127 < n
    · rw [qsb hn] at hx
      rcases List.mem_cons.1 hx with rfl | hx
      · omega
      · exact varI_range f (n / 128) (by omega) x hx
    · rw [qcb hn] at hx
      simp at hx; omega

theorem bstr_inj {l m : List Int} (hl : ∀ x ∈ l, 0 ≤ x ∧ x < 256) (hm : ∀ x ∈ m, 0 ≤ x ∧ x < 256) (h : bstr l = bstr m) : l = m := by
  have h1 : (l.map fun n => UInt8.ofNat n.toNat) = m.map fun n => UInt8.ofNat n.toNat := by
    have := congrArg (fun b : ByteArray => b.data.toList) h
    simpa [bstr] using this
  clear h
  induction l generalizing m with
  | nil => simp at h1; exact h1.symm
  | cons x l ih =>
    match m, h1, hm with
    | y :: m, h1, hm =>
      simp only [List.map_cons, List.cons.injEq] at h1
      have hx := hl x (by simp)
      have hy := hm y (by simp)
      have e := congrArg UInt8.toNat h1.1
      simp only [UInt8.toNat_ofNat'] at e
      rw [ih (fun z hz => hl z (by simp [hz])) (fun z hz => hm z (by simp [hz])) h1.2]
      congr 1
      omega

theorem same_bytes {s : ByteArray} {a i N q : Nat} {p : List Nat} (hp : bytesAt s a p) (hk : a + p.length = i) (hq : 128 ^ p.length = q) (h3 : ∀ b ∈ p, 128 ≤ b ∧ b < 256) (hN : N = valN p)
    (hlt : i < s.size) (hb : s[i].toNat < 128) :
    ((bstr (varI (N + s[i].toNat % 128 * q))).toList == (s.extract a (i + 1)).toList) = !(decide (s[i].toNat = 0 ∧ a < i)) := by
  subst hk
  have e1 : s.extract a (a + p.length + 1) = bstr (ints (p ++ [s[a + p.length].toNat])) := by
    rw [← extract_bytesAt (bytesAt_snoc hp hlt)]
    simp [Nat.add_assoc]
  have e2 : N + s[a + p.length].toNat % 128 * q = valN (p ++ [s[a + p.length].toNat]) := by rw [valN_snoc, hq, ← hN]
  rw [e1, e2]
  generalize hc : s[a + p.length].toNat = c at *
  by_cases hz : c = 0 ∧ a < a + p.length
  · obtain ⟨rfl, hz⟩ := hz
    have hne : p ≠ [] := by intro e; subst e; simp at hz
    have := varI_valN_not p hne
    rw [decide_eq_true (show (0 : Nat) = 0 ∧ a < a + p.length from ⟨rfl, hz⟩)]
    refine beq_eq_false_iff_ne.2 ?_
    intro e
    rw [ByteArray.toList_eq, ByteArray.toList_eq] at e
    refine this (bstr_inj (varI_range _ _ (Nat.le_refl _)) ?_ (ByteArray.ext (Array.toList_inj.1 e)))
    intro x hx
    simp [ints] at hx
    rcases hx with ⟨y, hy, rfl⟩ | rfl
    · have := h3 y hy; omega
    · omega
  · rw [varI_valN p c h3 hb ?_]
    · simp only [decide_eq_false hz]; simp
    · by_cases hpe : p = []
      · exact Or.inl hpe
      · right
        intro e
        have : 0 < p.length := List.length_pos_iff.2 hpe
        exact hz ⟨e, by omega⟩

end Go.Proofs.YtpjpheicldegkaaGreatDoor

namespace Go.Proofs.YtpjpheicldegkaaGreatDoor
open Go Go.RowKit

theorem decI_ne : ∀ (f n : Nat), n ≤ f → decI n ≠ []
  | 0, n, h => by rw [qnc (by omega)]; simp
  | f + 1, n, h => by
    by_cases hn : n < 10
    · rw [qnc hn]; simp
    · rw [decI_more hn]; simp
theorem decI_head : ∀ (f n : Nat) (t : List Int), n ≤ f → decI n = 48 :: t → n = 0
  | 0, n, t, h, e => by omega
  | f + 1, n, t, h, e => by
    by_cases hn : n < 10
    · rw [qnc hn] at e
      simp at e
      omega
    · rw [decI_more hn] at e
      match hd : decI (n / 10) with
      | [] => exact absurd hd (decI_ne _ _ (Nat.le_refl _))
      | x :: t' =>
        rw [hd] at e
        simp at e
        obtain ⟨rfl, _⟩ := e
        have := decI_head f (n / 10) t' (by omega) hd
        omega
theorem decI_range : ∀ (f n : Nat), n ≤ f → ∀ x ∈ decI n, 0 ≤ x ∧ x < 256
  | 0, n, h, x, hx => by
    rw [qnc (by omega)] at hx
    simp at hx; omega
  | f + 1, n, h, x, hx => by
    by_cases hn : n < 10
    · rw [qnc hn] at hx
      simp at hx; omega
    · rw [decI_more hn] at hx
      rcases List.mem_append.1 hx with hx | hx
      · exact decI_range f (n / 10) (by omega) x hx
      · simp at hx; omega

def valD : List Nat → Nat := fun l => l.foldl (fun a d => 10 * a + d) 0
theorem valD_snoc (l : List Nat) (d : Nat) : valD (l ++ [d]) = 10 * valD l + d := by simp [valD, List.foldl_append]
theorem valD_lt (l : List Nat) : (∀ d ∈ l, d < 10) → valD l < 10 ^ l.length := by
  have h : ∀ (n : Nat) (l : List Nat), l.length = n → (∀ d ∈ l, d < 10) → valD l < 10 ^ l.length := by
    intro n
    induction n with
    | zero => intro l hl _; have : l = [] := List.eq_nil_of_length_eq_zero hl; subst this; simp [valD]
    | succ n ih =>
      intro l hl hd
      have hne : l ≠ [] := by intro e; subst e; simp at hl
      have e := List.dropLast_concat_getLast hne
      rw [← e, valD_snoc]
      have h1 := ih l.dropLast (by simp; omega) (fun d hd' => hd d (List.dropLast_subset l hd'))
      have h2 := hd (l.getLast hne) (List.getLast_mem hne)
      simp only [List.length_append, List.length_cons, List.length_nil, Nat.zero_add, Nat.pow_succ]
      omega
  exact h _ l rfl

def figs (l : List Nat) : List Int := l.map fun (d : Nat) => 48 + Int.ofNat d

theorem valD_pos : ∀ (l : List Nat) (x : Nat) , x ≠ 0 → 0 < valD (x :: l) := by
  intro l x hx
  have h : ∀ (l : List Nat) (a : Nat), 0 < a → 0 < l.foldl (fun a d => 10 * a + d) a := by
    intro l
    induction l with
    | nil => intro a ha; simpa using ha
    | cons y l ih => intro a ha; simp only [List.foldl_cons]; exact ih _ (by omega)
  simp only [valD, List.foldl_cons]
  exact h l _ (by omega)

theorem decI_valD (n : Nat) : ∀ (l : List Nat), l.length = n → l ≠ [] → (∀ d ∈ l, d < 10) → (l.length = 1 ∨ l.head? ≠ some 0) → decI (valD l) = figs l := by
  induction n with
  | zero => intro l hl hne; exact absurd (List.eq_nil_of_length_eq_zero hl) hne
  | succ n ih =>
    intro l hl hne hd hz
    have e := List.dropLast_concat_getLast hne
    have h2 := hd (l.getLast hne) (List.getLast_mem hne)
    rw [← e, valD_snoc]
    by_cases hn : n = 0
    · subst hn
      have : l.dropLast = [] := List.eq_nil_of_length_eq_zero (by simp; omega)
      rw [this]
      simp only [valD, List.foldl_nil, Nat.mul_zero, Nat.zero_add, List.nil_append]
      rw [qnc h2]
      rfl
    · have hne2 : l.dropLast ≠ [] := by intro e'; have := congrArg List.length e'; simp at this; omega
      match hl' : l.dropLast with
      | [] => exact absurd hl' hne2
      | x :: t =>
        have hx : x ≠ 0 := by
          intro e0; subst e0
          rcases hz with hz | hz
          · omega
          · apply hz
            rw [← e, hl']
            rfl
        have hpos := valD_pos t x hx
        have h1 := ih l.dropLast (by simp; omega) hne2 (fun d hd' => hd d (List.dropLast_subset l hd')) (by rw [hl']; right; simpa using hx)
        rw [hl'] at h1
        rw [decI_more (by omega), show (10 * valD (x :: t) + l.getLast hne) / 10 = valD (x :: t) by omega, h1]
        simp only [figs, List.map_append, List.map_cons, List.map_nil, Int.ofNat_eq_natCast]
        congr 2
        omega

theorem decI_valD_not (l : List Nat) (hl : 1 < l.length) (hz : l.head? = some 0) : decI (valD l) ≠ figs l := by
  match l, hl, hz with
  | x :: y :: t, _, hz =>
    simp at hz
    subst hz
    intro e
    have h0 := decI_head _ _ _ (Nat.le_refl _) (show decI (valD (0 :: y :: t)) = 48 :: figs (y :: t) from e)
    rw [h0, qnc (by omega)] at e
    have := congrArg List.length e
    simp [figs] at this
end Go.Proofs.YtpjpheicldegkaaGreatDoor

namespace Go.Proofs.YtpjpheicldegkaaGreatDoor
open Go.RowKit

theorem Tryz.info9 : (Tryz.prog.info? 9).map (fun i => (i.zero, i.size, i.bytes)) = some (some (.string ByteArray.empty), 1, 16) := by kernel_rfl

def plainTo (s : ByteArray) (i : Nat) : Prop := ∀ j (h : j < s.size), j < i → 32 ≤ s[j].toNat ∧ s[j].toNat ≤ 126
def texts (l : List (List UInt8)) : List ByteArray := l.map fun t => ⟨t.toArray⟩

theorem drop_cons (s : ByteArray) (i : Nat) (h : i < s.size) : s.data.toList.drop i = s[i] :: s.data.toList.drop (i + 1) := by
  have h2 : i < s.data.toList.length := by simpa using h
  rw [List.drop_eq_getElem_cons h2]
  rfl
theorem isSp_plain {b : UInt8} (h1 : 32 ≤ b.toNat) : Lib.isSp b = decide (b.toNat = 32) := by
  have e : ∀ k : UInt8, (b == k) = decide (b.toNat = k.toNat) := by
    intro k
    by_cases h : b = k
    · subst h; simp
    · rw [beq_eq_false_iff_ne.2 h, decide_eq_false]
      intro h'
      exact h (UInt8.toNat_inj.1 h')
  unfold Lib.isSp
  rw [e, e, e, e, e, e]
  simp
  omega

structure Scan (s : ByteArray) (b i : Nat) (out : List (List UInt8)) : Prop where
  le : b ≤ i
  is : i ≤ s.size
  eq : Lib.fields s.data.toList = out ++ Lib.fieldsGo ((s.data.toList.drop b).take (i - b)) (s.data.toList.drop i)
  plain : plainTo s i
  len : out.length ≤ i
structure Scanned (s : ByteArray) (out : List (List UInt8)) : Prop where
  eq : Lib.fields s.data.toList = out
  plain : plainTo s s.size
  len : out.length ≤ s.size + 1

theorem scan_start (s : ByteArray) : Scan s 0 0 [] := ⟨Nat.le_refl _, Nat.zero_le _, by simp [Lib.fields], fun j h hj => by omega, by simp⟩
theorem take_word (s : ByteArray) (b i : Nat) (h : b ≤ i) (hi : i < s.size) : (s.data.toList.drop b).take (i + 1 - b) = (s.data.toList.drop b).take (i - b) ++ [s[i]] := by
  have h2 : i - b < (s.data.toList.drop b).length := by simp; have : s.data.size = s.size := rfl; omega
  rw [show i + 1 - b = (i - b) + 1 by omega, List.take_succ_eq_append_getElem h2]
  congr 2
  have e : b + (i - b) = i := by omega
  rw [List.getElem_drop]
  simp only [e]
  rfl
theorem word_empty (s : ByteArray) (b i : Nat) (h : b ≤ i) (hi : i ≤ s.size) : (s.data.toList.drop b).take (i - b) = [] ↔ b = i := by
  have : ((s.data.toList.drop b).take (i - b)).length = i - b := by simp; have : s.data.size = s.size := rfl; omega
  constructor
  · intro e; rw [e] at this; simp at this; omega
  · intro e; subst e; simp

theorem scan_letter {s : ByteArray} {b i : Nat} {out : List (List UInt8)} (h : Scan s b i out) (hi : i < s.size) (h1 : 32 ≤ s[i].toNat) (h2 : s[i].toNat ≤ 126) (hne : s[i].toNat ≠ 32) : Scan s b (i + 1) out := by
  refine ⟨by have := h.le; omega, by omega, ?_, ?_, by have := h.len; omega⟩
  · rw [h.eq, drop_cons s i hi, Lib.fieldsGo_more _ _ _ (by rw [isSp_plain h1]; simpa using hne), take_word s b i h.le hi]
  · intro j hj hlt
    by_cases e : j < i
    · exact h.plain j hj e
    · have : j = i := by omega
      subst this
      exact ⟨h1, h2⟩
theorem plain_next {s : ByteArray} {i : Nat} (h : plainTo s i) (hi : i < s.size) (hz : s[i].toNat = 32) : plainTo s (i + 1) := by
  intro j hj hlt
  by_cases e : j < i
  · exact h j hj e
  · have : j = i := by omega
    subst this
    omega
theorem scan_blank {s : ByteArray} {i : Nat} {out : List (List UInt8)} (h : Scan s i i out) (hi : i < s.size) (hz : s[i].toNat = 32) : Scan s (i + 1) (i + 1) out := by
  refine ⟨Nat.le_refl _, by omega, ?_, plain_next h.plain hi hz, by have := h.len; omega⟩
  rw [h.eq, (word_empty s i i (Nat.le_refl _) (by omega)).2 rfl, drop_cons s i hi, Lib.fieldsGo_sp _ _ (by rw [isSp_plain (by omega)]; simpa using hz)]
  simp
theorem scan_word {s : ByteArray} {b i : Nat} {out : List (List UInt8)} (h : Scan s b i out) (hb : b < i) (hi : i < s.size) (hz : s[i].toNat = 32) : Scan s (i + 1) (i + 1) (out ++ [(s.data.toList.drop b).take (i - b)]) := by
  refine ⟨Nat.le_refl _, by omega, ?_, plain_next h.plain hi hz, by have := h.len; simp; omega⟩
  rw [h.eq, drop_cons s i hi, Lib.fieldsGo_end _ _ _ (by rw [isSp_plain (by omega)]; simpa using hz) (by rw [Ne, word_empty s b i h.le (by omega)]; omega)]
  simp
theorem scan_done_blank {s : ByteArray} {out : List (List UInt8)} (h : Scan s s.size s.size out) : Scanned s out := by
  refine ⟨?_, h.plain, by have := h.len; omega⟩
  rw [h.eq]
  have hd : s.data.toList.drop s.size = [] := List.drop_eq_nil_of_le (by rw [Array.length_toList]; exact Nat.le_refl _)
  rw [hd]
  simp [Lib.fieldsGo]
theorem scan_done_word {s : ByteArray} {b : Nat} {out : List (List UInt8)} (h : Scan s b s.size out) (hb : b < s.size) : Scanned s (out ++ [(s.data.toList.drop b).take (s.size - b)]) := by
  refine ⟨?_, h.plain, by have := h.len; simp; omega⟩
  rw [h.eq]
  have hne : ((s.data.toList.drop b).take (s.size - b)) ≠ [] := by rw [Ne, word_empty s b s.size h.le (Nat.le_refl _)]; omega
  have hd : s.data.toList.drop s.size = [] := List.drop_eq_nil_of_le (by rw [Array.length_toList]; exact Nat.le_refl _)
  rw [hd, Lib.fieldsGo]
  simp [hne]

theorem extract_word (s : ByteArray) (b i : Nat) : s.extract b i = ⟨((s.data.toList.drop b).take (i - b)).toArray⟩ := by
  apply ByteArray.ext
  apply Array.toList_inj.1
  rw [Lib.extract_data]

def qfb (s : ByteArray) : List (List UInt8) × Bool :=
  if 600 < s.size then ([], false)
  else if ∀ b ∈ s.data.toList, 32 ≤ b.toNat ∧ b.toNat ≤ 126 then
    if 10 < (Lib.fields s.data.toList).length then ([], false) else (Lib.fields s.data.toList, true)
  else ([], false)
theorem partsR_long {s : ByteArray} (h : 600 < s.size) : qfb s = ([], false) := by unfold qfb; rw [if_pos h]
theorem plain_all {s : ByteArray} : plainTo s s.size ↔ ∀ b ∈ s.data.toList, 32 ≤ b.toNat ∧ b.toNat ≤ 126 := by
  constructor
  · intro h b hb
    obtain ⟨j, hj, rfl⟩ := List.mem_iff_getElem.1 hb
    have hj' : j < s.size := by simpa using hj
    exact h j hj' hj'
  · intro h j hj _
    have e : s[j] = s.data.toList[j]'(by simpa using hj) := rfl
    rw [e]
    exact h _ (List.getElem_mem _)
theorem partsR_bad {s : ByteArray} {j : Nat} (hj : j < s.size) (hb : s[j].toNat < 32 ∨ 126 < s[j].toNat) : qfb s = ([], false) := by
  unfold qfb
  by_cases h : 600 < s.size
  · rw [if_pos h]
  · rw [if_neg h, if_neg]
    intro h2
    have := plain_all.2 h2 j hj hj
    omega
theorem partsR_many {s : ByteArray} (hs : ¬ 600 < s.size) (h : plainTo s s.size) (hm : 10 < (Lib.fields s.data.toList).length) : qfb s = ([], false) := by
  unfold qfb; rw [if_neg hs, if_pos (plain_all.1 h), if_pos hm]
theorem partsR_ok {s : ByteArray} (hs : ¬ 600 < s.size) (h : plainTo s s.size) (hm : ¬ 10 < (Lib.fields s.data.toList).length) : qfb s = (Lib.fields s.data.toList, true) := by
  unfold qfb; rw [if_neg hs, if_pos (plain_all.1 h), if_neg hm]

def qqc (s : ByteArray) (w : World) (e : Ending) (w' : World) : Prop :=
  ∃ v, e = .returned (.tuple #[v, .bool (qfb s).2]) ∧ ownsS w' w.heap.size 9 v (texts (qfb s).1) ∧ Below w.heap.size w w'

theorem texts_snoc (l : List (List UInt8)) (t : List UInt8) : texts l ++ [⟨t.toArray⟩] = texts (l ++ [t]) := by simp [texts]
theorem texts_length (l : List (List UInt8)) : (texts l).length = l.length := by simp [texts]

theorem end_false {s : ByteArray} {w wx : World} (h : qfb s = ([], false)) (hb : Below w.heap.size w wx) :
    qqc s w (.returned (.tuple #[.slice (some ⟨wx.heap.size, 0, none⟩) 0 0, .bool false])) (wx.alloc (.cells #[] 9)) := by
  refine ⟨_, by rw [h], ?_, hb.alloc hb.size _⟩
  rw [h]
  exact qmd wx _ 0 9 #[] hb.size (by decide) rfl

set_option maxHeartbeats 400000 in
theorem specParts_long (s : ByteArray) (w : World) (hs0 : s.size ≤ 9223372036854775807) (hs : 600 < s.size) :
    Calls Tryz.prog 111 #[.string s] w fun e w' => qqc s w e w' := by
  have H := end_false (partsR_long hs) (Below.refl w.heap.size w)
  have HH : Hid (qqc s w (.returned (.tuple #[.slice (some ⟨w.heap.size, 0, none⟩) 0 0, .bool false])) (w.alloc (.cells #[] 9))) := H
  clear H
  go_enter Tryz.func111, Tryz.ntmps111
  go_wp2
  go_ret2
  exact HH.out

end Go.Proofs.YtpjpheicldegkaaGreatDoor

namespace Go.Proofs.YtpjpheicldegkaaGreatDoor
open Go Go.RowKit

section
variable {P : Program} {ops : Array Oper} {md : Region.Mode} {C : World → Prop}

def wpAnyT (P : Program) (md : Region.Mode) (ops : Array Oper) (C : World → Prop) (L : Array Bool) (R : Act → Prop) : Nat → Array Bool → Act → Prop
  | 0, listed, a => listed = L ∧ R a
  | fuel + 1, listed, a => Region.ready md ops listed ≠ [] ∧ ∀ i ∈ Region.ready md ops listed, qOp P ops C i (wpAnyT P md ops C L R fuel (listed.setIfInBounds i true)) a

def lexTo (md : Region.Mode) (ops : Array Oper) (L : Array Bool) : Nat → Nat → Array Bool → Bool
  | 0, _, listed => decide (listed = L)
  | fuel + 1, k, listed => (Region.ready md ops listed).contains k && Region.free md ops listed k && lexTo md ops L fuel (k + 1) (listed.setIfInBounds k true)
def qfe (md : Region.Mode) (ops : Array Oper) (m : Nat) : Bool :=
  (List.range m).all fun i => match ops[m]? with
    | none => true
    | some om => om.after.any fun e => Region.binds md e && e.on == i

def forcedB (md : Region.Mode) (ops : Array Oper) : Nat → Nat → Array Bool → Bool
  | 0, _, listed => decide (Region.ready md ops listed = [])
  | fuel + 1, k, listed => decide (Region.ready md ops listed = [k]) && forcedB md ops fuel (k + 1) (listed.setIfInBounds k true)

theorem wpAny_forced {Q : Exit → Act → World → Prop} : ∀ (l : List Oper) (k : Nat) (listed : Array Bool) (a : Act) (w : World), (∀ j, j < l.length → l[j]? = ops[k + j]?) →
    forcedB md ops l.length k listed = true → wpList P ops Q l a w → wpAny P md ops Q l.length listed a w
  | [], _, _, _, _, _, hB, h => ⟨by simpa [forcedB] using hB, h⟩
  | o :: l, k, listed, a, w, hl, hB, h => by
    have h0 : ops[k]? = some o := by simpa using (hl 0 (by simp)).symm
    simp only [List.length_cons, forcedB, Bool.and_eq_true, decide_eq_true_eq] at hB
    refine wpAny_all hB.1 (by simp) fun i hi => ?_
    simp only [List.mem_singleton] at hi
    subst hi
    have h1 : wpOp P ops Q i (wpList P ops Q l) a w := by unfold wpOp; simp only [h0]; exact h
    exact wpOp_mono (fun a' w' h' => wpAny_forced l (i + 1) _ a' w' (fun j hj => by have := hl (j + 1) (by simpa using hj); simpa [Nat.add_assoc, Nat.add_comm 1 j] using this) hB.2 h') h1

def tailB (md : Region.Mode) (ops : Array Oper) (m : Nat) : Bool :=
  let L := (Array.range ops.size).map fun i => decide (i < m)
  Region.noSelect ops && (Region.ready md ops L).all (· == m) && qfe md ops m && lexTo md ops L m 0 (Array.replicate ops.size false) && forcedB md ops (ops.size - m) m L

end
end Go.Proofs.YtpjpheicldegkaaGreatDoor

namespace Go.Proofs.YtpjpheicldegkaaGreatDoor
open Go Go.RowKit

structure Save (g : Nat) (w w' : World) : Prop where
  os : w'.os = w.os
  tape : w'.tape = w.tape
  output : w'.output = w.output
  size : w.heap.size ≤ w'.heap.size
  block : ∀ k, k < w.heap.size → k ≠ g → w'.heap[k]? = w.heap[k]?
theorem Save.refl (g : Nat) (w : World) : Save g w w := ⟨rfl, rfl, rfl, Nat.le_refl _, fun _ _ _ => rfl⟩
theorem Save.trans {g : Nat} {a b c : World} (h : Save g a b) (k : Save g b c) : Save g a c :=
  ⟨k.os.trans h.os, k.tape.trans h.tape, k.output.trans h.output, Nat.le_trans h.size k.size, fun i hi hg => (k.block i (Nat.lt_of_lt_of_le hi h.size) hg).trans (h.block i hi hg)⟩
theorem Save.drew {g : Nat} {a w : World} (h : Save g a w) : Save g a w.drew := ⟨h.os, h.tape, h.output, h.size, h.block⟩
theorem Save.drewN {g : Nat} {a w : World} (h : Save g a w) (n : Nat) : Save g a (w.drewN n) := ⟨h.os, h.tape, h.output, h.size, h.block⟩
theorem Save.setCell {g : Nat} {a w : World} (h : Save g a w) {p : Addr} (hp : p.block = g) (u : Value) : Save g a (w.setCell p u) :=
  h.trans ⟨rfl, rfl, rfl, by simp [World.setCell], fun k _ hg => Below.heap_setCell _ _ _ _ (by omega)⟩
theorem Save.alloc {g : Nat} {a w : World} (h : Save g a w) (o : Obj) : Save g a (w.alloc o) :=
  h.trans ⟨rfl, rfl, rfl, by simp, fun k hk _ => Below.heap_alloc _ _ _ hk⟩
theorem Save.of_below {g : Nat} {w w' : World} (h : Below w.heap.size w w') : Save g w w' := ⟨h.os, h.tape, h.output, h.size, fun k hk _ => h.block k hk⟩
theorem Save.below {g B : Nat} {w w' : World} (h : Save g w w') (h1 : B ≤ g) (h2 : B ≤ w.heap.size) : Below B w w' :=
  ⟨h.os, h.tape, h.output, h.size, fun k hk => h.block k (by omega) (by omega)⟩
theorem cell_block {w w' : World} {a : Addr} (h : w'.heap[a.block]? = w.heap[a.block]?) : w'.cell? a = w.cell? a := by
  unfold World.cell?
  rw [h]
theorem Save.cell {g : Nat} {w w' : World} {p : Addr} {v : Value} (h : Save g w w') (hp : p.block ≠ g) (hc : w.cell? p = some v) : w'.cell? p = some v :=
  (cell_block (h.block _ (World.block_lt_of_cell? w p hc) hp)).trans hc
theorem Save.frozen {g : Nat} {w w' : World} {p : Addr} {b : Bool} (h : Save g w w') (hp : p.block ≠ g) (hl : p.block < w.heap.size) (hc : w.frozen? p = b) : w'.frozen? p = b := by
  unfold World.frozen? at *
  rw [h.block _ hl hp]
  exact hc
theorem qpa {w : World} {g : Nat} {a b c : Value} {t : TypeId} (h : w.heap[g]? = some (.cells #[a, b, c] t)) :
    w.cell? ⟨g, 0, none⟩ = some a ∧ w.cell? ⟨g, 1, none⟩ = some b ∧ w.cell? ⟨g, 2, none⟩ = some c ∧ (∀ o, w.frozen? ⟨g, o, none⟩ = false) := by
  refine ⟨?_, ?_, ?_, ?_⟩
  · simp [World.cell?, h]
  · simp [World.cell?, h]
  · simp [World.cell?, h]
  · intro o; simp [World.frozen?, h]
theorem cur_set0 {w : World} {g : Nat} {a b c : Value} {t : TypeId} (h : w.heap[g]? = some (.cells #[a, b, c] t)) (u : Value) :
    (w.setCell ⟨g, 0, none⟩ u).heap[g]? = some (.cells #[u, b, c] t) := by
  simp [World.setCell, Array.getElem?_modify, h]
theorem qmc {w : World} {g : Nat} {a b c : Value} {t : TypeId} (h : w.heap[g]? = some (.cells #[a, b, c] t)) (u : Value) :
    (w.setCell ⟨g, 2, none⟩ u).heap[g]? = some (.cells #[a, b, u] t) := by
  simp [World.setCell, Array.getElem?_modify, h]
theorem qid {w : World} {g : Nat} {a b c : Value} {t : TypeId} (h : w.heap[g]? = some (.cells #[a, b, c] t)) (u : Value) :
    (w.setCell ⟨g, 1, none⟩ u).heap[g]? = some (.cells #[a, u, c] t) := by
  simp [World.setCell, Array.getElem?_modify, h]
end Go.Proofs.YtpjpheicldegkaaGreatDoor
