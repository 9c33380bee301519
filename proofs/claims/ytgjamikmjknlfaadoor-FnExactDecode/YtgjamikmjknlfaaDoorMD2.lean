/-
  Rows of texts that a call owns: small facts of my own, over any program. Lists of numbers in bounds, and texts split at a byte, as the specification does it: the walks. Names, pools and lines, as the specification tells them: the walks. Whether a command is right, as the specification tells it: the walks. Whether a command is right, as the specification tells it: the walk.
-/
import Derived.Test.YtgjamikmjknlfaaDoorAid
import Derived.WalkSpells
import Derived.Lib.Strings
import Derived.Test.YtgjamikmjknlfaaDoorRi
import Derived.Test.YtgjamikmjknlfaaDoorWd
import Derived.WalkLawsBesides
import Derived.Test.YtgjamikmjknlfaaDoorNl
namespace Go.Proofs.YtgjamikmjknlfaaDoor
open Go Go.RowKit

/-- A row of texts that the call owns, from block B on. -/
def ownsS (w : World) (B : Nat) (e : TypeId) (v : Value) (l : List ByteArray) : Prop := w.ownsRow B e 1 v l.length (l.map Value.string)

theorem ownsS.alloc {w : World} {B : Nat} {e : TypeId} {v : Value} {l : List ByteArray} (h : ownsS w B e v l) (o : Obj) : ownsS (w.alloc o) B e v l := World.ownsRow.alloc h o
theorem ownsS.drew {w : World} {B : Nat} {e : TypeId} {v : Value} {l : List ByteArray} (h : ownsS w B e v l) : ownsS w.drew B e v l := World.ownsRow.drew h
theorem ownsS_made (w : World) (B cap : Nat) (e : TypeId) (cur : Array Value) (hb : B ≤ w.heap.size) (hm : cap ≤ maxLen) (hs : cur.size = cap) :
    ownsS (w.alloc (.cells cur e)) B e (.slice (some ⟨w.heap.size, 0, none⟩) 0 cap) [] :=
  World.ownsRow_made w cur cap hb hm (by omega)
/-- What is owned stays so while nothing that is there is turned. -/
theorem ownsS.below {w w' : World} {B B' : Nat} {e : TypeId} {v : Value} {l : List ByteArray} (h : ownsS w B e v l) (hb : Below B' w w') (hB : ∀ k, v.ownBlock = some k → k < B') : ownsS w' B e v l := by
  refine ⟨h.1, ?_⟩
  rcases h.2 with hn | ⟨g, cap, cur, rfl, hb2, hgg, rest⟩
  · exact .inl hn
  · refine .inr ⟨g, cap, cur, rfl, hb2, ?_, rest⟩
    rw [hb.block g (hB g rfl)]
    exact hgg
theorem ownsS.all {w w' : World} {B : Nat} {e : TypeId} {v : Value} {l : List ByteArray} (h : ownsS w B e v l) (hb : Below w.heap.size w w') : ownsS w' B e v l :=
  h.below hb fun k hk => (h.lt k hk).2
theorem ownsS.mono {w : World} {B B' : Nat} {e : TypeId} {v : Value} {l : List ByteArray} (h : ownsS w B e v l) (hB : B' ≤ B) : ownsS w B' e v l := by
  refine ⟨h.1, ?_⟩
  rcases h.2 with hn | ⟨g, cap, cur, rfl, hb2, rest⟩
  · exact .inl hn
  · exact .inr ⟨g, cap, cur, rfl, by omega, rest⟩

/-- One text more behind a row of texts that the call owns. -/
theorem wpList_append_text {P : Program} (w w0 : World) {ops : Array Oper} {rest : List Oper} {o : Oper} {a : Act} {Q : Exit → Act → World → Prop} (hgd : o.guard = none) (s x : Operand) (t : TypeId)
    (ho : o.op = .call { callee := .builtin .append, args := #[s, x], argTypes := #[t, t] })
    (B : Nat) (e : TypeId) (ht : P.underlying t = some (.slice e)) (hi : (P.info? e).map (fun i => (i.zero, i.size, i.bytes)) = some (some (.string ByteArray.empty), 1, 16))
    (v : Value) (l : List ByteArray) (hs : a.eval s = v) (hown : ownsS w B e v l) (hbel : Below B w0 w)
    (ad : Addr) (c : Nat) (n : ByteArray) (hx : a.eval x = .slice (some ad) 1 c) (hc : w.cell? ad = some (.string n))
    (hlen : l.length < 8796093022207) (hB : B ≤ w.heap.size)
    (h : ∀ v' w', ownsS w' B e v' (l ++ [n]) → Below B w0 w' → wpList P ops Q rest (a.put o.dst v') w') : wpList P ops Q (o :: rest) a w := by
  obtain ⟨i0, hi0, hz0, hz1, hz2⟩ := info_parts hi
  refine wpList_append_own w hgd s x t ho B e i0 (.string ByteArray.empty) 1 16 ht hi0 hz0 hz1 hz2 rfl (by decide) v l.length _ hs hown ad 1 c [.string n] hx rfl ?_ ?_ (by unfold maxLen; omega) (by omega) hB ?_
  · intro j u hj
    match j, hj with
    | 0, hj => simp at hj; subst hj; simpa [Addr.add] using hc
  · intro u hu; simp at hu; subst hu; rfl
  · intro v' w' h1 h2 _
    refine h v' w' (by simpa [ownsS] using h1) (hbel.grown h2 hB fun k hk => (hown.lt k hk).1)

/-- Of a row that is not empty: where it lies, and what its cells hold. -/
theorem ownsS_form {w : World} {B : Nat} {e : TypeId} {v : Value} {l : List ByteArray} (h : ownsS w B e v l) (hne : l ≠ []) :
    ∃ g cap, v = .slice (some ⟨g, 0, none⟩) l.length cap ∧ B ≤ g ∧ g < w.heap.size ∧ l.length ≤ cap ∧ (∀ j (hj : j < l.length), w.cell? ⟨g, j, none⟩ = some (.string l[j])) ∧ ∀ j, w.frozen? ⟨g, j, none⟩ = false := by
  rcases h.2 with ⟨_, hn⟩ | ⟨g, cap, cur, rfl, hb, hg, hc, _⟩
  · exact absurd (List.eq_nil_of_length_eq_zero hn) hne
  · refine ⟨g, cap, rfl, hb, (h.lt g rfl).2, hc, fun j hj => ?_, fun j => World.ownsRow.frozenAt h j⟩
    rw [World.ownsRow.cellAt h j (by omega)]
    simp [hj]
theorem ownsS_empty {w : World} {B : Nat} {e : TypeId} {v : Value} (h : ownsS w B e v []) : ∃ ao cap, v = .slice ao 0 cap := by
  rcases h.2 with ⟨h, _⟩ | ⟨g, cap, cur, rfl, _⟩
  · exact ⟨none, 0, h⟩
  · exact ⟨_, _, rfl⟩
/-- A text stored into the row. -/
theorem ownsS_stored {w : World} {B : Nat} {e : TypeId} {g cap : Nat} {l : List ByteArray} (h : ownsS w B e (.slice (some ⟨g, 0, none⟩) l.length cap) l) (j : Nat) (t : ByteArray) :
    ownsS (w.setCell ⟨g, j, none⟩ (.string t)) B e (.slice (some ⟨g, 0, none⟩) l.length cap) (l.set j t) := by
  have := (World.ownsRow.stored h j (.string t)).1
  unfold ownsS
  simpa [List.map_set] using this

theorem ownsS_cell {w : World} {B : Nat} {e : TypeId} {g n cap : Nat} {l : List ByteArray} (h : ownsS w B e (.slice (some ⟨g, 0, none⟩) n cap) l) {k : Nat} (hk : k < n) :
    ∃ t, l[k]? = some t ∧ w.cell? ⟨g, k, none⟩ = some (.string t) ∧ w.frozen? ⟨g, k, none⟩ = false ∧ g < w.heap.size ∧ n = l.length := by
  have hn : n = l.length := by
    rcases h.2 with ⟨h', _⟩ | ⟨g', cap', cur, h', _⟩
    · simp at h'
    · simp only [Value.slice.injEq] at h'
      exact h'.2.1
  subst hn
  have hc := World.ownsRow.cellAt h k (by omega)
  refine ⟨l[k], List.getElem?_eq_getElem hk, ?_, World.ownsRow.frozenAt h k, (h.lt g rfl).2, rfl⟩
  rw [hc]
  simp [hk]
theorem ownsS_store {w : World} {B : Nat} {e : TypeId} {g n cap : Nat} {l : List ByteArray} (h : ownsS w B e (.slice (some ⟨g, 0, none⟩) n cap) l) (j : Nat) (t : ByteArray) :
    ownsS (w.setCell ⟨g, j, none⟩ (.string t)) B e (.slice (some ⟨g, 0, none⟩) n cap) (l.set j t) := by
  have hn : n = l.length := by
    rcases h.2 with ⟨h', _⟩ | ⟨g', cap', cur, h', _⟩
    · simp at h'
    · simp only [Value.slice.injEq] at h'
      exact h'.2.1
  subst hn
  exact ownsS_stored h j t
theorem set_same {l : List ByteArray} {k : Nat} {t : ByteArray} (h : l[k]? = some t) : l.set k t = l := by
  apply List.ext_getElem?
  intro j
  rw [List.getElem?_set]
  by_cases e : k = j
  · subst e
    rw [if_pos rfl, h]
    have : k < l.length := (List.getElem?_eq_some_iff.1 h).1
    simp [this]
  · rw [if_neg e]

end Go.Proofs.YtgjamikmjknlfaaDoor

namespace Go.Proofs.YtgjamikmjknlfaaDoor
open Go Go.RowKit

theorem in_any (x lo hi : Int) (w : World) :
    Calls Tryd.prog 46 #[.int .i64 x, .int .i64 lo, .int .i64 hi] w fun e w' => e = .returned (.bool (decide (lo ≤ x) && decide (x ≤ hi))) ∧ w' = w := by
  by_cases h1 : lo ≤ x
  · have h2 : decide (lo ≤ x) = true := decide_eq_true h1
    go_enter Tryd.func46, Tryd.ntmps46
    go_wp2
    go_ret
    exact ⟨by simp [h1], rfl⟩
  · have h2 : decide (lo ≤ x) = false := decide_eq_false h1
    go_enter Tryd.func46, Tryd.ntmps46
    go_wp2
    go_ret
    exact ⟨by simp, rfl⟩

/-- Within bounds, and rising from the one ahead. -/
def riseB (lo hi : Int) : Option Int → List Int → Bool
  | _, [] => true
  | p, x :: r => (decide (lo ≤ x) && decide (x ≤ hi)) && p.all (fun y => decide (y < x)) && riseB lo hi (some x) r
/-- A list of a rule's field. -/
def listB (lo hi : Int) (l : List Int) : Bool := !l.isEmpty && riseB lo hi none l
theorem riseB_at {lo hi : Int} {l : List Int} {k : Nat} {p : Option Int} {x : Int} (h : l[k]? = some x) : riseB lo hi p (l.drop k) = ((decide (lo ≤ x) && decide (x ≤ hi)) && p.all (fun y => decide (y < x)) && riseB lo hi (some x) (l.drop (k + 1))) := by
  obtain ⟨hk, rfl⟩ := List.getElem?_eq_some_iff.1 h
  rw [List.drop_eq_getElem_cons hk]
  rfl
theorem riseB_end {lo hi : Int} {l : List Int} {k : Nat} {p : Option Int} (h : k = l.length) : riseB lo hi p (l.drop k) = true := by
  subst h
  rw [List.drop_length]
  rfl
theorem listB_rise {lo hi : Int} {l : List Int} (h : riseB lo hi none l = true) : listB lo hi l = decide (0 < l.length) := by
  unfold listB
  rw [h]
  cases l with
  | nil => simp
  | cons x r => simp
theorem listB_no {lo hi : Int} {l : List Int} (h : riseB lo hi none l = false) : listB lo hi l = false := by simp [listB, h]

theorem mem_drop_at {m : List Int} {k : Nat} {y x : Int} (h : m[k]? = some y) : x ∈ m.drop k ↔ x = y ∨ x ∈ m.drop (k + 1) := by
  obtain ⟨hk, rfl⟩ := List.getElem?_eq_some_iff.1 h
  rw [List.drop_eq_getElem_cons hk]
  exact List.mem_cons
theorem not_mem_end {m : List Int} {k : Nat} {x : Int} (h : k = m.length) : ¬ x ∈ m.drop k := by
  subst h
  rw [List.drop_length]
  exact List.not_mem_nil
/-- The pieces behind the first i places, and where the next one begins. -/
def cutsN (s : ByteArray) (c : Nat) : Nat → List ByteArray × Nat
  | 0 => ([], 0)
  | i + 1 => if i = s.size ∨ (s.data[i]?.map (fun b => b.toNat)) = some c then ((cutsN s c i).1 ++ [s.extract (cutsN s c i).2 i], i + 1) else cutsN s c i
/-- A text split at a byte. -/
def splitB (s : ByteArray) (c : Nat) : List ByteArray := (cutsN s c (s.size + 1)).1
theorem cutsN_bd (s : ByteArray) (c : Nat) : ∀ i, (cutsN s c i).2 ≤ i ∧ (cutsN s c i).1.length ≤ i
  | 0 => ⟨Nat.le_refl _, Nat.le_refl _⟩
  | i + 1 => by
    obtain ⟨h1, h2⟩ := cutsN_bd s c i
    unfold cutsN
    split
    · exact ⟨Nat.le_refl _, by simp; omega⟩
    · exact ⟨by omega, by omega⟩
theorem byte_is {s : ByteArray} {i : Nat} (h : i < s.size) : s.data[i]?.map (fun b => b.toNat) = some s[i].toNat := by
  have h' : i < s.data.size := h
  rw [Array.getElem?_eq_getElem h']
  rfl

end Go.Proofs.YtgjamikmjknlfaaDoor

namespace Go.Proofs.YtgjamikmjknlfaaDoor
open Go Go.RowKit

def charB (n : Nat) : Bool := decide (97 ≤ n ∧ n ≤ 122) || decide (48 ≤ n ∧ n ≤ 57)
/-- A name: a letter, then letters and figures, 8 at most. -/
def nameB (s : ByteArray) : Bool := decide (1 ≤ s.size ∧ s.size ≤ 8) && (decide (97 ≤ (s.data.toList.getD 0 0).toNat ∧ (s.data.toList.getD 0 0).toNat ≤ 122) && s.data.toList.all fun b => charB b.toNat)
theorem first_is {s : ByteArray} (h : 0 < s.size) : (s.data.toList.getD 0 0).toNat = s[0].toNat := by
  have h' : 0 < s.data.toList.length := by simpa using h
  rw [List.getD_eq_getElem?_getD, List.getElem?_eq_getElem h']
  rfl
theorem name_size {s : ByteArray} (h : ¬ (1 ≤ s.size ∧ s.size ≤ 8)) : nameB s = false := by unfold nameB; rw [decide_eq_false h]; rfl
theorem name_head {s : ByteArray} (h : 0 < s.size) (hc : ¬ (97 ≤ s[0].toNat ∧ s[0].toNat ≤ 122)) : nameB s = false := by
  unfold nameB
  rw [first_is h, decide_eq_false hc, Bool.false_and, Bool.and_false]
theorem all_at {s : ByteArray} (h : (s.data.toList.all fun b => charB b.toNat) = true) {k : Nat} (hk : k < s.size) : charB s[k].toNat = true := by
  rw [List.all_eq_true] at h
  have h' : k < s.data.toList.length := by simpa using hk
  exact h _ (List.getElem_mem h')
theorem name_bad {s : ByteArray} {k : Nat} (hk : k < s.size) (hc : charB s[k].toNat = false) : nameB s = false := by
  unfold nameB
  cases ha : (s.data.toList.all fun b => charB b.toNat) with
  | false => rw [Bool.and_false, Bool.and_false]
  | true => rw [all_at ha hk] at hc; cases hc
theorem name_good {s : ByteArray} (h0 : 1 ≤ s.size) (h1 : s.size ≤ 8) (hc : 97 ≤ s[0].toNat ∧ s[0].toNat ≤ 122) (ha : ∀ j (h : j < s.size), charB s[j].toNat = true) : nameB s = true := by
  unfold nameB
  rw [decide_eq_true ⟨h0, h1⟩, first_is h0, decide_eq_true hc, Bool.true_and, Bool.true_and, List.all_eq_true]
  intro b hb
  obtain ⟨j, hj, rfl⟩ := List.getElem_of_mem hb
  exact ha j (by simpa using hj)

end Go.Proofs.YtgjamikmjknlfaaDoor

namespace Go.Proofs.YtgjamikmjknlfaaDoor
open Go Go.RowKit

theorem nil_list : (⟨#[]⟩ : ByteArray).toList = [] := (ByteArray.toList_eq _).trans rfl
/-- What of a command is nothing, but for what may be there. -/
def restB (f1 f2 f3 f4 f5 : Bool) (text task : ByteArray) (num up : Int) (yes : Bool) : Bool := (f1 || decide (text = ⟨#[]⟩)) && ((f2 || decide (task = ⟨#[]⟩)) && ((f3 || decide (num = 0)) && ((f4 || decide (up = 0)) && (f5 || !yes))))

end Go.Proofs.YtgjamikmjknlfaaDoor

namespace Go.Proofs.YtgjamikmjknlfaaDoor
open Go Go.RowKit

def opB (op tok seq : Int) (text task : ByteArray) (num up : Int) (yes : Bool) : Bool := if op = 1 then (decide (tok = 0) && (decide (seq = 0) && restB false false false false false text task num up yes)) else if op = 2 then (decide (text.size ≤ 600) && restB true false false false false text task num up yes) else if op = 3 then (nameB text && restB true false false false true text task num up yes) else if op = 4 then (decide (0 ≤ num ∧ num ≤ 68374079) && restB false false true false false text task num up yes) else if op = 5 then restB false false false false false text task num up yes else if op = 6 then (decide (0 ≤ num ∧ num ≤ 1000000000) && restB false false true false false text task num up yes) else if op = 7 then (decide (0 ≤ num ∧ num ≤ 1000000000) && restB false false true false true text task num up yes) else if op = 8 then (nameB text && (decide (0 ≤ num ∧ num ≤ 68374079) && (decide (0 ≤ up ∧ up ≤ 68374079) && restB true false true true false text task num up yes))) else if op = 9 then (nameB text && (nameB task && (decide (0 ≤ num ∧ num ≤ 68374079) && restB true true true false false text task num up yes))) else false
/-- A right command. -/
def cmdB (op tok seq : Int) (text task : ByteArray) (num up : Int) (yes : Bool) : Bool := decide (0 ≤ tok ∧ tok ≤ 1000000) && (decide (0 ≤ seq ∧ seq ≤ 1000000) && opB op tok seq text task num up yes)
theorem rng_any (x hi : Int) (w : World) : Calls Tryd.prog 46 #[.int .i64 x, .int .i64 0, .int .i64 hi] w fun e w' => e = .returned (.bool (decide (0 ≤ x ∧ x ≤ hi))) ∧ w' = w := by
  rw [Bool.decide_and]; exact in_any x 0 hi w

end Go.Proofs.YtgjamikmjknlfaaDoor
