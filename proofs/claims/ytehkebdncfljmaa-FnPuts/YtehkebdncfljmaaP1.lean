/-
  Steps of a region that draws its order: one of two, and several that only yield. Rows of records of one kind (Entry): sizes, copies, held against each other, marked: the walks of the law's helpers. Logs that are drawn, as the specification draws them: the walk of l06Right. Logs that are drawn, right or not, as the specification draws them: the walk of l06Any. Logs: the law's helpers on them (sizes, copies, held against each other, marked): the walks. Whether a log is right, on both sides: the walks. The last index and term of a log, whether it has an index, and the term of one, on both sides: the walks. A log, an index and an entry that are drawn, as the specification draws them: the walk of DrawLogPut. The term of an index of a log, on both sides: the walks. What is behind an index of a log: the walk. Entries cloned and moved, and what is behind an index: the walks. Entries moved into a row of the call's own, and what is behind an index: the walks. The log behind an index, on both sides: the walks.
-/
import Derived.Test.YtehkebdncfljmaaME2
import Derived.Test.YtehkebdncfljmaaME5
import Derived.Test.YtehkebdncfljmaaGn
import Derived.Test.YtehkebdncfljmaaMt
import Derived.Test.YtehkebdncfljmaaME15
import Derived.Test.YtehkebdncfljmaaME4
import Derived.Test.YtehkebdncfljmaaME11
import Derived.Test.YtehkebdncfljmaaWd
import Derived.Test.YtehkebdncfljmaaME16
import Derived.Test.YtehkebdncfljmaaDh
namespace Go.Proofs.Ytehkebdncfljmaa
open Go Go.RowKit

theorem pk_two {P : Program} {l : List Oper} {Q : Exit → Act → World → Prop} {C : World → Prop} {R : Act → World → Prop} {L listed : Array Bool} {fuel i j : Nat} {o p : Oper} {a : Act} {w : World} (hr : Region.ready .any l.toArray listed = [i, j]) (ho : l[i]? = some o) (hp : l[j]? = some p) (hg : o.guard = none) (hgp : p.guard = none)
    (h : ∀ K : Act → World → Prop, Hid (∀ a' w', C w' → wpAnyU P .any l.toArray Q C L R fuel (listed.setIfInBounds i true) a' w' → K a' w') → wpList P l.toArray (Exit.then K Q) [o] a w)
    (h' : ∀ K : Act → World → Prop, Hid (∀ a' w', C w' → wpAnyU P .any l.toArray Q C L R fuel (listed.setIfInBounds j true) a' w' → K a' w') → wpList P l.toArray (Exit.then K Q) [p] a w) : wpAnyU P .any l.toArray Q C L R (fuel + 1) listed a w := wpAnyU_two hr (by simpa using ho) (by simpa using hp) hg hgp h h'
def moreB9 (ops : Array Oper) (L listed : Array Bool) (ts : List Nat) (m : Nat) : Bool :=
  Region.noSelect ops && (Region.ready .any ops L).all (· == m) && waitsAll .any ops m && takesB .any ops ts listed && ts.all (fun k => decide (k < m))
theorem pk_takes {P : Program} {l : List Oper} {Q : Exit → Act → World → Prop} {C : World → Prop} {R : Act → World → Prop} {L listed : Array Bool} {a : Act} {w : World} (ts : List Nat) (m fuel : Nat) (hw : C w) (hB : moreB9 l.toArray L listed ts m = true) (hQ : ∀ c a d v w, Q (.panic c) (Act.put a d v) w → Q (.panic c) a w)
    (h : wpTakes P l.toArray C (fun a' => wpAnyU P .any l.toArray Q C L R fuel (takesL ts listed) a' w) ts a) : wpAnyU P .any l.toArray Q C L R (fuel + ts.length) listed a w := by
  simp only [moreB9, Bool.and_eq_true] at hB
  obtain ⟨⟨⟨⟨h1, h2⟩, h3⟩, h4⟩, h6⟩ := hB
  exact wpAnyU_takes (P := P) (Q := Q) (C := C) (md := .any) hw h1 hQ (fun j hj => by
    rw [List.all_eq_true] at h2
    simpa using h2 j hj) h3 fuel ts listed a (fun k hk => by
      rw [List.all_eq_true] at h6
      simpa using h6 k hk) h4 h
end Go.Proofs.Ytehkebdncfljmaa

namespace Go.Proofs.Ytehkebdncfljmaa
open Go Go.RowKit

structure En where
  term : Int
  kind : Int
  data : ByteArray
instance : Inhabited En := ⟨⟨0, 0, ByteArray.empty⟩⟩
instance : Rec En := ⟨3, fun a => [.int .i64 a.term, .int .i64 a.kind, .string a.data], fun _ => rfl, by decide⟩
theorem en_width : Rec.width En = 3 := rfl
theorem en_at {w : World} {ao : Option Addr} {n cap : Nat} {l : List En} (h : Reads w (.slice ao n cap) l) {k : Nat} {f : En} (hk : l[k]? = some f) :
    ∃ b o, ao = some ⟨b, o, none⟩ ∧ b < w.heap.size ∧ w.cell? ⟨b, o + k * 3, none⟩ = some (.int .i64 f.term) ∧ w.cell? ⟨b, o + k * 3 + 1, none⟩ = some (.int .i64 f.kind) ∧ w.cell? ⟨b, o + k * 3 + 2, none⟩ = some (.string f.data) := by
  obtain ⟨b, o, rfl, hlt, hc⟩ := h.at hk
  exact ⟨b, o, rfl, hlt, hc 0 _ rfl, hc 1 _ rfl, hc 2 _ rfl⟩
def sizeEn : List En → Nat
  | [] => 0
  | f :: r => f.data.size + sizeEn r
theorem sizeEn_take {l : List En} {k : Nat} {f : En} (h : l[k]? = some f) : sizeEn (l.take (k + 1)) = sizeEn (l.take k) + (f.data.size) := by
  induction l generalizing k with
  | nil => simp at h
  | cons x r ih =>
    cases k with
    | zero => simp at h; subst h; simp [sizeEn]
    | succ k => simp at h; simp [sizeEn, ih h]; omega
theorem sizeEn_mem {l : List En} {f : En} (h : f ∈ l) : f.data.size ≤ sizeEn l := by
  induction l with
  | nil => simp at h
  | cons x r ih =>
    rcases List.mem_cons.1 h with rfl | h
    · simp [sizeEn]
    · have := ih h; simp [sizeEn]; omega
def SmallEn (l : List En) : Prop := ∀ f ∈ l, f.data.size ≤ 9223372036854775807

theorem infoEn : (Try.prog.info? 25).map (fun i => (i.zero, i.size, i.bytes)) = some (some (.agg #[.int .i64 0, .int .i64 0, .string ByteArray.empty]), 3, 32) := by kernel_rfl
theorem underEn : Try.prog.underlying 39 = some (.slice 25) := by kernel_rfl
theorem madeEn (n : Nat) : (madeCells (Value.cells (.agg #[.int .i64 0, .int .i64 0, .string ByteArray.empty])) (n * 3)).toList = (List.replicate n (default : En)).flatMap Rec.cells := by
  apply List.ext_getElem?
  intro m
  have hm := Nat.div_add_mod m 3
  have h3 : m % 3 < 3 := Nat.mod_lt _ (by decide)
  have e := flat_at (List.replicate n (default : En)) (m / 3) (m % 3) h3
  rw [en_width, show m / 3 * 3 + m % 3 = m by omega] at e
  rw [e]
  simp only [madeCells, Value.cells, Array.toList_map, Array.toList_range, List.getElem?_map, List.getElem?_replicate]
  by_cases hlt : m / 3 < n
  · rw [if_pos hlt, List.getElem?_range (by omega)]
    match hx : m % 3, h3 with
    | 0, _ => simp [hx]; rfl
    | 1, _ => simp [hx]; rfl
    | 2, _ => simp [hx]; rfl
  · rw [if_neg hlt, List.getElem?_eq_none (by simp; omega)]
    rfl

theorem en_put {w : World} {B : Nat} {g n cap : Nat} {l : List En} (h : ownsR w B 25 (.slice (some ⟨g, 0, none⟩) n cap) l) {i : Nat} {y : En} (f : En) (hi : l[i]? = some y) :
    ownsR (((w.setCell ⟨g, i * 3, none⟩ (.int .i64 f.term)).setCell ⟨g, i * 3 + 1, none⟩ (.int .i64 f.kind)).setCell ⟨g, i * 3 + 2, none⟩ (.string f.data)) B 25 (.slice (some ⟨g, 0, none⟩) n cap) (l.set i f) := by
  have hil : i < l.length := (List.getElem?_eq_some_iff.1 hi).1
  have h1 := h.put (j := 0) (u := .int .i64 f.term) { y with term := f.term } hi (by decide) rfl
  have h2 := h1.put (i := i) (j := 1) (u := .int .i64 f.kind) { y with term := f.term, kind := f.kind } (List.getElem?_set_self (by simpa using hil)) (by decide) rfl
  have h3 := h2.put (i := i) (j := 2) (u := .string f.data) f (List.getElem?_set_self (by simpa using hil)) (by decide) rfl
  simpa only [en_width, Nat.add_zero, List.set_set] using h3

def mkEn (x : Int) : En := ⟨x, x + 1, mkT (x + 1 + 1)⟩
def marksEn (x : Int) (n : Nat) : List En := marksR mkEn 3 x n
theorem en_own {w : World} {B : Nat} {g n cap : Nat} {l : List En} (h : ownsR w B 25 (.slice (some ⟨g, 0, none⟩) n cap) l) {i : Nat} {x : En} (hi : l[i]? = some x) :
    g < w.heap.size ∧ (w.cell? ⟨g, i * 3, none⟩ = some (.int .i64 x.term) ∧ w.cell? ⟨g, i * 3 + 1, none⟩ = some (.int .i64 x.kind) ∧ w.cell? ⟨g, i * 3 + 2, none⟩ = some (.string x.data)) ∧ w.frozen? ⟨g, i * 3, none⟩ = false ∧ w.frozen? ⟨g, i * 3 + 1, none⟩ = false ∧ w.frozen? ⟨g, i * 3 + 2, none⟩ = false := by
  obtain ⟨h1, _, _, h2⟩ := h.at hi
  exact ⟨h1, ⟨(h2 0 (by decide)).1, (h2 1 (by decide)).1, (h2 2 (by decide)).1⟩, (h2 0 (by decide)).2, (h2 1 (by decide)).2, (h2 2 (by decide)).2⟩

end Go.Proofs.Ytehkebdncfljmaa

namespace Go.Proofs.Ytehkebdncfljmaa
open Go Go.RowKit
set_option linter.unusedVariables false

/-- What lies there while a log is drawn: the answer's block, the log's block, its row. -/
structure LgS (g : Nat) (w : World) (m : Nat) (s st : Int) (ev : Value) (l : List En) (W : World) : Prop where
  res : K3 41 W w.heap.size (.int .i64 0) (.int .i64 0) (.slice none 0 0)
  lg : K3 41 W m (.int .i64 s) (.int .i64 st) ev
  own : ownsR W (w.heap.size + 1) 25 ev l
  drw : Drw W g
  sv : Save g w W
  gl : g < w.heap.size
  lo : w.heap.size < m
theorem own_setO {W : World} {B m j : Nat} {x0 x1 x2 v u : Value} {l : List En} (h : ownsR W B 25 v l) (hk : K3 41 W m x0 x1 x2) : ownsR (W.setCell ⟨m, j, none⟩ u) B 25 v l :=
  h.same' fun r hr => heap_setCell_other W ⟨m, j, none⟩ r _ (fun e => h.apartTy hk.ty (by decide) (by rw [hr, e]))
section
variable {g : Nat} {w W W' : World} {m : Nat} {s st : Int} {ev : Value} {l : List En}
theorem LgS.save (h : LgS g w m s st ev l W) (hs : Save g W W') (hd : Drw W' g) : LgS g w m s st ev l W' :=
  ⟨h.res.save hs (by have := h.gl; omega), h.lg.save hs (by have := h.gl; have := h.lo; omega), h.own.save hs (by have := h.gl; omega), hd, h.sv.trans hs, h.gl, h.lo⟩
theorem LgS.up (h : LgS g w m s st ev l W) (hb : Below W.heap.size W W') : LgS g w m s st ev l W' := h.save (Save.of_below hb) (h.drw.keep (hb.mono h.drw.lt))
theorem LgS.alloc (h : LgS g w m s st ev l W) (o : Obj) : LgS g w m s st ev l (W.alloc o) := h.up (ba (Below.refl _ _) _)
theorem LgS.drew (h : LgS g w m s st ev l W) : LgS g w m s st ev l W.drew := h.up (Below.refl _ _).drew
theorem LgS.msz (h : LgS g w m s st ev l W) : m < W.heap.size := h.lg.lt
theorem LgS.bsz (h : LgS g w m s st ev l W) : w.heap.size + 1 ≤ W.heap.size := h.res.lt
theorem LgS.ne (h : LgS g w m s st ev l W) : some m ≠ ev.ownBlock := h.own.apartTy h.lg.ty (by decide)
theorem LgS.keepB {W W' : World} {B : Nat} {ev : Value} {l : List En} (h : ownsR W B 25 ev l) (hg : W.grownBy W' ev.ownBlock) (hB : B ≤ W.heap.size) : Below B W W' :=
  ⟨hg.os, hg.tape, hg.output, hg.size, fun k hk => hg.block k (by omega) (fun e => by have := (h.lt k e.symm).1; omega)⟩
/-- The log's block stays when its row has grown. -/
theorem LgS.lgG (h : LgS g w m s st ev l W) (hg : W.grownBy W' ev.ownBlock) : K3 41 W' m (.int .i64 s) (.int .i64 st) ev := (hg.block m h.msz h.ne).trans h.lg
theorem LgS.put {s' st' : Int} {v' : Value} {l' : List En} (h : LgS g w m s st ev l W) (hb : Below (w.heap.size + 1) W W') (hl : K3 41 W' m (.int .i64 s') (.int .i64 st') v') (ho : ownsR W' (w.heap.size + 1) 25 v' l') : LgS g w m s' st' v' l' W' :=
  ⟨h.res.on hb (Nat.lt_succ_self _), hl, ho, h.drw.keep (hb.mono (by have := h.gl; omega)), h.sv.below_on hb (Nat.le_succ _), h.gl, h.lo⟩
/-- The row grown and stored. -/
theorem LgS.more {v' : Value} {l' : List En} (h : LgS g w m s st ev l W) (hg : W.grownBy W' ev.ownBlock) (ho : ownsR W' (w.heap.size + 1) 25 v' l') : LgS g w m s st v' l' (W'.setCell ⟨m, 2, none⟩ v') :=
  have hk := h.lgG hg
  h.put ((LgS.keepB h.own hg h.bsz).trans (Below.setCell (Below.refl _ _) (by show w.heap.size + 1 ≤ m; have := h.lo; omega) _)) (hk.s2 _) (own_setO ho hk)
theorem LgS.set0 (h : LgS g w m s st ev l W) (u : Int) : LgS g w m u st ev l (W.setCell ⟨m, 0, none⟩ (.int .i64 u)) :=
  h.put (Below.setCell (Below.refl _ _) (by show w.heap.size + 1 ≤ m; have := h.lo; omega) _) (h.lg.s0 _) (own_setO h.own h.lg)
theorem LgS.set1 (h : LgS g w m s st ev l W) (u : Int) : LgS g w m s u ev l (W.setCell ⟨m, 1, none⟩ (.int .i64 u)) :=
  h.put (Below.setCell (Below.refl _ _) (by show w.heap.size + 1 ≤ m; have := h.lo; omega) _) (h.lg.s1 _) (own_setO h.own h.lg)
/-- The log's row set to another one. -/
theorem LgS.set2 {v' : Value} {l' : List En} (h : LgS g w m s st ev l W) (ho : ownsR W (w.heap.size + 1) 25 v' l') : LgS g w m s st v' l' (W.setCell ⟨m, 2, none⟩ v') :=
  h.put (Below.setCell (Below.refl _ _) (by show w.heap.size + 1 ≤ m; have := h.lo; omega) _) (h.lg.s2 _) (own_setO ho h.lg)
theorem LgS.fin (h : LgS g w m s st ev l W) : K3 41 (set3E W w.heap.size (.int .i64 s) (.int .i64 st) ev) w.heap.size (.int .i64 s) (.int .i64 st) ev ∧ ownsR (set3E W w.heap.size (.int .i64 s) (.int .i64 st) ev) w.heap.size 25 ev l ∧ Drw (set3E W w.heap.size (.int .i64 s) (.int .i64 st) ev) g ∧ Save g w (set3E W w.heap.size (.int .i64 s) (.int .i64 st) ev) :=
  have hb : Below w.heap.size W (set3E W w.heap.size (.int .i64 s) (.int .i64 st) ev) := Below.setCell (p := ⟨w.heap.size, 2, none⟩) (Below.setCell (p := ⟨w.heap.size, 1, none⟩) (Below.setCell (p := ⟨w.heap.size, 0, none⟩) (Below.refl _ _) (Nat.le_refl _) _) (Nat.le_refl _) _) (Nat.le_refl _) _
  ⟨((h.res.s0 _).s1 _).s2 _, (((h.own.setBelow (a := ⟨w.heap.size, 0, none⟩) (Nat.lt_succ_self _) _).setBelow (a := ⟨w.heap.size, 1, none⟩) (Nat.lt_succ_self _) _).setBelow (a := ⟨w.heap.size, 2, none⟩) (Nat.lt_succ_self _) _).mono (Nat.le_succ _), h.drw.keep (hb.mono h.gl), h.sv.below_on hb (Nat.le_refl _)⟩
end
theorem ret_l1 {W : World} {b : Nat} {x0 x1 x2 : Value} {fn : Func} {p : Tmp} {tmps : Array Value} (h : fn.results = #[.cell p 41]) (hp : tmps.getD p undef = .pointer (some ⟨b, 0, none⟩)) (hb : K3 41 W b x0 x1 x2) :
    (results fn tmps).run Try.prog W = .ok (.agg #[x0, x1, x2]) W := by
  have hp' : tmps[p]?.getD undef = .pointer (some ⟨b, 0, none⟩) := by simpa using hp
  simp [results, h, hp', hb.c0, hb.c1, hb.c2, asAddr, go_sem]
/-- What a drawn log is. -/
def LgD (n : Nat) (g : Nat) (w : World) (e : Ending) (w' : World) : Prop :=
  ∃ (s st : Int) (o0 : Option Addr) (o1 o2 : Nat) (l : List En), e = .returned (.agg #[.int .i64 s, .int .i64 st, .slice o0 o1 o2]) ∧ (-1 ≤ s ∧ s ≤ 1000001) ∧ (-1 ≤ st ∧ st ≤ 100001) ∧ l.length ≤ n ∧ (∀ f ∈ l, f.data.size ≤ 1000) ∧ ownsR w' w.heap.size 25 (.slice o0 o1 o2) l ∧ Drw w' g ∧ Save g w w'
/-- Any world in which the log's row stands. -/
structure LgY (m : Nat) (ev : Value) where
  at' : World
  okl : at'.cell? ⟨m, 2, none⟩ = some ev
theorem en_builtD (w : World) (f : En) : Reads ((w.alloc (.cells #[.int .i64 f.term, .int .i64 f.kind, .string f.data] 25))) (.slice (some ⟨w.heap.size, 0, none⟩) 1 1) [f] := by
  have h := K3.new 25 w (.int .i64 f.term) (.int .i64 f.kind) (.string f.data)
  refine ⟨some ⟨w.heap.size, 0, none⟩, 1, rfl, fun _ => ⟨w.heap.size, 0, rfl, by simp, fun i y hy j u hu => ?_⟩⟩
  match i, hy with
  | 0, hy =>
    simp only [List.getElem?_cons_zero, Option.some.injEq] at hy
    subst hy
    match j, hu with
    | 0, hu => cases hu; exact h.c0
    | 1, hu => cases hu; exact h.c1
    | 2, hu => cases hu; exact h.c2
    | j + 3, hu => simp [Rec.cells] at hu
  | i + 1, hy => simp at hy
theorem en_oneD (f : En) : ∀ x ∈ [f], ∀ u ∈ Rec.cells x, u.oneCell' = true := by
  intro x hx u hu
  rw [List.mem_singleton.1 hx] at hu
  have hu2 : u ∈ ([.int .i64 f.term, .int .i64 f.kind, .string f.data] : List Value) := hu
  simp only [List.mem_cons, List.not_mem_nil, or_false] at hu2
  rcases hu2 with rfl | rfl | rfl <;> rfl
set_option maxRecDepth 10000 in
set_option maxHeartbeats 4000000 in
theorem l06Right_any (g : Nat) (w : World) (hd : Drw w g) : Calls Try.prog 45 #[.pointer (some ⟨g, 0, none⟩)] w (LgD 8 g w) := by
  have hgl : g < w.heap.size := hd.lt
  obtain ⟨W0, HW0⟩ : ∃ W0, Hid (w.alloc (.cells #[.int .i64 0, .int .i64 0, .slice none 0 0] 41) = W0) := ⟨_, rfl⟩
  have Z0 : Hid (K3 41 W0 w.heap.size (.int .i64 0) (.int .i64 0) (.slice none 0 0)) := by rw [← HW0.out]; exact K3.new _ _ _ _ _
  have B0 : Hid (Below w.heap.size w W0) := by rw [← HW0.out]; exact ba (Below.refl _ _) _
  have D0 : Hid (Drw W0 g) := hd.keep (B0.out.mono hgl)
  clear hd
  go_enter Try.func45, Try.ntmps45
  go_wp2_with fail
  rw [HW0.out]
  refine (below_from g 3 W0 _ D0.out (Save.refl _ _) (by decide) (by decide)).mono ?_
  rintro e W1 ⟨x, rfl, x0, x1, hd1, hs1⟩
  have D1 : Hid (Drw W1 g) := hd1
  have S1 : Hid (Save g W0 W1) := hs1
  clear hd1 hs1 D0
  go_wp2_with fail
  refine (below_from g 4 W0 _ D1.out S1.out (by decide) (by decide)).mono ?_
  rintro e W2 ⟨y, rfl, y0, y1, hd2, hs2⟩
  have D2 : Hid (Drw W2 g) := hd2
  have S2 : Hid (Save g W0 W2) := hs2
  have hxy : 0 ≤ x * y ∧ x * y ≤ 6 := by
    have : x = 0 ∨ x = 1 ∨ x = 2 := by omega
    rcases this with rfl | rfl | rfl <;> omega
  obtain ⟨s, hs⟩ : ∃ s, x * y = s := ⟨_, rfl⟩
  have hw : IntKind.i64.wrap (x * y) = s := by rw [hs]; rw [hs] at hxy; go_arith
  rw [hs] at hxy
  clear hd2 hs2 D1 S1
  go_wp2_with fail
  refine (below_from g 3 W0 _ D2.out S2.out (by decide) (by decide)).mono ?_
  rintro e W3 ⟨st, rfl, st0, st1, hd3, hs3⟩
  obtain ⟨W4, HW4⟩ : ∃ V, Hid (W3.alloc (.cells #[.int .i64 s, .int .i64 st, .slice none 0 0] 41) = V) := ⟨_, rfl⟩
  have HL : Hid (LgS g w W3.heap.size s st (.slice none 0 0) [] W4) := by
    have h2 := Z0.out.lt
    have h1 := hs3.size
    have hz : K3 41 W3 w.heap.size (.int .i64 0) (.int .i64 0) (.slice none 0 0) := Z0.out.save hs3 (by omega)
    rw [← HW4.out]
    exact ⟨hz.alloc _, K3.new _ _ _ _ _, ownsR_nil _ _ _, hd3.keep ((ba (Below.refl _ _) _).mono hd3.lt), ((Save.of_below B0.out).trans hs3).alloc _, hgl, by omega⟩
  clear hd3 hs3 D2 S2 Z0 B0 HW0 hs hw x0 x1 y0 y1
  obtain ⟨m, hm⟩ : ∃ m, W3.heap.size = m := ⟨_, rfl⟩
  rw [hm] at HL
  go_wp2
  rw [HW4.out]
  try rw [hm]
  clear hm HW4
  go_loopw [4, 5] (fun tv iv wr => ∃ (k : Nat) (t : Int) (o0 : Option Addr) (o1 o2 : Nat) (l : List En), tv = .int .i64 t ∧ iv = .int .i64 k ∧ k ≤ 8 ∧ 0 ≤ t ∧ t ≤ 2 + 2 * (k : Int) ∧ l.length = k ∧ Hid (∀ x ∈ l, x.data.size ≤ 1000) ∧ Hid (LgS g w m s st (.slice o0 o1 o2) l wr)) (fun _ iv _ => 8 - (intOf iv).toNat)
  case atStart => exact ⟨0, st, none, 0, 0, [], rfl, rfl, by decide, by omega, by omega, rfl, fun x h => (by cases h), HL⟩
  case round =>
    clear HL
    obtain ⟨k, t, o0, o1, o2, l, rfl, rfl, hk8, ht0, ht1, hl, HSZ, HL⟩ := hrel
    go_wp2_with fail
    refine (below_any g 8 _ HL.out.drw (by decide) (by decide)).mono ?_
    rintro e V1 ⟨q, rfl, q0, q1, hd1, hs1⟩
    have HL1 : Hid (LgS g w m s st (.slice o0 o1 o2) l V1) := HL.out.save hs1 hd1
    clear HL hd1 hs1
    by_cases hlt : (k : Int) < q
    · go_wp2_with fail
      refine (once_any g 3 _ HL1.out.drw (by decide) (by decide)).mono ?_
      rintro e V2 ⟨b, rfl, hd2, hs2⟩
      have HL2 : Hid (LgS g w m s st (.slice o0 o1 o2) l V2) := HL1.out.save hs2 hd2
      clear HL1 hd2 hs2
      cases b with
      | false =>
        have k2 : ∀ x : LgY m (.slice o0 o1 o2), x.at'.cell? ⟨m, 2, none⟩ = some (.slice o0 o1 o2) := fun x => x.okl
        haveI : Nonempty (LgY m (.slice o0 o1 o2)) := ⟨⟨V2, HL2.out.lg.c2⟩⟩
        go_wp2
        refine wp_region_pick (fun w' => ∃ x : LgY m (.slice o0 o1 o2), w' = x.at') [0, 1, 2, 3] 7 3 (by kernel_rfl) (by decide) (by decide) (by kernel_rfl) (fun _ _ d _ _ h => by cases d <;> exact h) ⟨⟨V2.drew, HL2.out.drew.lg.c2⟩, rfl⟩ ?_
        repeat (refine wpTakes_l rfl (by first | (intro x h; cases h; done) | (intro x h; cases h; exact ⟨_, rfl⟩)) ?_; go_big_quiet_step (fail); refine wpQuiet_nil ?_)
        refine takes_nil ?_
        clear k2
        refine any_one (fuel := 2) (i := 4) (by kernel_rfl) rfl rfl ?_
        intro K hK
        obtain ⟨U0, hU0⟩ : ∃ V, V2.drew = V := ⟨_, rfl⟩
        have HU0 : Hid (LgS g w m s st (.slice o0 o1 o2) l U0) := by rw [← hU0]; exact HL2.out.drew
        rw [hU0]
        clear hU0 HL2
        go_wp2_with fail
        refine (l05Right_any g t _ HU0.out.drw).mono ?_
        rintro e U1 ⟨ft, fk, fd, rfl, hfd, hdr, hsv⟩
        obtain ⟨f, hf⟩ : ∃ f : En, f = ⟨ft, fk, fd⟩ := ⟨_, rfl⟩
        have HU1 : Hid (LgS g w m s st (.slice o0 o1 o2) l U1) := HU0.out.save hsv hdr
        clear hdr hsv HU0
        go_wp2
        refine hK.out _ _ ⟨⟨U1, HU1.out.lg.c2⟩, rfl⟩ ?_
        clear hK K
        refine any_one (fuel := 1) (i := 5) (by kernel_rfl) rfl rfl ?_
        intro K hK
        obtain ⟨U2, hU2⟩ : ∃ V, U1.alloc (.cells #[.int .i64 ft, .int .i64 fk, .string fd] 25) = V := ⟨_, rfl⟩
        have HU2 : Hid (LgS g w m s st (.slice o0 o1 o2) l U2) := by rw [← hU2]; exact HU1.out.alloc _
        have HB2 : Hid (Reads U2 (.slice (some ⟨U1.heap.size, 0, none⟩) 1 1) [f]) := by rw [← hU2, hf]; exact en_builtD U1 ⟨ft, fk, fd⟩
        go_wp2
        try rw [hU2]
        refine hK.out _ _ ⟨⟨U2, HU2.out.lg.c2⟩, rfl⟩ ?_
        clear hK K HU1 hU2
        refine any_one (fuel := 0) (i := 6) (by kernel_rfl) rfl rfl ?_
        intro K hK
        have HLN : Hid (l.length + [f].length ≤ 1048577) := by show _ ≤ _; simp; omega
        go_wp2_with (at_builtin; refine wpList_append_recs rfl (.tmp 30) (.tmp 34) 39 rfl (w.heap.size + 1) 25 _ 32 underEn infoEn rfl _ _ l [f] rfl rfl HU2.out.own HB2.out (en_oneD f) HLN.out (by decide) HU2.out.bsz ?_; intro v' U3 hov hgv)
        obtain ⟨p0, p1, p2, rfl⟩ := hov.slice3
        have hk3 : K3 41 U3 m (.int .i64 s) (.int .i64 st) (.slice o0 o1 o2) := HU2.out.lgG hgv
        have HU4 : Hid (LgS g w m s st (.slice p0 p1 p2) (l ++ [f]) (U3.setCell ⟨m, 2, none⟩ (.slice p0 p1 p2))) := HU2.out.more hgv hov
        have c2 := hk3.c2
        have f2 := hk3.fz 2
        refine hK.out _ _ ⟨⟨U3, c2⟩, rfl⟩ ?_
        clear hK K HU2 HB2 HLN hov hgv hk3
        refine any_done (by kernel_rfl) ?_
        simp only [List.drop_succ_cons, List.drop_zero]
        have HSZ2 : Hid (∀ x ∈ l ++ [f], x.data.size ≤ 1000) := fun x hx => by
          rcases List.mem_append.1 hx with hx | hx
          · exact HSZ.out x hx
          · rw [List.mem_singleton.1 hx, hf]; exact hfd
        clear HSZ
        go_wp2
        go_roundw
        case rel => exact ⟨k + 1, t, p0, p1, p2, l ++ [f], rfl, by go_num, by omega, by omega, by omega, by simp; omega, HSZ2, HU4⟩
        case measure => simp [intOf]; omega
      | true =>
        go_wp2_with fail
        refine (below_any g 2 _ HL2.out.drw (by decide) (by decide)).mono ?_
        rintro e V3 ⟨z, rfl, z0, z1, hd3, hs3⟩
        have HL3 : Hid (LgS g w m s st (.slice o0 o1 o2) l V3) := HL2.out.save hs3 hd3
        clear HL2 hd3 hs3
        have HL2 := HL3
        clear HL3
        obtain ⟨t2, ht2⟩ : ∃ u, t + 1 + z = u := ⟨_, rfl⟩
        have hw1 : IntKind.i64.wrap (t + 1) = t + 1 := by go_arith
        have hw2 : IntKind.i64.wrap (t + 1 + z) = t2 := by rw [← ht2]; go_arith
        have hu0 : 0 ≤ t2 := by omega
        have hu1 : t2 ≤ 2 + 2 * ((k : Int) + 1) := by omega
        clear ht2 z0 z1
        have k2 : ∀ x : LgY m (.slice o0 o1 o2), x.at'.cell? ⟨m, 2, none⟩ = some (.slice o0 o1 o2) := fun x => x.okl
        haveI : Nonempty (LgY m (.slice o0 o1 o2)) := ⟨⟨V3, HL2.out.lg.c2⟩⟩
        go_wp2
        refine wp_region_pick (fun w' => ∃ x : LgY m (.slice o0 o1 o2), w' = x.at') [0, 1, 2, 3] 7 3 (by kernel_rfl) (by decide) (by decide) (by kernel_rfl) (fun _ _ d _ _ h => by cases d <;> exact h) ⟨⟨V3.drew, HL2.out.drew.lg.c2⟩, rfl⟩ ?_
        repeat (refine wpTakes_l rfl (by first | (intro x h; cases h; done) | (intro x h; cases h; exact ⟨_, rfl⟩)) ?_; go_big_quiet_step (fail); refine wpQuiet_nil ?_)
        refine takes_nil ?_
        clear k2
        refine any_one (fuel := 2) (i := 4) (by kernel_rfl) rfl rfl ?_
        intro K hK
        obtain ⟨U0, hU0⟩ : ∃ V, V3.drew = V := ⟨_, rfl⟩
        have HU0 : Hid (LgS g w m s st (.slice o0 o1 o2) l U0) := by rw [← hU0]; exact HL2.out.drew
        rw [hU0]
        clear hU0 HL2
        go_wp2_with fail
        refine (l05Right_any g t2 _ HU0.out.drw).mono ?_
        rintro e U1 ⟨ft, fk, fd, rfl, hfd, hdr, hsv⟩
        obtain ⟨f, hf⟩ : ∃ f : En, f = ⟨ft, fk, fd⟩ := ⟨_, rfl⟩
        have HU1 : Hid (LgS g w m s st (.slice o0 o1 o2) l U1) := HU0.out.save hsv hdr
        clear hdr hsv HU0
        go_wp2
        refine hK.out _ _ ⟨⟨U1, HU1.out.lg.c2⟩, rfl⟩ ?_
        clear hK K
        refine any_one (fuel := 1) (i := 5) (by kernel_rfl) rfl rfl ?_
        intro K hK
        obtain ⟨U2, hU2⟩ : ∃ V, U1.alloc (.cells #[.int .i64 ft, .int .i64 fk, .string fd] 25) = V := ⟨_, rfl⟩
        have HU2 : Hid (LgS g w m s st (.slice o0 o1 o2) l U2) := by rw [← hU2]; exact HU1.out.alloc _
        have HB2 : Hid (Reads U2 (.slice (some ⟨U1.heap.size, 0, none⟩) 1 1) [f]) := by rw [← hU2, hf]; exact en_builtD U1 ⟨ft, fk, fd⟩
        go_wp2
        try rw [hU2]
        refine hK.out _ _ ⟨⟨U2, HU2.out.lg.c2⟩, rfl⟩ ?_
        clear hK K HU1 hU2
        refine any_one (fuel := 0) (i := 6) (by kernel_rfl) rfl rfl ?_
        intro K hK
        have HLN : Hid (l.length + [f].length ≤ 1048577) := by show _ ≤ _; simp; omega
        go_wp2_with (at_builtin; refine wpList_append_recs rfl (.tmp 30) (.tmp 34) 39 rfl (w.heap.size + 1) 25 _ 32 underEn infoEn rfl _ _ l [f] rfl rfl HU2.out.own HB2.out (en_oneD f) HLN.out (by decide) HU2.out.bsz ?_; intro v' U3 hov hgv)
        obtain ⟨p0, p1, p2, rfl⟩ := hov.slice3
        have hk3 : K3 41 U3 m (.int .i64 s) (.int .i64 st) (.slice o0 o1 o2) := HU2.out.lgG hgv
        have HU4 : Hid (LgS g w m s st (.slice p0 p1 p2) (l ++ [f]) (U3.setCell ⟨m, 2, none⟩ (.slice p0 p1 p2))) := HU2.out.more hgv hov
        have c2 := hk3.c2
        have f2 := hk3.fz 2
        refine hK.out _ _ ⟨⟨U3, c2⟩, rfl⟩ ?_
        clear hK K HU2 HB2 HLN hov hgv hk3
        refine any_done (by kernel_rfl) ?_
        simp only [List.drop_succ_cons, List.drop_zero]
        have HSZ2 : Hid (∀ x ∈ l ++ [f], x.data.size ≤ 1000) := fun x hx => by
          rcases List.mem_append.1 hx with hx | hx
          · exact HSZ.out x hx
          · rw [List.mem_singleton.1 hx, hf]; exact hfd
        clear HSZ
        go_wp2
        go_roundw
        case rel => exact ⟨k + 1, t2, p0, p1, p2, l ++ [f], rfl, by go_num, by omega, by omega, by omega, by simp; omega, HSZ2, HU4⟩
        case measure => simp [intOf]; omega
    · have HE := HL1
      clear HL1
      have e0 := HE.out.lg.c0
      have r0 := HE.out.res.c0
      have f0 := HE.out.res.fz 0
      have e1 := HE.out.lg.c1
      have r1 := HE.out.res.c1
      have f1 := HE.out.res.fz 1
      have e2 := HE.out.lg.c2
      have r2 := HE.out.res.c2
      have f2 := HE.out.res.fz 2
      go_wp2
      exact bodyPost_ret (ret_l1 (p := 2) (by kernel_rfl) (by kernel_rfl) HE.out.fin.1) rfl ⟨s, st, o0, o1, o2, l, rfl, ⟨by omega, by omega⟩, ⟨by omega, by omega⟩, by omega, HSZ.out, HE.out.fin.2.1, HE.out.fin.2.2.1, HE.out.fin.2.2.2⟩
end Go.Proofs.Ytehkebdncfljmaa

namespace Go.Proofs.Ytehkebdncfljmaa
open Go Go.RowKit
set_option linter.unusedVariables false

theorem szE_snoc {l : List En} {f : En} (h : ∀ x ∈ l, x.data.size ≤ 1000) (hf : f.data.size ≤ 1000) : ∀ x ∈ l ++ [f], x.data.size ≤ 1000 := fun x hx => by
  rcases List.mem_append.1 hx with hx | hx
  · exact h x hx
  · rw [List.mem_singleton.1 hx]; exact hf
/-- Any world in which the log's StartTerm stands. -/
structure LgT (m : Nat) (st : Int) where
  at' : World
  okt : at'.cell? ⟨m, 1, none⟩ = some (.int .i64 st)
set_option maxRecDepth 10000 in
set_option maxHeartbeats 8000000 in
theorem l06Any_any (g : Nat) (w : World) (hd : Drw w g) : Calls Try.prog 54 #[.pointer (some ⟨g, 0, none⟩)] w (LgD 61 g w) := by
  have hgl : g < w.heap.size := hd.lt
  obtain ⟨W0, HW0⟩ : ∃ W0, Hid (w.alloc (.cells #[.int .i64 0, .int .i64 0, .slice none 0 0] 41) = W0) := ⟨_, rfl⟩
  have Z0 : Hid (K3 41 W0 w.heap.size (.int .i64 0) (.int .i64 0) (.slice none 0 0)) := by rw [← HW0.out]; exact K3.new _ _ _ _ _
  have B0 : Hid (Below w.heap.size w W0) := by rw [← HW0.out]; exact ba (Below.refl _ _) _
  have D0 : Hid (Drw W0 g) := hd.keep (B0.out.mono hgl)
  clear hd
  go_enter Try.func54, Try.ntmps54
  go_wp2_with fail
  rw [HW0.out]
  refine (l06Right_any g _ D0.out).mono ?_
  rintro e W1 ⟨s, st, o0, o1, o2, l, rfl, hs, ht, hl, hsz, ho, hd1, hs1⟩
  obtain ⟨W2, HW2⟩ : ∃ V, Hid (W1.alloc (.cells #[.int .i64 s, .int .i64 st, .slice o0 o1 o2] 41) = V) := ⟨_, rfl⟩
  have HL : Hid (LgS g w W1.heap.size s st (.slice o0 o1 o2) l W2) := by
    have h2 := Z0.out.lt
    have h1 := hs1.size
    have hz : K3 41 W1 w.heap.size (.int .i64 0) (.int .i64 0) (.slice none 0 0) := Z0.out.save hs1 (by omega)
    rw [← HW2.out]
    exact ⟨hz.alloc _, K3.new _ _ _ _ _, (ho.mono h2).alloc _, hd1.keep ((ba (Below.refl _ _) _).mono hd1.lt), ((Save.of_below B0.out).trans hs1).alloc _, hgl, by omega⟩
  have HSZ : Hid (∀ x ∈ l, x.data.size ≤ 1000) := hsz
  obtain ⟨m, hm⟩ : ∃ m, W1.heap.size = m := ⟨_, rfl⟩
  rw [hm] at HL
  clear hd1 hs1 Z0 B0 HW0 D0 ho hsz
  go_wp2_with fail
  rw [HW2.out]
  try rw [hm]
  clear hm HW2
  refine (below_any g 40 _ HL.out.drw (by decide) (by decide)).mono ?_
  rintro e W3 ⟨q, rfl, q0, q1, hd3, hs3⟩
  have HL3 : Hid (LgS g w m s st (.slice o0 o1 o2) l W3) := HL.out.save hs3 hd3
  clear HL hd3 hs3
  by_cases h0 : q = 0
  · subst h0
    go_wp2_with fail
    have hzs : ∀ z ∈ ([-1, 1000000, 1000001, 999998] : List Int), -9223372036854775808 ≤ z ∧ z ≤ 9223372036854775807 := by decide
    refine (pickIn_from g [-1, 1000000, 1000001, 999998] W3 W3 HL3.out.drw (Save.refl _ _) (by decide) (by decide) #[.int .i64 (-1), .int .i64 1000000, .int .i64 1000001, .int .i64 999998] rfl 4 rfl).mono ?_
    rintro e W4 ⟨z, hzm, rfl, hd4, hs4⟩
    have hz : -1 ≤ z ∧ z ≤ 1000001 := by
      simp only [List.mem_cons, List.not_mem_nil, or_false] at hzm
      rcases hzm with rfl | rfl | rfl | rfl <;> decide
    have HL4 : Hid (LgS g w m s st (.slice o0 o1 o2) l W4) := HL3.out.save hs4 hd4
    clear HL3 hd4 hs4 hzm hzs
    have HE : Hid (LgS g w m z st (.slice o0 o1 o2) l (W4.setCell ⟨m, 0, none⟩ (.int .i64 z))) := HL4.out.set0 z
    have i2 := HL4.out.lg.c0
    have j2 := HL4.out.lg.fz 0
    have e0 := HE.out.lg.c0
    have r0 := HE.out.res.c0
    have f0 := HE.out.res.fz 0
    have e1 := HE.out.lg.c1
    have r1 := HE.out.res.c1
    have f1 := HE.out.res.fz 1
    have e2 := HE.out.lg.c2
    have r2 := HE.out.res.c2
    have f2 := HE.out.res.fz 2
    go_wp2
    exact bodyPost_ret (ret_l1 (p := 2) (by kernel_rfl) (by kernel_rfl) HE.out.fin.1) rfl ⟨z, st, o0, o1, o2, l, rfl, hz, ht, (by omega), HSZ.out, HE.out.fin.2.1, HE.out.fin.2.2.1, HE.out.fin.2.2.2⟩
  · have x0 : (q == 0) = false := beq_eq_false_iff_ne.2 h0
    by_cases h1 : q = 1
    · subst h1
      go_wp2_with fail
      refine (pickIn_from g [-1, 9, 100001] W3 W3 HL3.out.drw (Save.refl _ _) (by decide) (by decide) #[.int .i64 (-1), .int .i64 9, .int .i64 100001] rfl 3 rfl).mono ?_
      rintro e W4 ⟨z, hzm, rfl, hd4, hs4⟩
      have hz : -1 ≤ z ∧ z ≤ 100001 := by
        simp only [List.mem_cons, List.not_mem_nil, or_false] at hzm
        rcases hzm with rfl | rfl | rfl <;> decide
      have HL4 : Hid (LgS g w m s st (.slice o0 o1 o2) l W4) := HL3.out.save hs4 hd4
      clear HL3 hd4 hs4 hzm
      have HE : Hid (LgS g w m s z (.slice o0 o1 o2) l (W4.setCell ⟨m, 1, none⟩ (.int .i64 z))) := HL4.out.set1 z
      have i2 := HL4.out.lg.c1
      have j2 := HL4.out.lg.fz 1
      have e0 := HE.out.lg.c0
      have r0 := HE.out.res.c0
      have f0 := HE.out.res.fz 0
      have e1 := HE.out.lg.c1
      have r1 := HE.out.res.c1
      have f1 := HE.out.res.fz 1
      have e2 := HE.out.lg.c2
      have r2 := HE.out.res.c2
      have f2 := HE.out.res.fz 2
      go_wp2
      exact bodyPost_ret (ret_l1 (p := 2) (by kernel_rfl) (by kernel_rfl) HE.out.fin.1) rfl ⟨s, z, o0, o1, o2, l, rfl, hs, hz, (by omega), HSZ.out, HE.out.fin.2.1, HE.out.fin.2.2.1, HE.out.fin.2.2.2⟩
    · have x1 : (q == 1) = false := beq_eq_false_iff_ne.2 h1
      by_cases h2 : q = 2
      · subst h2
        have k2 : ∀ x : LgY m (.slice o0 o1 o2), x.at'.cell? ⟨m, 2, none⟩ = some (.slice o0 o1 o2) := fun x => x.okl
        haveI : Nonempty (LgY m (.slice o0 o1 o2)) := ⟨⟨W3, HL3.out.lg.c2⟩⟩
        go_wp2
        refine wp_region_pick (fun w' => ∃ x : LgY m (.slice o0 o1 o2), w' = x.at') [0, 1, 2] 6 3 (by kernel_rfl) (by decide) (by decide) (by kernel_rfl) (fun _ _ d _ _ h => by cases d <;> exact h) ⟨⟨W3.drew, HL3.out.drew.lg.c2⟩, rfl⟩ ?_
        repeat (refine wpTakes_l rfl (by first | (intro x h; cases h; done) | (intro x h; cases h; exact ⟨_, rfl⟩)) ?_; go_big_quiet_step (fail); refine wpQuiet_nil ?_)
        refine takes_nil ?_
        clear k2
        refine any_one (fuel := 2) (i := 3) (by kernel_rfl) rfl rfl ?_
        intro K hK
        obtain ⟨U0, hU0⟩ : ∃ V, W3.drew = V := ⟨_, rfl⟩
        have HU0 : Hid (LgS g w m s st (.slice o0 o1 o2) l U0) := by rw [← hU0]; exact HL3.out.drew
        rw [hU0]
        clear hU0 HL3
        go_wp2_with fail
        refine (l05Any_any g _ HU0.out.drw).mono ?_
        rintro e U1 ⟨ft, fk, fd, rfl, hfd, hdr, hsv⟩
        obtain ⟨f, hf⟩ : ∃ f : En, f = ⟨ft, fk, fd⟩ := ⟨_, rfl⟩
        have HU1 : Hid (LgS g w m s st (.slice o0 o1 o2) l U1) := HU0.out.save hsv hdr
        clear hdr hsv HU0
        go_wp2
        refine hK.out _ _ ⟨⟨U1, HU1.out.lg.c2⟩, rfl⟩ ?_
        clear hK K
        refine any_one (fuel := 1) (i := 4) (by kernel_rfl) rfl rfl ?_
        intro K hK
        obtain ⟨U2, hU2⟩ : ∃ V, U1.alloc (.cells #[.int .i64 ft, .int .i64 fk, .string fd] 25) = V := ⟨_, rfl⟩
        have HU2 : Hid (LgS g w m s st (.slice o0 o1 o2) l U2) := by rw [← hU2]; exact HU1.out.alloc _
        have HB2 : Hid (Reads U2 (.slice (some ⟨U1.heap.size, 0, none⟩) 1 1) [f]) := by rw [← hU2, hf]; exact en_builtD U1 ⟨ft, fk, fd⟩
        go_wp2
        try rw [hU2]
        refine hK.out _ _ ⟨⟨U2, HU2.out.lg.c2⟩, rfl⟩ ?_
        clear hK K HU1 hU2
        refine any_one (fuel := 0) (i := 5) (by kernel_rfl) rfl rfl ?_
        intro K hK
        have HLN : Hid (l.length + [f].length ≤ 1048577) := by show _ ≤ _; simp; omega
        go_wp2_with (at_builtin; refine wpList_append_recs rfl (.tmp 26) (.tmp 29) 39 rfl (w.heap.size + 1) 25 _ 32 underEn infoEn rfl _ _ l [f] rfl rfl HU2.out.own HB2.out (en_oneD f) HLN.out (by decide) HU2.out.bsz ?_; intro v' U3 hov hgv)
        obtain ⟨p0, p1, p2, rfl⟩ := hov.slice3
        have hk3 : K3 41 U3 m (.int .i64 s) (.int .i64 st) (.slice o0 o1 o2) := HU2.out.lgG hgv
        have HU4 : Hid (LgS g w m s st (.slice p0 p1 p2) (l ++ [f]) (U3.setCell ⟨m, 2, none⟩ (.slice p0 p1 p2))) := HU2.out.more hgv hov
        have c2 := hk3.c2
        have f2 := hk3.fz 2
        refine hK.out _ _ ⟨⟨U3, c2⟩, rfl⟩ ?_
        clear hK K HU2 HB2 HLN hov hgv hk3
        refine any_done (by kernel_rfl) ?_
        simp only [List.drop_succ_cons, List.drop_zero]
        have HSZ2 : Hid (∀ x ∈ l ++ [f], x.data.size ≤ 1000) := szE_snoc HSZ.out (by rw [hf]; exact hfd)
        clear HSZ
        have HE := HU4
        clear HU4
        have e0 := HE.out.lg.c0
        have r0 := HE.out.res.c0
        have f0 := HE.out.res.fz 0
        have e1 := HE.out.lg.c1
        have r1 := HE.out.res.c1
        have f1 := HE.out.res.fz 1
        have e2 := HE.out.lg.c2
        have r2 := HE.out.res.c2
        have z2 := HE.out.res.fz 2
        go_wp2
        exact bodyPost_ret (ret_l1 (p := 2) (by kernel_rfl) (by kernel_rfl) HE.out.fin.1) rfl ⟨s, st, p0, p1, p2, l ++ [f], rfl, hs, ht, (by simp; omega), HSZ2.out, HE.out.fin.2.1, HE.out.fin.2.2.1, HE.out.fin.2.2.2⟩
      · have x2 : (q == 2) = false := beq_eq_false_iff_ne.2 h2
        by_cases h3 : q = 3
        · subst h3
          obtain ⟨W4, HW4⟩ : ∃ V, Hid (W3.alloc (.cells #[] 25) = V) := ⟨_, rfl⟩
          have HL4 : Hid (LgS g w m s st (.slice o0 o1 o2) l W4) := by rw [← HW4.out]; exact HL3.out.alloc _
          have HO4 : Hid (ownsR W4 (w.heap.size + 1) 25 (.slice (some ⟨W3.heap.size, 0, none⟩) 0 0) ([] : List En)) := by rw [← HW4.out]; exact ownsR_made0 (α := En) W3 _ _ HL3.out.bsz
          have HL5 : Hid (LgS g w m s st (.slice (some ⟨W3.heap.size, 0, none⟩) 0 0) [] (W4.setCell ⟨m, 2, none⟩ (.slice (some ⟨W3.heap.size, 0, none⟩) 0 0))) := HL4.out.set2 HO4.out
          have i2 := HL4.out.lg.c2
          have j2 := HL4.out.lg.fz 2
          clear HL3 HO4 HL4 HSZ
          obtain ⟨bs, hbs⟩ : ∃ b, W3.heap.size = b := ⟨_, rfl⟩
          rw [hbs] at HL5
          obtain ⟨W5, HW5⟩ : ∃ V, Hid (W4.setCell ⟨m, 2, none⟩ (.slice (some ⟨bs, 0, none⟩) 0 0) = V) := ⟨_, rfl⟩
          rw [HW5.out] at HL5
          rw [← HW4.out] at i2 j2
          go_wp2_with fail
          try rw [hbs]
          rw [HW4.out, HW5.out]
          clear i2 j2 hbs HW4 HW5
          refine (once_any g 2 _ HL5.out.drw (by decide) (by decide)).mono ?_
          rintro e W6 ⟨big, rfl, hd6, hs6⟩
          have HL6 : Hid (LgS g w m s st (.slice (some ⟨bs, 0, none⟩) 0 0) [] W6) := HL5.out.save hs6 hd6
          clear HL5 hd6 hs6
          go_wp2
          go_loopw [5] (fun iv wr => ∃ (k : Nat) (o0 : Option Addr) (o1 o2 : Nat) (l : List En), iv = .int .i64 k ∧ k ≤ 61 ∧ l.length = k ∧ Hid (∀ x ∈ l, x.data.size ≤ 1000) ∧ Hid (LgS g w m s st (.slice o0 o1 o2) l wr)) (fun iv _ => 61 - (intOf iv).toNat)
          case atStart => exact ⟨0, _, _, _, [], rfl, by decide, rfl, fun x h => (by cases h), HL6⟩
          case round =>
            clear HL6
            obtain ⟨k, o0, o1, o2, l, rfl, hk61, hl, HSZ, HL⟩ := hrel
            go_wp2_with fail
            refine (below_any g 2 _ HL.out.drw (by decide) (by decide)).mono ?_
            rintro e V1 ⟨z, rfl, z0, z1, hd1, hs1⟩
            have HL1 : Hid (LgS g w m s st (.slice o0 o1 o2) l V1) := HL.out.save hs1 hd1
            clear HL hd1 hs1
            have hwz : IntKind.i64.wrap (60 + z) = 60 + z := by go_arith
            by_cases hlt : (k : Int) < 60 + z
            · have i1 := HL1.out.lg.c1
              obtain ⟨b, hb⟩ : ∃ b, V1.heap.size = b := ⟨_, rfl⟩
              obtain ⟨V2, HV2⟩ : ∃ V, Hid (V1.alloc (.cells #[.int .i64 st, .int .i64 1, .string ⟨#[]⟩] 25) = V) := ⟨_, rfl⟩
              have HL2 : Hid (LgS g w m s st (.slice o0 o1 o2) l V2) := by rw [← HV2.out]; exact HL1.out.alloc _
              have HK2 : Hid (K3 25 V2 b (.int .i64 st) (.int .i64 1) (.string ⟨#[]⟩)) := by rw [← HV2.out, ← hb]; exact K3.new _ _ _ _ _
              have hbm : b ≠ m := by have := HL1.out.msz; omega
              have hbw : w.heap.size + 1 ≤ b := by have := HL1.out.bsz; omega
              have hown : ∀ r, (Value.slice o0 o1 o2).ownBlock = some r → b ≠ r := fun r hr => by have := (HL1.out.own.lt r hr).2; omega
              have hk60 : k + 1 ≤ 61 := by omega
              clear HL1 z0 z1
              cases big with
              | false =>
                obtain ⟨f, HF⟩ : ∃ f : En, Hid ((⟨st, 1, ⟨#[]⟩⟩ : En) = f) := ⟨_, rfl⟩
                obtain ⟨U5, HU5⟩ : ∃ V, Hid (V2.alloc (.cells #[.int .i64 st, .int .i64 1, .string ⟨#[]⟩] 25) = V) := ⟨_, rfl⟩
                have HA5 : Hid (LgS g w m s st (.slice o0 o1 o2) l U5) := by rw [← HU5.out]; exact HL2.out.alloc _
                have HB5 : Hid (Reads U5 (.slice (some ⟨V2.heap.size, 0, none⟩) 1 1) [f]) := by rw [← HU5.out, ← HF.out]; exact en_builtD V2 ⟨st, 1, ⟨#[]⟩⟩
                have HLN : Hid (l.length + [f].length ≤ 1048577) := by show _ ≤ _; simp; omega
                have HSZ2 : Hid (∀ x ∈ l ++ [f], x.data.size ≤ 1000) := szE_snoc HSZ.out (by rw [← HF.out]; exact (Nat.zero_le _))
                have i2 := HL2.out.lg.c2
                have e0 := HK2.out.c0
                have e1 := HK2.out.c1
                have e2 := HK2.out.c2
                clear HSZ
                go_wp2_with (first | rw [HV2.out] | rw [hb] | (at_builtin; rw [HU5.out]; refine wpList_append_recs rfl (.tmp 54) (.tmp 56) 39 rfl (w.heap.size + 1) 25 _ 32 underEn infoEn rfl _ _ l [f] rfl rfl HA5.out.own HB5.out (en_oneD f) HLN.out (by decide) HA5.out.bsz ?_))
                intro v' U6 hov hgv
                obtain ⟨p0, p1, p2, rfl⟩ := hov.slice3
                have hk6 : K3 41 U6 m (.int .i64 s) (.int .i64 st) (.slice o0 o1 o2) := HA5.out.lgG hgv
                have HU7 : Hid (LgS g w m s st (.slice p0 p1 p2) (l ++ [f]) (U6.setCell ⟨m, 2, none⟩ (.slice p0 p1 p2))) := HA5.out.more hgv hov
                have c2 := hk6.c2
                have f2 := hk6.fz 2
                clear HA5 HB5 HLN hov hgv hk6 HU5 i2 e0 e1 e2 HL2 HK2
                go_wp2
                go_roundw
                case rel => exact ⟨k + 1, p0, p1, p2, l ++ [f], by go_num, hk60, by simp; omega, HSZ2, HU7⟩
                case measure => simp [intOf]; omega
              | true =>
                have kt : ∀ x : LgT m st, x.at'.cell? ⟨m, 1, none⟩ = some (.int .i64 st) := fun x => x.okt
                haveI : Nonempty (LgT m st) := ⟨⟨V2, HL2.out.lg.c1⟩⟩
                go_wp2_with (first | rw [HV2.out] | rw [hb])
                clear i1 hb HV2
                refine wp_region_pick (fun w' => ∃ x : LgT m st, w' = x.at') [0, 1] 4 2 (by kernel_rfl) (by decide) (by decide) (by kernel_rfl) (fun _ _ d _ _ h => by cases d <;> exact h) ⟨⟨V2.drew, HL2.out.drew.lg.c1⟩, rfl⟩ ?_
                repeat (refine wpTakes_l rfl (by first | (intro x h; cases h; done) | (intro x h; cases h; exact ⟨_, rfl⟩)) ?_; go_big_quiet_step (fail); refine wpQuiet_nil ?_)
                refine takes_nil ?_
                clear kt
                refine any_one (fuel := 1) (i := 2) (by kernel_rfl) rfl rfl ?_
                intro K hK
                obtain ⟨U0, hU0⟩ : ∃ V, V2.drew = V := ⟨_, rfl⟩
                have HL0 : Hid (LgS g w m s st (.slice o0 o1 o2) l U0) := by rw [← hU0]; exact HL2.out.drew
                have HK0 : Hid (K3 25 U0 b (.int .i64 st) (.int .i64 1) (.string ⟨#[]⟩)) := by rw [← hU0]; exact HK2.out.up (Below.refl _ _).drew
                rw [hU0]
                clear hU0 HL2 HK2
                go_wp2_with fail
                refine (long_any 640 66 U0 (by omega) (by omega)).mono ?_
                rintro e U1 ⟨D, rfl, hD, hb1⟩
                have HL1 : Hid (LgS g w m s st (.slice o0 o1 o2) l U1) := HL0.out.up hb1
                have HK1 : Hid (K3 25 U1 b (.int .i64 st) (.int .i64 1) (.string ⟨#[]⟩)) := HK0.out.up hb1
                clear hb1 HL0 HK0
                go_wp2
                refine hK.out _ _ ⟨⟨U1, HL1.out.lg.c1⟩, rfl⟩ ?_
                clear hK K
                refine any_takes [3] 4 0 ⟨⟨U1, HL1.out.lg.c1⟩, rfl⟩ (by kernel_rfl) (fun _ _ d _ _ h => by cases d <;> exact h) ?_
                repeat (refine wpTakes_l rfl (by first | (intro x h; cases h; done) | (intro x h; cases h; exact ⟨_, rfl⟩)) ?_; go_big_quiet_step (fail); refine wpQuiet_nil ?_)
                refine takes_nil ?_
                refine any_done (by kernel_rfl) ?_
                simp only [List.drop_succ_cons, List.drop_zero]
                obtain ⟨V3, HV3⟩ : ∃ V, Hid (((U1.setCell ⟨b, 0, none⟩ (.int .i64 st)).setCell ⟨b, 1, none⟩ (.int .i64 3)).setCell ⟨b, 2, none⟩ (.string D) = V) := ⟨_, rfl⟩
                have HK2 : Hid (K3 25 V3 b (.int .i64 st) (.int .i64 3) (.string D)) := by rw [← HV3.out]; exact ((HK1.out.s0 _).s1 _).s2 _
                have HL2 : Hid (LgS g w m s st (.slice o0 o1 o2) l V3) := by
                  rw [← HV3.out]
                  refine HL1.out.put (Below.setCell (p := ⟨b, 2, none⟩) (Below.setCell (p := ⟨b, 1, none⟩) (Below.setCell (p := ⟨b, 0, none⟩) (Below.refl _ _) hbw _) hbw _) hbw _) (((HL1.out.lg.far (p := ⟨b, 0, none⟩) hbm _).far (p := ⟨b, 1, none⟩) hbm _).far (p := ⟨b, 2, none⟩) hbm _) (HL1.out.own.same' fun r hr => ?_)
                  have := hown r hr
                  rw [set_otherE _ (p := ⟨b, 2, none⟩) this, set_otherE _ (p := ⟨b, 1, none⟩) this, set_otherE _ (p := ⟨b, 0, none⟩) this]
                have y0 := HK1.out.c0
                have y1 := HK1.out.c1
                have y2 := HK1.out.c2
                have j0 := HK1.out.fz 0
                have j1 := HK1.out.fz 1
                have j2 := HK1.out.fz 2
                have hD1 : D.size ≤ 1000 := by omega
                clear HK1 HL1
                obtain ⟨f, HF⟩ : ∃ f : En, Hid ((⟨st, 3, D⟩ : En) = f) := ⟨_, rfl⟩
                obtain ⟨U5, HU5⟩ : ∃ V, Hid (V3.alloc (.cells #[.int .i64 st, .int .i64 3, .string D] 25) = V) := ⟨_, rfl⟩
                have HA5 : Hid (LgS g w m s st (.slice o0 o1 o2) l U5) := by rw [← HU5.out]; exact HL2.out.alloc _
                have HB5 : Hid (Reads U5 (.slice (some ⟨V3.heap.size, 0, none⟩) 1 1) [f]) := by rw [← HU5.out, ← HF.out]; exact en_builtD V3 ⟨st, 3, D⟩
                have HLN : Hid (l.length + [f].length ≤ 1048577) := by show _ ≤ _; simp; omega
                have HSZ2 : Hid (∀ x ∈ l ++ [f], x.data.size ≤ 1000) := szE_snoc HSZ.out (by rw [← HF.out]; exact hD1)
                have i2 := HL2.out.lg.c2
                have e0 := HK2.out.c0
                have e1 := HK2.out.c1
                have e2 := HK2.out.c2
                clear HSZ
                go_wp2_with (first | rw [HV3.out] | (at_builtin; rw [HU5.out]; refine wpList_append_recs rfl (.tmp 54) (.tmp 56) 39 rfl (w.heap.size + 1) 25 _ 32 underEn infoEn rfl _ _ l [f] rfl rfl HA5.out.own HB5.out (en_oneD f) HLN.out (by decide) HA5.out.bsz ?_))
                intro v' U6 hov hgv
                obtain ⟨p0, p1, p2, rfl⟩ := hov.slice3
                have hk6 : K3 41 U6 m (.int .i64 s) (.int .i64 st) (.slice o0 o1 o2) := HA5.out.lgG hgv
                have HU7 : Hid (LgS g w m s st (.slice p0 p1 p2) (l ++ [f]) (U6.setCell ⟨m, 2, none⟩ (.slice p0 p1 p2))) := HA5.out.more hgv hov
                have c2 := hk6.c2
                have f2 := hk6.fz 2
                clear HA5 HB5 HLN hov hgv hk6 HU5 i2 e0 e1 e2 HL2 HK2
                go_wp2
                go_roundw
                case rel => exact ⟨k + 1, p0, p1, p2, l ++ [f], by go_num, hk60, by simp; omega, HSZ2, HU7⟩
                case measure => simp [intOf]; omega
            · have HE := HL1
              clear HL1
              have e0 := HE.out.lg.c0
              have r0 := HE.out.res.c0
              have f0 := HE.out.res.fz 0
              have e1 := HE.out.lg.c1
              have r1 := HE.out.res.c1
              have f1 := HE.out.res.fz 1
              have e2 := HE.out.lg.c2
              have r2 := HE.out.res.c2
              have f2 := HE.out.res.fz 2
              go_wp2
              exact bodyPost_ret (ret_l1 (p := 2) (by kernel_rfl) (by kernel_rfl) HE.out.fin.1) rfl ⟨s, st, o0, o1, o2, l, rfl, hs, ht, (by omega), HSZ.out, HE.out.fin.2.1, HE.out.fin.2.2.1, HE.out.fin.2.2.2⟩
        · have x3 : (q == 3) = false := beq_eq_false_iff_ne.2 h3
          have HE := HL3
          clear HL3
          have e0 := HE.out.lg.c0
          have r0 := HE.out.res.c0
          have f0 := HE.out.res.fz 0
          have e1 := HE.out.lg.c1
          have r1 := HE.out.res.c1
          have f1 := HE.out.res.fz 1
          have e2 := HE.out.lg.c2
          have r2 := HE.out.res.c2
          have f2 := HE.out.res.fz 2
          go_wp2
          exact bodyPost_ret (ret_l1 (p := 2) (by kernel_rfl) (by kernel_rfl) HE.out.fin.1) rfl ⟨s, st, o0, o1, o2, l, rfl, hs, ht, (by omega), HSZ.out, HE.out.fin.2.1, HE.out.fin.2.2.1, HE.out.fin.2.2.2⟩
end Go.Proofs.Ytehkebdncfljmaa

namespace Go.Proofs.Ytehkebdncfljmaa
open Go Go.RowKit

theorem marksEn_at {x : Int} {n j : Nat} (h : j < n) : (marksEn x n)[j]? = some (mkEn (x + 3 * (j : Int))) := marksR_at h
theorem marksEn_length (x : Int) (n : Nat) : (marksEn x n).length = n := marksR_length x n
theorem ret_log {fn : Func} {p : Tmp} {w : World} {g : Nat} {a b c : Value} {tmps : Array Value} (h : fn.results = #[.cell p 41]) (hp : tmps.getD p undef = .pointer (some ⟨g, 0, none⟩)) (h0 : w.cell? ⟨g, 0, none⟩ = some a) (h1 : w.cell? ⟨g, 1, none⟩ = some b) (h2 : w.cell? ⟨g, 2, none⟩ = some c) :
    (results fn tmps).run Try.prog w = .ok (.agg #[a, b, c]) w := by
  have hp' : tmps[p]?.getD undef = .pointer (some ⟨g, 0, none⟩) := by simpa using hp
  simp [results, h, hp', h0, h1, h2, asAddr, go_sem]
theorem ret_log2 {fn : Func} {p u : Tmp} {w : World} {g : Nat} {a b c x : Value} {tmps : Array Value} (h : fn.results = #[.cell p 41, .tmp u]) (hp : tmps.getD p undef = .pointer (some ⟨g, 0, none⟩)) (hu : tmps.getD u undef = x) (h0 : w.cell? ⟨g, 0, none⟩ = some a) (h1 : w.cell? ⟨g, 1, none⟩ = some b) (h2 : w.cell? ⟨g, 2, none⟩ = some c) :
    (results fn tmps).run Try.prog w = .ok (.tuple #[.agg #[a, b, c], x]) w := by
  have hp' : tmps[p]?.getD undef = .pointer (some ⟨g, 0, none⟩) := by simpa using hp
  have hu' : tmps[u]?.getD undef = x := by simpa using hu
  simp [results, h, hp', hu', h0, h1, h2, asAddr, go_sem]
end Go.Proofs.Ytehkebdncfljmaa

namespace Go.Proofs.Ytehkebdncfljmaa
open Go Go.RowKit

def rises : Int → List En → Bool
  | _, [] => true
  | a, e :: r => okE e.term e.kind e.data && decide (a ≤ e.term) && rises e.term r
/-- A log is right. -/
def okL (s t : Int) (l : List En) : Bool := decide (0 ≤ s) && decide (s ≤ 1000000) && decide (0 ≤ t) && decide (t ≤ 100000) && decide (l.length ≤ 60) && decide (s + l.length ≤ 1000000) && rises t l
def SizedE (l : List En) : Prop := ∀ f ∈ l, f.data.size ≤ 1048576
theorem rises_at {l : List En} {k : Nat} {a : Int} {x : En} (h : l[k]? = some x) : rises a (l.drop k) = (okE x.term x.kind x.data && decide (a ≤ x.term) && rises x.term (l.drop (k + 1))) := by
  have hk : k < l.length := (List.getElem?_eq_some_iff.1 h).1
  have e : l[k] = x := by rw [List.getElem?_eq_getElem hk] at h; exact Option.some.inj h
  rw [List.drop_eq_getElem_cons hk, e]
  rfl
theorem rises_end {l : List En} {k : Nat} {a : Int} (h : k = l.length) : rises a (l.drop k) = true := by
  subst h; simp [rises]
theorem okL_0 {s t : Int} {l : List En} (h : ¬ 0 ≤ s) : okL s t l = false := by simp [okL, h]
theorem okL_1 {s t : Int} {l : List En} (h : ¬ s ≤ 1000000) : okL s t l = false := by simp [okL, h]
theorem okL_2 {s t : Int} {l : List En} (h : ¬ 0 ≤ t) : okL s t l = false := by simp [okL, h]
theorem okL_3 {s t : Int} {l : List En} (h : ¬ t ≤ 100000) : okL s t l = false := by simp [okL, h]
theorem okL_4 {s t : Int} {l : List En} (h : ¬ l.length ≤ 60) : okL s t l = false := by simp [okL, h]
theorem okL_5 {s t : Int} {l : List En} (h : ¬ s + l.length ≤ 1000000) : okL s t l = false := by simp [okL, h]
theorem okL_in {s t : Int} {l : List En} (h0 : 0 ≤ s) (h1 : s ≤ 1000000) (h2 : 0 ≤ t) (h3 : t ≤ 100000) (h4 : l.length ≤ 60) (h5 : s + l.length ≤ 1000000) : okL s t l = rises t l := by simp [okL, h0, h1, h2, h3, h4, h5]
theorem okL_all {s t : Int} {l : List En} (h : okL s t l = true) : 0 ≤ s ∧ s ≤ 1000000 ∧ 0 ≤ t ∧ t ≤ 100000 ∧ l.length ≤ 60 ∧ s + l.length ≤ 1000000 ∧ rises t l = true := by
  simp only [okL, Bool.and_eq_true, decide_eq_true_eq] at h
  obtain ⟨⟨⟨⟨⟨⟨a, b⟩, c⟩, d⟩, e⟩, f⟩, g⟩ := h
  exact ⟨a, b, c, d, e, f, g⟩

set_option maxRecDepth 10000 in
set_option maxHeartbeats 4000000 in
theorem logOk_try (s t : Int) (ao : Option Addr) (n c : Nat) (l : List En) (w : World) (hr : Reads w (.slice ao n c) l) (hn : n ≤ 1048577) (hz : SizedE l) :
    Calls Try.prog 23 #[.agg #[.int .i64 s, .int .i64 t, .slice ao n c]] w fun e w' => e = .returned (.bool (okL s t l)) ∧ Below w.heap.size w w' := by
  have HN : Hid (n = l.length) := hr.len
  have HR : Hid (Reads w (.slice ao n c) l) := hr
  have HZ : Hid (SizedE l) := hz
  clear hr hz
  by_cases h0 : 0 ≤ s
  rotate_left
  · rw [okL_0 h0]
    go_enter Try.func23, Try.ntmps23
    go_wp2
    go_ret
    exact ⟨rfl, ba (Below.refl _ _) _⟩
  by_cases h1 : s ≤ 1000000
  rotate_left
  · rw [okL_1 h1]
    go_enter Try.func23, Try.ntmps23
    go_wp2
    go_ret
    exact ⟨rfl, ba (Below.refl _ _) _⟩
  by_cases h2 : 0 ≤ t
  rotate_left
  · rw [okL_2 h2]
    go_enter Try.func23, Try.ntmps23
    go_wp2
    go_ret
    exact ⟨rfl, ba (Below.refl _ _) _⟩
  by_cases h3 : t ≤ 100000
  rotate_left
  · rw [okL_3 h3]
    go_enter Try.func23, Try.ntmps23
    go_wp2
    go_ret
    exact ⟨rfl, ba (Below.refl _ _) _⟩
  by_cases h4 : n ≤ 60
  rotate_left
  · rw [okL_4 (by rw [← HN.out]; exact h4)]
    go_enter Try.func23, Try.ntmps23
    go_wp2
    go_ret
    exact ⟨rfl, ba (Below.refl _ _) _⟩
  by_cases h5 : s + n ≤ 1000000
  rotate_left
  · rw [okL_5 (by rw [← HN.out]; exact h5)]
    go_enter Try.func23, Try.ntmps23
    go_wp2
    go_ret
    exact ⟨rfl, ba (Below.refl _ _) _⟩
  rw [okL_in h0 h1 h2 h3 (by rw [← HN.out]; exact h4) (by rw [← HN.out]; exact h5)]
  obtain ⟨q, HQ⟩ : ∃ q, Hid (rises t l = q) := ⟨_, rfl⟩
  rw [HQ.out]
  go_enter Try.func23, Try.ntmps23
  go_wp2
  go_loopw [3, 42] (fun x i wr => ∃ (k : Nat) (a : Int), k ≤ n ∧ i = .int .i64 k ∧ x = .int .i64 a ∧ Hid (rises a (l.drop k) = q) ∧ Below w.heap.size w wr) (fun _ i _ => n - (intOf i).toNat)
  case atStart => exact ⟨0, t, Nat.zero_le _, rfl, rfl, by simpa using HQ, ba (Below.refl _ _) _⟩
  case round =>
    obtain ⟨k, a, hk, rfl, rfl, HE, hbel⟩ := hrel
    by_cases hlt : k < n
    · obtain ⟨f, hf⟩ : ∃ f, l[k]? = some f := ⟨_, List.getElem?_eq_getElem (by rw [← HN.out]; exact hlt)⟩
      have HF : Hid (l[k]? = some f) := hf
      have HM : Hid (f.data.size ≤ maxLen) := by have := HZ.out f (List.mem_of_getElem? hf); show _ ≤ maxLen; unfold maxLen; omega
      obtain ⟨b, o, rfl, hb, c0, c1, c2⟩ := en_at (HR.out.below hbel) hf
      have HS : Hid (q = (okE f.term f.kind f.data && decide (a ≤ f.term) && rises f.term (l.drop (k + 1)))) := by
        show q = _
        rw [← HE.out]; exact rises_at hf
      clear hf
      cases hq : okE f.term f.kind f.data with
      | false =>
        have e0 : Hid (q = false) := by show q = false; rw [HS.out, hq]; rfl
        go_wp2_with (go_at_call 34; refine (entryOk_any _ _ _ _ HM.out).mono ?_; rintro e w2 ⟨rfl, hb2⟩; rw [hq])
        go_ret
        exact ⟨by rw [e0.out]; rfl, Below.on hbel (below_new hb2)⟩
      | true =>
        by_cases ha : a ≤ f.term
        · have e1 : Hid (rises f.term (l.drop (k + 1)) = q) := by
            show _ = q
            rw [HS.out, hq, decide_eq_true ha]; rfl
          go_wp2_with (go_at_call 34; refine (entryOk_any _ _ _ _ HM.out).mono ?_; rintro e w2 ⟨rfl, hb2⟩; rw [hq]; have c5 : w2.cell? ⟨wr.heap.size, 0, none⟩ = some (.int .i64 f.term) := (hb2.cell (by simp)).trans (by simp [go_sem]))
          go_roundw
          case rel => exact ⟨k + 1, f.term, by omega, by go_num, rfl, e1, Below.on hbel (below_new hb2)⟩
          case measure => simp [intOf]; omega
        · have e0 : Hid (q = false) := by show q = false; rw [HS.out, hq, decide_eq_false ha]; rfl
          go_wp2_with (go_at_call 34; refine (entryOk_any _ _ _ _ HM.out).mono ?_; rintro e w2 ⟨rfl, hb2⟩; rw [hq]; have c5 : w2.cell? ⟨wr.heap.size, 0, none⟩ = some (.int .i64 f.term) := (hb2.cell (by simp)).trans (by simp [go_sem]))
          go_ret
          exact ⟨by rw [e0.out]; rfl, Below.on hbel (below_new hb2)⟩
    · have hkn : k = n := by omega
      subst hkn
      have e1 : Hid (q = true) := by show q = true; rw [← HE.out]; exact rises_end HN.out
      go_wp2
      go_ret
      exact ⟨by rw [e1.out]; rfl, hbel⟩

theorem okL_s {s t : Int} {l : List En} (h : (decide (0 ≤ s) && decide (s ≤ 1000000)) = false) : okL s t l = false := by simp [okL, h]
theorem okL_t {s t : Int} {l : List En} (h : (decide (0 ≤ t) && decide (t ≤ 100000)) = false) : okL s t l = false := by
  unfold okL
  cases decide (0 ≤ s) <;> cases decide (s ≤ 1000000) <;> simp only [Bool.false_and, Bool.true_and, h]

set_option maxRecDepth 10000 in
set_option maxHeartbeats 4000000 in
theorem specLogOk_try (s t : Int) (ao : Option Addr) (n c : Nat) (l : List En) (w : World) (hr : Reads w (.slice ao n c) l) (hn : n ≤ 1048577) (hz : SizedE l) :
    Calls Try.prog 30 #[.agg #[.int .i64 s, .int .i64 t, .slice ao n c]] w fun e w' => e = .returned (.bool (okL s t l)) ∧ Below w.heap.size w w' := by
  have HN : Hid (n = l.length) := hr.len
  have HR : Hid (Reads w (.slice ao n c) l) := hr
  have HZ : Hid (SizedE l) := hz
  clear hr hz
  cases hs : (decide (0 ≤ s) && decide (s ≤ 1000000)) with
  | false =>
    rw [okL_s hs]
    go_enter Try.func30, Try.ntmps30
    go_wp2_with (go_at_call 38; refine (in_any _ _ _ _).mono ?_; rintro e w' ⟨rfl, hw⟩; have hw2 := hw.symm; subst hw2; rw [hs])
    go_ret
    exact ⟨rfl, ba (Below.refl _ _) _⟩
  | true =>
  have h0 : 0 ≤ s ∧ s ≤ 1000000 := by simpa using hs
  cases ht : (decide (0 ≤ t) && decide (t ≤ 100000)) with
  | false =>
    rw [okL_t ht]
    go_enter Try.func30, Try.ntmps30
    go_wp2_with (go_at_call 38; refine (in_any _ _ _ _).mono ?_; rintro e w' ⟨rfl, hw⟩; have hw2 := hw.symm; subst hw2; first | rw [hs] | rw [ht])
    go_ret
    exact ⟨rfl, ba (Below.refl _ _) _⟩
  | true =>
  have h2 : 0 ≤ t ∧ t ≤ 100000 := by simpa using ht
  by_cases h4 : n ≤ 60
  rotate_left
  · rw [okL_4 (by rw [← HN.out]; exact h4)]
    go_enter Try.func30, Try.ntmps30
    go_wp2_with (go_at_call 38; refine (in_any _ _ _ _).mono ?_; rintro e w' ⟨rfl, hw⟩; have hw2 := hw.symm; subst hw2; first | rw [hs] | rw [ht])
    go_ret
    exact ⟨rfl, ba (Below.refl _ _) _⟩
  by_cases h5 : s + n ≤ 1000000
  rotate_left
  · rw [okL_5 (by rw [← HN.out]; exact h5)]
    go_enter Try.func30, Try.ntmps30
    go_wp2_with (go_at_call 38; refine (in_any _ _ _ _).mono ?_; rintro e w' ⟨rfl, hw⟩; have hw2 := hw.symm; subst hw2; first | rw [hs] | rw [ht])
    go_ret
    exact ⟨rfl, ba (Below.refl _ _) _⟩
  rw [okL_in h0.1 h0.2 h2.1 h2.2 (by rw [← HN.out]; exact h4) (by rw [← HN.out]; exact h5)]
  obtain ⟨q, HQ⟩ : ∃ q, Hid (rises t l = q) := ⟨_, rfl⟩
  rw [HQ.out]
  go_enter Try.func30, Try.ntmps30
  go_wp2_with (go_at_call 38; refine (in_any _ _ _ _).mono ?_; rintro e w' ⟨rfl, hw⟩; have hw2 := hw.symm; subst hw2; first | rw [hs] | rw [ht])
  clear hs ht
  go_loopw [3, 4] (fun x i wr => ∃ (k : Nat) (a : Int), k ≤ n ∧ i = .int .i64 k ∧ x = .int .i64 a ∧ Hid (rises a (l.drop k) = q) ∧ Below (w.heap.size + 1) (w.alloc (.cells #[.int .i64 s, .int .i64 t, .slice ao n c] 41)) wr) (fun _ i _ => n - (intOf i).toNat)
  case atStart => exact ⟨0, t, Nat.zero_le _, rfl, rfl, by simpa using HQ, Below.refl _ _⟩
  case round =>
    obtain ⟨k, a, hk, rfl, rfl, HE, hbw⟩ := hrel
    have hbel : Below w.heap.size w wr := (ba (Below.refl _ _) _).trans (hbw.mono (by omega))
    have d2 : wr.cell? ⟨w.heap.size, 2, none⟩ = some (.slice ao n c) := (hbw.cell (by simp)).trans (by simp [go_sem])
    by_cases hlt : k < n
    · obtain ⟨f, hf⟩ : ∃ f, l[k]? = some f := ⟨_, List.getElem?_eq_getElem (by rw [← HN.out]; exact hlt)⟩
      have HF : Hid (l[k]? = some f) := hf
      have HM : Hid (f.data.size ≤ maxLen) := by have := HZ.out f (List.mem_of_getElem? hf); show _ ≤ maxLen; unfold maxLen; omega
      obtain ⟨b, o, rfl, hb, c0, c1, c2⟩ := en_at (HR.out.below hbel) hf
      have HS : Hid (q = (okE f.term f.kind f.data && decide (a ≤ f.term) && rises f.term (l.drop (k + 1)))) := by
        show q = _
        rw [← HE.out]; exact rises_at hf
      clear hf
      cases hq : okE f.term f.kind f.data with
      | false =>
        have e0 : Hid (q = false) := by show q = false; rw [HS.out, hq]; rfl
        go_wp2_with (go_at_call 37; refine (specEntryOk_any _ _ _ _ HM.out).mono ?_; rintro e w2 ⟨rfl, hb2⟩; rw [hq])
        go_ret
        exact ⟨by rw [e0.out]; rfl, Below.on hbel hb2⟩
      | true =>
        by_cases ha : a ≤ f.term
        · have e1 : Hid (rises f.term (l.drop (k + 1)) = q) := by
            show _ = q
            rw [HS.out, hq, decide_eq_true ha]; rfl
          go_wp2_with (go_at_call 37; refine (specEntryOk_any _ _ _ _ HM.out).mono ?_; rintro e w2 ⟨rfl, hb2⟩; rw [hq]; have c5 := cell_up hb2 c0; have d5 := cell_up hb2 d2)
          go_roundw
          case rel => exact ⟨k + 1, f.term, by omega, by go_num, rfl, e1, hbw.trans (hb2.mono (by have := hbw.size; simpa using this))⟩
          case measure => simp [intOf]; omega
        · have e0 : Hid (q = false) := by show q = false; rw [HS.out, hq, decide_eq_false ha]; rfl
          go_wp2_with (go_at_call 37; refine (specEntryOk_any _ _ _ _ HM.out).mono ?_; rintro e w2 ⟨rfl, hb2⟩; rw [hq]; have c5 := cell_up hb2 c0; have d5 := cell_up hb2 d2)
          go_ret
          exact ⟨by rw [e0.out]; rfl, Below.on hbel hb2⟩
    · have hkn : k = n := by omega
      subst hkn
      have e1 : Hid (q = true) := by show q = true; rw [← HE.out]; exact rises_end HN.out
      go_wp2
      go_ret
      exact ⟨by rw [e1.out]; rfl, hbel⟩

theorem logOk_any {s t : Int} {w : World} {v : Value} {l : List En} (hr : Reads w v l) (hn : l.length ≤ 1048577) (hz : SizedE l) :
    Calls Try.prog 23 #[.agg #[.int .i64 s, .int .i64 t, v]] w fun e w' => e = .returned (.bool (okL s t l)) ∧ Below w.heap.size w w' := by
  obtain ⟨ao, c, rfl, _⟩ := id hr
  exact logOk_try s t ao _ c l w hr hn hz
theorem specLogOk_any {s t : Int} {w : World} {v : Value} {l : List En} (hr : Reads w v l) (hn : l.length ≤ 1048577) (hz : SizedE l) :
    Calls Try.prog 30 #[.agg #[.int .i64 s, .int .i64 t, v]] w fun e w' => e = .returned (.bool (okL s t l)) ∧ Below w.heap.size w w' := by
  obtain ⟨ao, c, rfl, _⟩ := id hr
  exact specLogOk_try s t ao _ c l w hr hn hz
end Go.Proofs.Ytehkebdncfljmaa

namespace Go.Proofs.Ytehkebdncfljmaa
open Go Go.RowKit

def lastI (s : Int) (l : List En) : Int := if l.length = 0 then s else wrap64 (s + l.length)
def lastT (t : Int) (l : List En) : Int := (l.getLast?.map En.term).getD t
theorem lastT_at {t : Int} {l : List En} {k : Nat} {f : En} (h : l.length = k + 1) (hf : l[k]? = some f) : lastT t l = f.term := by
  unfold lastT
  rw [List.getLast?_eq_getElem?, h, Nat.add_sub_cancel, hf]
  rfl

set_option maxRecDepth 10000 in
set_option maxHeartbeats 1000000 in
theorem logLast_try (s t : Int) (ao : Option Addr) (n c : Nat) (l : List En) (w : World) (hr : Reads w (.slice ao n c) l) (hn : n ≤ 1048577) :
    Calls Try.prog 22 #[.agg #[.int .i64 s, .int .i64 t, .slice ao n c]] w fun e w' => e = .returned (.tuple #[.int .i64 (lastI s l), .int .i64 (lastT t l)]) ∧ Below w.heap.size w w' := by
  have hN := hr.len
  have HR : Hid (Reads w (.slice ao n c) l) := hr
  clear hr
  cases n with
  | zero =>
    have hl : l = [] := List.eq_nil_of_length_eq_zero hN.symm
    subst hl
    clear hN
    show Calls Try.prog 22 _ w fun e w' => e = .returned (.tuple #[.int .i64 s, .int .i64 t]) ∧ Below w.heap.size w w'
    go_enter Try.func22, Try.ntmps22
    go_wp2
    go_quiet (fail)
    go_wp2
    go_ret2
    exact ⟨rfl, bdrewN (ba (Below.refl _ _) _) _⟩
  | succ k =>
    obtain ⟨f, hf⟩ : ∃ f, l[k]? = some f := ⟨_, List.getElem?_eq_getElem (by omega)⟩
    have HI : Hid (lastI s l = wrap64 (s + (k + 1 : Nat))) := by show lastI s l = _; unfold lastI; rw [if_neg (by omega), ← hN]
    have HT : Hid (lastT t l = f.term) := lastT_at hN.symm hf
    rw [HI.out, HT.out]
    obtain ⟨b, o, rfl, hb, c0, c1, c2⟩ := en_at HR.out hf
    clear hf hN c1 c2
    have d0 : (w.alloc (.cells #[.int .i64 s, .int .i64 t, .slice (some ⟨b, o, none⟩) (k + 1) c] 41)).cell? ⟨b, o + k * 3, none⟩ = some (.int .i64 f.term) := cell_up (ba (Below.refl _ _) _) c0
    have e1 : ((k + 1 : Nat) : Int) - 1 = (k : Int) := by omega
    go_enter Try.func22, Try.ntmps22
    go_wp2
    go_quiet (fail)
    go_wp2
    go_ret2
    exact ⟨rfl, bdrewN (ba (Below.refl _ _) _) _⟩
set_option maxRecDepth 10000 in
set_option maxHeartbeats 1000000 in
theorem specLogLast_try (s t : Int) (ao : Option Addr) (n c : Nat) (l : List En) (w : World) (hr : Reads w (.slice ao n c) l) (hn : n ≤ 1048577) :
    Calls Try.prog 55 #[.agg #[.int .i64 s, .int .i64 t, .slice ao n c]] w fun e w' => e = .returned (.tuple #[.int .i64 (lastI s l), .int .i64 (lastT t l)]) ∧ Below w.heap.size w w' := by
  have hN := hr.len
  have HR : Hid (Reads w (.slice ao n c) l) := hr
  clear hr
  cases n with
  | zero =>
    have hl : l = [] := List.eq_nil_of_length_eq_zero hN.symm
    subst hl
    clear hN
    show Calls Try.prog 55 _ w fun e w' => e = .returned (.tuple #[.int .i64 s, .int .i64 t]) ∧ Below w.heap.size w w'
    go_enter Try.func55, Try.ntmps55
    go_wp2
    go_quiet (fail)
    go_wp2
    go_ret2
    exact ⟨rfl, bdrewN (ba (Below.refl _ _) _) _⟩
  | succ k =>
    obtain ⟨f, hf⟩ : ∃ f, l[k]? = some f := ⟨_, List.getElem?_eq_getElem (by omega)⟩
    have HI : Hid (lastI s l = wrap64 (s + (k + 1 : Nat))) := by show lastI s l = _; unfold lastI; rw [if_neg (by omega), ← hN]
    have HT : Hid (lastT t l = f.term) := lastT_at hN.symm hf
    rw [HI.out, HT.out]
    obtain ⟨b, o, rfl, hb, c0, c1, c2⟩ := en_at HR.out hf
    clear hf hN c1 c2
    have d0 : (w.alloc (.cells #[.int .i64 s, .int .i64 t, .slice (some ⟨b, o, none⟩) (k + 1) c] 41)).cell? ⟨b, o + k * 3, none⟩ = some (.int .i64 f.term) := cell_up (ba (Below.refl _ _) _) c0
    have e1 : ((k + 1 : Nat) : Int) - 1 = (k : Int) := by omega
    go_enter Try.func55, Try.ntmps55
    go_wp2
    go_quiet (fail)
    go_wp2
    go_ret2
    exact ⟨rfl, bdrewN (ba (Below.refl _ _) _) _⟩

theorem logLast_any {s t : Int} {w : World} {v : Value} {l : List En} (hr : Reads w v l) (hn : l.length ≤ 1048577) :
    Calls Try.prog 22 #[.agg #[.int .i64 s, .int .i64 t, v]] w fun e w' => e = .returned (.tuple #[.int .i64 (lastI s l), .int .i64 (lastT t l)]) ∧ Below w.heap.size w w' := by
  obtain ⟨ao, c, rfl, _⟩ := id hr
  exact logLast_try s t ao _ c l w hr hn
theorem specLogLast_any {s t : Int} {w : World} {v : Value} {l : List En} (hr : Reads w v l) (hn : l.length ≤ 1048577) :
    Calls Try.prog 55 #[.agg #[.int .i64 s, .int .i64 t, v]] w fun e w' => e = .returned (.tuple #[.int .i64 (lastI s l), .int .i64 (lastT t l)]) ∧ Below w.heap.size w w' := by
  obtain ⟨ao, c, rfl, _⟩ := id hr
  exact specLogLast_try s t ao _ c l w hr hn

set_option maxHeartbeats 400000 in
theorem l06Last_any (s t : Int) (ao : Option Addr) (n c : Nat) (w : World) (h0 : 0 ≤ s) (h1 : s ≤ 1000000) (hn : n ≤ 60) :
    Calls Try.prog 53 #[.agg #[.int .i64 s, .int .i64 t, .slice ao n c]] w fun e w' => e = .returned (.int .i64 (s + n)) ∧ Below w.heap.size w w' := by
  go_enter Try.func53, Try.ntmps53
  go_wp2
  go_ret
  exact ⟨rfl, ba (Below.refl _ _) _⟩

/-- A log has an index. -/
def hasL (s : Int) (n : Nat) (i : Int) : Bool := decide (s ≤ i) && decide (i ≤ s + n)
set_option maxHeartbeats 400000 in
theorem has_any (s t i : Int) (ao : Option Addr) (n c : Nat) (w : World) (h0 : 0 ≤ s) (h1 : s ≤ 1000000) (hn : n ≤ 60) (hi : i ≤ 9223372036854775807) :
    Calls Try.prog 49 #[.agg #[.int .i64 s, .int .i64 t, .slice ao n c], .int .i64 i] w fun e w' => e = .returned (.bool (hasL s n i)) ∧ Below w.heap.size w w' := by
  by_cases h2 : s ≤ i
  · have u1 : IntKind.u64.wrap i = i := by simp [IntKind.wrap, IntKind.signed, IntKind.bits]; omega
    have u2 : IntKind.u64.wrap s = s := by simp [IntKind.wrap, IntKind.signed, IntKind.bits]; omega
    have u3 : IntKind.u64.wrap (i - s) = i - s := by simp [IntKind.wrap, IntKind.signed, IntKind.bits]; omega
    have u4 : IntKind.u64.wrap (n : Int) = (n : Int) := by simp [IntKind.wrap, IntKind.signed, IntKind.bits]; omega
    by_cases h3 : i - s ≤ n
    · have HQ : Hid (hasL s n i = true) := by show hasL s n i = true; unfold hasL; simp; omega
      rw [HQ.out]
      go_enter Try.func49, Try.ntmps49
      go_wp2
      go_ret
      exact ⟨rfl, ba (Below.refl _ _) _⟩
    · have HQ : Hid (hasL s n i = false) := by show hasL s n i = false; unfold hasL; simp; omega
      rw [HQ.out]
      go_enter Try.func49, Try.ntmps49
      go_wp2
      go_ret
      exact ⟨rfl, ba (Below.refl _ _) _⟩
  · have HQ : Hid (hasL s n i = false) := by show hasL s n i = false; unfold hasL; simp; omega
    rw [HQ.out]
    go_enter Try.func49, Try.ntmps49
    go_wp2
    go_ret
    exact ⟨rfl, ba (Below.refl _ _) _⟩
end Go.Proofs.Ytehkebdncfljmaa

namespace Go.Proofs.Ytehkebdncfljmaa
open Go Go.RowKit
set_option linter.unusedVariables false

/-- What lies there while a log and an entry are drawn. -/
structure PuS (g : Nat) (w : World) (m : Nat) (s st : Int) (ev : Value) (l : List En) (W : World) : Prop where
  res : K3 41 W w.heap.size (.int .i64 0) (.int .i64 0) (.slice none 0 0)
  ren : K3 25 W (w.heap.size + 1) (.int .i64 0) (.int .i64 0) (.string ⟨#[]⟩)
  lg : K3 41 W m (.int .i64 s) (.int .i64 st) ev
  own : ownsR W (w.heap.size + 2) 25 ev l
  drw : Drw W g
  bel : Below w.heap.size w W
  gl : w.heap.size + 1 < g
  gm : g < m
section
variable {g : Nat} {w W W' : World} {m : Nat} {s st : Int} {ev : Value} {l : List En}
theorem PuS.save (h : PuS g w m s st ev l W) (hs : Save g W W') (hd : Drw W' g) : PuS g w m s st ev l W' :=
  have h1 := h.gl
  have h2 := h.gm
  ⟨h.res.save hs (by omega), h.ren.save hs (by omega), h.lg.save hs (by omega), h.own.same' fun r hr => hs.block r (h.own.lt r hr).2 (fun e => h.own.apartTy h.drw.ty (by decide) (by rw [hr, e])), hd, h.bel.trans (hs.below (by omega) h.bel.size), h.gl, h.gm⟩
theorem PuS.up (h : PuS g w m s st ev l W) (hb : Below W.heap.size W W') : PuS g w m s st ev l W' := h.save (Save.of_below hb) (h.drw.keep (hb.mono h.drw.lt))
theorem PuS.drew (h : PuS g w m s st ev l W) : PuS g w m s st ev l W.drew := h.up (Below.refl _ _).drew
/-- A block behind the log's is changed. -/
theorem PuS.high {b : Nat} (h : PuS g w m s st ev l W) (hm : m < b) (hr : ∀ r, ev.ownBlock = some r → b ≠ r) (hb : Below b W W') (hk : ∀ k, k ≠ b → W'.heap[k]? = W.heap[k]?) : PuS g w m s st ev l W' :=
  have h1 := h.gl
  have h2 := h.gm
  ⟨(hk _ (by omega)).trans h.res, (hk _ (by omega)).trans h.ren, (hk _ (by omega)).trans h.lg, h.own.same' fun r hr' => hk r (fun e => hr r hr' e.symm), h.drw.keep (hb.mono (by omega)), h.bel.trans (hb.mono (by omega)), h.gl, h.gm⟩
end
/-- Any world in which the log and the entry stand. -/
structure PuY (m b : Nat) (s st : Int) (ev : Value) (t k : Int) (d : ByteArray) where
  at' : World
  okl : K3 41 at' m (.int .i64 s) (.int .i64 st) ev
  oke : K3 25 at' b (.int .i64 t) (.int .i64 k) (.string d)
theorem ret_lie {W : World} {b1 b2 : Nat} {x0 x1 x2 y z0 z1 z2 : Value} {fn : Func} {p q r : Tmp} {tmps : Array Value} (h : fn.results = #[.cell p 41, .tmp q, .cell r 25]) (hp : tmps.getD p undef = .pointer (some ⟨b1, 0, none⟩)) (hq : tmps.getD q undef = y) (hr : tmps.getD r undef = .pointer (some ⟨b2, 0, none⟩)) (h1 : K3 41 W b1 x0 x1 x2) (h2 : K3 25 W b2 z0 z1 z2) :
    (results fn tmps).run Try.prog W = .ok (.tuple #[.agg #[x0, x1, x2], y, .agg #[z0, z1, z2]]) W := by
  have hp' : tmps[p]?.getD undef = .pointer (some ⟨b1, 0, none⟩) := by simpa using hp
  have hq' : tmps[q]?.getD undef = y := by simpa using hq
  have hr' : tmps[r]?.getD undef = .pointer (some ⟨b2, 0, none⟩) := by simpa using hr
  simp [results, h, hp', hq', hr', h1.c0, h1.c1, h1.c2, h2.c0, h2.c1, h2.c2, asAddr, go_sem]
/-- What DrawLogPut answers. -/
def LpD (w : World) (e : Ending) (w' : World) : Prop :=
  ∃ (s st : Int) (o0 : Option Addr) (o1 o2 : Nat) (l : List En) (i t k : Int) (d : ByteArray), e = .returned (.tuple #[.agg #[.int .i64 s, .int .i64 st, .slice o0 o1 o2], .int .i64 i, .agg #[.int .i64 t, .int .i64 k, .string d]]) ∧ l.length ≤ 61 ∧ (∀ f ∈ l, f.data.size ≤ 1000) ∧ d.size ≤ 1000 ∧ ownsR w' w.heap.size 25 (.slice o0 o1 o2) l ∧ Below w.heap.size w w'
set_option maxRecDepth 10000 in
set_option maxHeartbeats 4000000 in
theorem drawPut_any (v : Value) (n : Nat) (w : World) (hn : n ≤ 1048576) (hc : CodeAt w w.heap.size v n) : Calls Try.prog 27 #[v] w (LpD w) := by
  obtain ⟨W0, HW0⟩ : ∃ W0, Hid ((w.alloc (.cells #[.int .i64 0, .int .i64 0, .slice none 0 0] 41)).alloc (.cells #[.int .i64 0, .int .i64 0, .string ⟨#[]⟩] 25) = W0) := ⟨_, rfl⟩
  have Z0 : Hid (K3 41 W0 w.heap.size (.int .i64 0) (.int .i64 0) (.slice none 0 0)) := by rw [← HW0.out]; exact (K3.new _ _ _ _ _).alloc _
  have Y0 : Hid (K3 25 W0 (w.heap.size + 1) (.int .i64 0) (.int .i64 0) (.string ⟨#[]⟩)) := by
    rw [← HW0.out]
    have := K3.new 25 (w.alloc (.cells #[.int .i64 0, .int .i64 0, .slice none 0 0] 41)) (.int .i64 0) (.int .i64 0) (.string ⟨#[]⟩)
    rwa [World.size_alloc] at this
  have B0 : Hid (Below w.heap.size w W0) := by rw [← HW0.out]; exact ba (ba (Below.refl _ _) _) _
  have hz0 : w.heap.size + 2 = W0.heap.size := by rw [← HW0.out]; simp
  have HCO : Hid (CodeAt W0 W0.heap.size v n) := hc.on B0.out
  clear hc
  go_enter Try.func27, Try.ntmps27
  go_wp2_with fail
  rw [HW0.out]
  refine (new_any v n _ hn HCO.out).mono ?_
  rintro x W1 ⟨g, rfl, hg, hd1, hb1⟩
  have HB1 : Hid (Below W0.heap.size W0 W1) := hb1
  have HD1 : Hid (Drw W1 g) := hd1
  clear hb1 hd1 HCO HW0
  go_wp2_with fail
  refine (l06Any_any g W1 HD1.out).mono ?_
  rintro x W2 ⟨s, st, o0, o1, o2, l, rfl, hs, ht, hl, hsz, ho, hd2, hs2⟩
  have HSZ : Hid (∀ f ∈ l, f.data.size ≤ 1000) := hsz
  obtain ⟨W3, HW3⟩ : ∃ V, Hid (W2.alloc (.cells #[.int .i64 s, .int .i64 st, .slice o0 o1 o2] 41) = V) := ⟨_, rfl⟩
  obtain ⟨m, hm⟩ : ∃ m, W2.heap.size = m := ⟨_, rfl⟩
  have HP3 : Hid (PuS g w m s st (.slice o0 o1 o2) l W3) := by
    have hz1 := HB1.out.size
    have hz2 := hs2.size
    have hbb : Below W0.heap.size W0 W2 := HB1.out.trans (hs2.below hg HB1.out.size)
    have hgl := hd2.lt
    have hwb : Below w.heap.size w W2 := B0.out.trans (hbb.mono B0.out.size)
    rw [← HW3.out, ← hm]
    exact ⟨(Z0.out.up hbb).alloc _, (Y0.out.up hbb).alloc _, K3.new _ _ _ _ _, (ho.mono (by omega)).alloc _, hd2.keep ((ba (Below.refl _ _) _).mono hgl), ba hwb _, by omega, hgl⟩
  have HLL : Hid (l.length ≤ 61) := hl
  have ho61 : o1 ≤ 61 := by rw [show o1 = l.length from ho.reads.len]; exact hl
  clear hs2 hd2 HB1 HD1 Z0 Y0 B0 ho hsz hs ht hz0 hg hl hn
  go_wp2_with fail
  rw [HW3.out]
  try rw [hm]
  clear hm HW3
  refine (specLogLast_any HP3.out.own.reads (by have := HLL.out; omega)).mono ?_
  rintro x W4 ⟨rfl, hb4⟩
  obtain ⟨la, hla⟩ : ∃ a, lastI s l = a := ⟨_, rfl⟩
  obtain ⟨lb, hlb⟩ : ∃ a, lastT st l = a := ⟨_, rfl⟩
  rw [hla, hlb]
  have HP4 : Hid (PuS g w m s st (.slice o0 o1 o2) l W4) := HP3.out.up hb4
  clear hb4 HP3 hla hlb
  go_wp2_with fail
  refine (below_any g 2 _ HP4.out.drw (by decide) (by decide)).mono ?_
  rintro x W5 ⟨q, rfl, q0, q1, hd5, hs5⟩
  have HP5 : Hid (PuS g w m s st (.slice o0 o1 o2) l W5) := HP4.out.save hs5 hd5
  clear HP4 hd5 hs5 q0 q1
  go_wp2_with fail
  refine (l05Right_any g _ _ HP5.out.drw).mono ?_
  rintro x W6 ⟨t, k, d, rfl, hd, hd6, hs6⟩
  have HP6 : Hid (PuS g w m s st (.slice o0 o1 o2) l W6) := HP5.out.save hs6 hd6
  clear HP5 hd6 hs6
  obtain ⟨W7, HW7⟩ : ∃ V, Hid (W6.alloc (.cells #[.int .i64 t, .int .i64 k, .string d] 25) = V) := ⟨_, rfl⟩
  obtain ⟨b, hb⟩ : ∃ b, W6.heap.size = b := ⟨_, rfl⟩
  have HP7 : Hid (PuS g w m s st (.slice o0 o1 o2) l W7) := by rw [← HW7.out]; exact HP6.out.up (ba (Below.refl _ _) _)
  have HK7 : Hid (K3 25 W7 b (.int .i64 t) (.int .i64 k) (.string d)) := by rw [← HW7.out, ← hb]; exact K3.new _ _ _ _ _
  have hmb : m < b := by rw [← hb]; exact HP6.out.lg.lt
  have hbr : ∀ r, (Value.slice o0 o1 o2).ownBlock = some r → b ≠ r := fun r hr => by have := (HP6.out.own.lt r hr).2; omega
  have hgb : b ≠ g := by have := HP6.out.gm; omega
  clear HP6
  go_wp2_with fail
  rw [HW7.out]
  try rw [hb]
  clear hb HW7
  refine (once_any g 8 _ HP7.out.drw (by decide) (by decide)).mono ?_
  rintro x W8 ⟨c, rfl, hd8, hs8⟩
  have HP : Hid (PuS g w m s st (.slice o0 o1 o2) l W8) := HP7.out.save hs8 hd8
  have HK : Hid (K3 25 W8 b (.int .i64 t) (.int .i64 k) (.string d)) := HK7.out.save hs8 hgb
  clear HP7 HK7 hd8 hs8
  cases c with
  | false =>
    have q0 : ∀ x : PuY m b s st (.slice o0 o1 o2) t k d, x.at'.cell? ⟨m, 0, none⟩ = some (.int .i64 s) := fun x => x.okl.c0
    have q1 : ∀ x : PuY m b s st (.slice o0 o1 o2) t k d, x.at'.cell? ⟨m, 1, none⟩ = some (.int .i64 st) := fun x => x.okl.c1
    have q2 : ∀ x : PuY m b s st (.slice o0 o1 o2) t k d, x.at'.cell? ⟨m, 2, none⟩ = some (.slice o0 o1 o2) := fun x => x.okl.c2
    have q3 : ∀ x : PuY m b s st (.slice o0 o1 o2) t k d, x.at'.cell? ⟨b, 0, none⟩ = some (.int .i64 t) := fun x => x.oke.c0
    have q4 : ∀ x : PuY m b s st (.slice o0 o1 o2) t k d, x.at'.cell? ⟨b, 1, none⟩ = some (.int .i64 k) := fun x => x.oke.c1
    have q5 : ∀ x : PuY m b s st (.slice o0 o1 o2) t k d, x.at'.cell? ⟨b, 2, none⟩ = some (.string d) := fun x => x.oke.c2
    haveI : Nonempty (PuY m b s st (.slice o0 o1 o2) t k d) := ⟨⟨W8, HP.out.lg, HK.out⟩⟩
    go_wp2
    refine wp_region_pick (fun w' => ∃ x : PuY m b s st (.slice o0 o1 o2) t k d, w' = x.at') [0, 1, 2, 3, 4, 5, 10] 13 6 (by kernel_rfl) (by decide) (by decide) (by kernel_rfl) (fun _ _ d _ _ h => by cases d <;> exact h) ⟨⟨W8.drew, HP.out.drew.lg, HK.out.up (Below.refl _ _).drew⟩, rfl⟩ ?_
    repeat (refine wpTakes_l rfl (by first | (intro x h; cases h; done) | (intro x h; cases h; exact ⟨_, rfl⟩)) ?_; go_big_quiet_step (fail); refine wpQuiet_nil ?_)
    refine takes_nil ?_
    clear q0 q1 q2 q3 q4 q5
    obtain ⟨U0, hU0⟩ : ∃ V, W8.drew = V := ⟨_, rfl⟩
    have HP0 : Hid (PuS g w m s st (.slice o0 o1 o2) l U0) := by rw [← hU0]; exact HP.out.drew
    have HK0 : Hid (K3 25 U0 b (.int .i64 t) (.int .i64 k) (.string d)) := by rw [← hU0]; exact HK.out.up (Below.refl _ _).drew
    rw [hU0]
    clear hU0 HP HK
    refine any_one (fuel := 5) (i := 6) (by kernel_rfl) rfl rfl ?_
    intro K hK
    go_wp2
    refine hK.out _ _ ⟨⟨U0, HP0.out.lg, HK0.out⟩, rfl⟩ ?_
    clear hK K
    refine any_takes [7] 13 4 ⟨⟨U0, HP0.out.lg, HK0.out⟩, rfl⟩ (by kernel_rfl) (fun _ _ d _ _ h => by cases d <;> exact h) ?_
    repeat (refine wpTakes_l rfl (by first | (intro x h; cases h; done) | (intro x h; cases h; exact ⟨_, rfl⟩)) ?_; go_big_quiet_step (fail); refine wpQuiet_nil ?_)
    refine takes_nil ?_
    refine any_one (fuel := 3) (i := 8) (by kernel_rfl) rfl rfl ?_
    intro K hK
    go_wp2_with fail
    refine (show Calls Try.prog 58 #[.pointer (some ⟨g, 0, none⟩), .int .i64 ((o1 : Int) + 2)] U0 _ from l01Place_any g (o1 + 2) U0 HP0.out.drw (by omega) (by omega)).mono ?_
    rintro e U1 ⟨z, rfl, -, -, hd1, hs1⟩
    have HP1 : Hid (PuS g w m s st (.slice o0 o1 o2) l U1) := HP0.out.save hs1 hd1
    have HK1 : Hid (K3 25 U1 b (.int .i64 t) (.int .i64 k) (.string d)) := HK0.out.save hs1 (by omega)
    clear HP0 HK0 hd1 hs1
    go_wp2
    refine hK.out _ _ ⟨⟨U1, HP1.out.lg, HK1.out⟩, rfl⟩ ?_
    clear hK K
    refine any_takes [9] 13 2 ⟨⟨U1, HP1.out.lg, HK1.out⟩, rfl⟩ (by kernel_rfl) (fun _ _ d _ _ h => by cases d <;> exact h) ?_
    repeat (refine wpTakes_l rfl (by first | (intro x h; cases h; done) | (intro x h; cases h; exact ⟨_, rfl⟩)) ?_; go_big_quiet_step (fail); refine wpQuiet_nil ?_)
    refine takes_nil ?_
    refine any_one (fuel := 1) (i := 11) (by kernel_rfl) rfl rfl ?_
    intro K hK
    have r0 := HP1.out.res.c0
    have f0 := HP1.out.res.fz 0
    have r1 := HP1.out.res.c1
    have f1 := HP1.out.res.fz 1
    have r2 := HP1.out.res.c2
    have f2 := HP1.out.res.fz 2
    obtain ⟨U2, HU2⟩ : ∃ V, Hid (((U1.setCell ⟨w.heap.size, 0, none⟩ (.int .i64 s)).setCell ⟨w.heap.size, 1, none⟩ (.int .i64 st)).setCell ⟨w.heap.size, 2, none⟩ (.slice o0 o1 o2) = V) := ⟨_, rfl⟩
    have g1 := HP1.out.gl
    have g2 := HP1.out.gm
    have hfar : ∀ k, k ≠ w.heap.size → U2.heap[k]? = U1.heap[k]? := fun k hk => by
      rw [← HU2.out, set_otherE _ (p := ⟨w.heap.size, 2, none⟩) (Ne.symm hk), set_otherE _ (p := ⟨w.heap.size, 1, none⟩) (Ne.symm hk), set_otherE _ (p := ⟨w.heap.size, 0, none⟩) (Ne.symm hk)]
    have R2 : Hid (K3 41 U2 w.heap.size (.int .i64 s) (.int .i64 st) (.slice o0 o1 o2)) := by rw [← HU2.out]; exact ((HP1.out.res.s0 _).s1 _).s2 _
    have N2 : Hid (K3 25 U2 (w.heap.size + 1) (.int .i64 0) (.int .i64 0) (.string ⟨#[]⟩)) := (hfar _ (by omega)).trans HP1.out.ren
    have L2 : Hid (K3 41 U2 m (.int .i64 s) (.int .i64 st) (.slice o0 o1 o2)) := (hfar _ (by omega)).trans HP1.out.lg
    have E2 : Hid (K3 25 U2 b (.int .i64 t) (.int .i64 k) (.string d)) := (hfar _ (by omega)).trans HK1.out
    have O2 : Hid (ownsR U2 (w.heap.size + 2) 25 (.slice o0 o1 o2) l) := HP1.out.own.same' fun r hr => hfar r (by have := (HP1.out.own.lt r hr).1; omega)
    have B2 : Hid (Below w.heap.size w U2) := by rw [← HU2.out]; exact Below.setCell (p := ⟨w.heap.size, 2, none⟩) (Below.setCell (p := ⟨w.heap.size, 1, none⟩) (Below.setCell (p := ⟨w.heap.size, 0, none⟩) HP1.out.bel (Nat.le_refl _) _) (Nat.le_refl _) _) (Nat.le_refl _) _
    clear HP1 HK1 hfar g1 g2
    go_wp2
    rw [HU2.out]
    refine hK.out _ _ ⟨⟨U2, L2.out, E2.out⟩, rfl⟩ ?_
    clear hK K r0 r1 r2 f0 f1 f2 HU2
    refine any_takes [12] 13 0 ⟨⟨U2, L2.out, E2.out⟩, rfl⟩ (by kernel_rfl) (fun _ _ d _ _ h => by cases d <;> exact h) ?_
    repeat (refine wpTakes_l rfl (by first | (intro x h; cases h; done) | (intro x h; cases h; exact ⟨_, rfl⟩)) ?_; go_big_quiet_step (fail); refine wpQuiet_nil ?_)
    refine takes_nil ?_
    refine any_done (by kernel_rfl) ?_
    simp only [List.drop_succ_cons, List.drop_zero]
    have r0 := N2.out.c0
    have f0 := N2.out.fz 0
    have r1 := N2.out.c1
    have f1 := N2.out.fz 1
    have r2 := N2.out.c2
    have f2 := N2.out.fz 2
    have hne : w.heap.size + 1 ≠ w.heap.size := by omega
    have EX : Hid (LpD w (.returned (.tuple #[.agg #[.int .i64 s, .int .i64 st, .slice o0 o1 o2], .int .i64 (wrap64 (s + z)), .agg #[.int .i64 t, .int .i64 k, .string d]])) (set3E U2 (w.heap.size + 1) (.int .i64 t) (.int .i64 k) (.string d))) :=
      ⟨s, st, o0, o1, o2, l, _, t, k, d, rfl, HLL.out, HSZ.out, hd, (((O2.out.setBelow (a := ⟨w.heap.size + 1, 0, none⟩) (Nat.lt_succ_self _) _).setBelow (a := ⟨w.heap.size + 1, 1, none⟩) (Nat.lt_succ_self _) _).setBelow (a := ⟨w.heap.size + 1, 2, none⟩) (Nat.lt_succ_self _) _).mono (by omega), Below.setCell (p := ⟨w.heap.size + 1, 2, none⟩) (Below.setCell (p := ⟨w.heap.size + 1, 1, none⟩) (Below.setCell (p := ⟨w.heap.size + 1, 0, none⟩) B2.out (Nat.le_succ _) _) (Nat.le_succ _) _) (Nat.le_succ _) _⟩
    have RR := ((R2.out.far (p := ⟨w.heap.size + 1, 0, none⟩) hne (.int .i64 t)).far (p := ⟨w.heap.size + 1, 1, none⟩) hne (.int .i64 k)).far (p := ⟨w.heap.size + 1, 2, none⟩) hne (.string d)
    have NN := ((N2.out.s0 (.int .i64 t)).s1 (.int .i64 k)).s2 (.string d)
    clear R2 N2 L2 E2 O2 B2
    go_wp2
    exact bodyPost_ret (ret_lie (p := 2) (q := 3) (r := 4) (by kernel_rfl) (by kernel_rfl) rfl (by kernel_rfl) RR NN) rfl EX.out
  | true =>
    clear hd
    go_wp2_with fail
    refine (l05Any_any g _ HP.out.drw).mono ?_
    rintro x W9 ⟨t, k, d, rfl, hd, hd9, hs9⟩
    have HP9 : Hid (PuS g w m s st (.slice o0 o1 o2) l W9) := HP.out.save hs9 hd9
    have HK9 := HK.out.save hs9 hgb
    clear hd9 hs9 HP HK
    have y0 := HK9.c0
    have y1 := HK9.c1
    have y2 := HK9.c2
    have j0 := HK9.fz 0
    have j1 := HK9.fz 1
    have j2 := HK9.fz 2
    obtain ⟨W10, HW10⟩ : ∃ V, Hid (((W9.setCell ⟨b, 0, none⟩ (.int .i64 t)).setCell ⟨b, 1, none⟩ (.int .i64 k)).setCell ⟨b, 2, none⟩ (.string d) = V) := ⟨_, rfl⟩
    have HK : Hid (K3 25 W10 b (.int .i64 t) (.int .i64 k) (.string d)) := by rw [← HW10.out]; exact ((HK9.s0 _).s1 _).s2 _
    have HP : Hid (PuS g w m s st (.slice o0 o1 o2) l W10) := by
      rw [← HW10.out]
      refine HP9.out.high hmb hbr (Below.setCell (p := ⟨b, 2, none⟩) (Below.setCell (p := ⟨b, 1, none⟩) (Below.setCell (p := ⟨b, 0, none⟩) (Below.refl _ _) (Nat.le_refl _) _) (Nat.le_refl _) _) (Nat.le_refl _) _) fun k hk => ?_
      rw [set_otherE _ (p := ⟨b, 2, none⟩) (Ne.symm hk), set_otherE _ (p := ⟨b, 1, none⟩) (Ne.symm hk), set_otherE _ (p := ⟨b, 0, none⟩) (Ne.symm hk)]
    clear HK9 HP9
    have q0 : ∀ x : PuY m b s st (.slice o0 o1 o2) t k d, x.at'.cell? ⟨m, 0, none⟩ = some (.int .i64 s) := fun x => x.okl.c0
    have q1 : ∀ x : PuY m b s st (.slice o0 o1 o2) t k d, x.at'.cell? ⟨m, 1, none⟩ = some (.int .i64 st) := fun x => x.okl.c1
    have q2 : ∀ x : PuY m b s st (.slice o0 o1 o2) t k d, x.at'.cell? ⟨m, 2, none⟩ = some (.slice o0 o1 o2) := fun x => x.okl.c2
    have q3 : ∀ x : PuY m b s st (.slice o0 o1 o2) t k d, x.at'.cell? ⟨b, 0, none⟩ = some (.int .i64 t) := fun x => x.oke.c0
    have q4 : ∀ x : PuY m b s st (.slice o0 o1 o2) t k d, x.at'.cell? ⟨b, 1, none⟩ = some (.int .i64 k) := fun x => x.oke.c1
    have q5 : ∀ x : PuY m b s st (.slice o0 o1 o2) t k d, x.at'.cell? ⟨b, 2, none⟩ = some (.string d) := fun x => x.oke.c2
    haveI : Nonempty (PuY m b s st (.slice o0 o1 o2) t k d) := ⟨⟨W10, HP.out.lg, HK.out⟩⟩
    go_wp2_with (rw [HW10.out])
    refine wp_region_pick (fun w' => ∃ x : PuY m b s st (.slice o0 o1 o2) t k d, w' = x.at') [0, 1, 2, 3, 4, 5, 10] 13 6 (by kernel_rfl) (by decide) (by decide) (by kernel_rfl) (fun _ _ d _ _ h => by cases d <;> exact h) ⟨⟨W10.drew, HP.out.drew.lg, HK.out.up (Below.refl _ _).drew⟩, rfl⟩ ?_
    repeat (refine wpTakes_l rfl (by first | (intro x h; cases h; done) | (intro x h; cases h; exact ⟨_, rfl⟩)) ?_; go_big_quiet_step (fail); refine wpQuiet_nil ?_)
    refine takes_nil ?_
    clear q0 q1 q2 q3 q4 q5
    obtain ⟨U0, hU0⟩ : ∃ V, W10.drew = V := ⟨_, rfl⟩
    have HP0 : Hid (PuS g w m s st (.slice o0 o1 o2) l U0) := by rw [← hU0]; exact HP.out.drew
    have HK0 : Hid (K3 25 U0 b (.int .i64 t) (.int .i64 k) (.string d)) := by rw [← hU0]; exact HK.out.up (Below.refl _ _).drew
    rw [hU0]
    clear hU0 HP HK
    refine any_one (fuel := 5) (i := 6) (by kernel_rfl) rfl rfl ?_
    intro K hK
    go_wp2
    refine hK.out _ _ ⟨⟨U0, HP0.out.lg, HK0.out⟩, rfl⟩ ?_
    clear hK K
    refine any_takes [7] 13 4 ⟨⟨U0, HP0.out.lg, HK0.out⟩, rfl⟩ (by kernel_rfl) (fun _ _ d _ _ h => by cases d <;> exact h) ?_
    repeat (refine wpTakes_l rfl (by first | (intro x h; cases h; done) | (intro x h; cases h; exact ⟨_, rfl⟩)) ?_; go_big_quiet_step (fail); refine wpQuiet_nil ?_)
    refine takes_nil ?_
    refine any_one (fuel := 3) (i := 8) (by kernel_rfl) rfl rfl ?_
    intro K hK
    go_wp2_with fail
    refine (show Calls Try.prog 58 #[.pointer (some ⟨g, 0, none⟩), .int .i64 ((o1 : Int) + 2)] U0 _ from l01Place_any g (o1 + 2) U0 HP0.out.drw (by omega) (by omega)).mono ?_
    rintro e U1 ⟨z, rfl, -, -, hd1, hs1⟩
    have HP1 : Hid (PuS g w m s st (.slice o0 o1 o2) l U1) := HP0.out.save hs1 hd1
    have HK1 : Hid (K3 25 U1 b (.int .i64 t) (.int .i64 k) (.string d)) := HK0.out.save hs1 (by omega)
    clear HP0 HK0 hd1 hs1
    go_wp2
    refine hK.out _ _ ⟨⟨U1, HP1.out.lg, HK1.out⟩, rfl⟩ ?_
    clear hK K
    refine any_takes [9] 13 2 ⟨⟨U1, HP1.out.lg, HK1.out⟩, rfl⟩ (by kernel_rfl) (fun _ _ d _ _ h => by cases d <;> exact h) ?_
    repeat (refine wpTakes_l rfl (by first | (intro x h; cases h; done) | (intro x h; cases h; exact ⟨_, rfl⟩)) ?_; go_big_quiet_step (fail); refine wpQuiet_nil ?_)
    refine takes_nil ?_
    refine any_one (fuel := 1) (i := 11) (by kernel_rfl) rfl rfl ?_
    intro K hK
    have r0 := HP1.out.res.c0
    have f0 := HP1.out.res.fz 0
    have r1 := HP1.out.res.c1
    have f1 := HP1.out.res.fz 1
    have r2 := HP1.out.res.c2
    have f2 := HP1.out.res.fz 2
    obtain ⟨U2, HU2⟩ : ∃ V, Hid (((U1.setCell ⟨w.heap.size, 0, none⟩ (.int .i64 s)).setCell ⟨w.heap.size, 1, none⟩ (.int .i64 st)).setCell ⟨w.heap.size, 2, none⟩ (.slice o0 o1 o2) = V) := ⟨_, rfl⟩
    have g1 := HP1.out.gl
    have g2 := HP1.out.gm
    have hfar : ∀ k, k ≠ w.heap.size → U2.heap[k]? = U1.heap[k]? := fun k hk => by
      rw [← HU2.out, set_otherE _ (p := ⟨w.heap.size, 2, none⟩) (Ne.symm hk), set_otherE _ (p := ⟨w.heap.size, 1, none⟩) (Ne.symm hk), set_otherE _ (p := ⟨w.heap.size, 0, none⟩) (Ne.symm hk)]
    have R2 : Hid (K3 41 U2 w.heap.size (.int .i64 s) (.int .i64 st) (.slice o0 o1 o2)) := by rw [← HU2.out]; exact ((HP1.out.res.s0 _).s1 _).s2 _
    have N2 : Hid (K3 25 U2 (w.heap.size + 1) (.int .i64 0) (.int .i64 0) (.string ⟨#[]⟩)) := (hfar _ (by omega)).trans HP1.out.ren
    have L2 : Hid (K3 41 U2 m (.int .i64 s) (.int .i64 st) (.slice o0 o1 o2)) := (hfar _ (by omega)).trans HP1.out.lg
    have E2 : Hid (K3 25 U2 b (.int .i64 t) (.int .i64 k) (.string d)) := (hfar _ (by omega)).trans HK1.out
    have O2 : Hid (ownsR U2 (w.heap.size + 2) 25 (.slice o0 o1 o2) l) := HP1.out.own.same' fun r hr => hfar r (by have := (HP1.out.own.lt r hr).1; omega)
    have B2 : Hid (Below w.heap.size w U2) := by rw [← HU2.out]; exact Below.setCell (p := ⟨w.heap.size, 2, none⟩) (Below.setCell (p := ⟨w.heap.size, 1, none⟩) (Below.setCell (p := ⟨w.heap.size, 0, none⟩) HP1.out.bel (Nat.le_refl _) _) (Nat.le_refl _) _) (Nat.le_refl _) _
    clear HP1 HK1 hfar g1 g2
    go_wp2
    rw [HU2.out]
    refine hK.out _ _ ⟨⟨U2, L2.out, E2.out⟩, rfl⟩ ?_
    clear hK K r0 r1 r2 f0 f1 f2 HU2
    refine any_takes [12] 13 0 ⟨⟨U2, L2.out, E2.out⟩, rfl⟩ (by kernel_rfl) (fun _ _ d _ _ h => by cases d <;> exact h) ?_
    repeat (refine wpTakes_l rfl (by first | (intro x h; cases h; done) | (intro x h; cases h; exact ⟨_, rfl⟩)) ?_; go_big_quiet_step (fail); refine wpQuiet_nil ?_)
    refine takes_nil ?_
    refine any_done (by kernel_rfl) ?_
    simp only [List.drop_succ_cons, List.drop_zero]
    have r0 := N2.out.c0
    have f0 := N2.out.fz 0
    have r1 := N2.out.c1
    have f1 := N2.out.fz 1
    have r2 := N2.out.c2
    have f2 := N2.out.fz 2
    have hne : w.heap.size + 1 ≠ w.heap.size := by omega
    have EX : Hid (LpD w (.returned (.tuple #[.agg #[.int .i64 s, .int .i64 st, .slice o0 o1 o2], .int .i64 (wrap64 (s + z)), .agg #[.int .i64 t, .int .i64 k, .string d]])) (set3E U2 (w.heap.size + 1) (.int .i64 t) (.int .i64 k) (.string d))) :=
      ⟨s, st, o0, o1, o2, l, _, t, k, d, rfl, HLL.out, HSZ.out, hd, (((O2.out.setBelow (a := ⟨w.heap.size + 1, 0, none⟩) (Nat.lt_succ_self _) _).setBelow (a := ⟨w.heap.size + 1, 1, none⟩) (Nat.lt_succ_self _) _).setBelow (a := ⟨w.heap.size + 1, 2, none⟩) (Nat.lt_succ_self _) _).mono (by omega), Below.setCell (p := ⟨w.heap.size + 1, 2, none⟩) (Below.setCell (p := ⟨w.heap.size + 1, 1, none⟩) (Below.setCell (p := ⟨w.heap.size + 1, 0, none⟩) B2.out (Nat.le_succ _) _) (Nat.le_succ _) _) (Nat.le_succ _) _⟩
    have RR := ((R2.out.far (p := ⟨w.heap.size + 1, 0, none⟩) hne (.int .i64 t)).far (p := ⟨w.heap.size + 1, 1, none⟩) hne (.int .i64 k)).far (p := ⟨w.heap.size + 1, 2, none⟩) hne (.string d)
    have NN := ((N2.out.s0 (.int .i64 t)).s1 (.int .i64 k)).s2 (.string d)
    clear R2 N2 L2 E2 O2 B2
    go_wp2
    exact bodyPost_ret (ret_lie (p := 2) (q := 3) (r := 4) (by kernel_rfl) (by kernel_rfl) rfl (by kernel_rfl) RR NN) rfl EX.out
end Go.Proofs.Ytehkebdncfljmaa

namespace Go.Proofs.Ytehkebdncfljmaa
open Go Go.RowKit

/-- The term of an index. -/
def termL (s t : Int) (l : List En) (i : Int) : Int := if i = s then t else if hasL s l.length i then ((l[(i - s - 1).toNat]?).map En.term).getD (-1) else -1
theorem termL_start (s t : Int) (l : List En) : termL s t l s = t := by simp [termL]
theorem termL_out {s t i : Int} {l : List En} (h : hasL s l.length i = false) : termL s t l i = -1 := by
  have : ¬ i = s := by rintro rfl; simp [hasL] at h; omega
  simp [termL, h, this]
theorem termL_in {s t : Int} {l : List En} {k : Nat} {f : En} (h : l[k]? = some f) : termL s t l (s + k + 1) = f.term := by
  have hk : k < l.length := (List.getElem?_eq_some_iff.1 h).1
  have e : (s + (k : Int) + 1 - s - 1).toNat = k := by omega
  have h1 : hasL s l.length (s + k + 1) = true := by unfold hasL; simp; omega
  unfold termL
  rw [if_neg (by omega), if_pos h1, e, h]
  rfl
theorem has_cases {s i : Int} {l : List En} (h : hasL s l.length i = true) (hne : i ≠ s) : ∃ (k : Nat) (f : En), l[k]? = some f ∧ i = s + (k : Int) + 1 := by
  simp only [hasL, Bool.and_eq_true, decide_eq_true_eq] at h
  exact ⟨(i - s - 1).toNat, _, List.getElem?_eq_getElem (by omega), by omega⟩

set_option maxRecDepth 10000 in
set_option maxHeartbeats 1000000 in
theorem logTerm_try (s t i : Int) (ao : Option Addr) (n c : Nat) (l : List En) (w : World) (hr : Reads w (.slice ao n c) l) (h0 : 0 ≤ s) (h1 : s ≤ 1000000) (hn : n ≤ 60) (hi : i ≤ 9223372036854775807) :
    Calls Try.prog 20 #[.agg #[.int .i64 s, .int .i64 t, .slice ao n c], .int .i64 i] w fun e w' => e = .returned (.int .i64 (termL s t l i)) ∧ Below w.heap.size w w' := by
  have HN : Hid (n = l.length) := hr.len
  have HR : Hid (Reads w (.slice ao n c) l) := hr
  clear hr
  cases hq : hasL s n i with
  | false =>
    rw [termL_out (by rw [← HN.out]; exact hq)]
    go_enter Try.func20, Try.ntmps20
    go_wp2_with (go_at_call 49; refine (has_any _ _ _ _ _ _ _ h0 h1 hn hi).mono ?_; rintro e w2 ⟨rfl, hb2⟩; rw [hq])
    go_ret
    exact ⟨rfl, below_new hb2⟩
  | true =>
    by_cases hs : i = s
    · subst hs
      rw [termL_start]
      go_enter Try.func20, Try.ntmps20
      go_wp2_with (go_at_call 49; refine (has_any _ _ _ _ _ _ _ h0 h1 hn hi).mono ?_; rintro e w2 ⟨rfl, hb2⟩; rw [hq]; have c5 : w2.cell? ⟨w.heap.size, 0, none⟩ = some (.int .i64 i) := (hb2.cell (by simp)).trans (by simp [go_sem]); have c6 : w2.cell? ⟨w.heap.size, 1, none⟩ = some (.int .i64 t) := (hb2.cell (by simp)).trans (by simp [go_sem]))
      go_ret
      exact ⟨rfl, below_new hb2⟩
    · obtain ⟨k, f, hf, rfl⟩ := has_cases (by rw [← HN.out]; exact hq) hs
      rw [termL_in hf]
      have hk : k < n := by rw [HN.out]; exact (List.getElem?_eq_some_iff.1 hf).1
      obtain ⟨b, o, rfl, hb, c0, c1, c2⟩ := en_at HR.out hf
      clear hf c1 c2
      have e1 : s + (k : Int) + 1 - s = (k : Int) + 1 := by omega
      go_enter Try.func20, Try.ntmps20
      go_wp2_with (go_at_call 49; refine (has_any _ _ _ _ _ _ _ h0 h1 hn hi).mono ?_; rintro e w2 ⟨rfl, hb2⟩; rw [hq]; have c5 : w2.cell? ⟨w.heap.size, 0, none⟩ = some (.int .i64 s) := (hb2.cell (by simp)).trans (by simp [go_sem]); have c6 : w2.cell? ⟨w.heap.size, 2, none⟩ = some (.slice (some ⟨b, o, none⟩) n c) := (hb2.cell (by simp)).trans (by simp [go_sem]); have c7 := cell_up (below_new hb2) c0)
      go_ret
      exact ⟨rfl, below_new hb2⟩

set_option maxRecDepth 10000 in
set_option maxHeartbeats 1000000 in
theorem specLogTerm_try (s t i : Int) (ao : Option Addr) (n c : Nat) (l : List En) (w : World) (hr : Reads w (.slice ao n c) l) (h0 : 0 ≤ s) (h1 : s ≤ 1000000) (hn : n ≤ 60) :
    Calls Try.prog 52 #[.agg #[.int .i64 s, .int .i64 t, .slice ao n c], .int .i64 i] w fun e w' => e = .returned (.int .i64 (termL s t l i)) ∧ Below w.heap.size w w' := by
  have HN : Hid (n = l.length) := hr.len
  have HR : Hid (Reads w (.slice ao n c) l) := hr
  clear hr
  by_cases hs : i = s
  · subst hs
    rw [termL_start]
    go_enter Try.func52, Try.ntmps52
    go_wp2
    go_ret
    exact ⟨rfl, ba (Below.refl _ _) _⟩
  cases hq : hasL s n i with
  | false =>
    rw [termL_out (by rw [← HN.out]; exact hq)]
    by_cases h2 : i < s
    · go_enter Try.func52, Try.ntmps52
      go_wp2
      go_ret
      exact ⟨rfl, ba (Below.refl _ _) _⟩
    · have h3 : s + n < i := by unfold hasL at hq; simp at hq; omega
      go_enter Try.func52, Try.ntmps52
      go_wp2_with (go_at_call 53; refine (l06Last_any _ _ _ _ _ _ h0 h1 hn).mono ?_; rintro e w2 ⟨rfl, hb2⟩)
      go_ret
      exact ⟨rfl, below_new hb2⟩
  | true =>
    obtain ⟨k, f, hf, rfl⟩ := has_cases (by rw [← HN.out]; exact hq) hs
    rw [termL_in hf]
    have hk : k < n := by rw [HN.out]; exact (List.getElem?_eq_some_iff.1 hf).1
    obtain ⟨b, o, rfl, hb, c0, c1, c2⟩ := en_at HR.out hf
    clear hf c1 c2
    have e1 : s + (k : Int) + 1 - s = (k : Int) + 1 := by omega
    go_enter Try.func52, Try.ntmps52
    go_wp2_with (go_at_call 53; refine (l06Last_any _ _ _ _ _ _ h0 h1 hn).mono ?_; rintro e w2 ⟨rfl, hb2⟩; have c5 : w2.cell? ⟨w.heap.size, 0, none⟩ = some (.int .i64 s) := (hb2.cell (by simp)).trans (by simp [go_sem]); have c6 : w2.cell? ⟨w.heap.size, 2, none⟩ = some (.slice (some ⟨b, o, none⟩) n c) := (hb2.cell (by simp)).trans (by simp [go_sem]); have c7 := cell_up (below_new hb2) c0)
    go_ret
    exact ⟨rfl, below_new hb2⟩
end Go.Proofs.Ytehkebdncfljmaa

namespace Go.Proofs.Ytehkebdncfljmaa
open Go Go.RowKit

theorem Reads.drop {α : Type} [Rec α] {w : World} {ao : Option Addr} {n cap : Nat} {l : List α} (h : Reads w (.slice ao n cap) l) (k : Nat) (cap' : Nat) : Reads w (.slice (ao.map fun x => x.add (k * Rec.width α)) (n - k) cap') (l.drop k) := by
  have hn := h.len
  refine ⟨_, cap', by rw [List.length_drop, hn], fun hne => ?_⟩
  obtain ⟨ao', cap', e, h⟩ := h
  simp only [Value.slice.injEq] at e
  obtain ⟨rfl, _, rfl⟩ := e
  obtain ⟨b, o, rfl, hlt, hc⟩ := h (by rintro rfl; simp at hne)
  have hadd : (⟨b, o, none⟩ : Addr).add (k * Rec.width α) = ⟨b, o + k * Rec.width α, none⟩ := by unfold Addr.add; split <;> simp_all
  refine ⟨b, o + k * Rec.width α, by rw [Option.map_some, hadd], hlt, fun i x hx j u hu => ?_⟩
  rw [List.getElem?_drop] at hx
  have := hc _ x hx j u hu
  rw [Nat.add_mul, ← Nat.add_assoc] at this
  exact this

set_option maxHeartbeats 400000 in
theorem behind_try (s t : Int) (ao : Option Addr) (n c k : Nat) (l : List En) (w : World) (hr : Reads w (.slice ao n c) l) (hn : n ≤ 60) (hk : k ≤ n) (hc : n ≤ c) :
    Calls Try.prog 51 #[.agg #[.int .i64 s, .int .i64 t, .slice ao n c], .int .i64 (s + k)] w fun e w' => ∃ v, e = .returned v ∧ Reads w' v (l.drop k) ∧ Below w.heap.size w w' := by
  have HN : Hid (n = l.length) := hr.len
  have HR : Hid (Reads w (.slice ao n c) l) := hr
  clear hr
  have e1 : s + (k : Int) - s = (k : Int) := by omega
  go_enter Try.func51, Try.ntmps51
  by_cases hkn : n = k
  · subst hkn
    go_wp2
    go_ret
    refine ⟨_, rfl, ?_, ba (Below.refl _ _) _⟩
    rw [List.drop_eq_nil_of_le (by have := HN.out; omega)]
    exact reads_none _ _ _
  · go_wp2
    go_ret
    exact ⟨_, rfl, (HR.out.alloc _).drop k _, ba (Below.refl _ _) _⟩
theorem behind_any {s t i : Int} {w : World} {v : Value} {l : List En} {B : Nat} (ho : ownsR w B 25 v l) (hn : l.length ≤ 60) (hi : hasL s l.length i = true) :
    Calls Try.prog 51 #[.agg #[.int .i64 s, .int .i64 t, v], .int .i64 i] w fun e w' => ∃ v, e = .returned v ∧ Reads w' v (l.drop (i - s).toNat) ∧ Below w.heap.size w w' := by
  obtain ⟨ao, c, rfl, hc⟩ := ho.cap
  simp only [hasL, Bool.and_eq_true, decide_eq_true_eq] at hi
  have e : i = s + ((i - s).toNat : Int) := by omega
  have := behind_try s t ao _ c (i - s).toNat l w ho.reads hn (by omega) hc
  rw [← e] at this
  exact this
/-- What is behind an index, as a value. -/
def behV (ao : Option Addr) (n k : Nat) : Value := if n = k then .slice ao 0 0 else .slice (ao.map fun x => x.add (k * 3)) (n - k) (n - k)
theorem behV_reads {w : World} {ao : Option Addr} {n c k : Nat} {l : List En} (hr : Reads w (.slice ao n c) l) : Reads w (behV ao n k) (l.drop k) := by
  unfold behV
  split
  · rw [List.drop_eq_nil_of_le (by rw [← hr.len]; omega)]; exact reads_none _ _ _
  · exact hr.drop k _
set_option maxHeartbeats 400000 in
theorem behind_val (s t : Int) (ao : Option Addr) (n c k : Nat) (w : World) (hn : n ≤ 60) (hk : k ≤ n) (hc : n ≤ c) :
    Calls Try.prog 51 #[.agg #[.int .i64 s, .int .i64 t, .slice ao n c], .int .i64 (s + k)] w fun e w' => e = .returned (behV ao n k) ∧ Below w.heap.size w w' := by
  have e1 : s + (k : Int) - s = (k : Int) := by omega
  by_cases hkn : n = k
  · subst hkn
    have HB : Hid (behV ao n n = .slice ao 0 0) := by show behV ao n n = _; simp [behV]
    rw [HB.out]
    go_enter Try.func51, Try.ntmps51
    go_wp2
    go_ret
    exact ⟨rfl, ba (Below.refl _ _) _⟩
  · have HB : Hid (behV ao n k = .slice (ao.map fun x => x.add (k * 3)) (n - k) (n - k)) := by show behV ao n k = _; simp [behV, hkn]
    rw [HB.out]
    go_enter Try.func51, Try.ntmps51
    go_wp2
    go_ret
    exact ⟨rfl, ba (Below.refl _ _) _⟩
theorem behind_start {s t : Int} {ao : Option Addr} {n c : Nat} {l : List En} {W : World} (hr : Reads W (.slice ao n c) l) (hn : n ≤ 60) (hc : n ≤ c) :
    ∃ bo d, Reads W (.slice bo l.length d) l ∧ ∀ w, Calls Try.prog 51 #[.agg #[.int .i64 s, .int .i64 t, .slice ao n c], .int .i64 s] w fun e w' => e = .returned (.slice bo l.length d) ∧ Below w.heap.size w w' := by
  have h := behV_reads (k := 0) hr
  rw [List.drop_zero] at h
  obtain ⟨bo, d, hv, hx⟩ := id h
  rw [hv] at h
  refine ⟨bo, d, h, fun w => ?_⟩
  have := behind_val s t ao n c 0 w hn (Nat.zero_le _) hc
  rw [hv, Int.natCast_zero, Int.add_zero] at this
  exact this
end Go.Proofs.Ytehkebdncfljmaa

namespace Go.Proofs.Ytehkebdncfljmaa
open Go Go.RowKit

theorem cell_on {B : Nat} {W x w2 : World} {p : Addr} {v : Value} (hb : Below x.heap.size x w2) (h : Below B W x) (hp : p.block < W.heap.size) (hc : x.cell? p = some v) : w2.cell? p = some v := (hb.cell (Nat.lt_of_lt_of_le hp h.size)).trans hc
theorem frozen_on {B : Nat} {W x w2 : World} {p : Addr} {v : Bool} (hb : Below x.heap.size x w2) (h : Below B W x) (hp : p.block < W.heap.size) (hc : x.frozen? p = v) : w2.frozen? p = v := (hb.frozen (Nat.lt_of_lt_of_le hp h.size)).trans hc
theorem ret_ent {fn : Func} {p : Tmp} {w : World} {g : Nat} {a b c : Value} {tmps : Array Value} (h : fn.results = #[.cell p 25]) (hp : tmps.getD p undef = .pointer (some ⟨g, 0, none⟩)) (h0 : w.cell? ⟨g, 0, none⟩ = some a) (h1 : w.cell? ⟨g, 1, none⟩ = some b) (h2 : w.cell? ⟨g, 2, none⟩ = some c) :
    (results fn tmps).run Try.prog w = .ok (.agg #[a, b, c]) w := by
  have hp' : tmps[p]?.getD undef = .pointer (some ⟨g, 0, none⟩) := by simpa using hp
  simp [results, h, hp', h0, h1, h2, asAddr, go_sem]

set_option maxHeartbeats 1000000 in
theorem cloned_any (t k : Int) (d : ByteArray) (w : World) (hd : d.size ≤ 1048576) :
    Calls Try.prog 59 #[.agg #[.int .i64 t, .int .i64 k, .string d]] w fun e w' => e = .returned (.agg #[.int .i64 t, .int .i64 k, .string d]) ∧ Below w.heap.size w w' := by
  go_enter Try.func59, Try.ntmps59
  go_wp2
  generalize hW : (w.alloc (Obj.cells #[.int .i64 t, .int .i64 k, .string d] 25)).alloc (Obj.cells #[.int .i64 0, .int .i64 0, .string { data := #[] }] 25) = W
  have hs : W.heap.size = w.heap.size + 2 := by subst hW; simp
  have e0 := Below.cellOf (B := w.heap.size + 1) (W := W) (p := ⟨w.heap.size, 0, none⟩) (v := .int .i64 t) (by simp) (by subst hW; simp [go_sem])
  have e1 := Below.cellOf (B := w.heap.size + 1) (W := W) (p := ⟨w.heap.size, 1, none⟩) (v := .int .i64 k) (by simp) (by subst hW; simp [go_sem])
  have e2 := Below.cellOf (B := w.heap.size + 1) (W := W) (p := ⟨w.heap.size, 2, none⟩) (v := .string d) (by simp) (by subst hW; simp [go_sem])
  have hw : Below w.heap.size w W := by subst hW; exact ba (ba (Below.refl _ _) _) _
  have x0 : W.cell? ⟨w.heap.size + 1, 0, none⟩ = some (.int .i64 0) := by subst hW; simp [go_sem]
  have x1 : W.cell? ⟨w.heap.size + 1, 1, none⟩ = some (.int .i64 0) := by subst hW; simp [go_sem]
  have x2 : W.cell? ⟨w.heap.size + 1, 2, none⟩ = some (.string ByteArray.empty) := by subst hW; simp [go_sem]; rfl
  have f0 : W.frozen? ⟨w.heap.size + 1, 0, none⟩ = false := by subst hW; simp [go_sem]
  have f1 : W.frozen? ⟨w.heap.size + 1, 1, none⟩ = false := by subst hW; simp [go_sem]
  have f2 : W.frozen? ⟨w.heap.size + 1, 2, none⟩ = false := by subst hW; simp [go_sem]
  clear hW
  go_region_held3 (fun w' => Below (w.heap.size + 1) W w') ((first | exact (Below.refl _ _).drew | exact (keep_on hb2 (by assumption) (by omega)) | exact (((Below.setCell (by assumption) (by simp) _).setCell (by simp) _).setCell (by simp) _))) ((go_at_call 41; refine (clone_any _ _ hd).mono ?_; rintro e w2 ⟨rfl, hb2⟩; have hS2 := keep_on (B := w.heap.size + 1) (W := W) hb2 (by assumption) (by omega); have q0 : w2.cell? ⟨w.heap.size + 1, 0, none⟩ = some (.int .i64 0) := cell_on (B := w.heap.size + 1) (W := W) hb2 (by assumption) (by simp; omega) (by first | assumption | exact x0); have q1 : w2.cell? ⟨w.heap.size + 1, 1, none⟩ = some (.int .i64 0) := cell_on (B := w.heap.size + 1) (W := W) hb2 (by assumption) (by simp; omega) (by first | assumption | exact x1); have q2 : w2.cell? ⟨w.heap.size + 1, 2, none⟩ = some (.string ByteArray.empty) := cell_on (B := w.heap.size + 1) (W := W) hb2 (by assumption) (by simp; omega) (by first | assumption | exact x2); have z0 : w2.frozen? ⟨w.heap.size + 1, 0, none⟩ = false := frozen_on (B := w.heap.size + 1) (W := W) hb2 (by assumption) (by simp; omega) (by first | assumption | exact f0); have z1 : w2.frozen? ⟨w.heap.size + 1, 1, none⟩ = false := frozen_on (B := w.heap.size + 1) (W := W) hb2 (by assumption) (by simp; omega) (by first | assumption | exact f1); have z2 : w2.frozen? ⟨w.heap.size + 1, 2, none⟩ = false := frozen_on (B := w.heap.size + 1) (W := W) hb2 (by assumption) (by simp; omega) (by first | assumption | exact f2)))
  go_wp2
  refine bodyPost_ret (ret_ent (a := .int .i64 t) (b := .int .i64 k) (c := .string d) rfl rfl (by simp [go_sem, q0]) (by simp [go_sem, q1]) (by simp [go_sem, q2])) rfl ?_
  exact ⟨rfl, (((hw.trans (hS2.mono (by omega))).setCell (p := ⟨w.heap.size + 1, 0, none⟩) (by simp) _).setCell (p := ⟨w.heap.size + 1, 1, none⟩) (by simp) _).setCell (p := ⟨w.heap.size + 1, 2, none⟩) (by simp) _⟩
end Go.Proofs.Ytehkebdncfljmaa

namespace Go.Proofs.Ytehkebdncfljmaa
open Go Go.RowKit

theorem set_self {α : Type} {l : List α} {k : Nat} {x : α} (h : l[k]? = some x) : l.set k x = l := by
  apply List.ext_getElem?
  intro j
  rw [List.getElem?_set]
  by_cases e : k = j
  · subst e
    rw [if_pos rfl, if_pos (List.getElem?_eq_some_iff.1 h).1, h]
  · rw [if_neg e]
theorem en_one (l : List En) : ∀ x ∈ l, ∀ v ∈ Rec.cells x, v.oneCell' = true := by
  intro x _ v hv
  have hv : v ∈ [Value.int .i64 x.term, .int .i64 x.kind, .string x.data] := hv
  simp only [List.mem_cons, List.not_mem_nil, or_false] at hv
  rcases hv with rfl | rfl | rfl <;> rfl
theorem sizeInfoEn : (Try.prog.info? 25).map (·.size) = some (Rec.width En) := by kernel_rfl

set_option maxRecDepth 8000 in
set_option maxHeartbeats 1000000 in
theorem moved_try (ao : Option Addr) (n c : Nat) (l : List En) (w : World) (hr : Reads w (.slice ao n c) l) (hn : n ≤ 1048576) (hz : SizedE l) :
    Calls Try.prog 50 #[.slice ao n c] w fun e w' => ∃ v, e = .returned v ∧ ownsR w' w.heap.size 25 v l ∧ Below w.heap.size w w' := by
  obtain ⟨i0, hi0, hz0, hz1, hz2⟩ := info_parts infoEn
  have HR : Hid (Reads w (.slice ao n c) l) := hr
  have HN : Hid (n = l.length) := hr.len
  have HZ : Hid (SizedE l) := hz
  clear hr hz
  go_enter Try.func50, Try.ntmps50
  go_wp2_with (at_make; refine wpList_make_full _ rfl _ _ 39 rfl w.heap.size 25 i0 _ 3 underEn hi0 hz0 hz1 .i64 .i64 _ _ n rfl rfl rfl rfl (by rw [hz2]; omega) (by unfold maxLen; omega) (Nat.le_refl _) ?_; intro w1 ho hg)
  have ho1 : ownsR w1 w.heap.size 25 (.slice (some ⟨w.heap.size, 0, none⟩) n n) (List.replicate n (default : En)) := by
    rw [madeEn] at ho
    unfold ownsR
    rw [List.length_replicate]
    exact ho
  have hbel1 : Below w.heap.size w w1 := (Below.refl _ w).grown hg (Nat.le_refl _) (fun j hj => by cases hj)
  obtain ⟨w2, hrun, ho2, hg2⟩ := run_copy_rec (P := Try.prog) w1 39 39 3 25 w.heap.size n w.heap.size ao n c l _ underEn sizeInfoEn ho1 (HR.out.below hbel1) (en_one l)
  have hbel2 : Below w.heap.size w w2 := hbel1.grown hg2 hbel1.size fun k hk => by cases hk; exact Nat.le_refl _
  have HO2 : Hid (ownsR w2 w.heap.size 25 (.slice (some ⟨w.heap.size, 0, none⟩) n n) l) := ho2
  rw [hrun]
  clear hrun ho1 ho hbel1 hg hg2 ho2
  generalize hB : w.heap.size = B at *
  go_wp2
  go_loopw [14] (fun i wr => ∃ k : Nat, k ≤ n ∧ i = .int .i64 k ∧ Hid (ownsR wr B 25 (.slice (some ⟨B, 0, none⟩) n n) l) ∧ Below B w wr) (fun i _ => n - (intOf i).toNat)
  case atStart => exact ⟨0, Nat.zero_le _, rfl, HO2, hbel2⟩
  case round =>
    obtain ⟨k, hk, rfl, HO, hbel⟩ := hrel
    clear HO2 hbel2
    by_cases hlt : k < n
    · obtain ⟨f, hf⟩ : ∃ f, l[k]? = some f := ⟨_, List.getElem?_eq_getElem (by rw [← HN.out]; exact hlt)⟩
      have HF : Hid (l[k]? = some f) := hf
      have hd := HZ.out f (List.mem_of_getElem? hf)
      obtain ⟨hgs, ⟨d0, d1, d2⟩, f0, f1, f2⟩ := en_own HO.out hf
      clear hf
      have hbs : B ≤ wr.heap.size := Nat.le_of_lt hgs
      go_wp2_with (go_at_call 59; refine (cloned_any _ _ _ _ hd).mono ?_; rintro e w3 ⟨rfl, hb3⟩; have hb4 := below_new hb3; have d0' := cell_up hb4 d0; have d1' := cell_up hb4 d1; have d2' := cell_up hb4 d2; have f0' := frozen_up hb4 d0 f0; have f1' := frozen_up hb4 d1 f1; have f2' := frozen_up hb4 d2 f2)
      have R := en_put (HO.out.all hb4) f HF.out
      rw [set_self HF.out] at R
      clear d0 f0 d0' f0' d1 f1 d1' f1' d2 f2 d2' f2'
      go_roundw
      case rel => exact ⟨k + 1, by omega, by go_num, R, ((((hbel.trans (hb4.mono hbs)).setCell (p := ⟨B, k * 3, none⟩) (Nat.le_refl _) _).setCell (p := ⟨B, k * 3 + 1, none⟩) (Nat.le_refl _) _).setCell (p := ⟨B, k * 3 + 2, none⟩) (Nat.le_refl _) _)⟩
      case measure => simp [intOf]; omega
    · go_wp2
      go_ret
      subst hB
      exact ⟨_, rfl, HO.out, hbel⟩
theorem moved_any {w : World} {v : Value} {l : List En} (hr : Reads w v l) (hn : l.length ≤ 1048576) (hz : SizedE l) :
    Calls Try.prog 50 #[v] w fun e w' => ∃ v, e = .returned v ∧ ownsR w' w.heap.size 25 v l ∧ Below w.heap.size w w' := by
  obtain ⟨ao, c, rfl, _⟩ := id hr
  exact moved_try ao _ c l w hr hn hz
end Go.Proofs.Ytehkebdncfljmaa

namespace Go.Proofs.Ytehkebdncfljmaa
open Go Go.RowKit

/-- Whether a log is right, has the index, and has that term there. -/
def fitsL (s t : Int) (l : List En) (base term : Int) : Bool := okL s t l && hasL s l.length base && decide (termL s t l base = term)
/-- The entries of the log behind an index. -/
def behindL (s t : Int) (l : List En) (base term : Int) : List En := if fitsL s t l base term then l.drop (base - s).toNat else []
theorem behindL_no {s t : Int} {l : List En} {base term : Int} (h : fitsL s t l base term = false) : behindL s t l base term = [] := by simp [behindL, h]
theorem behindL_yes {s t : Int} {l : List En} {base term : Int} (h : fitsL s t l base term = true) : behindL s t l base term = l.drop (base - s).toNat := by simp [behindL, h]
theorem behindL_length (s t : Int) (l : List En) (base term : Int) : (behindL s t l base term).length ≤ l.length := by
  unfold behindL; split <;> simp

theorem cells3_new {w w' : World} {a b c : Value} {t : TypeId} (hb : Below (w.alloc (.cells #[a, b, c] t)).heap.size (w.alloc (.cells #[a, b, c] t)) w') :
    w'.cell? ⟨w.heap.size, 0, none⟩ = some a ∧ w'.cell? ⟨w.heap.size, 1, none⟩ = some b ∧ w'.cell? ⟨w.heap.size, 2, none⟩ = some c :=
  ⟨(hb.cell (by simp)).trans (by simp [go_sem]), (hb.cell (by simp)).trans (by simp [go_sem]), (hb.cell (by simp)).trans (by simp [go_sem])⟩

theorem Reads.slice3 {α : Type} [Rec α] {w : World} {v : Value} {l : List α} (h : Reads w v l) : ∃ a n c, v = .slice a n c := by
  obtain ⟨a, c, rfl, _⟩ := h
  exact ⟨a, _, c, rfl⟩
/-- What lies there in LogBehind: the log's box, the answer's, and the new one's. -/
structure B3 (w W : World) (s t base term : Int) (v : Value) : Prop where
  bel : Below w.heap.size w W
  size : w.heap.size + 3 ≤ W.heap.size
  a0 : W.cell? ⟨w.heap.size, 0, none⟩ = some (.int .i64 s)
  a1 : W.cell? ⟨w.heap.size, 1, none⟩ = some (.int .i64 t)
  a2 : W.cell? ⟨w.heap.size, 2, none⟩ = some v
  r0 : W.cell? ⟨w.heap.size + 1, 0, none⟩ = some (.int .i64 0)
  r1 : W.cell? ⟨w.heap.size + 1, 1, none⟩ = some (.int .i64 0)
  r2 : W.cell? ⟨w.heap.size + 1, 2, none⟩ = some (.slice none 0 0)
  b0 : W.cell? ⟨w.heap.size + 1 + 1, 0, none⟩ = some (.int .i64 base)
  b1 : W.cell? ⟨w.heap.size + 1 + 1, 1, none⟩ = some (.int .i64 term)
  b2 : W.cell? ⟨w.heap.size + 1 + 1, 2, none⟩ = some (.slice none 0 0)
  f0 : W.frozen? ⟨w.heap.size + 1, 0, none⟩ = false
  f1 : W.frozen? ⟨w.heap.size + 1, 1, none⟩ = false
  f2 : W.frozen? ⟨w.heap.size + 1, 2, none⟩ = false
  f3 : W.frozen? ⟨w.heap.size + 1 + 1, 2, none⟩ = false
theorem B3.up {w W W' : World} {s t base term : Int} {v : Value} (h : B3 w W s t base term v) (hb : Below W.heap.size W W') : B3 w W' s t base term v :=
  ⟨Below.on h.bel hb, Nat.le_trans h.size hb.size, cell_up hb h.a0, cell_up hb h.a1, cell_up hb h.a2, cell_up hb h.r0, cell_up hb h.r1, cell_up hb h.r2, cell_up hb h.b0, cell_up hb h.b1, cell_up hb h.b2, frozen_up hb h.r0 h.f0, frozen_up hb h.r1 h.f1, frozen_up hb h.r2 h.f2, frozen_up hb h.b2 h.f3⟩
theorem b3_new (w : World) (s t base term : Int) (v : Value) : B3 w (((w.alloc (Obj.cells #[.int .i64 s, .int .i64 t, v] 41)).alloc (Obj.cells #[.int .i64 0, .int .i64 0, .slice none 0 0] 41)).alloc (Obj.cells #[.int .i64 base, .int .i64 term, .slice none 0 0] 41)) s t base term v := by
  refine ⟨ba (ba (ba (Below.refl _ _) _) _) _, by simp, ?_, ?_, ?_, ?_, ?_, ?_, ?_, ?_, ?_, ?_, ?_, ?_, ?_⟩ <;> simp [go_sem]

set_option maxRecDepth 10000 in
set_option maxHeartbeats 2000000 in
theorem logBehind_try (s t base term : Int) (ao : Option Addr) (c B : Nat) (l : List En) (w : World) (ho : ownsR w B 25 (.slice ao l.length c) l) (hn : l.length ≤ 1048576) (hz : SizedE l) (hbm : base ≤ 9223372036854775807) :
    Calls Try.prog 21 #[.agg #[.int .i64 s, .int .i64 t, .slice ao l.length c], .int .i64 base, .int .i64 term] w fun e w' => ∃ v, e = .returned (.agg #[.int .i64 base, .int .i64 term, v]) ∧ ownsR w' w.heap.size 25 v (behindL s t l base term) ∧ Below w.heap.size w w' := by
  have HO : Hid (ownsR w B 25 (.slice ao l.length c) l) := ho
  have HZ : Hid (SizedE l) := hz
  clear ho hz
  obtain ⟨q, HQ⟩ : ∃ q, Hid (okL s t l = q) := ⟨_, rfl⟩
  go_enter Try.func21, Try.ntmps21
  go_wp2_with fail
  have L0 := b3_new w s t base term (.slice ao l.length c)
  obtain ⟨W, hW⟩ : ∃ W, ((w.alloc (Obj.cells #[.int .i64 s, .int .i64 t, .slice ao l.length c] 41)).alloc (Obj.cells #[.int .i64 0, .int .i64 0, .slice none 0 0] 41)).alloc (Obj.cells #[.int .i64 base, .int .i64 term, .slice none 0 0] 41) = W := ⟨_, rfl⟩
  rw [hW] at L0 ⊢
  clear hW
  refine (logOk_any (HO.out.reads.below L0.bel) (by omega) HZ.out).mono ?_
  rintro e w1 ⟨rfl, hb1⟩
  rw [HQ.out]
  have L1 := L0.up hb1
  clear hb1 L0
  cases q with
  | false =>
    have HF : Hid (fitsL s t l base term = false) := by show fitsL s t l base term = false; unfold fitsL; rw [HQ.out]; rfl
    have a0 := L1.a0
    have a1 := L1.a1
    have a2 := L1.a2
    have r0 := L1.r0
    have r1 := L1.r1
    have r2 := L1.r2
    have b0 := L1.b0
    have b1 := L1.b1
    have b2 := L1.b2
    have f0 := L1.f0
    have f1 := L1.f1
    have f2 := L1.f2
    have f3 := L1.f3
    go_wp2
    refine bodyPost_ret (ret_log (a := .int .i64 base) (b := .int .i64 term) (c := .slice none 0 0) rfl rfl (by simp [go_sem, r0]) (by simp [go_sem, r1]) (by simp [go_sem, r2])) rfl ⟨_, rfl, ?_, ?_⟩
    · rw [behindL_no HF.out]
      exact ownsR_nil _ _ _
    · refine Below.setCell (Below.setCell (Below.setCell L1.bel ?_ _) ?_ _) ?_ _ <;> simp
  | true =>
    obtain ⟨h0, h1, h2, h3, h4, h5, -⟩ := okL_all HQ.out
    have a0 := L1.a0
    have a1 := L1.a1
    have a2 := L1.a2
    go_wp2_with fail
    refine (has_any _ _ _ _ _ _ _ h0 h1 h4 hbm).mono ?_
    rintro e w2 ⟨rfl, hb2⟩
    have L2 := L1.up hb2
    clear hb2 L1 a0 a1 a2
    cases hh : hasL s l.length base with
    | false =>
      have HF : Hid (fitsL s t l base term = false) := by show fitsL s t l base term = false; unfold fitsL; rw [hh]; simp
      clear hh
      have a0 := L2.a0
      have a1 := L2.a1
      have a2 := L2.a2
      have r0 := L2.r0
      have r1 := L2.r1
      have r2 := L2.r2
      have b0 := L2.b0
      have b1 := L2.b1
      have b2 := L2.b2
      have f0 := L2.f0
      have f1 := L2.f1
      have f2 := L2.f2
      have f3 := L2.f3
      go_wp2
      refine bodyPost_ret (ret_log (a := .int .i64 base) (b := .int .i64 term) (c := .slice none 0 0) rfl rfl (by simp [go_sem, r0]) (by simp [go_sem, r1]) (by simp [go_sem, r2])) rfl ⟨_, rfl, ?_, ?_⟩
      · rw [behindL_no HF.out]
        exact ownsR_nil _ _ _
      · refine Below.setCell (Below.setCell (Below.setCell L2.bel ?_ _) ?_ _) ?_ _ <;> simp
    | true =>
      have HH : Hid (hasL s l.length base = true) := hh
      clear hh
      obtain ⟨y, HY⟩ : ∃ y, Hid (termL s t l base = y) := ⟨_, rfl⟩
      have a0 := L2.a0
      have a1 := L2.a1
      have a2 := L2.a2
      go_wp2_with fail
      refine (logTerm_try _ _ _ _ _ _ l _ (HO.out.reads.below L2.bel) h0 h1 h4 hbm).mono ?_
      rintro e w3 ⟨rfl, hb3⟩
      have L3 := L2.up hb3
      clear hb3 L2 a0 a1 a2
      rw [HY.out]
      by_cases hy : y = term
      · have HF : Hid (fitsL s t l base term = true) := by show fitsL s t l base term = true; unfold fitsL; rw [HQ.out, HH.out, HY.out, decide_eq_true hy]; rfl
        subst hy
        have a0 := L3.a0
        have a1 := L3.a1
        have a2 := L3.a2
        go_wp2_with fail
        refine (behind_any (HO.out.all L3.bel) h4 HH.out).mono ?_
        rintro e w4 ⟨v4, rfl, hr4, hb4⟩
        have L4 := L3.up hb4
        clear hb4 L3 a0 a1 a2
        obtain ⟨D, HD⟩ : ∃ D, Hid (D = l.drop (base - s).toNat) := ⟨_, rfl⟩
        rw [← HD.out] at hr4
        have hD : D.length ≤ 60 := by rw [HD.out]; simp; omega
        have HZD : Hid (SizedE D) := fun f hf => HZ.out f (List.mem_of_mem_drop (by rw [← HD.out]; exact hf))
        obtain ⟨a4, n4, c4, rfl⟩ := hr4.slice3
        have hn4 : n4 ≤ 1048576 := by rw [hr4.len]; omega
        have HR4 : Hid (Reads w4 (.slice a4 n4 c4) D) := hr4
        clear hr4 hD
        go_wp2_with fail
        refine (moved_try a4 n4 c4 D _ HR4.out hn4 HZD.out).mono ?_
        rintro e w5 ⟨v5, rfl, ho5, hb5⟩
        have L5 := L4.up hb5
        have hs4 := L4.size
        clear hb5 L4
        obtain ⟨a5, n5, c5, rfl⟩ := ho5.slice3
        have a0 := L5.a0
        have a1 := L5.a1
        have a2 := L5.a2
        have r0 := L5.r0
        have r1 := L5.r1
        have r2 := L5.r2
        have b0 := L5.b0
        have b1 := L5.b1
        have b2 := L5.b2
        have f0 := L5.f0
        have f1 := L5.f1
        have f2 := L5.f2
        have f3 := L5.f3
        go_wp2
        refine bodyPost_ret (ret_log (a := .int .i64 base) (b := .int .i64 y) (c := .slice a5 n5 c5) rfl rfl (by simp [go_sem, r0]) (by simp [go_sem, r1]) (by simp [go_sem, r2])) rfl ⟨_, rfl, ?_, ?_⟩
        · rw [behindL_yes HF.out, ← HD.out]
          refine ownsR.mono (ownsR.setBelow (ownsR.setBelow (ownsR.setBelow (ownsR.setBelow ho5 ?_ _) ?_ _) ?_ _) ?_ _) ?_ <;> (try simp) <;> omega
        · refine Below.setCell (Below.setCell (Below.setCell (Below.setCell L5.bel ?_ _) ?_ _) ?_ _) ?_ _ <;> simp <;> omega
      · have HF : Hid (fitsL s t l base term = false) := by show fitsL s t l base term = false; unfold fitsL; rw [HY.out, decide_eq_false hy]; simp
        have a0 := L3.a0
        have a1 := L3.a1
        have a2 := L3.a2
        have r0 := L3.r0
        have r1 := L3.r1
        have r2 := L3.r2
        have b0 := L3.b0
        have b1 := L3.b1
        have b2 := L3.b2
        have f0 := L3.f0
        have f1 := L3.f1
        have f2 := L3.f2
        have f3 := L3.f3
        go_wp2
        refine bodyPost_ret (ret_log (a := .int .i64 base) (b := .int .i64 term) (c := .slice none 0 0) rfl rfl (by simp [go_sem, r0]) (by simp [go_sem, r1]) (by simp [go_sem, r2])) rfl ⟨_, rfl, ?_, ?_⟩
        · rw [behindL_no HF.out]
          exact ownsR_nil _ _ _
        · refine Below.setCell (Below.setCell (Below.setCell L3.bel ?_ _) ?_ _) ?_ _ <;> simp
end Go.Proofs.Ytehkebdncfljmaa
