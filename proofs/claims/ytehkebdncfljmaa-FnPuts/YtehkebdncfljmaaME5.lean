/-
  What lies there while a plan is drawn: its block, the names, the tasks that it has, the task that is being made. Blocks of three and of eight cells: what they hold, and what keeps them. A record put behind a row that was cut at its front: append(l[1:], x). Over any program. Boards without plans and runs, as the specification makes, searches and copies them: the walks. Operations of a drawn region taken in a told order: small laws.
-/
import Derived.Test.YtehkebdncfljmaaME2
import Derived.Test.YtehkebdncfljmaaME4
import Derived.Test.YtehkebdncfljmaaME3
import Derived.Test.YtehkebdncfljmaaTa
import Derived.ArgAppend
import Derived.Laws.IdiomCopy
import Derived.Deep.Upon
namespace Go.Proofs.Ytehkebdncfljmaa
open Go Go.RowKit
set_option linter.unusedVariables false

/-- A block of cells of a type. -/
def TyB (W : World) (b : Nat) (t : TypeId) : Prop := ∃ c, W.heap[b]? = some (.cells c t)
theorem TyB.ne {W : World} {b c : Nat} {t e : TypeId} (h : TyB W b t) (k : TyB W c e) (hne : t ≠ e) : b ≠ c := by
  rintro rfl
  obtain ⟨x, hx⟩ := h
  obtain ⟨y, hy⟩ := k
  rw [hx] at hy
  simp only [Option.some.injEq, Obj.cells.injEq] at hy
  exact hne hy.2.1
section
variable {α : Type} [Rec α]
theorem ownsR.ty {W : World} {B : Nat} {e : TypeId} {v : Value} {l : List α} (h : ownsR W B e v l) {r : Nat} (hr : v.ownBlock = some r) : TyB W r e := by
  rcases h.2 with ⟨rfl, _⟩ | ⟨g, cap, cur, rfl, _, hg, _⟩
  · cases hr
  · have e1 : g = r := by simpa [Value.ownBlock] using hr
    subst e1
    exact ⟨_, hg⟩
theorem ownsR.same' {W W' : World} {B e : Nat} {v : Value} {l : List α} (h : ownsR W B e v l) (hs : ∀ r, v.ownBlock = some r → W'.heap[r]? = W.heap[r]?) : ownsR W' B e v l := by
  refine ⟨h.1, ?_⟩
  rcases h.2 with h0 | ⟨g, cap, cur, rfl, hb, hg, hr⟩
  · exact .inl h0
  · exact .inr ⟨g, cap, cur, rfl, hb, (hs g rfl).trans hg, hr⟩
theorem ownsR.save {g : Nat} {W W' : World} {B : Nat} {e : TypeId} {v : Value} {l : List α} (h : ownsR W B e v l) (hs : Save g W W') (hB : g < B) : ownsR W' B e v l :=
  h.same' fun r hr => hs.block r (h.lt r hr).2 (by have := (h.lt r hr).1; omega)
theorem ownsR.apartTy {W : World} {B : Nat} {e t : TypeId} {v : Value} {l : List α} {b : Nat} (h : ownsR W B e v l) (ht : TyB W b t) (hne : t ≠ e) : some b ≠ v.ownBlock := fun hk => (ht.ne (h.ty hk.symm) hne) rfl
end
/-- A drawn task as it lies there, and plain. -/
structure AfT (W : World) (B : Nat) (k : Tk) (t : Ta) : Prop where
  name : k.name = t.name
  pool : k.pool = t.pool
  ret : k.ret = t.ret
  past : k.past = t.past
  after : ownsR W B 9 k.after t.after
structure AfL (W : World) (B : Nat) (ks : List Tk) (ts : List Ta) : Prop where
  len : ks.length = ts.length
  each : ∀ (i : Nat) (k : Tk) (t : Ta), ks[i]? = some k → ts[i]? = some t → AfT W B k t
theorem AfL.of {W : World} {B : Nat} {ks : List Tk} {ts : List Ta} (h : AfL W B ks ts) {k : Tk} (hk : k ∈ ks) : ∃ al : List ByteArray, ownsR W B 9 k.after al := by
  obtain ⟨i, hi⟩ := List.getElem?_of_mem hk
  have hl := (List.getElem?_eq_some_iff.1 hi).1
  obtain ⟨t, ht⟩ : ∃ t, ts[i]? = some t := ⟨_, List.getElem?_eq_getElem (by rw [← h.len]; exact hl)⟩
  exact ⟨_, (h.each i k t hi ht).after⟩
theorem AfL.same {W W' : World} {B : Nat} {ks : List Tk} {ts : List Ta} (h : AfL W B ks ts) (hs : ∀ k ∈ ks, ∀ (al : List ByteArray), ownsR W B 9 k.after al → ∀ r, k.after.ownBlock = some r → W'.heap[r]? = W.heap[r]?) : AfL W' B ks ts :=
  ⟨h.len, fun i k t hk ht => by
    have a := h.each i k t hk ht
    exact ⟨a.name, a.pool, a.ret, a.past, a.after.same' (hs k (List.mem_of_getElem? hk) _ a.after)⟩⟩
theorem AfL.nil (W : World) (B : Nat) : AfL W B [] [] := ⟨rfl, fun i k t h => by simp at h⟩
theorem AfL.snoc {W : World} {B : Nat} {ks : List Tk} {ts : List Ta} (h : AfL W B ks ts) {k : Tk} {t : Ta} (a : AfT W B k t) : AfL W B (ks ++ [k]) (ts ++ [t]) := by
  refine ⟨by simp [h.len], fun i k' t' hk ht => ?_⟩
  by_cases hi : i < ks.length
  · rw [List.getElem?_append_left hi] at hk
    rw [List.getElem?_append_left (by rw [← h.len]; exact hi)] at ht
    exact h.each i k' t' hk ht
  · have := (List.getElem?_eq_some_iff.1 hk).1
    simp at this
    have hi2 : i = ks.length := by omega
    subst hi2
    simp only [List.getElem?_concat_length, Option.some.injEq] at hk
    rw [h.len] at ht
    simp only [List.getElem?_concat_length, Option.some.injEq] at ht
    subst hk ht
    exact a
/-- The four names, as they lie there. -/
def Nm4 (W : World) (b : Nat) : Prop := W.heap[b]? = some (.cells #[.string ⟨#[97]⟩, .string ⟨#[98]⟩, .string ⟨#[99]⟩, .string ⟨#[100]⟩] 9)
structure DgS (g D Nn : Nat) (w0 : World) (nm cr : ByteArray) (fr up : Int) (cu : Bool) (tv : Value) (ks : List Tk) (ts : List Ta) (W : World) : Prop where
  drw : Drw W g
  sv : Save g w0 W
  gl : g < w0.heap.size
  dl : w0.heap.size < D
  nl : w0.heap.size ≤ Nn
  res : D6 W w0.heap.size ⟨#[]⟩ ⟨#[]⟩ 0 0 false (.slice none 0 0)
  d : D6 W D nm cr fr up cu tv
  n : Nm4 W Nn
  own : ownsR W w0.heap.size 144 tv ks
  aft : AfL W w0.heap.size ks ts
section
variable {g D Nn : Nat} {w0 W W' : World} {nm cr : ByteArray} {fr up : Int} {cu : Bool} {tv : Value} {ks : List Tk} {ts : List Ta}
theorem DgS.dlt (h : DgS g D Nn w0 nm cr fr up cu tv ks ts W) : D < W.heap.size := h.d.lt
theorem DgS.nlt (h : DgS g D Nn w0 nm cr fr up cu tv ks ts W) : Nn < W.heap.size := (Array.getElem?_eq_some_iff.1 h.n).1
theorem DgS.tyD (h : DgS g D Nn w0 nm cr fr up cu tv ks ts W) : TyB W D 115 := ⟨_, h.d⟩
theorem DgS.tyR (h : DgS g D Nn w0 nm cr fr up cu tv ks ts W) : TyB W w0.heap.size 115 := ⟨_, h.res⟩
theorem DgS.tyN (h : DgS g D Nn w0 nm cr fr up cu tv ks ts W) : TyB W Nn 9 := ⟨_, h.n⟩
theorem Drw.ty {W : World} {g : Nat} (h : Drw W g) : TyB W g 83 := by
  obtain ⟨v, n, i, x, h1, h2, h3, h4, h5, h6, h7⟩ := h
  exact ⟨_, h6⟩
theorem DgS.save (h : DgS g D Nn w0 nm cr fr up cu tv ks ts W) (hs : Save g W W') (hd : Drw W' g) : DgS g D Nn w0 nm cr fr up cu tv ks ts W' :=
  ⟨hd, h.sv.trans hs, h.gl, h.dl, h.nl, (hs.block _ h.res.lt (by have := h.gl; omega)).trans h.res, (hs.block _ h.d.lt (by have := h.gl; have := h.dl; omega)).trans h.d, (hs.block _ h.nlt (by have := h.gl; have := h.nl; omega)).trans h.n, h.own.save hs h.gl,
    h.aft.same fun k hk al h1 r hr => hs.block r (h1.lt r hr).2 (by have := (h1.lt r hr).1; have := h.gl; omega)⟩
theorem DgS.drew (h : DgS g D Nn w0 nm cr fr up cu tv ks ts W) : DgS g D Nn w0 nm cr fr up cu tv ks ts W.drew := h.save (Save.refl _ _).drew (h.drw.keep ((Below.refl _ _).drew))
theorem DgS.drewN (h : DgS g D Nn w0 nm cr fr up cu tv ks ts W) (n : Nat) : DgS g D Nn w0 nm cr fr up cu tv ks ts (W.drewN n) := h.save ((Save.refl _ _).drewN n) (h.drw.keep (bdrewN (Below.refl _ _) n))
theorem DgS.alloc (h : DgS g D Nn w0 nm cr fr up cu tv ks ts W) (o : Obj) : DgS g D Nn w0 nm cr fr up cu tv ks ts (W.alloc o) := h.save ((Save.refl _ _).alloc o) (h.drw.keep ((Below.refl _ _).alloc (by have := h.drw.lt; omega) o))
theorem DgS.len (h : DgS g D Nn w0 nm cr fr up cu tv ks ts W) : ∃ a c, tv = .slice a ks.length c := h.own.slice
/-- The tasks read as plain ones. -/
theorem tasks_of {W : World} {B : Nat} {tv : Value} {ks : List Tk} {ts : List Ta} (hr : Reads W tv ks) (ha : AfL W B ks ts) : Tasks W tv ts :=
  ⟨ks, hr, ha.len, fun i t ht => by
    have hl := (List.getElem?_eq_some_iff.1 ht).1
    obtain ⟨k, hk⟩ : ∃ k, ks[i]? = some k := ⟨_, List.getElem?_eq_getElem (by rw [ha.len]; exact hl)⟩
    have a := ha.each i k t hk ht
    exact ⟨k, hk, a.name, a.pool, a.ret, a.past, a.after.reads⟩⟩
theorem DgS.tasks (h : DgS g D Nn w0 nm cr fr up cu tv ks ts W) : Tasks W tv ts := tasks_of h.own.reads h.aft
theorem DgS.up3 (h : DgS g D Nn w0 nm cr fr up cu tv ks ts W) (u : Int) : DgS g D Nn w0 nm cr fr u cu tv ks ts (W.setCell ⟨D, 3, none⟩ (.int .i64 u)) := by
  have hb : ∀ k, k ≠ D → (W.setCell ⟨D, 3, none⟩ (.int .i64 u)).heap[k]? = W.heap[k]? := fun k hk => heap_setCell_other W ⟨D, 3, none⟩ k _ hk
  have hg := h.gl
  have hd := h.dl
  have bg : Below (g + 1) W (W.setCell ⟨D, 3, none⟩ (.int .i64 u)) := Below.setCell (Below.refl _ _) (by show g + 1 ≤ D; omega) _
  have bw : Below w0.heap.size W (W.setCell ⟨D, 3, none⟩ (.int .i64 u)) := Below.setCell (Below.refl _ _) (by show w0.heap.size ≤ D; omega) _
  refine ⟨h.drw.keep bg, h.sv.below_on bw (Nat.le_refl _), h.gl, h.dl, h.nl, (hb _ (by omega)).trans h.res, h.d.s3 u, (hb _ (h.tyN.ne h.tyD (by decide))).trans h.n, h.own.same' fun r hr => hb r ((h.own.ty hr).ne h.tyD (by decide)), h.aft.same fun k hk al h1 r hr => hb r ((h1.ty hr).ne h.tyD (by decide))⟩
end
/-- A task is being made beside it. -/
structure DgI (g D Nn : Nat) (w0 : World) (nm cr : ByteArray) (fr up : Int) (cu : Bool) (tv : Value) (ks : List Tk) (ts : List Ta) (X : Nat) (xn xp : ByteArray) (xr : Int) (xq : Bool) (av : Value) (al : List ByteArray) (W : World) : Prop where
  o : DgS g D Nn w0 nm cr fr up cu tv ks ts W
  xl : w0.heap.size ≤ X
  x : B5 144 W X (.string xn) (.string xp) (.int .i64 xr) (.bool xq) av
  xt : some X ≠ tv.ownBlock
  lt : ∀ k ∈ ks, ∀ r, k.after.ownBlock = some r → r < X
  nlt : Nn < X
  dlt : D < X
  row : ownsR W X 9 av al
section
variable {g D Nn : Nat} {w0 W W' : World} {nm cr : ByteArray} {fr up : Int} {cu : Bool} {tv : Value} {ks : List Tk} {ts : List Ta} {X : Nat} {xn xp : ByteArray} {xr : Int} {xq : Bool} {av : Value} {al : List ByteArray}
theorem DgI.tyX (h : DgI g D Nn w0 nm cr fr up cu tv ks ts X xn xp xr xq av al W) : TyB W X 144 := ⟨_, h.x⟩
theorem DgI.save (h : DgI g D Nn w0 nm cr fr up cu tv ks ts X xn xp xr xq av al W) (hs : Save g W W') (hd : Drw W' g) : DgI g D Nn w0 nm cr fr up cu tv ks ts X xn xp xr xq av al W' :=
  ⟨h.o.save hs hd, h.xl, (hs.block _ h.x.lt (by have := h.o.gl; have := h.xl; omega)).trans h.x, h.xt, h.lt, h.nlt, h.dlt, h.row.save hs (by have := h.o.gl; have := h.xl; omega)⟩
theorem DgI.drew (h : DgI g D Nn w0 nm cr fr up cu tv ks ts X xn xp xr xq av al W) : DgI g D Nn w0 nm cr fr up cu tv ks ts X xn xp xr xq av al W.drew := h.save (Save.refl _ _).drew (h.o.drw.keep ((Below.refl _ _).drew))
theorem DgI.drewN (h : DgI g D Nn w0 nm cr fr up cu tv ks ts X xn xp xr xq av al W) (n : Nat) : DgI g D Nn w0 nm cr fr up cu tv ks ts X xn xp xr xq av al (W.drewN n) := h.save ((Save.refl _ _).drewN n) (h.o.drw.keep (bdrewN (Below.refl _ _) n))
theorem DgI.alloc (h : DgI g D Nn w0 nm cr fr up cu tv ks ts X xn xp xr xq av al W) (o : Obj) : DgI g D Nn w0 nm cr fr up cu tv ks ts X xn xp xr xq av al (W.alloc o) := h.save ((Save.refl _ _).alloc o) (h.o.drw.keep ((Below.refl _ _).alloc (by have := h.o.drw.lt; omega) o))
theorem DgS.begin (h : DgS g D Nn w0 nm cr fr up cu tv ks ts W) (xn xp : ByteArray) (xr : Int) (xq : Bool) : DgI g D Nn w0 nm cr fr up cu tv ks ts W.heap.size xn xp xr xq (.slice none 0 0) [] (W.alloc (.cells #[.string xn, .string xp, .int .i64 xr, .bool xq, .slice none 0 0] 144)) :=
  ⟨h.alloc _, h.sv.size, B5.new _ _ _ _ _ _ _, fun e => by have := (h.own.lt _ e.symm).2; omega, fun k hk r hr => by
    obtain ⟨al, h1⟩ := h.aft.of hk
    exact (h1.lt r hr).2, h.nlt, h.dlt, ownsR_nil _ _ _⟩
/-- The task's fields are laid down. -/
theorem DgI.fill {xn0 xp0 : ByteArray} {xr0 : Int} {xq0 : Bool} (h : DgI g D Nn w0 nm cr fr up cu tv ks ts X xn0 xp0 xr0 xq0 (.slice none 0 0) [] W) (xn xp : ByteArray) (xr : Int) (xq : Bool) : DgI g D Nn w0 nm cr fr up cu tv ks ts X xn xp xr xq (.slice none 0 0) [] (set5 W X (.string xn) (.string xp) (.int .i64 xr) (.bool xq) (.slice none 0 0)) := by
  have hgl := h.o.gl
  have hxl := h.xl
  have hdl := h.o.dl
  have hXs := h.x.lt
  have bX : Below X W (set5 W X (.string xn) (.string xp) (.int .i64 xr) (.bool xq) (.slice none 0 0)) := below_set5 (Below.refl _ _) (Nat.le_refl _) _ _ _ _ _
  have hb : ∀ b, b ≠ X → (set5 W X (.string xn) (.string xp) (.int .i64 xr) (.bool xq) (.slice none 0 0)).heap[b]? = W.heap[b]? := fun b hb => by
    unfold set5
    rw [heap_setCell_other _ ⟨X, 4, none⟩ b _ hb, heap_setCell_other _ ⟨X, 3, none⟩ b _ hb, heap_setCell_other _ ⟨X, 2, none⟩ b _ hb, heap_setCell_other _ ⟨X, 1, none⟩ b _ hb, heap_setCell_other _ ⟨X, 0, none⟩ b _ hb]
  have hT : ∀ r, tv.ownBlock = some r → (set5 W X (.string xn) (.string xp) (.int .i64 xr) (.bool xq) (.slice none 0 0)).heap[r]? = W.heap[r]? := fun r hr' => hb r (fun e => h.xt (by rw [hr']; exact congrArg some e.symm))
  have hd := h.dlt
  have hn := h.nlt
  exact ⟨⟨h.o.drw.keep (bX.mono (by omega)), h.o.sv.below_on (bX.mono hxl) (Nat.le_refl _), hgl, hdl, h.o.nl, (hb _ (by omega)).trans h.o.res, (hb _ (by omega)).trans h.o.d, (hb _ (by omega)).trans h.o.n, h.o.own.same' hT, h.o.aft.same fun k hk al h1 r hr' => hb r (by have := h.lt k hk r hr'; omega)⟩, hxl, h.x.set _ _ _ _ _, h.xt, h.lt, h.nlt, h.dlt, ownsR_nil _ _ _⟩
/-- One name more. -/
theorem DgI.name (h : DgI g D Nn w0 nm cr fr up cu tv ks ts X xn xp xr xq av al W) {v' : Value} {al' : List ByteArray} (hg : W.grownBy W' av.ownBlock) (hr : ownsR W' X 9 v' al') : DgI g D Nn w0 nm cr fr up cu tv ks ts X xn xp xr xq v' al' (W'.setCell ⟨X, 4, none⟩ v') := by
  have hgl := h.o.gl
  have hxl := h.xl
  have hdl := h.o.dl
  have hlo : ∀ b, b < X → some b ≠ av.ownBlock := fun b hb e => by have := (h.row.lt b e.symm).1; omega
  have hXs := h.x.lt
  have hb : ∀ b, b < X → (W'.setCell ⟨X, 4, none⟩ v').heap[b]? = W.heap[b]? := fun b hb => (heap_setCell_other W' ⟨X, 4, none⟩ b _ (by show b ≠ X; omega)).trans (hg.block b (by omega) (hlo b hb))
  have hT : ∀ r, tv.ownBlock = some r → (W'.setCell ⟨X, 4, none⟩ v').heap[r]? = W.heap[r]? := fun r hr' => (heap_setCell_other W' ⟨X, 4, none⟩ r _ (fun e => h.xt (by rw [hr']; exact congrArg some e.symm))).trans (hg.block r (h.o.own.lt r hr').2 (h.row.apartTy (h.o.own.ty hr') (by decide)))
  have hX1 : B5 144 W' X (.string xn) (.string xp) (.int .i64 xr) (.bool xq) av := h.x.grown hg (h.row.apartTy h.tyX (by decide))
  have bX : Below X W (W'.setCell ⟨X, 4, none⟩ v') := ⟨hg.os, hg.tape, hg.output, by have := hg.size; simp; omega, fun k hk => hb k hk⟩
  refine ⟨⟨h.o.drw.keep (bX.mono (by omega)), h.o.sv.below_on (bX.mono hxl) (Nat.le_refl _), hgl, hdl, h.o.nl, (hb _ (by have := h.dlt; omega)).trans h.o.res, (hb _ h.dlt).trans h.o.d, (hb _ h.nlt).trans h.o.n, h.o.own.same' hT, h.o.aft.same fun k hk al h1 r hr' => hb r (h.lt k hk r hr')⟩, hxl, hX1.s4 v', h.xt, h.lt, h.nlt, h.dlt, ?_⟩
  exact hr.same' fun r hr' => heap_setCell_other W' ⟨X, 4, none⟩ r _ ((hr.ty hr').ne ⟨_, hX1⟩ (by decide))
/-- The task is put behind the others. -/
theorem DgI.done (h : DgI g D Nn w0 nm cr fr up cu tv ks ts X xn xp xr xq av al W) {v' : Value} (hg : W.grownBy W' tv.ownBlock) (hr : ownsR W' w0.heap.size 144 v' (ks ++ [⟨xn, xp, xr, xq, av⟩])) :
    DgS g D Nn w0 nm cr fr up cu v' (ks ++ [⟨xn, xp, xr, xq, av⟩]) (ts ++ [⟨xn, xp, xr, xq, al⟩]) (W'.setCell ⟨D, 5, none⟩ v') := by
  have hgl := h.o.gl
  have hdl := h.o.dl
  have hDt : TyB W' D 115 := ⟨_, (hg.block D h.o.dlt (h.o.own.apartTy h.o.tyD (by decide))).trans h.o.d⟩
  have hk : ∀ b t, TyB W b t → t ≠ 144 → W'.heap[b]? = W.heap[b]? := fun b t ht hne => by
    obtain ⟨c, hc⟩ := ht
    exact hg.block b (Array.getElem?_eq_some_iff.1 hc).1 (h.o.own.apartTy ⟨c, hc⟩ hne)
  have hs : ∀ b t, TyB W b t → t ≠ 144 → b ≠ D → (W'.setCell ⟨D, 5, none⟩ v').heap[b]? = W.heap[b]? := fun b t ht hne hbD => (heap_setCell_other W' ⟨D, 5, none⟩ b _ hbD).trans (hk b t ht hne)
  have hB : ∀ j, tv.ownBlock = some j → w0.heap.size ≤ j := fun j hj => (h.o.own.lt j hj).1
  have bw : Below w0.heap.size W (W'.setCell ⟨D, 5, none⟩ v') := ⟨hg.os, hg.tape, hg.output, by have := hg.size; have := h.o.sv.size; simp; omega, fun k hk' => (heap_setCell_other W' ⟨D, 5, none⟩ k _ (by show k ≠ D; omega)).trans (hg.block k (by have := h.o.sv.size; omega) (fun e => by have := hB k e.symm; omega))⟩
  refine ⟨h.o.drw.keep (bw.mono (by omega)), h.o.sv.below_on bw (Nat.le_refl _), hgl, hdl, h.o.nl, (hs _ _ h.o.tyR (by decide) (by omega)).trans h.o.res, ?_, (hs _ _ h.o.tyN (by decide) (h.o.tyN.ne h.o.tyD (by decide))).trans h.o.n, hr.same' fun r hr' => heap_setCell_other W' ⟨D, 5, none⟩ r _ ((hr.ty hr').ne hDt (by decide)), ?_⟩
  · exact D6.s5 (show D6 W' D nm cr fr up cu tv from (hk D _ h.o.tyD (by decide)).trans h.o.d) v'
  · refine (h.o.aft.same fun k hk' al' b1 r hr' => hs r _ (b1.ty hr') (by decide) ((b1.ty hr').ne h.o.tyD (by decide))).snoc ⟨rfl, rfl, rfl, rfl, ?_⟩
    have b1 : ownsR W w0.heap.size 9 av al := h.row.mono h.xl
    exact b1.same' fun r hr' => hs r _ (b1.ty hr') (by decide) ((b1.ty hr').ne h.o.tyD (by decide))
end
end Go.Proofs.Ytehkebdncfljmaa

namespace Go.Proofs.Ytehkebdncfljmaa
open Go Go.RowKit
set_option linter.unusedVariables false

/-- A block of 3 cells. -/
def K3 (t : TypeId) (W : World) (b : Nat) (x0 x1 x2 : Value) : Prop := W.heap[b]? = some (.cells #[x0, x1, x2] t)
section
variable {t : TypeId} {W W' : World} {b : Nat} {x0 x1 x2 : Value}
theorem K3.lt (h : K3 t W b x0 x1 x2) : b < W.heap.size := (Array.getElem?_eq_some_iff.1 h).1
theorem K3.on {B : Nat} (h : K3 t W b x0 x1 x2) (hb : Below B W W') (hB : b < B) : K3 t W' b x0 x1 x2 := (hb.block _ hB).trans h
theorem K3.up (h : K3 t W b x0 x1 x2) (hb : Below W.heap.size W W') : K3 t W' b x0 x1 x2 := h.on hb h.lt
theorem K3.save {g : Nat} (h : K3 t W b x0 x1 x2) (hs : Save g W W') (hg : b ≠ g) : K3 t W' b x0 x1 x2 := (hs.block b h.lt hg).trans h
theorem K3.grown {r : Option Nat} (h : K3 t W b x0 x1 x2) (hg : W.grownBy W' r) (hr : some b ≠ r) : K3 t W' b x0 x1 x2 := (hg.block b h.lt hr).trans h
theorem K3.alloc (h : K3 t W b x0 x1 x2) (o : Obj) : K3 t (W.alloc o) b x0 x1 x2 := h.up (ba (Below.refl _ _) _)
theorem K3.fz (h : K3 t W b x0 x1 x2) (k : Nat) : W.frozen? ⟨b, k, none⟩ = false := by simp [World.frozen?, show W.heap[b]? = _ from h]
theorem K3.ty (h : K3 t W b x0 x1 x2) : TyB W b t := ⟨_, h⟩
theorem K3.new (t : TypeId) (W : World) (x0 x1 x2 : Value) : K3 t (W.alloc (.cells #[x0, x1, x2] t)) W.heap.size x0 x1 x2 := by
  show (W.heap.push _)[W.heap.size]? = _
  rw [Array.getElem?_push, if_pos rfl]
theorem K3.far {p : Addr} (h : K3 t W b x0 x1 x2) (hp : p.block ≠ b) (u : Value) : K3 t (W.setCell p u) b x0 x1 x2 := by
  have := h
  unfold K3 at this ⊢
  rw [← this]
  exact heap_setCell_other W p b u (Ne.symm hp)
theorem K3.c0 (h : K3 t W b x0 x1 x2) : W.cell? ⟨b, 0, none⟩ = some x0 := by simp [World.cell?, show W.heap[b]? = _ from h]
theorem K3.s0 (h : K3 t W b x0 x1 x2) (u : Value) : K3 t (W.setCell ⟨b, 0, none⟩ u) b u x1 x2 := by simp [K3, World.setCell, Array.getElem?_modify, show W.heap[b]? = _ from h]
theorem K3.c1 (h : K3 t W b x0 x1 x2) : W.cell? ⟨b, 1, none⟩ = some x1 := by simp [World.cell?, show W.heap[b]? = _ from h]
theorem K3.s1 (h : K3 t W b x0 x1 x2) (u : Value) : K3 t (W.setCell ⟨b, 1, none⟩ u) b x0 u x2 := by simp [K3, World.setCell, Array.getElem?_modify, show W.heap[b]? = _ from h]
theorem K3.c2 (h : K3 t W b x0 x1 x2) : W.cell? ⟨b, 2, none⟩ = some x2 := by simp [World.cell?, show W.heap[b]? = _ from h]
theorem K3.s2 (h : K3 t W b x0 x1 x2) (u : Value) : K3 t (W.setCell ⟨b, 2, none⟩ u) b x0 x1 u := by simp [K3, World.setCell, Array.getElem?_modify, show W.heap[b]? = _ from h]
end

/-- A block of 8 cells. -/
def K8 (t : TypeId) (W : World) (b : Nat) (x0 x1 x2 x3 x4 x5 x6 x7 : Value) : Prop := W.heap[b]? = some (.cells #[x0, x1, x2, x3, x4, x5, x6, x7] t)
section
variable {t : TypeId} {W W' : World} {b : Nat} {x0 x1 x2 x3 x4 x5 x6 x7 : Value}
theorem K8.lt (h : K8 t W b x0 x1 x2 x3 x4 x5 x6 x7) : b < W.heap.size := (Array.getElem?_eq_some_iff.1 h).1
theorem K8.on {B : Nat} (h : K8 t W b x0 x1 x2 x3 x4 x5 x6 x7) (hb : Below B W W') (hB : b < B) : K8 t W' b x0 x1 x2 x3 x4 x5 x6 x7 := (hb.block _ hB).trans h
theorem K8.up (h : K8 t W b x0 x1 x2 x3 x4 x5 x6 x7) (hb : Below W.heap.size W W') : K8 t W' b x0 x1 x2 x3 x4 x5 x6 x7 := h.on hb h.lt
theorem K8.save {g : Nat} (h : K8 t W b x0 x1 x2 x3 x4 x5 x6 x7) (hs : Save g W W') (hg : b ≠ g) : K8 t W' b x0 x1 x2 x3 x4 x5 x6 x7 := (hs.block b h.lt hg).trans h
theorem K8.grown {r : Option Nat} (h : K8 t W b x0 x1 x2 x3 x4 x5 x6 x7) (hg : W.grownBy W' r) (hr : some b ≠ r) : K8 t W' b x0 x1 x2 x3 x4 x5 x6 x7 := (hg.block b h.lt hr).trans h
theorem K8.alloc (h : K8 t W b x0 x1 x2 x3 x4 x5 x6 x7) (o : Obj) : K8 t (W.alloc o) b x0 x1 x2 x3 x4 x5 x6 x7 := h.up (ba (Below.refl _ _) _)
theorem K8.fz (h : K8 t W b x0 x1 x2 x3 x4 x5 x6 x7) (k : Nat) : W.frozen? ⟨b, k, none⟩ = false := by simp [World.frozen?, show W.heap[b]? = _ from h]
theorem K8.ty (h : K8 t W b x0 x1 x2 x3 x4 x5 x6 x7) : TyB W b t := ⟨_, h⟩
theorem K8.new (t : TypeId) (W : World) (x0 x1 x2 x3 x4 x5 x6 x7 : Value) : K8 t (W.alloc (.cells #[x0, x1, x2, x3, x4, x5, x6, x7] t)) W.heap.size x0 x1 x2 x3 x4 x5 x6 x7 := by
  show (W.heap.push _)[W.heap.size]? = _
  rw [Array.getElem?_push, if_pos rfl]
theorem K8.far {p : Addr} (h : K8 t W b x0 x1 x2 x3 x4 x5 x6 x7) (hp : p.block ≠ b) (u : Value) : K8 t (W.setCell p u) b x0 x1 x2 x3 x4 x5 x6 x7 := by
  have := h
  unfold K8 at this ⊢
  rw [← this]
  exact heap_setCell_other W p b u (Ne.symm hp)
theorem K8.c0 (h : K8 t W b x0 x1 x2 x3 x4 x5 x6 x7) : W.cell? ⟨b, 0, none⟩ = some x0 := by simp [World.cell?, show W.heap[b]? = _ from h]
theorem K8.s0 (h : K8 t W b x0 x1 x2 x3 x4 x5 x6 x7) (u : Value) : K8 t (W.setCell ⟨b, 0, none⟩ u) b u x1 x2 x3 x4 x5 x6 x7 := by simp [K8, World.setCell, Array.getElem?_modify, show W.heap[b]? = _ from h]
theorem K8.c1 (h : K8 t W b x0 x1 x2 x3 x4 x5 x6 x7) : W.cell? ⟨b, 1, none⟩ = some x1 := by simp [World.cell?, show W.heap[b]? = _ from h]
theorem K8.s1 (h : K8 t W b x0 x1 x2 x3 x4 x5 x6 x7) (u : Value) : K8 t (W.setCell ⟨b, 1, none⟩ u) b x0 u x2 x3 x4 x5 x6 x7 := by simp [K8, World.setCell, Array.getElem?_modify, show W.heap[b]? = _ from h]
theorem K8.c2 (h : K8 t W b x0 x1 x2 x3 x4 x5 x6 x7) : W.cell? ⟨b, 2, none⟩ = some x2 := by simp [World.cell?, show W.heap[b]? = _ from h]
theorem K8.s2 (h : K8 t W b x0 x1 x2 x3 x4 x5 x6 x7) (u : Value) : K8 t (W.setCell ⟨b, 2, none⟩ u) b x0 x1 u x3 x4 x5 x6 x7 := by simp [K8, World.setCell, Array.getElem?_modify, show W.heap[b]? = _ from h]
theorem K8.c3 (h : K8 t W b x0 x1 x2 x3 x4 x5 x6 x7) : W.cell? ⟨b, 3, none⟩ = some x3 := by simp [World.cell?, show W.heap[b]? = _ from h]
theorem K8.s3 (h : K8 t W b x0 x1 x2 x3 x4 x5 x6 x7) (u : Value) : K8 t (W.setCell ⟨b, 3, none⟩ u) b x0 x1 x2 u x4 x5 x6 x7 := by simp [K8, World.setCell, Array.getElem?_modify, show W.heap[b]? = _ from h]
theorem K8.c4 (h : K8 t W b x0 x1 x2 x3 x4 x5 x6 x7) : W.cell? ⟨b, 4, none⟩ = some x4 := by simp [World.cell?, show W.heap[b]? = _ from h]
theorem K8.s4 (h : K8 t W b x0 x1 x2 x3 x4 x5 x6 x7) (u : Value) : K8 t (W.setCell ⟨b, 4, none⟩ u) b x0 x1 x2 x3 u x5 x6 x7 := by simp [K8, World.setCell, Array.getElem?_modify, show W.heap[b]? = _ from h]
theorem K8.c5 (h : K8 t W b x0 x1 x2 x3 x4 x5 x6 x7) : W.cell? ⟨b, 5, none⟩ = some x5 := by simp [World.cell?, show W.heap[b]? = _ from h]
theorem K8.s5 (h : K8 t W b x0 x1 x2 x3 x4 x5 x6 x7) (u : Value) : K8 t (W.setCell ⟨b, 5, none⟩ u) b x0 x1 x2 x3 x4 u x6 x7 := by simp [K8, World.setCell, Array.getElem?_modify, show W.heap[b]? = _ from h]
theorem K8.c6 (h : K8 t W b x0 x1 x2 x3 x4 x5 x6 x7) : W.cell? ⟨b, 6, none⟩ = some x6 := by simp [World.cell?, show W.heap[b]? = _ from h]
theorem K8.s6 (h : K8 t W b x0 x1 x2 x3 x4 x5 x6 x7) (u : Value) : K8 t (W.setCell ⟨b, 6, none⟩ u) b x0 x1 x2 x3 x4 x5 u x7 := by simp [K8, World.setCell, Array.getElem?_modify, show W.heap[b]? = _ from h]
theorem K8.c7 (h : K8 t W b x0 x1 x2 x3 x4 x5 x6 x7) : W.cell? ⟨b, 7, none⟩ = some x7 := by simp [World.cell?, show W.heap[b]? = _ from h]
theorem K8.s7 (h : K8 t W b x0 x1 x2 x3 x4 x5 x6 x7) (u : Value) : K8 t (W.setCell ⟨b, 7, none⟩ u) b x0 x1 x2 x3 x4 x5 x6 u := by simp [K8, World.setCell, Array.getElem?_modify, show W.heap[b]? = _ from h]
end
end Go.Proofs.Ytehkebdncfljmaa

namespace Go.Proofs.Ytehkebdncfljmaa
open Go Go.RowKit
set_option linter.unusedVariables false

theorem size_setCells' (b : Nat) : ∀ (vs : List Value) (o : Nat) (w : World), (w.setCells b o vs).heap.size = w.heap.size
  | [], _, _ => rfl
  | v :: r, o, w => by
    show ((w.setCell ⟨b, o, none⟩ v).setCells b (o + 1) r).heap.size = _
    rw [size_setCells' b r]
    simp
theorem grown_setCells (b : Nat) : ∀ (vs : List Value) (o : Nat) (w : World), w.grownBy (w.setCells b o vs) (some b)
  | [], _, w => grown_refl _ _
  | v :: r, o, w => grown_trans (grown_set w b o v) (grown_setCells b r (o + 1) _)
open Rec in
theorem run_append_cut {α : Type} [Rec α] {P : Program} (w : World) {B : Nat} {e t ty : TypeId} {z : Value} {bytes : Nat} (ht : P.underlying t = some (.slice e)) (hi : (P.info? e).map (fun i => (i.zero, i.size, i.bytes)) = some (some z, width α, bytes)) (hz : z.cells.size = width α)
    {r n cap : Nat} {k0 : α} {l : List α} (hown : ownsR w B e (.slice (some ⟨r, 0, none⟩) (n + 1) cap) (k0 :: l)) (b c : Nat) (x : α) (hc : ∀ j u, (cells x)[j]? = some u → w.cell? ⟨b, j, none⟩ = some u ∧ u.oneCell' = true)
    (hlen : l.length ≤ 1048576) (hby : bytes ≤ 134217000) :
    ∃ v' w', (Builtin.append_ #[t, t] ty #[.slice (some ⟨r, width α, none⟩) n (cap - 1), .slice (some ⟨b, 0, none⟩) 1 c]).run P w = .ok v' w' ∧ Reads w' v' (l ++ [x]) ∧ w.grownBy w' (some r) ∧ (∀ a m d, v' = .slice (some a) m d → a.block = r ∨ w.heap.size ≤ a.block) := by
  obtain ⟨i0, hi0, hz0, hz1, hz2⟩ := info_parts hi
  have hnl : n = l.length := by
    have := hown.reads.len
    simpa using this
  have hw0 : 0 < width α := Rec.pos
  have hnews : ∀ j u, (cells x)[j]? = some u → w.cell? ((⟨b, 0, none⟩ : Addr).add j) = some u := fun j u hj => by
    have := (hc j u hj).1
    by_cases h0 : j = 0
    · subst h0; simpa [Addr.add] using this
    · simpa [Addr.add, h0] using this
  have hone : ∀ u ∈ cells x, u.oneCell' = true := fun u hu => by
    obtain ⟨j, hj⟩ := List.getElem?_of_mem hu
    exact (hc j u hj).2
  obtain ⟨hrl, hrB⟩ : r < w.heap.size ∧ B ≤ r := by
    have := hown.at (i := 0) rfl
    exact ⟨this.1, this.2.1⟩
  have hold : ∀ i y, l[i]? = some y → ∀ j u, (cells y)[j]? = some u → w.cell? ⟨r, width α + i * width α + j, none⟩ = some u := fun i y hy j u hu => by
    have h1 := (hown.at (i := i + 1) (by rw [List.getElem?_cons_succ]; exact hy)).2.2.2 j (by rw [← Rec.len y]; exact (List.getElem?_eq_some_iff.1 hu).1)
    rw [show (i + 1) * width α + j = width α + i * width α + j by rw [Nat.add_mul]; omega] at h1
    exact h1.1.trans hu
  obtain ⟨h1, h2⟩ := hown
  rcases h2 with ⟨he, _⟩ | ⟨g, cap', cur, he, hb, hg, hcap, hcm, hcs, htk⟩
  · simp at he
  · simp only [Value.slice.injEq, Option.some.injEq, Addr.mk.injEq] at he
    obtain ⟨⟨rfl, _⟩, hn2, rfl⟩ := he
    have hll : (k0 :: l).length = n + 1 := by simp [hnl]
    rw [hll] at hcap
    have hcell : ∀ o, o < cap * width α → (w.cell? ⟨r, o, none⟩).isSome = true := fun o ho => by
      rw [show w.cell? ⟨r, o, none⟩ = cur[o]? by simp [World.cell?, hg]]
      rw [Array.getElem?_eq_getElem (by omega)]
      rfl
    by_cases hroom : n + 1 + 1 ≤ cap
    · have hsz : n * width α + width α + width α ≤ cap * width α := by
        have := Nat.mul_le_mul_right (width α) hroom
        rw [Nat.add_mul, Nat.add_mul] at this
        omega
      have hr := run_append_room_cells (P := P) w t ty e i0 ht hi0 r (width α) n (cap - 1) ⟨b, 0, none⟩ 1 c (cells x) (by rw [Rec.len, hz1]; simp) hnews hone (by omega)
        (fun j hj => hcell _ (by rw [Rec.len] at hj; rw [hz1]; omega)) (fun j hj => by simp [World.frozen?, hg])
      rw [hz1] at hr
      refine ⟨_, _, hr, ⟨some ⟨r, width α, none⟩, cap - 1, by simp [hnl], fun _ => ⟨r, width α, rfl, ?_, fun i y hy j u hu => ?_⟩⟩, ?_, fun a m d ha => ?_⟩
      · rw [size_setCells']; exact hrl
      · have hjw : j < width α := by rw [← Rec.len y]; exact (List.getElem?_eq_some_iff.1 hu).1
        by_cases hil : i < l.length
        · rw [List.getElem?_append_left hil] at hy
          rw [World.cell?_setCells_out r (cells x) _ w ⟨r, width α + i * width α + j, none⟩ (fun _ _ => .inl ?_)]
          · exact hold i y hy j u hu
          · show width α + i * width α + j < width α + n * width α
            have : (i + 1) * width α ≤ n * width α := Nat.mul_le_mul_right _ (by omega)
            rw [Nat.add_mul] at this
            omega
        · have hil2 : i = l.length := by
            have := (List.getElem?_eq_some_iff.1 hy).1
            simp at this
            omega
          subst hil2
          simp only [List.getElem?_concat_length, Option.some.injEq] at hy
          subst hy
          have hin := World.cell?_setCells_in r (cells x) (width α + n * width α) w (fun q hq => hcell _ (by rw [Rec.len] at hq; omega)) j (by rw [Rec.len]; exact hjw)
          rw [hnl] at hin ⊢
          rw [hin]
          exact (List.getElem?_eq_getElem _).symm.trans hu
      · exact grown_setCells r _ _ w
      · simp only [Value.slice.injEq, Option.some.injEq] at ha
        rw [← ha.1]
        exact .inl rfl
    · have hcapn : cap = n + 1 := by omega
      have hbytes : (n + 1) * bytes ≤ 140737488355328 := by
        have : (n + 1) * bytes ≤ 1048577 * 134217000 := Nat.mul_le_mul (by omega) hby
        omega
      have hol : ∀ j u, (l.flatMap cells)[j]? = some u → w.cell? ((⟨r, width α, none⟩ : Addr).add j) = some u := fun j u hj => by
        have hd := Nat.div_add_mod j (width α)
        have hq : j % width α < width α := Nat.mod_lt _ hw0
        have hf := flat_at l (j / width α) (j % width α) hq
        rw [show j / width α * width α + j % width α = j by rw [Nat.mul_comm]; exact hd, hj] at hf
        cases hy : l[j / width α]? with
        | none => rw [hy] at hf; cases hf
        | some y =>
          rw [hy] at hf
          have hu := hold _ y hy (j % width α) u hf.symm
          rw [show width α + j / width α * width α + j % width α = width α + j by rw [Nat.mul_comm (j / width α)]; omega] at hu
          by_cases h0 : j = 0
          · subst h0; simpa [Addr.add] using hu
          · simpa [Addr.add, h0] using hu
      obtain ⟨v', w', hr, ho, hgw⟩ := run_append_arg_grows (P := P) w t ty e i0 z (width α) bytes ht hi0 hz0 hz1 hz2 hz hw0 ⟨r, width α, none⟩ n (cap - 1) (l.flatMap cells) (by rw [flat_length, hnl]) hol ⟨b, 0, none⟩ 1 c (cells x) (by rw [Rec.len]; simp) hnews (by omega) (by unfold maxLen; omega) hbytes
      have ho2 : ownsR w' w.heap.size e v' (l ++ [x]) := by
        unfold ownsR
        rw [List.flatMap_append, List.length_append, ← hnl]
        simpa using ho
      refine ⟨v', w', hr, ho2.reads, ⟨hgw.os, hgw.tape, hgw.output, hgw.size, fun k hk' _ => hgw.block k hk' (by simp)⟩, fun a m d ha => ?_⟩
      subst ha
      exact .inr (ho2.lt a.block rfl).1
/-- A plan that is drawn, ahead of the answer. -/
structure DgE (g D : Nat) (w0 : World) (nm cr : ByteArray) (fr up : Int) (cu : Bool) (tv : Value) (ks : List Tk) (ts : List Ta) (W : World) : Prop where
  drw : Drw W g
  sv : Save g w0 W
  gl : g < w0.heap.size
  dl : w0.heap.size < D
  res : D6 W w0.heap.size ⟨#[]⟩ ⟨#[]⟩ 0 0 false (.slice none 0 0)
  d : D6 W D nm cr fr up cu tv
  rd : Reads W tv ks
  at' : ∀ a m c, tv = .slice (some a) m c → w0.heap.size ≤ a.block ∧ a.block ≠ w0.heap.size
  aft : AfL W w0.heap.size ks ts
theorem DgS.ends {g D Nn : Nat} {w0 W : World} {nm cr : ByteArray} {fr up : Int} {cu : Bool} {tv : Value} {ks : List Tk} {ts : List Ta} (h : DgS g D Nn w0 nm cr fr up cu tv ks ts W) : DgE g D w0 nm cr fr up cu tv ks ts W :=
  ⟨h.drw, h.sv, h.gl, h.dl, h.res, h.d, h.own.reads, fun a m c e => by
    subst e
    exact ⟨(h.own.lt a.block rfl).1, (h.own.ty (r := a.block) rfl).ne h.tyR (by decide)⟩, h.aft⟩
abbrev set6g (W : World) (b : Nat) (u0 u1 u2 u3 u4 u5 : Value) : World := (((((W.setCell ⟨b, 0, none⟩ u0).setCell ⟨b, 1, none⟩ u1).setCell ⟨b, 2, none⟩ u2).setCell ⟨b, 3, none⟩ u3).setCell ⟨b, 4, none⟩ u4).setCell ⟨b, 5, none⟩ u5
theorem set6g_other (W : World) (b : Nat) (u0 u1 u2 u3 u4 u5 : Value) {k : Nat} (h : k ≠ b) : (set6g W b u0 u1 u2 u3 u4 u5).heap[k]? = W.heap[k]? := by
  unfold set6g
  rw [heap_setCell_other _ ⟨b, 5, none⟩ k _ h, heap_setCell_other _ ⟨b, 4, none⟩ k _ h, heap_setCell_other _ ⟨b, 3, none⟩ k _ h, heap_setCell_other _ ⟨b, 2, none⟩ k _ h, heap_setCell_other _ ⟨b, 1, none⟩ k _ h, heap_setCell_other _ ⟨b, 0, none⟩ k _ h]
theorem below_set6g {B : Nat} {V W : World} {b : Nat} (h : Below B V W) (hb : B ≤ b) (u0 u1 u2 u3 u4 u5 : Value) : Below B V (set6g W b u0 u1 u2 u3 u4 u5) :=
  Below.setCell (Below.setCell (Below.setCell (Below.setCell (Below.setCell (Below.setCell h hb _) hb _) hb _) hb _) hb _) hb _
theorem D6.setg {W : World} {b : Nat} {nm cr nm' cr' : ByteArray} {fr up fr' up' : Int} {cu cu' : Bool} {tv tv' : Value} (h : D6 W b nm cr fr up cu tv) : D6 (set6g W b (.string nm') (.string cr') (.int .i64 fr') (.int .i64 up') (.bool cu') tv') b nm' cr' fr' up' cu' tv' := (((((h.s0 nm').s1 cr').s2 fr').s3 up').s4 cu').s5 tv'
theorem Reads.same {α : Type} [Rec α] {W W' : World} {v : Value} {l : List α} (h : Reads W v l) (hs : W.heap.size ≤ W'.heap.size) (hb : ∀ a m c, v = .slice (some a) m c → W'.heap[a.block]? = W.heap[a.block]?) : Reads W' v l := by
  obtain ⟨ao, cap, rfl, hr⟩ := h
  refine ⟨ao, cap, rfl, fun hne => ?_⟩
  obtain ⟨b, o, rfl, hlt, hc⟩ := hr hne
  refine ⟨b, o, rfl, Nat.lt_of_lt_of_le hlt hs, fun i x hx j u hu => ?_⟩
  have hbb : W'.heap[b]? = W.heap[b]? := hb ⟨b, o, none⟩ _ _ rfl
  rw [World.cell?_of_block (a := ⟨b, o + i * Rec.width α + j, none⟩) hbb]
  exact hc i x hx j u hu
/-- The answer lies in the result's block. -/
theorem DgE.fin {g D : Nat} {w0 W : World} {nm cr : ByteArray} {fr up : Int} {cu : Bool} {tv : Value} {ks : List Tk} {ts : List Ta} (h : DgE g D w0 nm cr fr up cu tv ks ts W) :
    D6 (set6g W w0.heap.size (.string nm) (.string cr) (.int .i64 fr) (.int .i64 up) (.bool cu) tv) w0.heap.size nm cr fr up cu tv ∧ Reads (set6g W w0.heap.size (.string nm) (.string cr) (.int .i64 fr) (.int .i64 up) (.bool cu) tv) tv ks ∧ AfL (set6g W w0.heap.size (.string nm) (.string cr) (.int .i64 fr) (.int .i64 up) (.bool cu) tv) w0.heap.size ks ts ∧ Drw (set6g W w0.heap.size (.string nm) (.string cr) (.int .i64 fr) (.int .i64 up) (.bool cu) tv) g ∧ Save g w0 (set6g W w0.heap.size (.string nm) (.string cr) (.int .i64 fr) (.int .i64 up) (.bool cu) tv) := by
  have hb := below_set6g (Below.refl w0.heap.size W) (Nat.le_refl _) (.string nm) (.string cr) (.int .i64 fr) (.int .i64 up) (.bool cu) tv
  have hgl := h.gl
  refine ⟨h.res.setg, h.rd.same ?_ fun a m c e => set6g_other _ _ _ _ _ _ _ _ (h.at' a m c e).2, h.aft.same fun k hk al h1 r hr => set6g_other _ _ _ _ _ _ _ _ ((h1.ty hr).ne (t := 9) ⟨_, h.res⟩ (by decide)), h.drw.keep (hb.mono (by omega)), h.sv.below_on hb (Nat.le_refl _)⟩
  simp
open Rec in
/-- At the operation. -/
theorem wpList_append_cut {α : Type} [Rec α] {P : Program} {w : World} {ops : Array Oper} {rest : List Oper} {o : Oper} {a : Act} {Q : Exit → Act → World → Prop} (hgd : o.guard = none) (s x : Operand) (t : TypeId)
    (ho : o.op = .call { callee := .builtin .append, args := #[s, x], argTypes := #[t, t] }) {B : Nat} {e : TypeId} {z : Value} {bytes : Nat} (ht : P.underlying t = some (.slice e)) (hi : (P.info? e).map (fun i => (i.zero, i.size, i.bytes)) = some (some z, width α, bytes)) (hz : z.cells.size = width α)
    {r n cap : Nat} {k0 : α} {l : List α} (hown : ownsR w B e (.slice (some ⟨r, 0, none⟩) (n + 1) cap) (k0 :: l)) (b c : Nat) (y : α) (hs : a.eval s = .slice (some ⟨r, width α, none⟩) n (cap - 1)) (hx : a.eval x = .slice (some ⟨b, 0, none⟩) 1 c) (hc : ∀ j u, (cells y)[j]? = some u → w.cell? ⟨b, j, none⟩ = some u ∧ u.oneCell' = true)
    (hlen : l.length ≤ 1048576) (hby : bytes ≤ 134217000)
    (h : ∀ v' w', Reads w' v' (l ++ [y]) → w.grownBy w' (some r) → (∀ a m d, v' = .slice (some a) m d → a.block = r ∨ w.heap.size ≤ a.block) → wpList P ops Q rest (a.put o.dst v') w') : wpList P ops Q (o :: rest) a w := by
  refine wpList_plain hgd fun K hK => ?_
  obtain ⟨v', w', hrun, h1, h2, h3⟩ := run_append_cut (P := P) w (ty := o.type) ht hi hz hown b c y hc hlen hby
  unfold Oper.wp
  simp [execOp, ho, resolve, invoke, builtin, hs, hx, hrun, Result.andThen]
  exact hK _ _ (h v' w' h1 h2 h3)
/-- The tasks are turned round. -/
theorem DgS.turned {g D Nn : Nat} {w0 W W' : World} {nm cr : ByteArray} {fr up : Int} {cu : Bool} {r n cap : Nat} {ks l' : List Tk} {ts ts' : List Ta} {v' : Value} (h : DgS g D Nn w0 nm cr fr up cu (.slice (some ⟨r, 0, none⟩) n cap) ks ts W) (hg : W.grownBy W' (some r)) (hr : Reads W' v' l') (hl : ∀ W B, AfL W B ks ts → AfL W B l' ts')
    (hat : ∀ a m d, v' = .slice (some a) m d → a.block = r ∨ W.heap.size ≤ a.block) : DgE g D w0 nm cr fr up cu v' l' ts' (W'.setCell ⟨D, 5, none⟩ v') := by
  have hgl := h.gl
  have hdl := h.dl
  have hrB : w0.heap.size ≤ r ∧ r < W.heap.size := h.own.lt r rfl
  have hrT : TyB W r 144 := h.own.ty rfl
  have hrD : r ≠ D := hrT.ne h.tyD (by decide)
  have hrR : r ≠ w0.heap.size := hrT.ne h.tyR (by decide)
  have hDs := h.dlt
  have hsv := h.sv.size
  have hb : ∀ b, b < W.heap.size → b ≠ r → b ≠ D → (W'.setCell ⟨D, 5, none⟩ v').heap[b]? = W.heap[b]? := fun b hb h1 h2 => (heap_setCell_other W' ⟨D, 5, none⟩ b _ h2).trans (hg.block b hb (fun e => h1 (Option.some.inj e)))
  have bw : Below w0.heap.size W (W'.setCell ⟨D, 5, none⟩ v') := ⟨hg.os, hg.tape, hg.output, by have := hg.size; simp; omega, fun k hk => hb k (by omega) (by omega) (by omega)⟩
  have hDd : D6 W' D nm cr fr up cu (.slice (some ⟨r, 0, none⟩) n cap) := (hg.block D hDs (fun e => hrD (Option.some.inj e).symm)).trans h.d
  refine ⟨h.drw.keep (bw.mono (by omega)), h.sv.below_on bw (Nat.le_refl _), hgl, hdl, (hb _ (by omega) (fun e => hrR e.symm) (by omega)).trans h.res, hDd.s5 v', hr.same (by simp) fun a m d e => heap_setCell_other W' ⟨D, 5, none⟩ a.block _ ?_, fun a m d e => ?_, hl _ _ (h.aft.same fun k hk al h1 b hb' => hb b (h1.lt b hb').2 ((h1.ty hb').ne hrT (by decide)) ((h1.ty hb').ne h.tyD (by decide)))⟩
  · rcases hat a m d e with h1 | h1
    · rw [h1]; exact hrD
    · show a.block ≠ D; omega
  · rcases hat a m d e with h1 | h1
    · rw [h1]; exact ⟨hrB.1, hrR⟩
    · exact ⟨by omega, by omega⟩
/-- The first one behind the others. -/
theorem AfL.turn {W : World} {B : Nat} {k0 : Tk} {l : List Tk} {t0 : Ta} {m : List Ta} (h : AfL W B (k0 :: l) (t0 :: m)) : AfL W B (l ++ [k0]) (m ++ [t0]) := by
  have hl : AfL W B l m := ⟨by simpa using h.len, fun i k t hk ht => h.each (i + 1) k t (by rw [List.getElem?_cons_succ]; exact hk) (by rw [List.getElem?_cons_succ]; exact ht)⟩
  exact hl.snoc (h.each 0 k0 t0 rfl rfl)
end Go.Proofs.Ytehkebdncfljmaa

namespace Go.Proofs.Ytehkebdncfljmaa
open Go Go.RowKit
set_option linter.unusedVariables false

/-- A session. -/
structure Se where
  tok : Int
  last : Int
  reply : ByteArray
instance : Rec Se := ⟨3, fun s => [.int .i64 s.tok, .int .i64 s.last, .string s.reply], fun _ => rfl, by decide⟩
/-- A plan on a board. -/
structure Pl where
  name : ByteArray
  cron : ByteArray
  fr : Int
  up : Int
  cu : Bool
  tasks : Value
  paused : Bool
  cursor : Int
  floor : Int
instance : Rec Pl := ⟨9, fun s => [.string s.name, .string s.cron, .int .i64 s.fr, .int .i64 s.up, .bool s.cu, s.tasks, .bool s.paused, .int .i64 s.cursor, .int .i64 s.floor], fun _ => rfl, by decide⟩
theorem underSe : Try.prog.underlying 99 = some (.slice 106) := by kernel_rfl
theorem infoSe : (Try.prog.info? 106).map (fun i => (i.zero, i.size, i.bytes)) = some (some (.agg #[.int .i64 0, .int .i64 0, .string ⟨#[]⟩]), 3, 32) := by kernel_rfl
theorem underPl : Try.prog.underlying 100 = some (.slice 120) := by kernel_rfl
theorem infoPl : (Try.prog.info? 120).map (fun i => (i.zero, i.size, i.bytes)) = some (some (.agg #[.string ⟨#[]⟩, .string ⟨#[]⟩, .int .i64 0, .int .i64 0, .bool false, .slice none 0 0, .bool false, .int .i64 0, .int .i64 0]), 9, 104) := by kernel_rfl
theorem se_one (l : List Se) : ∀ x ∈ l, ∀ u ∈ Rec.cells x, u.oneCell' = true := by
  intro x _ u hu
  simp only [Rec.cells, List.mem_cons, List.not_mem_nil, or_false] at hu
  rcases hu with rfl | rfl | rfl <;> rfl
theorem B5.on {t : TypeId} {W W' : World} {b B : Nat} {x0 x1 x2 x3 x4 : Value} (h : B5 t W b x0 x1 x2 x3 x4) (hb : Below B W W') (hB : b < B) : B5 t W' b x0 x1 x2 x3 x4 := (hb.block _ hB).trans h
theorem B5.save {t : TypeId} {W W' : World} {b g : Nat} {x0 x1 x2 x3 x4 : Value} (h : B5 t W b x0 x1 x2 x3 x4) (hs : Save g W W') (hg : b ≠ g) : B5 t W' b x0 x1 x2 x3 x4 := (hs.block b h.lt hg).trans h
theorem B5.ty {t : TypeId} {W : World} {b : Nat} {x0 x1 x2 x3 x4 : Value} (h : B5 t W b x0 x1 x2 x3 x4) : TyB W b t := ⟨_, h⟩
theorem ret_b1 {W : World} {b : Nat} {x0 x1 x2 x3 x4 : Value} {fn : Func} {p : Tmp} {tmps : Array Value} (h : fn.results = #[.cell p 103]) (hp : tmps.getD p undef = .pointer (some ⟨b, 0, none⟩)) (hb : B5 103 W b x0 x1 x2 x3 x4) :
    (results fn tmps).run Try.prog W = .ok (.agg #[x0, x1, x2, x3, x4]) W := by
  have hp' : tmps[p]?.getD undef = .pointer (some ⟨b, 0, none⟩) := by simpa using hp
  simp [results, h, hp', hb.c0, hb.c1, hb.c2, hb.c3, hb.c4, asAddr, go_sem]
theorem ret_b2 {W : World} {b : Nat} {x0 x1 x2 x3 x4 : Value} {fn : Func} {p u : Tmp} {x : Value} {tmps : Array Value} (h : fn.results = #[.cell p 103, .tmp u]) (hp : tmps.getD p undef = .pointer (some ⟨b, 0, none⟩)) (hu : tmps.getD u undef = x) (hb : B5 103 W b x0 x1 x2 x3 x4) :
    (results fn tmps).run Try.prog W = .ok (.tuple #[.agg #[x0, x1, x2, x3, x4], x]) W := by
  have hp' : tmps[p]?.getD undef = .pointer (some ⟨b, 0, none⟩) := by simpa using hp
  have hu' : tmps[u]?.getD undef = x := by simpa using hu
  simp [results, h, hp', hu', hb.c0, hb.c1, hb.c2, hb.c3, hb.c4, asAddr, go_sem]
theorem ownsR.setTy {α : Type} [Rec α] {W : World} {B : Nat} {e t : TypeId} {v : Value} {l : List α} {p : Addr} (h : ownsR W B e v l) (ht : TyB W p.block t) (hne : t ≠ e) (u : Value) : ownsR (W.setCell p u) B e v l :=
  h.same' fun r hr => heap_setCell_other W p r u (fun e => (ht.ne (h.ty hr) hne) e.symm)

theorem set5_other (W : World) (b : Nat) (u0 u1 u2 u3 u4 : Value) {k : Nat} (h : k ≠ b) : (set5 W b u0 u1 u2 u3 u4).heap[k]? = W.heap[k]? := by
  unfold set5
  rw [heap_setCell_other _ ⟨b, 4, none⟩ k _ h, heap_setCell_other _ ⟨b, 3, none⟩ k _ h, heap_setCell_other _ ⟨b, 2, none⟩ k _ h, heap_setCell_other _ ⟨b, 1, none⟩ k _ h, heap_setCell_other _ ⟨b, 0, none⟩ k _ h]
theorem ownsR_set5b {α : Type} [Rec α] {W : World} {B b : Nat} {e t : TypeId} {v x0 x1 x2 x3 x4 : Value} {l : List α} (h : ownsR W B e v l) (hb : B5 t W b x0 x1 x2 x3 x4) (hne : t ≠ e) (u0 u1 u2 u3 u4 : Value) : ownsR (set5 W b u0 u1 u2 u3 u4) B e v l :=
  h.same' fun r hr => set5_other W b u0 u1 u2 u3 u4 (hb.ty.ne (h.ty hr) hne).symm
abbrev bdV (sv pv rv : Value) (ck tk : Int) : Value := .agg #[sv, pv, rv, .int .i64 ck, .int .i64 tk]
abbrev z5 : Array Value := #[.slice none 0 0, .slice none 0 0, .slice none 0 0, .int .i64 0, .int .i64 0]

set_option maxRecDepth 10000 in
set_option maxHeartbeats 1000000 in
theorem boardNew_any (w : World) : Calls Try.prog 75 #[] w fun e w' => e = .returned (bdV (.slice none 0 0) (.slice none 0 0) (.slice none 0 0) 0 1) ∧ Below w.heap.size w w' := by
  go_enter Try.func75, Try.ntmps75
  go_wp2
  refine bodyPost_ret (ret_b1 (p := 0) (by kernel_rfl) (by kernel_rfl) (B5.new 103 w (.slice none 0 0) (.slice none 0 0) (.slice none 0 0) (.int .i64 0) (.int .i64 1))) rfl ?_
  exact ⟨rfl, ba (Below.refl _ _) _⟩
set_option maxRecDepth 10000 in
set_option maxHeartbeats 1000000 in
theorem planAt_none (sv rv : Value) (ao : Option Addr) (c : Nat) (ck tk : Int) (s : ByteArray) (w : World) : Calls Try.prog 83 #[bdV sv (.slice ao 0 c) rv ck tk, .string s] w fun e w' => e = .returned (.int .i64 (-1)) ∧ Below w.heap.size w w' := by
  go_enter Try.func83, Try.ntmps83
  go_wp2
  go_loopw [5] (fun iv wr => iv = .int .i64 0 ∧ Hid (B5 103 wr w.heap.size sv (.slice ao 0 c) rv (.int .i64 ck) (.int .i64 tk)) ∧ Hid (Below w.heap.size w wr)) (fun _ _ => 0)
  case atStart => exact ⟨rfl, B5.new _ _ _ _ _ _ _, ba (Below.refl _ _) _⟩
  case round =>
    obtain ⟨rfl, HK, HB⟩ := hrel
    have h1 := HK.out.c1
    go_wp2
    go_ret
    exact ⟨rfl, HB.out⟩
set_option maxRecDepth 10000 in
set_option maxHeartbeats 4000000 in
theorem l15Copy_none (sv : Value) (ap ar : Option Addr) (cp cr : Nat) (ck tk : Int) (l : List Se) (w : World) (hr : Reads w sv l) (hl : l.length ≤ 1000) :
    Calls Try.prog 80 #[bdV sv (.slice ap 0 cp) (.slice ar 0 cr) ck tk] w fun e w' => ∃ (sv' : Value) (xp xr : Addr), e = .returned (bdV sv' (.slice (some xp) 0 0) (.slice (some xr) 0 0) ck tk) ∧ ownsR w' w.heap.size 106 sv' l ∧ Below w.heap.size w w' := by
  obtain ⟨ao, c, rfl, _⟩ := id hr
  have HR : Hid (Reads w (.slice ao l.length c) l) := hr
  have HL : Hid (([] : List Se).length + l.length ≤ 1048577) := by show _ ≤ _; simp; omega
  clear hr
  obtain ⟨n, hn⟩ : ∃ n, l.length = n := ⟨_, rfl⟩
  rw [hn] at HR hl
  rw [hn]
  clear hn
  obtain ⟨W0, HW0⟩ : ∃ W0, Hid (((w.alloc (.cells #[.slice ao n c, .slice ap 0 cp, .slice ar 0 cr, .int .i64 ck, .int .i64 tk] 103)).alloc (.cells z5 103)).alloc (.cells #[] 106) = W0) := ⟨_, rfl⟩
  have J0 : B5 103 W0 w.heap.size (.slice ao n c) (.slice ap 0 cp) (.slice ar 0 cr) (.int .i64 ck) (.int .i64 tk) := by rw [← HW0.out]; exact ((B5.new _ _ _ _ _ _ _).alloc _).alloc _
  have Z0 : B5 103 W0 (w.heap.size + 1) (.slice none 0 0) (.slice none 0 0) (.slice none 0 0) (.int .i64 0) (.int .i64 0) := by
    rw [← HW0.out]
    have := (B5.new 103 (w.alloc (.cells #[.slice ao n c, .slice ap 0 cp, .slice ar 0 cr, .int .i64 ck, .int .i64 tk] 103)) (.slice none 0 0) (.slice none 0 0) (.slice none 0 0) (.int .i64 0) (.int .i64 0)).alloc (.cells #[] 106)
    simpa using this
  have B0 : Below w.heap.size w W0 := by rw [← HW0.out]; exact ba (ba (ba (Below.refl _ _) _) _) _
  have O0 : ownsR W0 w.heap.size 106 (.slice (some ⟨w.heap.size + 1 + 1, 0, none⟩) 0 0) ([] : List Se) := by
    rw [← HW0.out]
    have := ownsR_made0 (α := Se) ((w.alloc (.cells #[.slice ao n c, .slice ap 0 cp, .slice ar 0 cr, .int .i64 ck, .int .i64 tk] 103)).alloc (.cells z5 103)) w.heap.size 106 (by simp; omega)
    simpa using this
  have R0 := HR.out.below B0
  have j0 := J0.c0
  go_enter Try.func80, Try.ntmps80
  go_wp2_with (at_builtin; rw [HW0.out]; refine wpList_append_recs rfl (.tmp 8) (.tmp 10) 99 rfl w.heap.size 106 _ 32 underSe infoSe rfl _ (.slice ao n c) [] l (by rfl) (by rfl) O0 R0 (se_one _) HL.out (by decide) B0.size ?_)
  intro v5 w5 ho5 hg5
  obtain ⟨a5, c5, rfl⟩ := ho5.slice
  have J5 := J0.grown hg5 (by simp [Value.ownBlock]; omega)
  have Z5 := Z0.grown hg5 (by simp [Value.ownBlock])
  have B5' := B0.grown hg5 B0.size (by simp [Value.ownBlock]; omega)
  obtain ⟨m, hm⟩ : ∃ m, l.length = m := ⟨_, rfl⟩
  rw [hm] at ho5
  rw [hm]
  clear J0 Z0 B0 O0 R0 hg5 j0 HW0 HR hm
  have HJ : Hid (B5 103 (w5.setCell ⟨w.heap.size, 0, none⟩ (.slice a5 m c5)) w.heap.size (.slice a5 m c5) (.slice ap 0 cp) (.slice ar 0 cr) (.int .i64 ck) (.int .i64 tk)) := J5.s0 _
  have HZ : Hid (B5 103 (w5.setCell ⟨w.heap.size, 0, none⟩ (.slice a5 m c5)) (w.heap.size + 1) (.slice none 0 0) (.slice none 0 0) (.slice none 0 0) (.int .i64 0) (.int .i64 0)) := Z5.far (by simp) _
  have HO : Hid (ownsR (w5.setCell ⟨w.heap.size, 0, none⟩ (.slice a5 m c5)) w.heap.size 106 (.slice a5 m c5) l) := ho5.setTy J5.ty (by decide) _
  have HB : Hid (Below w.heap.size w (w5.setCell ⟨w.heap.size, 0, none⟩ (.slice a5 m c5))) := Below.setCell B5' (Nat.le_refl _) _
  have j0 := J5.c0
  have jf := J5.fr 0
  clear J5 Z5 ho5 B5'
  go_wp2
  go_loopw [3, 4] (fun pv iv wr => ∃ xp : Addr, pv = .slice (some xp) 0 0 ∧ iv = .int .i64 0 ∧ Hid (B5 103 wr w.heap.size (.slice a5 m c5) (.slice ap 0 cp) (.slice ar 0 cr) (.int .i64 ck) (.int .i64 tk)) ∧ Hid (B5 103 wr (w.heap.size + 1) (.slice none 0 0) (.slice none 0 0) (.slice none 0 0) (.int .i64 0) (.int .i64 0)) ∧ Hid (ownsR wr w.heap.size 106 (.slice a5 m c5) l) ∧ Hid (Below w.heap.size w wr)) (fun _ _ _ => 0)
  case atStart => exact ⟨_, rfl, rfl, HJ.out.alloc _, HZ.out.alloc _, HO.out.alloc _, ba HB.out _⟩
  case round =>
    obtain ⟨xp, rfl, rfl, HJ, HZ, HO, HB⟩ := hrel
    have j1 := HJ.out.c1
    have jf := HJ.out.fr 1
    have HJ2 : Hid (B5 103 (wr.setCell ⟨w.heap.size, 1, none⟩ (.slice (some xp) 0 0)) w.heap.size (.slice a5 m c5) (.slice (some xp) 0 0) (.slice ar 0 cr) (.int .i64 ck) (.int .i64 tk)) := HJ.out.s1 _
    have HZ2 : Hid (B5 103 (wr.setCell ⟨w.heap.size, 1, none⟩ (.slice (some xp) 0 0)) (w.heap.size + 1) (.slice none 0 0) (.slice none 0 0) (.slice none 0 0) (.int .i64 0) (.int .i64 0)) := HZ.out.far (by simp) _
    have HO2 : Hid (ownsR (wr.setCell ⟨w.heap.size, 1, none⟩ (.slice (some xp) 0 0)) w.heap.size 106 (.slice a5 m c5) l) := HO.out.setTy HJ.out.ty (by decide) _
    have HB2 : Hid (Below w.heap.size w (wr.setCell ⟨w.heap.size, 1, none⟩ (.slice (some xp) 0 0))) := Below.setCell HB.out (Nat.le_refl _) _
    clear HJ HZ HO HB
    go_wp2
    go_loopw [6, 7] (fun rv iv wx => ∃ xr : Addr, rv = .slice (some xr) 0 0 ∧ iv = .int .i64 0 ∧ Hid (B5 103 wx w.heap.size (.slice a5 m c5) (.slice (some xp) 0 0) (.slice ar 0 cr) (.int .i64 ck) (.int .i64 tk)) ∧ Hid (B5 103 wx (w.heap.size + 1) (.slice none 0 0) (.slice none 0 0) (.slice none 0 0) (.int .i64 0) (.int .i64 0)) ∧ Hid (ownsR wx w.heap.size 106 (.slice a5 m c5) l) ∧ Hid (Below w.heap.size w wx)) (fun _ _ _ => 0)
    case atStart => exact ⟨_, rfl, rfl, HJ2.out.alloc _, HZ2.out.alloc _, HO2.out.alloc _, ba HB2.out _⟩
    case round =>
      clear HJ2 HZ2 HO2 HB2 j1 jf
      obtain ⟨xr, rfl, rfl, HJ, HZ, HO, HB⟩ := hrel
      have j0 := HJ.out.c0
      have j1 := HJ.out.c1
      have j2 := HJ.out.c2
      have j3 := HJ.out.c3
      have j4 := HJ.out.c4
      have jf := HJ.out.fr 2
      have z0 := HZ.out.c0
      have z1 := HZ.out.c1
      have z2 := HZ.out.c2
      have z3 := HZ.out.c3
      have z4 := HZ.out.c4
      have f0 := HZ.out.fr 0
      have f1 := HZ.out.fr 1
      have f2 := HZ.out.fr 2
      have f3 := HZ.out.fr 3
      have f4 := HZ.out.fr 4
      have HZ3 : Hid (B5 103 (wr.setCell ⟨w.heap.size, 2, none⟩ (.slice (some xr) 0 0)) (w.heap.size + 1) (.slice none 0 0) (.slice none 0 0) (.slice none 0 0) (.int .i64 0) (.int .i64 0)) := HZ.out.far (by simp) _
      have HO3 : Hid (ownsR (wr.setCell ⟨w.heap.size, 2, none⟩ (.slice (some xr) 0 0)) w.heap.size 106 (.slice a5 m c5) l) := HO.out.setTy HJ.out.ty (by decide) _
      have HB3 : Hid (Below w.heap.size w (wr.setCell ⟨w.heap.size, 2, none⟩ (.slice (some xr) 0 0))) := Below.setCell HB.out (Nat.le_refl _) _
      clear HJ HZ HO HB
      go_wp2
      refine bodyPost_ret (ret_b1 (p := 2) (by kernel_rfl) (by kernel_rfl) (HZ3.out.set (.slice a5 m c5) (.slice (some xp) 0 0) (.slice (some xr) 0 0) (.int .i64 ck) (.int .i64 tk))) rfl ?_
      exact ⟨_, xp, xr, rfl, ownsR_set5b HO3.out HZ3.out (by decide) _ _ _ _ _, below_set5 HB3.out (Nat.le_succ _) _ _ _ _ _⟩
end Go.Proofs.Ytehkebdncfljmaa

namespace Go.Proofs.Ytehkebdncfljmaa
open Go Go.RowKit

theorem wpTakes_l {P : Program} {l : List Oper} {C : World → Prop} {K : Act → Prop} {k : Nat} {ts : List Nat} {a : Act} {o : Oper} (ho : l[k]? = some o) (hn : ∀ x, o.op = .nilCheck x → ∃ p, a.eval x = .pointer (some p)) (h : wpQuiet P l.toArray C (wpTakes P l.toArray C K ts) [o] a) : wpTakes P l.toArray C K (k :: ts) a := by
  refine ⟨fun o' ho' => ?_, ?_⟩
  · have : o' = o := Option.some.inj (ho'.symm.trans (by simpa using ho))
    subst this
    exact hn
  · have ho2 : l.toArray[k]? = some o := by simpa using ho
    unfold qOp
    simp only [ho2]
    exact h
theorem takes_nil {P : Program} {ops : Array Oper} {C : World → Prop} {K : Act → Prop} {a : Act} (h : K a) : wpTakes P ops C K [] a := h
theorem any_one {P : Program} {l : List Oper} {Q : Exit → Act → World → Prop} {C : World → Prop} {R : Act → World → Prop} {L listed : Array Bool} {fuel i : Nat} {o : Oper} {a : Act} {w : World} (hr : Region.ready .any l.toArray listed = [i]) (ho : l[i]? = some o) (hg : o.guard = none)
    (h : ∀ K : Act → World → Prop, Hid (∀ a' w', C w' → wpAnyU P .any l.toArray Q C L R fuel (listed.setIfInBounds i true) a' w' → K a' w') → wpList P l.toArray (Exit.then K Q) [o] a w) : wpAnyU P .any l.toArray Q C L R (fuel + 1) listed a w := wpAnyU_one hr (by simpa using ho) hg h
theorem any_done {P : Program} {ops : Array Oper} {md : Region.Mode} {Q : Exit → Act → World → Prop} {C : World → Prop} {R : Act → World → Prop} {L listed : Array Bool} {a : Act} {w : World} (hl : listed = L) (h : R a w) : wpAnyU P md ops Q C L R 0 listed a w := ⟨hl, h⟩
end Go.Proofs.Ytehkebdncfljmaa
