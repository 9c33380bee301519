/-
  Operations of a drawn region taken in a told order: small laws. Steps of a region that draws its order: one of two, and several that only yield. Steps of a region that draws its order: one of two, and several that only yield. A region of any order: what one more operation that only yields comes to; a stronger law on the worlds. Over any program. Contracts of the library, proved once there, laid at this program by the kit (its plain words).
-/
import Derived.Test.YtgjamikmjknlfaaDoorRp
import Derived.Shelf.LaysM
import Derived.Shelf.Bytes.GrowSliceCatch
import Derived.Shelf.Bytes.GrowSlice
import Derived.Shelf.Strconv.Clone
import Derived.Shelf.Bytes.LenAt
import Derived.Shelf.Bytes.StringAt
import Derived.Shelf.Bytes.TryGrowAt
import Derived.Shelf.Bytes.GrowRow0At
import Derived.Shelf.Bytes.GrowRowAt
import Derived.Shelf.Bytes.GrowNilAt
import Derived.Shelf.Bytes.GrowAt
import Derived.Shelf.Bytes.WriteByteAt
import Derived.Shelf.Bytes.WriteStringAt
import Derived.Test.YtgjamikmjknlfaaDoorProg
namespace Go.Proofs.YtgjamikmjknlfaaDoor
open Go Go.RowKit

theorem wpTakes_l {P : Program} {l : List Oper} {C : World → Prop} {K : Act → Prop} {k : Nat} {ts : List Nat} {a : Act} {o : Oper} (ho : l[k]? = some o) (hn : ∀ x, o.op = .nilCheck x → ∃ p, a.eval x = .pointer (some p)) (h : wpQuiet P l.toArray C (wpTakes P l.toArray C K ts) [o] a) : wpTakes P l.toArray C K (k :: ts) a := by
  refine ⟨fun o' ho' => ?_, ?_⟩
  · have : o' = o := Option.some.inj (ho'.symm.trans (by simpa using ho))
    subst this
    exact hn
  · have ho2 : l.toArray[k]? = some o := by simpa using ho
    unfold qOp
    simp only [ho2]
    exact h
theorem takes_nil {P : Program} {ops : Array Oper} {C : World → Prop} {K : Act → Prop} {a : Act} (h : K a) : wpTakes P ops C K [] a := h
theorem any_one {P : Program} {l : List Oper} {Q : Exit → Act → World → Prop} {C : World → Prop} {R : Act → World → Prop} {L listed : Array Bool} {fuel i : Nat} {o : Oper} {a : Act} {w : World} (hr : Region.ready .any l.toArray listed = [i]) (ho : l[i]? = some o) (hg : o.guard = none)
    (h : ∀ K : Act → World → Prop, Hid (∀ a' w', C w' → wpAnyU P .any l.toArray Q C L R fuel (listed.setIfInBounds i true) a' w' → K a' w') → wpList P l.toArray (Exit.then K Q) [o] a w) : wpAnyU P .any l.toArray Q C L R (fuel + 1) listed a w := wpAnyU_one hr (by simpa using ho) hg h
theorem any_done {P : Program} {ops : Array Oper} {md : Region.Mode} {Q : Exit → Act → World → Prop} {C : World → Prop} {R : Act → World → Prop} {L listed : Array Bool} {a : Act} {w : World} (hl : listed = L) (h : R a w) : wpAnyU P md ops Q C L R 0 listed a w := ⟨hl, h⟩
end Go.Proofs.YtgjamikmjknlfaaDoor

namespace Go.Proofs.YtgjamikmjknlfaaDoor
open Go Go.RowKit

theorem pk_two {P : Program} {l : List Oper} {Q : Exit → Act → World → Prop} {C : World → Prop} {R : Act → World → Prop} {L listed : Array Bool} {fuel i j : Nat} {o p : Oper} {a : Act} {w : World} (hr : Region.ready .any l.toArray listed = [i, j]) (ho : l[i]? = some o) (hp : l[j]? = some p) (hg : o.guard = none) (hgp : p.guard = none)
    (h : ∀ K : Act → World → Prop, Hid (∀ a' w', C w' → wpAnyU P .any l.toArray Q C L R fuel (listed.setIfInBounds i true) a' w' → K a' w') → wpList P l.toArray (Exit.then K Q) [o] a w)
    (h' : ∀ K : Act → World → Prop, Hid (∀ a' w', C w' → wpAnyU P .any l.toArray Q C L R fuel (listed.setIfInBounds j true) a' w' → K a' w') → wpList P l.toArray (Exit.then K Q) [p] a w) : wpAnyU P .any l.toArray Q C L R (fuel + 1) listed a w := wpAnyU_two hr (by simpa using ho) (by simpa using hp) hg hgp h h'
def moreB9 (ops : Array Oper) (L listed : Array Bool) (ts : List Nat) (m : Nat) : Bool :=
  Region.noSelect ops && (Region.ready .any ops L).all (· == m) && waitsAll .any ops m && takesB .any ops ts listed && ts.all (fun k => decide (k < m))
theorem pk_takes {P : Program} {l : List Oper} {Q : Exit → Act → World → Prop} {C : World → Prop} {R : Act → World → Prop} {L listed : Array Bool} {a : Act} {w : World} (ts : List Nat) (m fuel : Nat) (hw : C w) (hB : moreB9 l.toArray L listed ts m = true) (hQ : ∀ c a d v w, Q (.panic c) (Act.put a d v) w → Q (.panic c) a w)
    (h : wpTakes P l.toArray C (fun a' => wpAnyU P .any l.toArray Q C L R fuel (takesL ts listed) a' w) ts a) : wpAnyU P .any l.toArray Q C L R (fuel + ts.length) listed a w := by
  simp only [moreB9, Bool.and_eq_true] at hB
  obtain ⟨⟨⟨⟨h1, h2⟩, h3⟩, h4⟩, h6⟩ := hB
  exact wpAnyU_takes (P := P) (Q := Q) (C := C) (md := .any) hw h1 hQ (fun j hj => by
    rw [List.all_eq_true] at h2
    simpa using h2 j hj) h3 fuel ts listed a (fun k hk => by
      rw [List.all_eq_true] at h6
      simpa using h6 k hk) h4 h
end Go.Proofs.YtgjamikmjknlfaaDoor

namespace Go.Proofs.YtgjamikmjknlfaaDoor
open Go Go.RowKit

/-- What comes up next, one, whose guard is on. -/
theorem pk_oneW {P : Program} {l : List Oper} {Q : Exit → Act → World → Prop} {C : World → Prop} {R : Act → World → Prop} {L listed : Array Bool} {fuel i : Nat} {o : Oper} {a : Act} {w : World} (hr : Region.ready .any l.toArray listed = [i]) (ho : l[i]? = some o) (hw : Region.wanted o (yielded l.toArray a.tmps) = true)
    (h : ∀ K : Act → World → Prop, Hid (∀ a' w', C w' → wpAnyU P .any l.toArray Q C L R fuel (listed.setIfInBounds i true) a' w' → K a' w') → wpList P l.toArray (Exit.then K Q) [o] a w) : wpAnyU P .any l.toArray Q C L R (fuel + 1) listed a w := by
  refine ⟨by rw [hr]; simp, fun j hj => ?_⟩
  rw [hr] at hj
  simp only [List.mem_singleton] at hj
  subst hj
  have h1 := h (fun a' w' => C w' ∧ wpAnyU P .any l.toArray Q C L R fuel (listed.setIfInBounds j true) a' w') (fun a' w' h1 h2 => ⟨h1, h2⟩)
  have ho' : l.toArray[j]? = some o := by simpa using ho
  unfold wpOp
  simp only [ho']
  unfold wpList at h1
  rw [if_pos hw] at h1 ⊢
  exact h1
/-- One of two, whose guards are on. -/
theorem pk_twoW {P : Program} {l : List Oper} {Q : Exit → Act → World → Prop} {C : World → Prop} {R : Act → World → Prop} {L listed : Array Bool} {fuel i j : Nat} {o p : Oper} {a : Act} {w : World} (hr : Region.ready .any l.toArray listed = [i, j]) (ho : l[i]? = some o) (hp : l[j]? = some p) (hw : Region.wanted o (yielded l.toArray a.tmps) = true) (hv : Region.wanted p (yielded l.toArray a.tmps) = true)
    (h : ∀ K : Act → World → Prop, Hid (∀ a' w', C w' → wpAnyU P .any l.toArray Q C L R fuel (listed.setIfInBounds i true) a' w' → K a' w') → wpList P l.toArray (Exit.then K Q) [o] a w)
    (h' : ∀ K : Act → World → Prop, Hid (∀ a' w', C w' → wpAnyU P .any l.toArray Q C L R fuel (listed.setIfInBounds j true) a' w' → K a' w') → wpList P l.toArray (Exit.then K Q) [p] a w) : wpAnyU P .any l.toArray Q C L R (fuel + 1) listed a w := by
  have ho' : l.toArray[i]? = some o := by simpa using ho
  have hp' : l.toArray[j]? = some p := by simpa using hp
  refine ⟨by rw [hr]; simp, fun k hk => ?_⟩
  rw [hr] at hk
  simp only [List.mem_cons, List.not_mem_nil, or_false] at hk
  rcases hk with hk | hk
  · subst hk
    have h1 := h (fun a' w' => C w' ∧ wpAnyU P .any l.toArray Q C L R fuel (listed.setIfInBounds k true) a' w') (fun a' w' h1 h2 => ⟨h1, h2⟩)
    unfold wpOp
    simp only [ho']
    unfold wpList at h1
    rw [if_pos hw] at h1 ⊢
    exact h1
  · subst hk
    have h1 := h' (fun a' w' => C w' ∧ wpAnyU P .any l.toArray Q C L R fuel (listed.setIfInBounds k true) a' w') (fun a' w' h1 h2 => ⟨h1, h2⟩)
    unfold wpOp
    simp only [hp']
    unfold wpList at h1
    rw [if_pos hv] at h1 ⊢
    exact h1
end Go.Proofs.YtgjamikmjknlfaaDoor

namespace Go.Proofs.YtgjamikmjknlfaaDoor
open Go Go.RowKit

section
variable {P : Program} {Q : Exit → Act → World → Prop} {R : Act → World → Prop}
def firstB (ops : Array Oper) (L listed : Array Bool) (i m : Nat) : Bool :=
  Region.noSelect ops && (Region.ready .any ops L).all (· == m) && waitsAll .any ops m && (Region.ready .any ops listed).contains i && Region.free .any ops listed i && decide (i < m)
theorem any_first {l : List Oper} {C : World → Prop} {L listed : Array Bool} {fuel : Nat} {o : Oper} {a : Act} {w : World} (i m : Nat) (v : Value) (ho : l[i]? = some o) (hB : firstB l.toArray L listed i m = true) (hQ : ∀ c a d v w, Q (.panic c) (Act.put a d v) w → Q (.panic c) a w) (hw : C w)
    (hwt : Region.wanted o (yielded l.toArray a.tmps) = true) (hy : ∀ w, C w → (execOp a.eval o).run P w = .ok (.value v) w)
    (h : wpAnyU P .any l.toArray Q C L R fuel (listed.setIfInBounds i true) (a.put o.dst v) w) : wpAnyU P .any l.toArray Q C L R (fuel + 1) listed a w := by
  simp only [firstB, Bool.and_eq_true] at hB
  obtain ⟨⟨⟨⟨⟨h1, h2⟩, h3⟩, h4⟩, h5⟩, h6⟩ := hB
  have ho' : l.toArray[i]? = some o := by simpa using ho
  refine wpAnyU_first (m := m) ho' (Region.noSelect_spec h1) (fun c a w => hQ c a _ _ w) (fun j hj => ?_) (fun om hom => ?_) fuel listed a w (Region.free_spec ho' h5) (by simpa using h4) (.inl ⟨hwt, hy⟩) hw h
  · rw [List.all_eq_true] at h2
    simpa using h2 j hj
  · unfold waitsAll at h3
    rw [List.all_eq_true] at h3
    have := h3 i (List.mem_range.2 (by simpa using h6))
    rw [hom] at this
    simp only [Array.any_eq_true', Bool.and_eq_true, beq_iff_eq] at this
    obtain ⟨e, he, hb, heq⟩ := this
    exact ⟨e, he, hb, heq⟩
theorem wpAnyU_strong {md : Region.Mode} {ops : Array Oper} {C C' : World → Prop} {L : Array Bool} (h : ∀ w, C' w → C w) : ∀ (fuel : Nat) (listed : Array Bool) (a : Act) (w : World), wpAnyU P md ops Q C' L R fuel listed a w → wpAnyU P md ops Q C L R fuel listed a w
  | 0, _, _, _, H => H
  | fuel + 1, _, _, _, H => ⟨H.1, fun i hi => wpOp_mono (fun a' w' h' => ⟨h _ h'.1, wpAnyU_strong h fuel _ a' w' h'.2⟩) (H.2 i hi)⟩
end
/-- A world in which nothing that lay in w has turned, and one more block is there. -/
structure Wx (w : World) (X : Nat) (o : Obj) where
  at' : World
  ok : Below w.heap.size w at'
  blk : at'.heap[X]? = some o
theorem Wx.cell {w : World} {X : Nat} {o : Obj} {a : Addr} {v : Value} (h : w.cell? a = some v) : ∀ x : Wx w X o, x.at'.cell? a = some v :=
  fun x => (x.ok.cell (World.block_lt_of_cell? w a h)).trans h
def Wx.up {w : World} {X : Nat} {o : Obj} (x : Wx w X o) {w' : World} (hb : Below x.at'.heap.size x.at' w') : Wx w X o := ⟨w', x.ok.trans (hb.mono x.ok.size), (hb.block _ (Array.getElem?_eq_some_iff.1 x.blk).1).trans x.blk⟩
end Go.Proofs.YtgjamikmjknlfaaDoor

namespace Go.Proofs
open Go.Shelf
def Tryd.laysM181_ren : Go.Shelf.Ren := ⟨fun | 181 => 86 | n => n, fun | 130 => 111 | 3 => 3 | 0 => 0 | 93 => 55 | 37 => 42 | 91 => 53 | 5 => 5 | n => n, fun | n => n⟩
theorem Tryd.laysM181 : Go.Proofs.LaysM.n181 Tryd.prog Tryd.laysM181_ren := {
  mixed := by kernel_rfl
  f181 := Tryd.func86.trans (congrArg some (by kernel_rfl))
  t0 := Tryd.underlying0
  a0 := Tryd.isAgg0
  z0 := Tryd.sizeOf0
  v0 := Tryd.zeroValue0
  t3 := Tryd.underlying3
  a3 := Tryd.isAgg3
  z3 := Tryd.sizeOf3
  v3 := Tryd.zeroValue3
  t37 := Tryd.underlying42
  a37 := Tryd.isAgg42
  z37 := Tryd.sizeOf42
  v37 := Tryd.zeroValue42
  t93 := Tryd.underlying55
  a93 := Tryd.isAgg55
  z93 := Tryd.sizeOf55
  v93 := Tryd.zeroValue55
  t130 := Tryd.underlying111
  a130 := Tryd.isAgg111
  z130 := Tryd.sizeOf111
  v130 := Tryd.zeroValue111
  t5 := Tryd.underlying5
  a5 := Tryd.isAgg5
  z5 := Tryd.sizeOf5
  v5 := Tryd.zeroValue5
  t91 := Tryd.underlying53
  a91 := Tryd.isAgg53
  z91 := Tryd.sizeOf53
  v91 := Tryd.zeroValue53
  i0 := by kernel_rfl
  i3 := by kernel_rfl
  i5 := by kernel_rfl
  i37 := by kernel_rfl
  i91 := by kernel_rfl
  i93 := by kernel_rfl
  i130 := by kernel_rfl }
open Go.RowKit in
theorem Tryd.Buffer_Len_at (T : TypeId) (R : Nat → Option Value) (B b q : Nat) (bs : List Value) (w : World) (h : LibA.IsBuffer T R 5 B b q bs w) :
    Calls Tryd.prog 86 #[.pointer (some ⟨b, q, none⟩)] w fun e w' => e = .returned (.int .i64 bs.length) ∧ ∃ n, w' = w.drewN n := Any.Buffer_Len_at Tryd.laysM181 T R B b q bs w h
def Tryd.laysM182_ren : Go.Shelf.Ren := ⟨fun | 182 => 31 | n => n, fun | 130 => 111 | 9 => 9 | 4 => 4 | 0 => 0 | 93 => 55 | 37 => 42 | 3 => 3 | 91 => 53 | 5 => 5 | n => n, fun | n => n⟩
theorem Tryd.laysM182 : Go.Proofs.LaysM.n182 Tryd.prog Tryd.laysM182_ren := {
  mixed := by kernel_rfl
  f182 := Tryd.func31.trans (congrArg some (by kernel_rfl))
  t0 := Tryd.underlying0
  a0 := Tryd.isAgg0
  z0 := Tryd.sizeOf0
  v0 := Tryd.zeroValue0
  t3 := Tryd.underlying3
  a3 := Tryd.isAgg3
  z3 := Tryd.sizeOf3
  v3 := Tryd.zeroValue3
  t4 := Tryd.underlying4
  a4 := Tryd.isAgg4
  z4 := Tryd.sizeOf4
  v4 := Tryd.zeroValue4
  t9 := Tryd.underlying9
  a9 := Tryd.isAgg9
  z9 := Tryd.sizeOf9
  v9 := Tryd.zeroValue9
  t37 := Tryd.underlying42
  a37 := Tryd.isAgg42
  z37 := Tryd.sizeOf42
  v37 := Tryd.zeroValue42
  t93 := Tryd.underlying55
  a93 := Tryd.isAgg55
  z93 := Tryd.sizeOf55
  v93 := Tryd.zeroValue55
  t130 := Tryd.underlying111
  a130 := Tryd.isAgg111
  z130 := Tryd.sizeOf111
  v130 := Tryd.zeroValue111
  t5 := Tryd.underlying5
  a5 := Tryd.isAgg5
  z5 := Tryd.sizeOf5
  v5 := Tryd.zeroValue5
  t91 := Tryd.underlying53
  a91 := Tryd.isAgg53
  z91 := Tryd.sizeOf53
  v91 := Tryd.zeroValue53
  i0 := by kernel_rfl
  i3 := by kernel_rfl
  i4 := by kernel_rfl
  i5 := by kernel_rfl
  i9 := by kernel_rfl
  i37 := by kernel_rfl
  i91 := by kernel_rfl
  i93 := by kernel_rfl
  i130 := by kernel_rfl }
open Go.RowKit in
theorem Tryd.Buffer_String_at (T : TypeId) (R : Nat → Option Value) (B b q : Nat) (l : List UInt8) (w : World) (h : LibA.IsBuffer T R 5 B b q (Lib.byteCells l) w) :
    Calls Tryd.prog 31 #[.pointer (some ⟨b, q, none⟩)] w fun e w' => e = .returned (.string ⟨l.toArray⟩) ∧ ∃ n, w' = w.drewN n := Any.Buffer_String_at Tryd.laysM182 T R B b q l w h
def Tryd.laysM179_ren : Go.Shelf.Ren := ⟨fun | 179 => 55 | 251 => 74 | 252 => 75 | 181 => 86 | 184 => 87 | 290 => 88 | 324 => 91 | n => n, fun | 130 => 111 | 5 => 5 | 75 => 104 | 0 => 0 | 93 => 55 | 91 => 53 | 3 => 3 | 131 => 122 | 4 => 4 | 37 => 42 | 20 => 20 | 80 => 63 | 9 => 9 | n => n, fun | 14 => 0 | n => n⟩
theorem Tryd.laysM179 : Go.Proofs.LaysM.n179 Tryd.prog Tryd.laysM179_ren := {
  mixed := by kernel_rfl
  f179 := Tryd.func55.trans (congrArg some (by kernel_rfl))
  f181 := Tryd.func86.trans (congrArg some (by kernel_rfl))
  f184 := Tryd.func87.trans (congrArg some (by kernel_rfl))
  f251 := Tryd.func74.trans (congrArg some (by kernel_rfl))
  f252 := Tryd.func75.trans (congrArg some (by kernel_rfl))
  f290 := Tryd.func88.trans (congrArg some (by kernel_rfl))
  f324 := Tryd.func91.trans (congrArg some (by kernel_rfl))
  t0 := Tryd.underlying0
  a0 := Tryd.isAgg0
  z0 := Tryd.sizeOf0
  v0 := Tryd.zeroValue0
  t3 := Tryd.underlying3
  a3 := Tryd.isAgg3
  z3 := Tryd.sizeOf3
  v3 := Tryd.zeroValue3
  t4 := Tryd.underlying4
  a4 := Tryd.isAgg4
  z4 := Tryd.sizeOf4
  v4 := Tryd.zeroValue4
  t5 := Tryd.underlying5
  a5 := Tryd.isAgg5
  z5 := Tryd.sizeOf5
  v5 := Tryd.zeroValue5
  t20 := Tryd.underlying20
  a20 := Tryd.isAgg20
  z20 := Tryd.sizeOf20
  v20 := Tryd.zeroValue20
  t37 := Tryd.underlying42
  a37 := Tryd.isAgg42
  z37 := Tryd.sizeOf42
  v37 := Tryd.zeroValue42
  t75 := Tryd.underlying104
  a75 := Tryd.isAgg104
  z75 := Tryd.sizeOf104
  v75 := Tryd.zeroValue104
  t91 := Tryd.underlying53
  a91 := Tryd.isAgg53
  z91 := Tryd.sizeOf53
  v91 := Tryd.zeroValue53
  t93 := Tryd.underlying55
  a93 := Tryd.isAgg55
  z93 := Tryd.sizeOf55
  v93 := Tryd.zeroValue55
  t130 := Tryd.underlying111
  a130 := Tryd.isAgg111
  z130 := Tryd.sizeOf111
  v130 := Tryd.zeroValue111
  t131 := Tryd.underlying122
  a131 := Tryd.isAgg122
  z131 := Tryd.sizeOf122
  v131 := Tryd.zeroValue122
  g14 := by kernel_rfl
  t9 := Tryd.underlying9
  a9 := Tryd.isAgg9
  z9 := Tryd.sizeOf9
  v9 := Tryd.zeroValue9
  t80 := Tryd.underlying63
  a80 := Tryd.isAgg63
  z80 := Tryd.sizeOf63
  v80 := Tryd.zeroValue63
  i0 := by kernel_rfl
  i3 := by kernel_rfl
  i4 := by kernel_rfl
  i5 := by kernel_rfl
  i9 := by kernel_rfl
  i20 := by kernel_rfl
  i37 := by kernel_rfl
  i75 := by kernel_rfl
  i80 := by kernel_rfl
  i91 := by kernel_rfl
  i93 := by kernel_rfl
  i130 := by kernel_rfl
  i131 := by kernel_rfl
  m14 := by kernel_rfl }
open Go.RowKit in
theorem Tryd.Buffer_WriteByte_at (T : TypeId) (R : Nat → Option Value) (B b q : Nat) (bs : List Value) (c : Int) (w : World) (h : LibA.IsBuffer T R 5 B b q bs w) (hBw : B ≤ w.heap.size) (h1 : ∀ v ∈ bs, v.oneCell' = true) (hlim : bs.length + 1 ≤ 140737488355328) :
    Calls Tryd.prog 55 #[.pointer (some ⟨b, q, none⟩), .int .u8 c] w fun e w' => e = .returned .nilIface ∧ LibA.IsBuffer T R 5 B b q (bs ++ [.int .u8 c]) w' ∧ Below B w w' ∧ Lib.OthersKept 5 (some b) w w' := Any.Buffer_WriteByte_at Tryd.laysM179 T R B b q bs c w h hBw h1 hlim
def Tryd.laysM178_ren : Go.Shelf.Ren := ⟨fun | 178 => 57 | 251 => 74 | 252 => 75 | 181 => 86 | 184 => 87 | 290 => 88 | 324 => 91 | n => n, fun | 130 => 111 | 9 => 9 | 3 => 3 | 75 => 104 | 0 => 0 | 93 => 55 | 91 => 53 | 131 => 122 | 4 => 4 | 37 => 42 | 20 => 20 | 80 => 63 | 5 => 5 | n => n, fun | 14 => 0 | n => n⟩
theorem Tryd.laysM178 : Go.Proofs.LaysM.n178 Tryd.prog Tryd.laysM178_ren := {
  mixed := by kernel_rfl
  f178 := Tryd.func57.trans (congrArg some (by kernel_rfl))
  f181 := Tryd.func86.trans (congrArg some (by kernel_rfl))
  f184 := Tryd.func87.trans (congrArg some (by kernel_rfl))
  f251 := Tryd.func74.trans (congrArg some (by kernel_rfl))
  f252 := Tryd.func75.trans (congrArg some (by kernel_rfl))
  f290 := Tryd.func88.trans (congrArg some (by kernel_rfl))
  f324 := Tryd.func91.trans (congrArg some (by kernel_rfl))
  t0 := Tryd.underlying0
  a0 := Tryd.isAgg0
  z0 := Tryd.sizeOf0
  v0 := Tryd.zeroValue0
  t3 := Tryd.underlying3
  a3 := Tryd.isAgg3
  z3 := Tryd.sizeOf3
  v3 := Tryd.zeroValue3
  t4 := Tryd.underlying4
  a4 := Tryd.isAgg4
  z4 := Tryd.sizeOf4
  v4 := Tryd.zeroValue4
  t9 := Tryd.underlying9
  a9 := Tryd.isAgg9
  z9 := Tryd.sizeOf9
  v9 := Tryd.zeroValue9
  t20 := Tryd.underlying20
  a20 := Tryd.isAgg20
  z20 := Tryd.sizeOf20
  v20 := Tryd.zeroValue20
  t37 := Tryd.underlying42
  a37 := Tryd.isAgg42
  z37 := Tryd.sizeOf42
  v37 := Tryd.zeroValue42
  t75 := Tryd.underlying104
  a75 := Tryd.isAgg104
  z75 := Tryd.sizeOf104
  v75 := Tryd.zeroValue104
  t91 := Tryd.underlying53
  a91 := Tryd.isAgg53
  z91 := Tryd.sizeOf53
  v91 := Tryd.zeroValue53
  t93 := Tryd.underlying55
  a93 := Tryd.isAgg55
  z93 := Tryd.sizeOf55
  v93 := Tryd.zeroValue55
  t130 := Tryd.underlying111
  a130 := Tryd.isAgg111
  z130 := Tryd.sizeOf111
  v130 := Tryd.zeroValue111
  t131 := Tryd.underlying122
  a131 := Tryd.isAgg122
  z131 := Tryd.sizeOf122
  v131 := Tryd.zeroValue122
  g14 := by kernel_rfl
  t5 := Tryd.underlying5
  a5 := Tryd.isAgg5
  z5 := Tryd.sizeOf5
  v5 := Tryd.zeroValue5
  t80 := Tryd.underlying63
  a80 := Tryd.isAgg63
  z80 := Tryd.sizeOf63
  v80 := Tryd.zeroValue63
  i0 := by kernel_rfl
  i3 := by kernel_rfl
  i4 := by kernel_rfl
  i5 := by kernel_rfl
  i9 := by kernel_rfl
  i20 := by kernel_rfl
  i37 := by kernel_rfl
  i75 := by kernel_rfl
  i80 := by kernel_rfl
  i91 := by kernel_rfl
  i93 := by kernel_rfl
  i130 := by kernel_rfl
  i131 := by kernel_rfl
  m14 := by kernel_rfl }
open Go.RowKit in
theorem Tryd.Buffer_WriteString_at (T : TypeId) (R : Nat → Option Value) (B b q : Nat) (bs : List Value) (s : ByteArray) (w : World) (h : LibA.IsBuffer T R 5 B b q bs w) (hBw : B ≤ w.heap.size) (h1 : ∀ v ∈ bs, v.oneCell' = true) (hlim : bs.length + s.size ≤ 140737488355328) :
    Calls Tryd.prog 57 #[.pointer (some ⟨b, q, none⟩), .string s] w fun e w' => e = .returned (.tuple #[.int .i64 s.size, .nilIface]) ∧ LibA.IsBuffer T R 5 B b q (bs ++ Lib.byteCells s.data.toList) w' ∧ Below B w w' ∧ Lib.OthersKept 5 (some b) w w' := Any.Buffer_WriteString_at Tryd.laysM178 T R B b q bs s w h hBw h1 hlim
end Go.Proofs
