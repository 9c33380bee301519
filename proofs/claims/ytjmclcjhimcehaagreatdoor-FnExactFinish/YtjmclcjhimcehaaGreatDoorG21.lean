/-
  A plan's block of six cells. Where a name stands among a plan's tasks, as the program finds it: the walk. Contracts of the library, proved once there, laid at this program by the kit (its plain words). Numbers sorted, as the program has it of the library: the walk. One record more behind a row that the call owns, and where the row lies then. Over any program.
-/
import Derived.Test.YtjmclcjhimcehaaGreatDoorGn
import Derived.Test.YtjmclcjhimcehaaGreatDoorG15
import Derived.ScopeJumps
import Derived.WalkMore
import Derived.Shelf.Sort.Plain
import Derived.Test.YtjmclcjhimcehaaGreatDoorProg
import Derived.Test.YtjmclcjhimcehaaGreatDoorG19
import Derived.Test.YtjmclcjhimcehaaGreatDoorG3
import Derived.Sort.OwnSorted
import Derived.Test.YtjmclcjhimcehaaGreatDoorRec
import Derived.Maps.AppendAt
namespace Go.Proofs.YtjmclcjhimcehaaGreatDoor
open Go Go.RowKit

def P6 (w : World) (g : Nat) (nm cr : ByteArray) (fr up : Int) (cu : Bool) (tv : Value) : Prop := w.heap[g]? = some (.cells #[.string nm, .string cr, .int .i64 fr, .int .i64 up, .bool cu, tv] 36)
section
variable {w w' : World} {g : Nat} {nm cr : ByteArray} {fr up : Int} {cu : Bool} {tv : Value}
theorem P6.lt (h : P6 w g nm cr fr up cu tv) : g < w.heap.size := (Array.getElem?_eq_some_iff.1 h).1
theorem P6.c0 (h : P6 w g nm cr fr up cu tv) : w.cell? ⟨g, 0, none⟩ = some (.string nm) := by simp [World.cell?, show w.heap[g]? = _ from h]
theorem P6.s0 (h : P6 w g nm cr fr up cu tv) (u : ByteArray) : P6 (w.setCell ⟨g, 0, none⟩ (.string u)) g u cr fr up cu tv := by simp [P6, World.setCell, Array.getElem?_modify, show w.heap[g]? = _ from h]
theorem P6.c1 (h : P6 w g nm cr fr up cu tv) : w.cell? ⟨g, 1, none⟩ = some (.string cr) := by simp [World.cell?, show w.heap[g]? = _ from h]
theorem P6.s1 (h : P6 w g nm cr fr up cu tv) (u : ByteArray) : P6 (w.setCell ⟨g, 1, none⟩ (.string u)) g nm u fr up cu tv := by simp [P6, World.setCell, Array.getElem?_modify, show w.heap[g]? = _ from h]
theorem P6.c2 (h : P6 w g nm cr fr up cu tv) : w.cell? ⟨g, 2, none⟩ = some (.int .i64 fr) := by simp [World.cell?, show w.heap[g]? = _ from h]
theorem P6.s2 (h : P6 w g nm cr fr up cu tv) (u : Int) : P6 (w.setCell ⟨g, 2, none⟩ (.int .i64 u)) g nm cr u up cu tv := by simp [P6, World.setCell, Array.getElem?_modify, show w.heap[g]? = _ from h]
theorem P6.c3 (h : P6 w g nm cr fr up cu tv) : w.cell? ⟨g, 3, none⟩ = some (.int .i64 up) := by simp [World.cell?, show w.heap[g]? = _ from h]
theorem P6.s3 (h : P6 w g nm cr fr up cu tv) (u : Int) : P6 (w.setCell ⟨g, 3, none⟩ (.int .i64 u)) g nm cr fr u cu tv := by simp [P6, World.setCell, Array.getElem?_modify, show w.heap[g]? = _ from h]
theorem P6.c4 (h : P6 w g nm cr fr up cu tv) : w.cell? ⟨g, 4, none⟩ = some (.bool cu) := by simp [World.cell?, show w.heap[g]? = _ from h]
theorem P6.s4 (h : P6 w g nm cr fr up cu tv) (u : Bool) : P6 (w.setCell ⟨g, 4, none⟩ (.bool u)) g nm cr fr up u tv := by simp [P6, World.setCell, Array.getElem?_modify, show w.heap[g]? = _ from h]
theorem P6.c5 (h : P6 w g nm cr fr up cu tv) : w.cell? ⟨g, 5, none⟩ = some (tv) := by simp [World.cell?, show w.heap[g]? = _ from h]
theorem P6.s5 (h : P6 w g nm cr fr up cu tv) (u : Value) : P6 (w.setCell ⟨g, 5, none⟩ u) g nm cr fr up cu u := by simp [P6, World.setCell, Array.getElem?_modify, show w.heap[g]? = _ from h]
theorem P6.fz (h : P6 w g nm cr fr up cu tv) (k : Nat) : w.frozen? ⟨g, k, none⟩ = false := by simp [World.frozen?, show w.heap[g]? = _ from h]
theorem P6.on (h : P6 w g nm cr fr up cu tv) (hb : Below w.heap.size w w') : P6 w' g nm cr fr up cu tv := (hb.block _ h.lt).trans h
theorem P6.grown {r : Option Nat} (h : P6 w g nm cr fr up cu tv) (hg : w.grownBy w' r) (hr : some g ≠ r) : P6 w' g nm cr fr up cu tv := (hg.block g h.lt hr).trans h
theorem P6.far (h : P6 w g nm cr fr up cu tv) {a : Addr} (ha : a.block ≠ g) (u : Value) : P6 (w.setCell a u) g nm cr fr up cu tv := (heap_setCell_other w a g u (fun e => ha e.symm)).trans h
theorem P6.new (w : World) (nm cr : ByteArray) (fr up : Int) (cu : Bool) (tv : Value) : P6 (w.alloc (.cells #[.string nm, .string cr, .int .i64 fr, .int .i64 up, .bool cu, tv] 36)) w.heap.size nm cr fr up cu tv := by
  show (w.heap.push _)[w.heap.size]? = _; simp
end
end Go.Proofs.YtjmclcjhimcehaaGreatDoor

namespace Go.Proofs.YtjmclcjhimcehaaGreatDoor
open Go Go.RowKit
set_option linter.unusedVariables false

set_option maxRecDepth 10000 in
set_option maxHeartbeats 2000000 in
theorem implTaskAt_any (ao : Option Addr) (n cap : Nat) (nm cr : ByteArray) (fr up : Int) (cu : Bool) (ts : List Ta) (s : ByteArray) (w : World) (hr : Tasks w (.slice ao n cap) ts) (hn : n ≤ 1048577) :
    Calls Tryz.prog 108 #[.agg #[.string nm, .string cr, .int .i64 fr, .int .i64 up, .bool cu, .slice ao n cap], .string s] w fun e w' => e = .returned (.int .i64 (atN ts s)) ∧ Below w.heap.size w w' := by
  have HN : Hid (ts.length = n) := by
    obtain ⟨ao', cap', e⟩ := hr.slice
    injection e with _ e2 _
    exact e2.symm
  obtain ⟨W, hW⟩ : ∃ W, w.alloc (.cells #[.string nm, .string cr, .int .i64 fr, .int .i64 up, .bool cu, .slice ao n cap] 36) = W := ⟨_, rfl⟩
  have B0 : Below w.heap.size w W := by rw [← hW]; exact ba (Below.refl _ _) _
  have HR : Hid (Tasks W (.slice ao n cap) ts) := hr.below B0
  have c5 : W.cell? ⟨w.heap.size, 5, none⟩ = some (.slice ao n cap) := by rw [← hW]; exact (P6.new _ _ _ _ _ _ _).c5
  clear hr
  go_enter Tryz.func108, Tryz.ntmps108
  go_wp2
  refine wp_scope_jumps 0 (fun a' w' => w' = W ∧ ∃ u6 u7 u8 u9 u10 u11 u12 u13 u14 u15 u16 u17 u18 u19 u20 : Value, a' = { tmps := #[.agg #[.string nm, .string cr, .int .i64 fr, .int .i64 up, .bool cu, .slice ao n cap], .string s, .pointer (some ⟨w.heap.size, 0, none⟩), undef, .int .i64 0, .int .i64 (atN ts s), u6, u7, u8, u9, u10, u11, u12, u13, u14, u15, u16, u17, u18, u19, u20, undef], defers := [] }) (fun _ _ => 0) rfl ?_ ?_
  · go_wp2
    go_loopw [5] (fun i wr => ∃ k : Nat, k ≤ n ∧ i = .int .i64 k ∧ Hid (atN ts s = atG s k (ts.drop k)) ∧ wr = W) (fun i _ => n - (intOf i).toNat)
    case atStart => exact ⟨0, Nat.zero_le _, rfl, (by show atN ts s = atG s 0 (ts.drop 0); rw [List.drop_zero]; rfl), rfl⟩
    case round =>
      obtain ⟨k, hk, rfl, HE, hw⟩ := hrel
      have hw2 := hw.symm
      subst hw2
      by_cases hlt : k < n
      · obtain ⟨t, ht⟩ : ∃ t, ts[k]? = some t := ⟨_, List.getElem?_eq_getElem (by rw [HN.out]; exact hlt)⟩
        obtain ⟨b, o, av, e1, hb, c0, _, _, _, _, _⟩ := HR.out.at ht
        subst e1
        by_cases hq : t.name = s
        · have HF : Hid ((k : Int) = atN ts s) := (HE.out.trans (by rw [atG_at ht, if_pos hq])).symm
          have hq2 := eq_list hq
          clear ht
          go_wp2
          go_step3
          rw [HF.out]
          refine ⟨rfl, rfl, _, _, _, _, _, _, _, _, _, _, _, _, _, _, _, rfl⟩
        · have HF : Hid (atN ts s = atG s (k + 1) (ts.drop (k + 1))) := HE.out.trans (by rw [atG_at ht, if_neg hq])
          have hq2 := ne_list hq
          clear ht
          go_wp2
          go_roundw
          case rel => exact ⟨k + 1, by omega, by go_num, HF, trivial⟩
          case measure => simp [intOf]; omega
      · have HF : Hid (atN ts s = -1) := HE.out.trans (atG_end (by rw [HN.out]; omega))
        go_wp2
        simp only [Exit.jump]
        go_ret
        exact ⟨by rw [HF.out]; rfl, B0⟩
  · rintro a' w' ⟨rfl, u6, u7, u8, u9, u10, u11, u12, u13, u14, u15, u16, u17, u18, u19, u20, rfl⟩
    go_wp2
    simp only [Exit.jump]
    go_ret
    exact ⟨rfl, B0⟩
end Go.Proofs.YtjmclcjhimcehaaGreatDoor

namespace Go.Proofs
open Go.Shelf
def Tryz.lays189_ren : Go.Shelf.Ren := ⟨fun | 189 => 109 | 125 => 146 | 257 => 145 | 128 => 181 | 129 => 182 | 294 => 172 | 295 => 173 | 296 => 174 | 297 => 175 | 298 => 176 | 299 => 177 | 216 => 178 | 300 => 179 | 301 => 180 | 328 => 203 | 329 => 204 | 330 => 205 | 331 => 206 | 332 => 207 | 215 => 187 | 343 => 219 | n => n, fun | 28 => 90 | 3 => 3 | 46 => 182 | 0 => 0 | 51 => 224 | 53 => 226 | 4 => 4 | 183 => 218 | 182 => 217 | 131 => 221 | 5 => 5 | 9 => 9 | 218 => 252 | 222 => 256 | 228 => 269 | 229 => 270 | n => n, fun | n => n⟩
theorem Tryz.lays189 : Go.Proofs.Lays.n189 Tryz.prog Tryz.lays189_ren := {
  mixed := by kernel_rfl
  f125 := Tryz.func146.trans (congrArg some (by kernel_rfl))
  f128 := Tryz.func181.trans (congrArg some (by kernel_rfl))
  f129 := Tryz.func182.trans (congrArg some (by kernel_rfl))
  f189 := Tryz.func109.trans (congrArg some (by kernel_rfl))
  f215 := Tryz.func187.trans (congrArg some (by kernel_rfl))
  f216 := Tryz.func178.trans (congrArg some (by kernel_rfl))
  f257 := Tryz.func145.trans (congrArg some (by kernel_rfl))
  f294 := Tryz.func172.trans (congrArg some (by kernel_rfl))
  f295 := Tryz.func173.trans (congrArg some (by kernel_rfl))
  f296 := Tryz.func174.trans (congrArg some (by kernel_rfl))
  f297 := Tryz.func175.trans (congrArg some (by kernel_rfl))
  f298 := Tryz.func176.trans (congrArg some (by kernel_rfl))
  f299 := Tryz.func177.trans (congrArg some (by kernel_rfl))
  f300 := Tryz.func179.trans (congrArg some (by kernel_rfl))
  f301 := Tryz.func180.trans (congrArg some (by kernel_rfl))
  f328 := Tryz.func203.trans (congrArg some (by kernel_rfl))
  f329 := Tryz.func204.trans (congrArg some (by kernel_rfl))
  f330 := Tryz.func205.trans (congrArg some (by kernel_rfl))
  f331 := Tryz.func206.trans (congrArg some (by kernel_rfl))
  f332 := Tryz.func207.trans (congrArg some (by kernel_rfl))
  f343 := Tryz.func219.trans (congrArg some (by kernel_rfl))
  t0 := Tryz.underlying0
  a0 := Tryz.isAgg0
  z0 := Tryz.sizeOf0
  v0 := Tryz.zeroValue0
  t3 := Tryz.underlying3
  a3 := Tryz.isAgg3
  z3 := Tryz.sizeOf3
  v3 := Tryz.zeroValue3
  t4 := Tryz.underlying4
  a4 := Tryz.isAgg4
  z4 := Tryz.sizeOf4
  v4 := Tryz.zeroValue4
  t5 := Tryz.underlying5
  a5 := Tryz.isAgg5
  z5 := Tryz.sizeOf5
  v5 := Tryz.zeroValue5
  t9 := Tryz.underlying9
  a9 := Tryz.isAgg9
  z9 := Tryz.sizeOf9
  v9 := Tryz.zeroValue9
  t28 := Tryz.underlying90
  a28 := Tryz.isAgg90
  z28 := Tryz.sizeOf90
  v28 := Tryz.zeroValue90
  t46 := Tryz.underlying182
  a46 := Tryz.isAgg182
  z46 := Tryz.sizeOf182
  v46 := Tryz.zeroValue182
  t51 := Tryz.underlying224
  a51 := Tryz.isAgg224
  z51 := Tryz.sizeOf224
  v51 := Tryz.zeroValue224
  t53 := Tryz.underlying226
  a53 := Tryz.isAgg226
  z53 := Tryz.sizeOf226
  v53 := Tryz.zeroValue226
  t131 := Tryz.underlying221
  a131 := Tryz.isAgg221
  z131 := Tryz.sizeOf221
  v131 := Tryz.zeroValue221
  t182 := Tryz.underlying217
  a182 := Tryz.isAgg217
  z182 := Tryz.sizeOf217
  v182 := Tryz.zeroValue217
  t183 := Tryz.underlying218
  a183 := Tryz.isAgg218
  z183 := Tryz.sizeOf218
  v183 := Tryz.zeroValue218
  t218 := Tryz.underlying252
  a218 := Tryz.isAgg252
  z218 := Tryz.sizeOf252
  v218 := Tryz.zeroValue252
  t222 := Tryz.underlying256
  a222 := Tryz.isAgg256
  z222 := Tryz.sizeOf256
  v222 := Tryz.zeroValue256
  t228 := Tryz.underlying269
  a228 := Tryz.isAgg269
  z228 := Tryz.sizeOf269
  v228 := Tryz.zeroValue269
  t229 := Tryz.underlying270
  a229 := Tryz.isAgg270
  z229 := Tryz.sizeOf270
  v229 := Tryz.zeroValue270 }
open Go.Sort Go.RowKit in
theorem Tryz.slices_Sort_int (blk off cap : Nat) (zs : List Int) (w : World) (hH : Holds (Value.int .i64) w blk off zs.toArray) (hblk : blk < w.heap.size) (hsz : zs.length < 4611686018427387904) :
    Calls Tryz.prog 109 #[.slice (some ⟨blk, off, none⟩) zs.length cap] w fun e w' =>
      e = .returned (.tuple #[]) ∧ ∃ n os, w' = grow (putRow (Value.int .i64) (Sort.ahead w n) blk off (zs.mergeSort fun x y => decide (x ≤ y)).toArray) os := Any.slices_Sort_int Tryz.lays189 blk off cap zs w hH hblk hsz
end Go.Proofs

namespace Go.Proofs.YtjmclcjhimcehaaGreatDoor
open Go Go.RowKit
set_option linter.unusedVariables false

theorem some_at {α : Type} [Rec α] {w : World} {B e : Nat} {v : Value} {l : List α} (h : ownsR w B e v l) {k : Nat} (hk : v.ownBlock = some k) : ∃ c, v = .slice (some ⟨k, 0, none⟩) l.length c ∧ l.length ≤ c := by
  rcases h.2 with ⟨rfl, _⟩ | ⟨g, cap, cur, rfl, _, _, h1, _⟩
  · cases hk
  · cases hk
    exact ⟨cap, rfl, h1⟩
section
open Go.Sort
theorem heapN_sorted {w : World} {g n : Nat} {os : Array Obj} {cur : Array Value} {e : TypeId} (d : Array Int) (hb : w.heap[g]? = some (.cells cur e)) :
    (grow (putRow (Value.int .i64) (Sort.ahead w n) g 0 d) os).heap[g]? = some (.cells (putCells (Value.int .i64) 0 d cur) e) := by
  have hg : g < w.heap.size := (Array.getElem?_eq_some_iff.1 hb).1
  rw [heap_grow_old _ _ (by simpa using hg)]
  simp [putRow, mapBlock, Sort.ahead, Array.getElem?_modify, hb, onCells]
theorem grownN_sorted {w : World} {g n : Nat} {os : Array Obj} (d : Array Int) : w.grownBy (grow (putRow (Value.int .i64) (Sort.ahead w n) g 0 d) os) (some g) := by
  refine ⟨rfl, rfl, rfl, by simp, fun k hk hne => ?_⟩
  rw [heap_grow_old _ _ (by simpa using hk)]
  have : g ≠ k := fun e => hne (by rw [e])
  simp [putRow, mapBlock, Sort.ahead, Array.getElem?_modify, this]
theorem takeN_put (cur : Array Value) (l : List Int) (h : l.length ≤ cur.size) : (putCells (Value.int .i64) 0 l.toArray cur).toList.take l.length = l.map (Value.int .i64) := by
  apply List.ext_getElem?
  intro j
  by_cases hj : j < l.length
  · rw [List.getElem?_take_of_lt hj, Array.getElem?_toList]
    simp [putCells, hj, show j < cur.size by omega]
  · rw [List.getElem?_take_eq_none (by omega), List.getElem?_eq_none (by simp; omega)]
end
theorem sortN_any {w : World} {B g n cap : Nat} {l : List Int} (h : ownsR w B 3 (.slice (some ⟨g, 0, none⟩) n cap) l) (hn : l.length ≤ 1048577) :
    Calls Tryz.prog 109 #[.slice (some ⟨g, 0, none⟩) n cap] w fun e w' => e = .returned (.tuple #[]) ∧ ownsR w' B 3 (.slice (some ⟨g, 0, none⟩) n cap) (sortI l) ∧ w.grownBy w' (some g) := by
  have hnl : n = l.length := h.reads.len
  have hH : Go.Sort.Holds (Value.int .i64) w g 0 l.toArray := fun j hj => by
    have hj' : j < l.length := by simpa using hj
    obtain ⟨-, h1, h2⟩ := int_own h (List.getElem?_eq_getElem hj')
    rw [Nat.zero_add]
    refine ⟨?_, h2⟩
    rw [h1]
    simp [hj']
  have hlt : g < w.heap.size := (h.lt g rfl).2
  have hc := Tryz.slices_Sort_int g 0 cap l w hH hlt (by omega)
  rw [← hnl] at hc
  refine hc.mono ?_
  rintro e w' ⟨rfl, k, os, rfl⟩
  refine ⟨rfl, ?_, grownN_sorted _⟩
  have hl : (sortI l).length = l.length := (sortI_perm l).length_eq
  rcases h.2 with ⟨h', _⟩ | ⟨g', cap', cur, h', hB, hb, h1, h2, h3, h4⟩
  · cases h'
  · injection h' with e1 e2 e3
    injection e1 with e1
    injection e1 with e1 _ _
    subst e1 e3
    refine ⟨flat_length _, .inr ⟨g, cap, _, by rw [hl, ← hnl], hB, heapN_sorted _ hb, by rw [hl]; exact h1, h2, by simp [Go.Sort.putCells, h3], ?_⟩⟩
    rw [show Rec.width Int = 1 from rfl, Nat.mul_one] at h3 ⊢
    rw [flat_int]
    exact takeN_put cur (sortI l) (by rw [hl]; omega)
end Go.Proofs.YtjmclcjhimcehaaGreatDoor

namespace Go.Proofs.YtjmclcjhimcehaaGreatDoor
open Go Go.RowKit
set_option linter.unusedVariables false

open Rec in
/-- One record more behind a row that the call owns: and where the row lies then. -/
theorem append_recW {α : Type} [Rec α] {P : Program} (w w0 : World) {ops : Array Oper} {rest : List Oper} {o : Oper} {a : Act} {Q : Exit → Act → World → Prop} (hgd : o.guard = none) (s x : Operand) (t : TypeId)
    (ho : o.op = .call { callee := .builtin .append, args := #[s, x], argTypes := #[t, t] })
    (B : Nat) (e : TypeId) (z : Value) (bytes : Nat) (ht : P.underlying t = some (.slice e)) (hi : (P.info? e).map (fun i => (i.zero, i.size, i.bytes)) = some (some z, width α, bytes)) (hz : z.cells.size = width α)
    (v : Value) (l : List α) (hs : a.eval s = v) (hown : ownsR w B e v l) (hbel : Below B w0 w)
    (b c : Nat) (n : α) (hx : a.eval x = .slice (some ⟨b, 0, none⟩) 1 c) (hc : ∀ j u, (cells n)[j]? = some u → w.cell? ⟨b, j, none⟩ = some u ∧ u.oneCell' = true)
    (hlen : l.length ≤ 1048576) (hby : bytes ≤ 134217000) (hB : B ≤ w.heap.size)
    (h : ∀ v' w', ownsR w' B e v' (l ++ [n]) → Below B w0 w' → w.grownBy w' v.ownBlock → (v'.ownBlock = v.ownBlock ∨ v'.ownBlock = some w.heap.size) → wpList P ops Q rest (a.put o.dst v') w') : wpList P ops Q (o :: rest) a w := by
  obtain ⟨i0, hi0, hz0, hz1, hz2⟩ := info_parts hi
  refine wpList_append_own_at w hgd s x t ho B e i0 z (width α) bytes ht hi0 hz0 hz1 hz2 hz Rec.pos v l.length _ hs hown ⟨b, 0, none⟩ 1 c (cells n) hx (by rw [Rec.len]; simp) ?_ ?_ (by unfold maxLen; omega) ?_ hB ?_
  · intro j u hj
    have := (hc j u hj).1
    by_cases h0 : j = 0
    · subst h0; simpa [Addr.add] using this
    · simpa [Addr.add, h0] using this
  · intro u hu
    obtain ⟨j, hj⟩ := List.getElem?_of_mem hu
    exact (hc j u hj).2
  · have : (l.length + 1) * bytes ≤ 1048577 * 134217000 := Nat.mul_le_mul (by omega) hby
    omega
  · intro v' w' h1 h2 _ h4
    exact h v' w' (by simpa [ownsR, Rec.len] using h1) (hbel.grown h2 hB fun k hk => (hown.lt k hk).1) h2 h4
end Go.Proofs.YtjmclcjhimcehaaGreatDoor
