/-
  Contracts of the library, proved once there, laid at this program by the kit (its plain words). A text is cloned: the walk. The built-in copy over rows of records, each of as many cells, as a law of the walk. Over any program. The built-in append of a row of records behind another one, as a run. Over any program. A run with its states anew, on both sides: the walks. A task begins, on both sides: the walks.
-/
import Derived.Shelf.LaysM
import Derived.Shelf.Strconv.Clone
import Derived.Test.YtjmclcjhimcehaaGreatDoorProg
import Derived.Test.YtjmclcjhimcehaaGreatDoorAid
import Derived.Deep.QuietTactic
import Derived.BigQuiet
import Derived.Handy
import Derived.Test.YtjmclcjhimcehaaGreatDoorGn
import Derived.Laws.CopyRow
import Derived.Test.YtjmclcjhimcehaaGreatDoorG31
import Derived.Test.YtjmclcjhimcehaaGreatDoorG1
import Derived.Test.YtjmclcjhimcehaaGreatDoorG3
import Derived.BigRegion
namespace Go.Proofs
open Go.Shelf
def Tryz.laysMC316_ren : Go.Shelf.Ren := ⟨fun | 316 => 98 | n => n, fun | 9 => 9 | 3 => 3 | 4 => 4 | 37 => 177 | 0 => 0 | 127 => 178 | 5 => 5 | n => n, fun | n => n⟩
theorem Tryz.laysMC316 : Go.Proofs.LaysM.n316 Tryz.prog Tryz.laysMC316_ren := {
  mixed := by kernel_rfl
  f316 := Tryz.func98.trans (congrArg some (by kernel_rfl))
  t0 := Tryz.underlying0
  a0 := Tryz.isAgg0
  z0 := Tryz.sizeOf0
  v0 := Tryz.zeroValue0
  t3 := Tryz.underlying3
  a3 := Tryz.isAgg3
  z3 := Tryz.sizeOf3
  v3 := Tryz.zeroValue3
  t4 := Tryz.underlying4
  a4 := Tryz.isAgg4
  z4 := Tryz.sizeOf4
  v4 := Tryz.zeroValue4
  t9 := Tryz.underlying9
  a9 := Tryz.isAgg9
  z9 := Tryz.sizeOf9
  v9 := Tryz.zeroValue9
  t37 := Tryz.underlying177
  a37 := Tryz.isAgg177
  z37 := Tryz.sizeOf177
  v37 := Tryz.zeroValue177
  t127 := Tryz.underlying178
  a127 := Tryz.isAgg178
  z127 := Tryz.sizeOf178
  v127 := Tryz.zeroValue178
  t5 := Tryz.underlying5
  a5 := Tryz.isAgg5
  z5 := Tryz.sizeOf5
  v5 := Tryz.zeroValue5
  i0 := by kernel_rfl
  i3 := by kernel_rfl
  i4 := by kernel_rfl
  i5 := by kernel_rfl
  i9 := by kernel_rfl
  i37 := by kernel_rfl
  i127 := by kernel_rfl }
open Go.RowKit in
theorem Tryz.stringslite_Clone (s : ByteArray) (w : World) (hlim : s.size ≤ 281474976710656) :
    Calls Tryz.prog 98 #[.string s] w fun e w' => e = .returned (.string s) ∧ Below w.heap.size w w' := Any.stringslite_Clone Tryz.laysMC316 s w hlim
end Go.Proofs

namespace Go.Proofs.YtjmclcjhimcehaaGreatDoor
open Go Go.RowKit

set_option maxHeartbeats 400000 in
theorem clone_any (s : ByteArray) (w : World) (h : s.size ≤ 1048576) :
    Calls Tryz.prog 40 #[.string s] w fun e w' => e = .returned (.string s) ∧ Below w.heap.size w w' := by
  go_enter Tryz.func40, Tryz.ntmps40
  go_wp2_with (go_at_call 98; refine (Tryz.stringslite_Clone _ _ (by omega)).mono ?_; rintro e w1 ⟨rfl, hb1⟩)
  go_ret
  exact ⟨rfl, hb1⟩
end Go.Proofs.YtjmclcjhimcehaaGreatDoor

namespace Go.Proofs.YtjmclcjhimcehaaGreatDoor
open Go Go.RowKit
section
variable {α : Type} [Rec α]
open Rec

theorem flat_cell {l : List α} {j : Nat} {v : Value} (h : (l.flatMap cells)[j]? = some v) : ∃ x, l[j / width α]? = some x ∧ (cells x)[j % width α]? = some v := by
  have hpos : 0 < width α := Rec.pos
  have e := flat_at l (j / width α) (j % width α) (Nat.mod_lt _ hpos)
  rw [Nat.mul_comm, Nat.div_add_mod] at e
  rw [e] at h
  cases hx : l[j / width α]? with
  | none => rw [hx] at h; simp at h
  | some x => rw [hx] at h; exact ⟨x, rfl, h⟩

end
end Go.Proofs.YtjmclcjhimcehaaGreatDoor

namespace Go.Proofs.YtjmclcjhimcehaaGreatDoor
open Go Go.RowKit
section
variable {α : Type} [Rec α]
open Rec
/-- A row without anything that was just made. -/
theorem ownsR_made0 (w : World) (B : Nat) (e : TypeId) (hB : B ≤ w.heap.size) : ownsR (w.alloc (.cells #[] e)) B e (.slice (some ⟨w.heap.size, 0, none⟩) 0 0) ([] : List α) :=
  World.ownsRow_made w #[] 0 hB (Nat.zero_le _) (by simp)
theorem run_append_recs {P : Program} (w : World) (B : Nat) (t ty e : TypeId) (z : Value) (bytes : Nat) (ht : P.underlying t = some (.slice e)) (hi : (P.info? e).map (fun i => (i.zero, i.size, i.bytes)) = some (some z, width α, bytes)) (hz : z.cells.size = width α)
    (v v2 : Value) (l1 l2 : List α) (hown : ownsR w B e v l1) (hr : Reads w v2 l2) (h1 : ∀ x ∈ l2, ∀ u ∈ cells x, u.oneCell' = true) (hlen : l1.length + l2.length ≤ 1048577) (hby : bytes ≤ 134217000) (hB : B ≤ w.heap.size) :
    ∃ v' w', (Builtin.append_ #[t, t] ty #[v, v2]).run P w = .ok v' w' ∧ ownsR w' B e v' (l1 ++ l2) ∧ w.grownBy w' v.ownBlock := by
  obtain ⟨i0, hi0, hz0, hz1, hz2⟩ := info_parts hi
  have hbytes : (l1.length + l2.length) * bytes ≤ 140737488355328 := by
    have : (l1.length + l2.length) * bytes ≤ 1048577 * 134217000 := Nat.mul_le_mul hlen hby
    omega
  have h63 : l1.length + l2.length ≤ maxLen := by unfold maxLen; omega
  have hone : ∀ u ∈ l2.flatMap cells, u.oneCell' = true := fun u hu => by
    obtain ⟨x, hx, hu⟩ := List.mem_flatMap.1 hu
    exact h1 x hx u hu
  obtain ⟨ao, cap, rfl, hc⟩ := hr
  cases ao with
  | none =>
    have h0 : l2 = [] := by
      cases l2 with
      | nil => rfl
      | cons x r => obtain ⟨b, o, e, _⟩ := hc (by simp); cases e
    subst h0
    refine ⟨v, w, ?_, by simpa using hown, grown_refl _ _⟩
    rcases hown.2 with ⟨rfl, h0⟩ | ⟨g, cap, cur, rfl, _, _, hnc, _⟩
    · simp [Builtin.append_, run_underlying ht, sizeOf, typeInfo, hi0, Builtin.lenOf, Builtin.firstCells]
    · simp [Builtin.append_, run_underlying ht, sizeOf, typeInfo, hi0, Builtin.lenOf, Builtin.firstCells, hnc, storeCells]
  | some a =>
    obtain ⟨v', w', hrun, ho, hg, _⟩ := run_append_own (P := P) (w := w) B t ty e i0 z (width α) bytes ht hi0 hz0 hz1 hz2 hz Rec.pos v l1.length _ hown a l2.length cap (l2.flatMap cells) (flat_length l2) (fun j u hj => by
      obtain ⟨x, hx, hu⟩ := flat_cell hj
      obtain ⟨b, o, e, _, hcell⟩ := hc (by rintro rfl; simp at hx)
      cases e
      have := hcell _ x hx _ u hu
      have hadd : (⟨b, o, none⟩ : Addr).add j = ⟨b, o + j, none⟩ := by unfold Addr.add; split <;> simp_all
      rw [hadd]
      rw [Nat.add_assoc, Nat.mul_comm, Nat.div_add_mod] at this
      exact this) hone h63 hbytes hB
    exact ⟨v', w', hrun, by simpa [ownsR, List.flatMap_append] using ho, hg⟩
/-- append(s, x...) where s is a row of the call's own. -/
theorem wpList_append_recs {P : Program} {w : World} {ops : Array Oper} {rest : List Oper} {o : Oper} {a : Act} {Q : Exit → Act → World → Prop} (hgd : o.guard = none) (s x : Operand) (t : TypeId)
    (ho : o.op = .call { callee := .builtin .append, args := #[s, x], argTypes := #[t, t] }) (B : Nat) (e : TypeId) (z : Value) (bytes : Nat) (ht : P.underlying t = some (.slice e)) (hi : (P.info? e).map (fun i => (i.zero, i.size, i.bytes)) = some (some z, width α, bytes)) (hz : z.cells.size = width α)
    (v v2 : Value) (l1 l2 : List α) (hs : a.eval s = v) (hx : a.eval x = v2) (hown : ownsR w B e v l1) (hr : Reads w v2 l2) (h1 : ∀ x ∈ l2, ∀ u ∈ cells x, u.oneCell' = true) (hlen : l1.length + l2.length ≤ 1048577) (hby : bytes ≤ 134217000) (hB : B ≤ w.heap.size)
    (h : ∀ v' w', ownsR w' B e v' (l1 ++ l2) → w.grownBy w' v.ownBlock → wpList P ops Q rest (a.put o.dst v') w') : wpList P ops Q (o :: rest) a w := by
  refine wpList_plain hgd fun K hK => ?_
  obtain ⟨v', w', hrun, ho', hg'⟩ := run_append_recs (P := P) w B t o.type e z bytes ht hi hz v v2 l1 l2 hown hr h1 hlen hby hB
  unfold Oper.wp
  simp [execOp, ho, resolve, invoke, builtin, hs, hx, hrun, Result.andThen]
  exact hK _ _ (h v' w' ho' hg')
end
end Go.Proofs.YtjmclcjhimcehaaGreatDoor

namespace Go.Proofs.YtjmclcjhimcehaaGreatDoor
open Go Go.RowKit
set_option linter.unusedVariables false

theorem sa_one (l : List Sa) : ∀ x ∈ l, ∀ u ∈ Rec.cells x, u.oneCell' = true := by
  intro x _ u hu
  simp only [Rec.cells, List.mem_cons, List.not_mem_nil, or_false] at hu
  rcases hu with rfl | rfl | rfl | rfl <;> rfl
/-- A run's block is no row of states. -/
theorem not_rowR5 {W : World} {b B : Nat} {nm : ByteArray} {fr up ep : Int} {tv v : Value} {l : List Sa} (h : R5 W b nm fr up ep tv) (ho : ownsR W B 85 v l) : v.ownBlock ≠ some b := by
  intro e
  rcases ho.2 with ⟨rfl, _⟩ | ⟨g, cap, cur, rfl, _, hg, _⟩
  · cases e
  · cases e
    rw [show W.heap[g]? = _ from h] at hg
    injection hg with hg
    injection hg with _ hg
    exact absurd hg (by decide)
theorem grown_put {B : Nat} {w w' : World} {v : Value} {l : List Sa} (ho : ownsR w B 85 v l) {p : Addr} (u : Value) (hp : v.ownBlock ≠ some p.block) : ownsR (w.setCell p u) B 85 v l := own_keep ho fun k hk => heap_setCell_other w p k u fun e => hp (by rw [hk, e])
set_option maxRecDepth 10000 in
set_option maxHeartbeats 4000000 in
theorem l14Copy_any (ao : Option Addr) (n cap : Nat) (nm : ByteArray) (fr up ep : Int) (st : List Sa) (w : World) (hr : Reads w (.slice ao n cap) st) (hn : n ≤ 1048577) :
    Calls Tryz.prog 57 #[.agg #[.string nm, .int .i64 fr, .int .i64 up, .int .i64 ep, .slice ao n cap]] w fun e w' => ∃ v, e = .returned (.agg #[.string nm, .int .i64 fr, .int .i64 up, .int .i64 ep, v]) ∧ ownsR w' w.heap.size 85 v st ∧ Below w.heap.size w w' := by
  have HR : Hid (Reads w (.slice ao n cap) st) := hr
  have HL : Hid (([] : List Sa).length + st.length ≤ 1048577) := by show _ ≤ _; rw [← hr.len]; simpa using hn
  clear hr hn
  go_enter Tryz.func57, Tryz.ntmps57
  have J0 := ((R5.new w nm fr up ep (.slice ao n cap)).on (ba (Below.refl _ _) (.cells #[.string ⟨#[]⟩, .int .i64 0, .int .i64 0, .int .i64 0, .slice none 0 0] 31))).on (ba (Below.refl _ _) (.cells #[] 85))
  have Z0 : R5 (((w.alloc (.cells #[.string nm, .int .i64 fr, .int .i64 up, .int .i64 ep, .slice ao n cap] 31)).alloc (.cells #[.string ⟨#[]⟩, .int .i64 0, .int .i64 0, .int .i64 0, .slice none 0 0] 31)).alloc (.cells #[] 85)) (w.heap.size + 1) ⟨#[]⟩ 0 0 0 (.slice none 0 0) := by
    have := (R5.new (w.alloc (.cells #[.string nm, .int .i64 fr, .int .i64 up, .int .i64 ep, .slice ao n cap] 31)) ⟨#[]⟩ 0 0 0 (.slice none 0 0)).on (ba (Below.refl _ _) (.cells #[] 85))
    simpa using this
  have B0 : Below w.heap.size w (((w.alloc (.cells #[.string nm, .int .i64 fr, .int .i64 up, .int .i64 ep, .slice ao n cap] 31)).alloc (.cells #[.string ⟨#[]⟩, .int .i64 0, .int .i64 0, .int .i64 0, .slice none 0 0] 31)).alloc (.cells #[] 85)) := ba (ba (ba (Below.refl _ _) _) _) _
  have O0 : ownsR (((w.alloc (.cells #[.string nm, .int .i64 fr, .int .i64 up, .int .i64 ep, .slice ao n cap] 31)).alloc (.cells #[.string ⟨#[]⟩, .int .i64 0, .int .i64 0, .int .i64 0, .slice none 0 0] 31)).alloc (.cells #[] 85)) w.heap.size 85 (.slice (some ⟨w.heap.size + 1 + 1, 0, none⟩) 0 0) ([] : List Sa) := by
    have := ownsR_made0 (α := Sa) ((w.alloc (.cells #[.string nm, .int .i64 fr, .int .i64 up, .int .i64 ep, .slice ao n cap] 31)).alloc (.cells #[.string ⟨#[]⟩, .int .i64 0, .int .i64 0, .int .i64 0, .slice none 0 0] 31)) w.heap.size 85 (by simp; omega)
    simpa using this
  have R0 := HR.out.below B0
  go_wp2_with (at_builtin; refine wpList_append_recs rfl (.tmp 3) (.tmp 5) 29 rfl w.heap.size 85 _ 32 underSa infoSa rfl _ (.slice ao n cap) [] st (by rfl) (by rfl) O0 R0 (sa_one _) HL.out (by decide) B0.size ?_)
  intro v5 w5 ho5 hg5
  obtain ⟨a5, k5, c5, rfl⟩ := ho5.slice3
  have J5 := J0.grown hg5 (by simp [Value.ownBlock]; omega)
  have Z5 := Z0.grown hg5 (by simp [Value.ownBlock])
  have B5 := B0.grown hg5 B0.size (by simp [Value.ownBlock]; omega)
  clear J0 Z0 B0 O0 R0 hg5
  have j0 := J5.c0
  have j1 := J5.c1
  have j2 := J5.c2
  have j3 := J5.c3
  have j4 := J5.c4
  have jf := J5.fz
  have z0 := Z5.c0
  have z1 := Z5.c1
  have z2 := Z5.c2
  have z3 := Z5.c3
  have z4 := Z5.c4
  have zf := Z5.fz
  have J6 := J5.s4 (.slice a5 k5 c5)
  have Z6 := Z5.far (a := ⟨w.heap.size, 4, none⟩) (by simp) (.slice a5 k5 c5)
  have B6' := Below.setCell (p := ⟨w.heap.size, 4, none⟩) B5 (Nat.le_refl _) (.slice a5 k5 c5)
  have O6 : ownsR (w5.setCell ⟨w.heap.size, 4, none⟩ (.slice a5 k5 c5)) w.heap.size 85 (.slice a5 k5 c5) st := grown_put (w' := w5) ho5 _ (not_rowR5 J5 ho5)
  have Z7 := Z6.set nm fr up ep (.slice a5 k5 c5)
  have B7 := below_putR5 (g := w.heap.size + 1) B6' (by omega) nm fr up ep (.slice a5 k5 c5)
  have O7 := own_putR5 (b := w.heap.size + 1) O6 (not_rowR5 Z6 O6) nm fr up ep (.slice a5 k5 c5)
  go_wp2
  refine bodyPost_ret (ret_run1 rfl rfl Z7) rfl ⟨_, rfl, O7, B7⟩
set_option maxRecDepth 10000 in
set_option maxHeartbeats 4000000 in
theorem cloned_any (ao : Option Addr) (n cap : Nat) (nm : ByteArray) (fr up ep : Int) (st : List Sa) (w : World) (hr : Reads w (.slice ao n cap) st) (hn : n ≤ 1048577) (hz : nm.size ≤ 1048576) :
    Calls Tryz.prog 62 #[.agg #[.string nm, .int .i64 fr, .int .i64 up, .int .i64 ep, .slice ao n cap]] w fun e w' => ∃ v, e = .returned (.agg #[.string nm, .int .i64 fr, .int .i64 up, .int .i64 ep, v]) ∧ ownsR w' w.heap.size 85 v st ∧ Below w.heap.size w w' := by
  have HR : Hid (∀ W, Below w.heap.size w W → Reads W (.slice ao n cap) st) := fun W hb => hr.below hb
  have HL : Hid (([] : List Sa).length + st.length ≤ 1048577) := by show _ ≤ _; rw [← hr.len]; simpa using hn
  clear hr hn
  go_enter Tryz.func62, Tryz.ntmps62
  obtain ⟨W0, hW⟩ : ∃ W, (w.alloc (.cells #[.string nm, .int .i64 fr, .int .i64 up, .int .i64 ep, .slice ao n cap] 31)).alloc (.cells #[.string ⟨#[]⟩, .int .i64 0, .int .i64 0, .int .i64 0, .slice none 0 0] 31) = W := ⟨_, rfl⟩
  have J0 : R5 W0 w.heap.size nm fr up ep (.slice ao n cap) := by rw [← hW]; exact (R5.new w nm fr up ep (.slice ao n cap)).on (ba (Below.refl _ _) _)
  have Z0 : R5 W0 (w.heap.size + 1) ⟨#[]⟩ 0 0 0 (.slice none 0 0) := by
    rw [← hW]
    have := R5.new (w.alloc (.cells #[.string nm, .int .i64 fr, .int .i64 up, .int .i64 ep, .slice ao n cap] 31)) ⟨#[]⟩ 0 0 0 (.slice none 0 0)
    simpa using this
  have B0 : Below w.heap.size w W0 := by rw [← hW]; exact ba (ba (Below.refl _ _) _) _
  have c0 := J0.c0
  go_wp2_with fail
  refine (clone_any nm _ hz).mono ?_
  rintro e w1 ⟨rfl, hb1⟩
  have J1 := J0.on hb1
  have Z1 := Z0.on hb1
  have B1 := Below.on B0 hb1
  clear c0 J0 Z0 B0 hb1 hW
  have d0 := J1.c0
  have f0 := J1.fz 0
  have J2 := J1.s0 nm
  have Z2 := Z1.far (a := ⟨w.heap.size, 0, none⟩) (by show w.heap.size ≠ w.heap.size + 1; omega) (.string nm)
  have B2 := Below.setCell (p := ⟨w.heap.size, 0, none⟩) B1 (Nat.le_refl _) (.string nm)
  obtain ⟨W2, hW2⟩ : ∃ W, w1.setCell ⟨w.heap.size, 0, none⟩ (.string nm) = W := ⟨_, rfl⟩
  rw [hW2] at J2 Z2 B2
  have J3 := J2.on (ba (Below.refl _ _) (.cells #[] 85))
  have Z3 := Z2.on (ba (Below.refl _ _) (.cells #[] 85))
  have B3 := ba B2 (.cells #[] 85)
  have O3 : ownsR (W2.alloc (.cells #[] 85)) w.heap.size 85 (.slice (some ⟨W2.heap.size, 0, none⟩) 0 0) ([] : List Sa) := ownsR_made0 (α := Sa) W2 w.heap.size 85 B2.size
  have R3 := HR.out _ B3
  have e4 := J3.c4
  go_wp2_with (at_builtin; refine wpList_append_recs rfl (.tmp 7) (.tmp 9) 29 rfl w.heap.size 85 _ 32 underSa infoSa rfl _ (.slice ao n cap) [] st (by rfl) (by rfl) O3 R3 (sa_one _) HL.out (by decide) B3.size ?_)
  intro v5 w5 ho5 hg5
  obtain ⟨a5, k5, c5, rfl⟩ := ho5.slice3
  have h1 := J2.lt
  have h2 := Z2.lt
  have J5 := J3.grown hg5 (by simp [Value.ownBlock]; omega)
  have Z5 := Z3.grown hg5 (by simp [Value.ownBlock]; omega)
  have B5 := B3.grown hg5 B3.size (by simp [Value.ownBlock]; omega)
  clear J1 J2 J3 Z1 Z2 Z3 B1 B2 B3 O3 R3 hg5 d0 f0 e4 hW2
  have j0 := J5.c0
  have j1 := J5.c1
  have j2 := J5.c2
  have j3 := J5.c3
  have j4 := J5.c4
  have jf := J5.fz
  have z0 := Z5.c0
  have z1 := Z5.c1
  have z2 := Z5.c2
  have z3 := Z5.c3
  have z4 := Z5.c4
  have zf := Z5.fz
  have J6 := J5.s4 (.slice a5 k5 c5)
  have Z6 := Z5.far (a := ⟨w.heap.size, 4, none⟩) (by simp) (.slice a5 k5 c5)
  have B6' := Below.setCell (p := ⟨w.heap.size, 4, none⟩) B5 (Nat.le_refl _) (.slice a5 k5 c5)
  have O6 : ownsR (w5.setCell ⟨w.heap.size, 4, none⟩ (.slice a5 k5 c5)) w.heap.size 85 (.slice a5 k5 c5) st := grown_put (w' := w5) ho5 _ (not_rowR5 J5 ho5)
  have Z7 := Z6.set nm fr up ep (.slice a5 k5 c5)
  have B7 := below_putR5 (g := w.heap.size + 1) B6' (by omega) nm fr up ep (.slice a5 k5 c5)
  have O7 := own_putR5 (b := w.heap.size + 1) O6 (not_rowR5 Z6 O6) nm fr up ep (.slice a5 k5 c5)
  go_wp2
  refine bodyPost_ret (ret_run1 rfl rfl Z7) rfl ⟨_, rfl, O7, B7⟩
end Go.Proofs.YtjmclcjhimcehaaGreatDoor

namespace Go.Proofs.YtjmclcjhimcehaaGreatDoor
open Go Go.RowKit
set_option linter.unusedVariables false

def noneR : Rr := ⟨⟨#[]⟩, 0, 0, 0, []⟩
def begR (r : Rr) (i tok til : Int) : Rr := if isN r.st i 0 = true then ⟨r.nm, r.fr, r.up, r.ep, beginS r.st i tok til⟩ else noneR
/-- A row of states that is not empty lies in a block of its own. -/
theorem own_some {W : World} {B : Nat} {v : Value} {l : List Sa} {k : Nat} {x : Sa} (ho : ownsR W B 85 v l) (hx : l[k]? = some x) : ∃ g c, v = .slice (some ⟨g, 0, none⟩) l.length c ∧ B ≤ g ∧ g < W.heap.size ∧ l.length ≤ c := by
  have hlt := ho.lt
  rcases ho.2 with ⟨_, h0⟩ | ⟨g, cap, cur, rfl, h1, _, h2, _⟩
  · have := (List.getElem?_eq_some_iff.1 hx).1
    omega
  · exact ⟨g, cap, rfl, h1, (hlt g rfl).2, h2⟩
end Go.Proofs.YtjmclcjhimcehaaGreatDoor
