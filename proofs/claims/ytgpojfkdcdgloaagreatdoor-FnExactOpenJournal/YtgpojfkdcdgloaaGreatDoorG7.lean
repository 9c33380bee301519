/-
  A text is cloned: the walk. Entries cloned and moved, and what is behind an index: the walks. The built-in copy over rows of records, each of as many cells, as a law of the walk. Over any program. Entries moved into a row of the call's own, and what is behind an index: the walks. The log behind an index, on both sides: the walks. The built-in append of a row of records behind another one, as a run. Over any program. The log behind an index, as the specification tells it: the walk. An entry put into a log: what is told, and what lies there: small facts.
-/
import Derived.Test.YtgpojfkdcdgloaaGreatDoorAid
import Derived.Test.YtgpojfkdcdgloaaGreatDoorG3
import Derived.Deep.QuietTactic
import Derived.BigQuiet
import Derived.Handy
import Derived.Test.YtgpojfkdcdgloaaGreatDoorG1
import Derived.Test.YtgpojfkdcdgloaaGreatDoorGn
import Derived.Laws.CopyRow
import Derived.Test.YtgpojfkdcdgloaaGreatDoorG5
namespace Go.Proofs.YtgpojfkdcdgloaaGreatDoor
open Go Go.RowKit

set_option maxHeartbeats 400000 in
theorem clone_any (s : ByteArray) (w : World) (h : s.size ≤ 1048576) :
    Calls Tryz.prog 73 #[.string s] w fun e w' => e = .returned (.string s) ∧ Below w.heap.size w w' := by
  go_enter Tryz.func73, Tryz.ntmps73
  go_wp2_with (go_at_call 88; refine (Tryz.stringslite_Clone _ _ (by omega)).mono ?_; rintro e w1 ⟨rfl, hb1⟩)
  go_ret
  exact ⟨rfl, hb1⟩
end Go.Proofs.YtgpojfkdcdgloaaGreatDoor

namespace Go.Proofs.YtgpojfkdcdgloaaGreatDoor
open Go Go.RowKit

theorem cell_on {B : Nat} {W x w2 : World} {p : Addr} {v : Value} (hb : Below x.heap.size x w2) (h : Below B W x) (hp : p.block < W.heap.size) (hc : x.cell? p = some v) : w2.cell? p = some v := (hb.cell (Nat.lt_of_lt_of_le hp h.size)).trans hc
theorem frozen_on {B : Nat} {W x w2 : World} {p : Addr} {v : Bool} (hb : Below x.heap.size x w2) (h : Below B W x) (hp : p.block < W.heap.size) (hc : x.frozen? p = v) : w2.frozen? p = v := (hb.frozen (Nat.lt_of_lt_of_le hp h.size)).trans hc
theorem ret_ent {fn : Func} {p : Tmp} {w : World} {g : Nat} {a b c : Value} {tmps : Array Value} (h : fn.results = #[.cell p 110]) (hp : tmps.getD p undef = .pointer (some ⟨g, 0, none⟩)) (h0 : w.cell? ⟨g, 0, none⟩ = some a) (h1 : w.cell? ⟨g, 1, none⟩ = some b) (h2 : w.cell? ⟨g, 2, none⟩ = some c) :
    (results fn tmps).run Tryz.prog w = .ok (.agg #[a, b, c]) w := by
  have hp' : tmps[p]?.getD undef = .pointer (some ⟨g, 0, none⟩) := by simpa using hp
  simp [results, h, hp', h0, h1, h2, asAddr, go_sem]

set_option maxHeartbeats 1000000 in
theorem cloned_any (t k : Int) (d : ByteArray) (w : World) (hd : d.size ≤ 1048576) :
    Calls Tryz.prog 118 #[.agg #[.int .i64 t, .int .i64 k, .string d]] w fun e w' => e = .returned (.agg #[.int .i64 t, .int .i64 k, .string d]) ∧ Below w.heap.size w w' := by
  go_enter Tryz.func118, Tryz.ntmps118
  go_wp2
  generalize hW : (w.alloc (Obj.cells #[.int .i64 t, .int .i64 k, .string d] 110)).alloc (Obj.cells #[.int .i64 0, .int .i64 0, .string { data := #[] }] 110) = W
  have hs : W.heap.size = w.heap.size + 2 := by subst hW; simp
  have e0 := Below.cellOf (B := w.heap.size + 1) (W := W) (p := ⟨w.heap.size, 0, none⟩) (v := .int .i64 t) (by simp) (by subst hW; simp [go_sem])
  have e1 := Below.cellOf (B := w.heap.size + 1) (W := W) (p := ⟨w.heap.size, 1, none⟩) (v := .int .i64 k) (by simp) (by subst hW; simp [go_sem])
  have e2 := Below.cellOf (B := w.heap.size + 1) (W := W) (p := ⟨w.heap.size, 2, none⟩) (v := .string d) (by simp) (by subst hW; simp [go_sem])
  have hw : Below w.heap.size w W := by subst hW; exact ba (ba (Below.refl _ _) _) _
  have x0 : W.cell? ⟨w.heap.size + 1, 0, none⟩ = some (.int .i64 0) := by subst hW; simp [go_sem]
  have x1 : W.cell? ⟨w.heap.size + 1, 1, none⟩ = some (.int .i64 0) := by subst hW; simp [go_sem]
  have x2 : W.cell? ⟨w.heap.size + 1, 2, none⟩ = some (.string ByteArray.empty) := by subst hW; simp [go_sem]; rfl
  have f0 : W.frozen? ⟨w.heap.size + 1, 0, none⟩ = false := by subst hW; simp [go_sem]
  have f1 : W.frozen? ⟨w.heap.size + 1, 1, none⟩ = false := by subst hW; simp [go_sem]
  have f2 : W.frozen? ⟨w.heap.size + 1, 2, none⟩ = false := by subst hW; simp [go_sem]
  clear hW
  go_region_held3 (fun w' => Below (w.heap.size + 1) W w') ((first | exact (Below.refl _ _).drew | exact (keep_on hb2 (by assumption) (by omega)) | exact (((Below.setCell (by assumption) (by simp) _).setCell (by simp) _).setCell (by simp) _))) ((go_at_call 73; refine (clone_any _ _ hd).mono ?_; rintro e w2 ⟨rfl, hb2⟩; have hS2 := keep_on (B := w.heap.size + 1) (W := W) hb2 (by assumption) (by omega); have q0 : w2.cell? ⟨w.heap.size + 1, 0, none⟩ = some (.int .i64 0) := cell_on (B := w.heap.size + 1) (W := W) hb2 (by assumption) (by simp; omega) (by first | assumption | exact x0); have q1 : w2.cell? ⟨w.heap.size + 1, 1, none⟩ = some (.int .i64 0) := cell_on (B := w.heap.size + 1) (W := W) hb2 (by assumption) (by simp; omega) (by first | assumption | exact x1); have q2 : w2.cell? ⟨w.heap.size + 1, 2, none⟩ = some (.string ByteArray.empty) := cell_on (B := w.heap.size + 1) (W := W) hb2 (by assumption) (by simp; omega) (by first | assumption | exact x2); have z0 : w2.frozen? ⟨w.heap.size + 1, 0, none⟩ = false := frozen_on (B := w.heap.size + 1) (W := W) hb2 (by assumption) (by simp; omega) (by first | assumption | exact f0); have z1 : w2.frozen? ⟨w.heap.size + 1, 1, none⟩ = false := frozen_on (B := w.heap.size + 1) (W := W) hb2 (by assumption) (by simp; omega) (by first | assumption | exact f1); have z2 : w2.frozen? ⟨w.heap.size + 1, 2, none⟩ = false := frozen_on (B := w.heap.size + 1) (W := W) hb2 (by assumption) (by simp; omega) (by first | assumption | exact f2)))
  go_wp2
  refine bodyPost_ret (ret_ent (a := .int .i64 t) (b := .int .i64 k) (c := .string d) rfl rfl (by simp [go_sem, q0]) (by simp [go_sem, q1]) (by simp [go_sem, q2])) rfl ?_
  exact ⟨rfl, (((hw.trans (hS2.mono (by omega))).setCell (p := ⟨w.heap.size + 1, 0, none⟩) (by simp) _).setCell (p := ⟨w.heap.size + 1, 1, none⟩) (by simp) _).setCell (p := ⟨w.heap.size + 1, 2, none⟩) (by simp) _⟩
end Go.Proofs.YtgpojfkdcdgloaaGreatDoor

namespace Go.Proofs.YtgpojfkdcdgloaaGreatDoor
open Go Go.RowKit
section
variable {α : Type} [Rec α]
open Rec

theorem flat_cell {l : List α} {j : Nat} {v : Value} (h : (l.flatMap cells)[j]? = some v) : ∃ x, l[j / width α]? = some x ∧ (cells x)[j % width α]? = some v := by
  have hpos : 0 < width α := Rec.pos
  have e := flat_at l (j / width α) (j % width α) (Nat.mod_lt _ hpos)
  rw [Nat.mul_comm, Nat.div_add_mod] at e
  rw [e] at h
  cases hx : l[j / width α]? with
  | none => rw [hx] at h; simp at h
  | some x => rw [hx] at h; exact ⟨x, rfl, h⟩

theorem run_copy_rec {P : Program} (w : World) (dT sT ty elem : TypeId) (g cap B : Nat) (a : Option Addr) (n sCap : Nat) (l zs : List α)
    (hu : P.underlying dT = some (.slice elem)) (hs : (P.info? elem).map (·.size) = some (width α))
    (ho : ownsR w B elem (.slice (some ⟨g, 0, none⟩) n cap) zs) (hr : Reads w (.slice a n sCap) l) (h1 : ∀ x ∈ l, ∀ v ∈ cells x, v.oneCell' = true) :
    ∃ w', (Builtin.copy_ #[dT, sT] ty #[.slice (some ⟨g, 0, none⟩) n cap, .slice a n sCap]).run P w = .ok (goInt n) w' ∧ ownsR w' B elem (.slice (some ⟨g, 0, none⟩) n cap) l ∧ w.grownBy w' (some g) := by
  have hn := hr.len
  have hzn := ho.reads.len
  cases hq : P.info? elem with
  | none => simp [hq] at hs
  | some i =>
  have hi : i.size = width α := by simpa [hq] using hs
  by_cases h0 : n = 0
  · subst h0
    have hl0 : l = [] := List.eq_nil_of_length_eq_zero hn.symm
    have hz0 : zs = [] := List.eq_nil_of_length_eq_zero hzn.symm
    subst hl0 hz0
    have hl : ∀ (x : Addr), (loadCells x 0).run P w = .ok #[] w := fun x => by simpa using run_loadCells_list (P := P) w x [] (by simp)
    refine ⟨w, ?_, ho, grown_refl _ _⟩
    cases a <;> simp [Builtin.copy_, run_underlying hu, Builtin.lenOf, Builtin.firstCells, sizeOf, typeInfo, hq, storeCells, hl]
  · obtain ⟨ao, cap', e, hc⟩ := hr
    simp only [Value.slice.injEq] at e
    obtain ⟨rfl, _, rfl⟩ := e
    obtain ⟨b, o, rfl, hlt, hcell⟩ := hc (by rintro rfl; simp at hn; omega)
    have hlen : (l.flatMap cells).length = n * width α := by rw [flat_length, ← hn]
    have hl : (loadCells ⟨b, o, none⟩ (n * width α)).run P w = .ok (l.flatMap cells).toArray w := by
      rw [← hlen]
      refine run_loadCells_list (P := P) w ⟨b, o, none⟩ _ fun j v hv => ?_
      obtain ⟨x, hx, hv⟩ := flat_cell hv
      have := hcell _ x hx _ v hv
      have hadd : (⟨b, o, none⟩ : Addr).add j = ⟨b, o + j, none⟩ := by unfold Addr.add; split <;> simp_all
      rw [hadd]
      rw [Nat.add_assoc, Nat.mul_comm, Nat.div_add_mod] at this
      exact this
    rcases ho.2 with ⟨hv, _⟩ | ⟨g', cap2, cur, hv, hBg, hg, hcap, hmax, hsz, htake⟩
    · simp at hv
    · simp only [Value.slice.injEq, Option.some.injEq, Addr.mk.injEq, and_true] at hv
      obtain ⟨rfl, _, rfl⟩ := hv
      have hfit : (l.flatMap cells).length ≤ cur.size := by rw [hlen, hsz]; exact Nat.mul_le_mul_right _ (by omega)
      have hst := run_storeCells_at P g 0 elem (l.flatMap cells) 0 cur w hg (by simpa using hfit) (fun v hv => by
        obtain ⟨x, hx, hv⟩ := List.mem_flatMap.1 hv
        exact h1 x hx v hv)
      simp only [Nat.zero_add, List.take_zero, List.nil_append] at hst
      refine ⟨w.setRow g (l.flatMap cells ++ cur.toList.drop (l.flatMap cells).length).toArray, ?_, ?_, ?_⟩
      · simp [Builtin.copy_, run_underlying hu, Builtin.lenOf, Builtin.firstCells, sizeOf, typeInfo, hq, hi, hl, hst]
      · refine ⟨by rw [flat_length], .inr ⟨g, cap, _, by rw [← hn], hBg, setRow_heap w g cur _ elem _ hg, by omega, hmax, ?_, ?_⟩⟩
        · simp only [List.size_toArray, List.length_append, List.length_drop, Array.length_toList]
          omega
        · rw [← hn, ← hlen]; simp
      · exact ⟨rfl, rfl, rfl, by simp [World.setRow], fun k _ hk => setRow_other w g k _ (fun e => hk (by rw [e]))⟩

/-- copy(out, list) where out is a row of the call's own, as long as list. -/
theorem wpList_copy_rec {P : Program} {w : World} {ops : Array Oper} {rest : List Oper} {o : Oper} {a : Act} {Q : Exit → Act → World → Prop} (hgd : o.guard = none) (d s : Operand) (dT sT : TypeId)
    (ho : o.op = .call { callee := .builtin .copy, args := #[d, s], argTypes := #[dT, sT] }) (elem : TypeId) (hu : P.underlying dT = some (.slice elem)) (hsz : (P.info? elem).map (·.size) = some (width α))
    (g n cap B : Nat) (sp : Option Addr) (sCap : Nat) (hd : a.eval d = .slice (some ⟨g, 0, none⟩) n cap) (hs : a.eval s = .slice sp n sCap) (l zs : List α)
    (hown : ownsR w B elem (.slice (some ⟨g, 0, none⟩) n cap) zs) (hr : Reads w (.slice sp n sCap) l) (h1 : ∀ x ∈ l, ∀ v ∈ cells x, v.oneCell' = true)
    (h : ∀ w', ownsR w' B elem (.slice (some ⟨g, 0, none⟩) n cap) l → w.grownBy w' (some g) → wpList P ops Q rest (a.put o.dst (goInt n)) w') :
    wpList P ops Q (o :: rest) a w := by
  refine wpList_plain hgd fun K hK => ?_
  obtain ⟨w', hrun, ho', hg'⟩ := run_copy_rec (P := P) w dT sT o.type elem g cap B sp n sCap l zs hu hsz hown hr h1
  unfold Oper.wp
  simp [execOp, ho, resolve, invoke, builtin, hd, hs, hrun, Result.andThen]
  exact hK _ _ (h w' ho' hg')
end
end Go.Proofs.YtgpojfkdcdgloaaGreatDoor

namespace Go.Proofs.YtgpojfkdcdgloaaGreatDoor
open Go Go.RowKit

theorem set_self {α : Type} {l : List α} {k : Nat} {x : α} (h : l[k]? = some x) : l.set k x = l := by
  apply List.ext_getElem?
  intro j
  rw [List.getElem?_set]
  by_cases e : k = j
  · subst e
    rw [if_pos rfl, if_pos (List.getElem?_eq_some_iff.1 h).1, h]
  · rw [if_neg e]
theorem en_one (l : List En) : ∀ x ∈ l, ∀ v ∈ Rec.cells x, v.oneCell' = true := by
  intro x _ v hv
  have hv : v ∈ [Value.int .i64 x.term, .int .i64 x.kind, .string x.data] := hv
  simp only [List.mem_cons, List.not_mem_nil, or_false] at hv
  rcases hv with rfl | rfl | rfl <;> rfl
theorem sizeInfoEn : (Tryz.prog.info? 110).map (·.size) = some (Rec.width En) := by kernel_rfl

set_option maxRecDepth 8000 in
set_option maxHeartbeats 1000000 in
theorem moved_try (ao : Option Addr) (n c : Nat) (l : List En) (w : World) (hr : Reads w (.slice ao n c) l) (hn : n ≤ 1048576) (hz : SizedE l) :
    Calls Tryz.prog 101 #[.slice ao n c] w fun e w' => ∃ v, e = .returned v ∧ ownsR w' w.heap.size 110 v l ∧ Below w.heap.size w w' := by
  obtain ⟨i0, hi0, hz0, hz1, hz2⟩ := info_parts infoEn
  have HR : Hid (Reads w (.slice ao n c) l) := hr
  have HN : Hid (n = l.length) := hr.len
  have HZ : Hid (SizedE l) := hz
  clear hr hz
  go_enter Tryz.func101, Tryz.ntmps101
  go_wp2_with (at_make; refine wpList_make_full _ rfl _ _ 26 rfl w.heap.size 110 i0 _ 3 underEn hi0 hz0 hz1 .i64 .i64 _ _ n rfl rfl rfl rfl (by rw [hz2]; omega) (by unfold maxLen; omega) (Nat.le_refl _) ?_; intro w1 ho hg)
  have ho1 : ownsR w1 w.heap.size 110 (.slice (some ⟨w.heap.size, 0, none⟩) n n) (List.replicate n (default : En)) := by
    rw [madeEn] at ho
    unfold ownsR
    rw [List.length_replicate]
    exact ho
  have hbel1 : Below w.heap.size w w1 := (Below.refl _ w).grown hg (Nat.le_refl _) (fun j hj => by cases hj)
  obtain ⟨w2, hrun, ho2, hg2⟩ := run_copy_rec (P := Tryz.prog) w1 26 26 3 110 w.heap.size n w.heap.size ao n c l _ underEn sizeInfoEn ho1 (HR.out.below hbel1) (en_one l)
  have hbel2 : Below w.heap.size w w2 := hbel1.grown hg2 hbel1.size fun k hk => by cases hk; exact Nat.le_refl _
  have HO2 : Hid (ownsR w2 w.heap.size 110 (.slice (some ⟨w.heap.size, 0, none⟩) n n) l) := ho2
  rw [hrun]
  clear hrun ho1 ho hbel1 hg hg2 ho2
  generalize hB : w.heap.size = B at *
  go_wp2
  go_loopw [14] (fun i wr => ∃ k : Nat, k ≤ n ∧ i = .int .i64 k ∧ Hid (ownsR wr B 110 (.slice (some ⟨B, 0, none⟩) n n) l) ∧ Below B w wr) (fun i _ => n - (intOf i).toNat)
  case atStart => exact ⟨0, Nat.zero_le _, rfl, HO2, hbel2⟩
  case round =>
    obtain ⟨k, hk, rfl, HO, hbel⟩ := hrel
    clear HO2 hbel2
    by_cases hlt : k < n
    · obtain ⟨f, hf⟩ : ∃ f, l[k]? = some f := ⟨_, List.getElem?_eq_getElem (by rw [← HN.out]; exact hlt)⟩
      have HF : Hid (l[k]? = some f) := hf
      have hd := HZ.out f (List.mem_of_getElem? hf)
      obtain ⟨hgs, ⟨d0, d1, d2⟩, f0, f1, f2⟩ := en_own HO.out hf
      clear hf
      have hbs : B ≤ wr.heap.size := Nat.le_of_lt hgs
      go_wp2_with (go_at_call 118; refine (cloned_any _ _ _ _ hd).mono ?_; rintro e w3 ⟨rfl, hb3⟩; have hb4 := below_new hb3; have d0' := cell_up hb4 d0; have d1' := cell_up hb4 d1; have d2' := cell_up hb4 d2; have f0' := frozen_up hb4 d0 f0; have f1' := frozen_up hb4 d1 f1; have f2' := frozen_up hb4 d2 f2)
      have R := en_put (HO.out.all hb4) f HF.out
      rw [set_self HF.out] at R
      clear d0 f0 d0' f0' d1 f1 d1' f1' d2 f2 d2' f2'
      go_roundw
      case rel => exact ⟨k + 1, by omega, by go_num, R, ((((hbel.trans (hb4.mono hbs)).setCell (p := ⟨B, k * 3, none⟩) (Nat.le_refl _) _).setCell (p := ⟨B, k * 3 + 1, none⟩) (Nat.le_refl _) _).setCell (p := ⟨B, k * 3 + 2, none⟩) (Nat.le_refl _) _)⟩
      case measure => simp [intOf]; omega
    · go_wp2
      go_ret
      subst hB
      exact ⟨_, rfl, HO.out, hbel⟩
theorem moved_any {w : World} {v : Value} {l : List En} (hr : Reads w v l) (hn : l.length ≤ 1048576) (hz : SizedE l) :
    Calls Tryz.prog 101 #[v] w fun e w' => ∃ v, e = .returned v ∧ ownsR w' w.heap.size 110 v l ∧ Below w.heap.size w w' := by
  obtain ⟨ao, c, rfl, _⟩ := id hr
  exact moved_try ao _ c l w hr hn hz
end Go.Proofs.YtgpojfkdcdgloaaGreatDoor

namespace Go.Proofs.YtgpojfkdcdgloaaGreatDoor
open Go Go.RowKit

/-- Whether a log is right, has the index, and has that term there. -/
def fitsL (s t : Int) (l : List En) (base term : Int) : Bool := okL s t l && hasL s l.length base && decide (termL s t l base = term)
/-- The entries of the log behind an index. -/
def behindL (s t : Int) (l : List En) (base term : Int) : List En := if fitsL s t l base term then l.drop (base - s).toNat else []
theorem behindL_no {s t : Int} {l : List En} {base term : Int} (h : fitsL s t l base term = false) : behindL s t l base term = [] := by simp [behindL, h]
theorem behindL_yes {s t : Int} {l : List En} {base term : Int} (h : fitsL s t l base term = true) : behindL s t l base term = l.drop (base - s).toNat := by simp [behindL, h]
theorem behindL_length (s t : Int) (l : List En) (base term : Int) : (behindL s t l base term).length ≤ l.length := by
  unfold behindL; split <;> simp

theorem cells3_new {w w' : World} {a b c : Value} {t : TypeId} (hb : Below (w.alloc (.cells #[a, b, c] t)).heap.size (w.alloc (.cells #[a, b, c] t)) w') :
    w'.cell? ⟨w.heap.size, 0, none⟩ = some a ∧ w'.cell? ⟨w.heap.size, 1, none⟩ = some b ∧ w'.cell? ⟨w.heap.size, 2, none⟩ = some c :=
  ⟨(hb.cell (by simp)).trans (by simp [go_sem]), (hb.cell (by simp)).trans (by simp [go_sem]), (hb.cell (by simp)).trans (by simp [go_sem])⟩

theorem Reads.slice3 {α : Type} [Rec α] {w : World} {v : Value} {l : List α} (h : Reads w v l) : ∃ a n c, v = .slice a n c := by
  obtain ⟨a, c, rfl, _⟩ := h
  exact ⟨a, _, c, rfl⟩
/-- What lies there in LogBehind: the log's box, the answer's, and the new one's. -/
structure B3 (w W : World) (s t base term : Int) (v : Value) : Prop where
  bel : Below w.heap.size w W
  size : w.heap.size + 3 ≤ W.heap.size
  a0 : W.cell? ⟨w.heap.size, 0, none⟩ = some (.int .i64 s)
  a1 : W.cell? ⟨w.heap.size, 1, none⟩ = some (.int .i64 t)
  a2 : W.cell? ⟨w.heap.size, 2, none⟩ = some v
  r0 : W.cell? ⟨w.heap.size + 1, 0, none⟩ = some (.int .i64 0)
  r1 : W.cell? ⟨w.heap.size + 1, 1, none⟩ = some (.int .i64 0)
  r2 : W.cell? ⟨w.heap.size + 1, 2, none⟩ = some (.slice none 0 0)
  b0 : W.cell? ⟨w.heap.size + 1 + 1, 0, none⟩ = some (.int .i64 base)
  b1 : W.cell? ⟨w.heap.size + 1 + 1, 1, none⟩ = some (.int .i64 term)
  b2 : W.cell? ⟨w.heap.size + 1 + 1, 2, none⟩ = some (.slice none 0 0)
  f0 : W.frozen? ⟨w.heap.size + 1, 0, none⟩ = false
  f1 : W.frozen? ⟨w.heap.size + 1, 1, none⟩ = false
  f2 : W.frozen? ⟨w.heap.size + 1, 2, none⟩ = false
  f3 : W.frozen? ⟨w.heap.size + 1 + 1, 2, none⟩ = false
theorem B3.up {w W W' : World} {s t base term : Int} {v : Value} (h : B3 w W s t base term v) (hb : Below W.heap.size W W') : B3 w W' s t base term v :=
  ⟨Below.on h.bel hb, Nat.le_trans h.size hb.size, cell_up hb h.a0, cell_up hb h.a1, cell_up hb h.a2, cell_up hb h.r0, cell_up hb h.r1, cell_up hb h.r2, cell_up hb h.b0, cell_up hb h.b1, cell_up hb h.b2, frozen_up hb h.r0 h.f0, frozen_up hb h.r1 h.f1, frozen_up hb h.r2 h.f2, frozen_up hb h.b2 h.f3⟩
theorem b3_new (w : World) (s t base term : Int) (v : Value) : B3 w (((w.alloc (Obj.cells #[.int .i64 s, .int .i64 t, v] 28)).alloc (Obj.cells #[.int .i64 0, .int .i64 0, .slice none 0 0] 28)).alloc (Obj.cells #[.int .i64 base, .int .i64 term, .slice none 0 0] 28)) s t base term v := by
  refine ⟨ba (ba (ba (Below.refl _ _) _) _) _, by simp, ?_, ?_, ?_, ?_, ?_, ?_, ?_, ?_, ?_, ?_, ?_, ?_, ?_⟩ <;> simp [go_sem]

end Go.Proofs.YtgpojfkdcdgloaaGreatDoor

namespace Go.Proofs.YtgpojfkdcdgloaaGreatDoor
open Go Go.RowKit
section
variable {α : Type} [Rec α]
open Rec
/-- A row without anything that was just made. -/
theorem ownsR_made0 (w : World) (B : Nat) (e : TypeId) (hB : B ≤ w.heap.size) : ownsR (w.alloc (.cells #[] e)) B e (.slice (some ⟨w.heap.size, 0, none⟩) 0 0) ([] : List α) :=
  World.ownsRow_made w #[] 0 hB (Nat.zero_le _) (by simp)
theorem run_append_recs {P : Program} (w : World) (B : Nat) (t ty e : TypeId) (z : Value) (bytes : Nat) (ht : P.underlying t = some (.slice e)) (hi : (P.info? e).map (fun i => (i.zero, i.size, i.bytes)) = some (some z, width α, bytes)) (hz : z.cells.size = width α)
    (v v2 : Value) (l1 l2 : List α) (hown : ownsR w B e v l1) (hr : Reads w v2 l2) (h1 : ∀ x ∈ l2, ∀ u ∈ cells x, u.oneCell' = true) (hlen : l1.length + l2.length ≤ 1048577) (hby : bytes ≤ 134217000) (hB : B ≤ w.heap.size) :
    ∃ v' w', (Builtin.append_ #[t, t] ty #[v, v2]).run P w = .ok v' w' ∧ ownsR w' B e v' (l1 ++ l2) ∧ w.grownBy w' v.ownBlock := by
  obtain ⟨i0, hi0, hz0, hz1, hz2⟩ := info_parts hi
  have hbytes : (l1.length + l2.length) * bytes ≤ 140737488355328 := by
    have : (l1.length + l2.length) * bytes ≤ 1048577 * 134217000 := Nat.mul_le_mul hlen hby
    omega
  have h63 : l1.length + l2.length ≤ maxLen := by unfold maxLen; omega
  have hone : ∀ u ∈ l2.flatMap cells, u.oneCell' = true := fun u hu => by
    obtain ⟨x, hx, hu⟩ := List.mem_flatMap.1 hu
    exact h1 x hx u hu
  obtain ⟨ao, cap, rfl, hc⟩ := hr
  cases ao with
  | none =>
    have h0 : l2 = [] := by
      cases l2 with
      | nil => rfl
      | cons x r => obtain ⟨b, o, e, _⟩ := hc (by simp); cases e
    subst h0
    refine ⟨v, w, ?_, by simpa using hown, grown_refl _ _⟩
    rcases hown.2 with ⟨rfl, h0⟩ | ⟨g, cap, cur, rfl, _, _, hnc, _⟩
    · simp [Builtin.append_, run_underlying ht, sizeOf, typeInfo, hi0, Builtin.lenOf, Builtin.firstCells]
    · simp [Builtin.append_, run_underlying ht, sizeOf, typeInfo, hi0, Builtin.lenOf, Builtin.firstCells, hnc, storeCells]
  | some a =>
    obtain ⟨v', w', hrun, ho, hg, _⟩ := run_append_own (P := P) (w := w) B t ty e i0 z (width α) bytes ht hi0 hz0 hz1 hz2 hz Rec.pos v l1.length _ hown a l2.length cap (l2.flatMap cells) (flat_length l2) (fun j u hj => by
      obtain ⟨x, hx, hu⟩ := flat_cell hj
      obtain ⟨b, o, e, _, hcell⟩ := hc (by rintro rfl; simp at hx)
      cases e
      have := hcell _ x hx _ u hu
      have hadd : (⟨b, o, none⟩ : Addr).add j = ⟨b, o + j, none⟩ := by unfold Addr.add; split <;> simp_all
      rw [hadd]
      rw [Nat.add_assoc, Nat.mul_comm, Nat.div_add_mod] at this
      exact this) hone h63 hbytes hB
    exact ⟨v', w', hrun, by simpa [ownsR, List.flatMap_append] using ho, hg⟩
/-- append(s, x...) where s is a row of the call's own. -/
theorem wpList_append_recs {P : Program} {w : World} {ops : Array Oper} {rest : List Oper} {o : Oper} {a : Act} {Q : Exit → Act → World → Prop} (hgd : o.guard = none) (s x : Operand) (t : TypeId)
    (ho : o.op = .call { callee := .builtin .append, args := #[s, x], argTypes := #[t, t] }) (B : Nat) (e : TypeId) (z : Value) (bytes : Nat) (ht : P.underlying t = some (.slice e)) (hi : (P.info? e).map (fun i => (i.zero, i.size, i.bytes)) = some (some z, width α, bytes)) (hz : z.cells.size = width α)
    (v v2 : Value) (l1 l2 : List α) (hs : a.eval s = v) (hx : a.eval x = v2) (hown : ownsR w B e v l1) (hr : Reads w v2 l2) (h1 : ∀ x ∈ l2, ∀ u ∈ cells x, u.oneCell' = true) (hlen : l1.length + l2.length ≤ 1048577) (hby : bytes ≤ 134217000) (hB : B ≤ w.heap.size)
    (h : ∀ v' w', ownsR w' B e v' (l1 ++ l2) → w.grownBy w' v.ownBlock → wpList P ops Q rest (a.put o.dst v') w') : wpList P ops Q (o :: rest) a w := by
  refine wpList_plain hgd fun K hK => ?_
  obtain ⟨v', w', hrun, ho', hg'⟩ := run_append_recs (P := P) w B t o.type e z bytes ht hi hz v v2 l1 l2 hown hr h1 hlen hby hB
  unfold Oper.wp
  simp [execOp, ho, resolve, invoke, builtin, hs, hx, hrun, Result.andThen]
  exact hK _ _ (h v' w' ho' hg')
/-- The same as one step of a region that draws its order. -/
theorem step_append_recs {P : Program} {ops : Array Oper} {o : Oper} {a : Act} {w : World} {K : Act → World → Prop} {Q : Exit → Act → World → Prop} {E : Prop} (hgd : o.guard = none) (s x : Operand) (t : TypeId)
    (ho : o.op = .call { callee := .builtin .append, args := #[s, x], argTypes := #[t, t] }) (B : Nat) (e : TypeId) (z : Value) (bytes : Nat) (ht : P.underlying t = some (.slice e)) (hi : (P.info? e).map (fun i => (i.zero, i.size, i.bytes)) = some (some z, width α, bytes)) (hz : z.cells.size = width α)
    (v v2 : Value) (l1 l2 : List α) (hs : a.eval s = v) (hx : a.eval x = v2) (hown : ownsR w B e v l1) (hr : Reads w v2 l2) (h1 : ∀ x ∈ l2, ∀ u ∈ cells x, u.oneCell' = true) (hlen : l1.length + l2.length ≤ 1048577) (hby : bytes ≤ 134217000) (hB : B ≤ w.heap.size)
    (h : ∀ v' w', ownsR w' B e v' (l1 ++ l2) → w.grownBy w' v.ownBlock → K (a.put o.dst v') w') :
    if Region.wanted o (yielded ops a.tmps) = true then Oper.wp P o a w K Q else E := by
  have hw : Region.wanted o (yielded ops a.tmps) = true := by simp [Region.wanted, hgd]
  rw [if_pos hw]
  obtain ⟨v', w', hrun, ho', hg'⟩ := run_append_recs (P := P) w B t o.type e z bytes ht hi hz v v2 l1 l2 hown hr h1 hlen hby hB
  unfold Oper.wp
  simp [execOp, ho, resolve, invoke, builtin, hs, hx, hrun, Result.andThen]
  exact h v' w' ho' hg'
end
end Go.Proofs.YtgpojfkdcdgloaaGreatDoor

namespace Go.Proofs.YtgpojfkdcdgloaaGreatDoor
open Go Go.RowKit

end Go.Proofs.YtgpojfkdcdgloaaGreatDoor

namespace Go.Proofs.YtgpojfkdcdgloaaGreatDoor
open Go Go.RowKit

/-- Where an entry may be put. -/
def inP (s : Int) (n : Nat) (i : Int) : Bool := decide (s + 1 ≤ i) && decide (i ≤ s + n + 1)
def putsL (s : Int) (l : List En) (i : Int) (e : En) : List En := l.take (i - s - 1).toNat ++ [e]
def putB (s t : Int) (l : List En) (i : Int) (e : En) : Bool := okL s t l && inP s l.length i && okL s t (putsL s l i e)
def putE (s t : Int) (l : List En) (i : Int) (e : En) : List En := if putB s t l i e then putsL s l i e else []
def putS (s t : Int) (l : List En) (i : Int) (e : En) : Int := if putB s t l i e then s else 0
def putT (s t : Int) (l : List En) (i : Int) (e : En) : Int := if putB s t l i e then t else 0
theorem putE_length (s t : Int) (l : List En) (i : Int) (e : En) : (putE s t l i e).length ≤ l.length + 1 := by
  unfold putE putsL; split <;> simp; omega
theorem lastI_in {s : Int} {l : List En} (h0 : 0 ≤ s) (h1 : s ≤ 1000000) (h4 : l.length ≤ 60) : lastI s l = s + l.length := by
  unfold lastI
  split
  · omega
  · unfold wrap64; omega
/-- What lies there in LogPut: the log's box, the entry's, and the answer's. -/
structure P3 (w W : World) (s t tm kd : Int) (d : ByteArray) (v : Value) : Prop where
  bel : Below w.heap.size w W
  size : w.heap.size + 3 ≤ W.heap.size
  a0 : W.cell? ⟨w.heap.size, 0, none⟩ = some (.int .i64 s)
  a1 : W.cell? ⟨w.heap.size, 1, none⟩ = some (.int .i64 t)
  a2 : W.cell? ⟨w.heap.size, 2, none⟩ = some v
  e0 : W.cell? ⟨w.heap.size + 1, 0, none⟩ = some (.int .i64 tm)
  e1 : W.cell? ⟨w.heap.size + 1, 1, none⟩ = some (.int .i64 kd)
  e2 : W.cell? ⟨w.heap.size + 1, 2, none⟩ = some (.string d)
  r0 : W.cell? ⟨w.heap.size + 1 + 1, 0, none⟩ = some (.int .i64 0)
  r1 : W.cell? ⟨w.heap.size + 1 + 1, 1, none⟩ = some (.int .i64 0)
  r2 : W.cell? ⟨w.heap.size + 1 + 1, 2, none⟩ = some (.slice none 0 0)
  f0 : W.frozen? ⟨w.heap.size + 1 + 1, 0, none⟩ = false
  f1 : W.frozen? ⟨w.heap.size + 1 + 1, 1, none⟩ = false
  f2 : W.frozen? ⟨w.heap.size + 1 + 1, 2, none⟩ = false
theorem P3.up {w W W' : World} {s t tm kd : Int} {d : ByteArray} {v : Value} (h : P3 w W s t tm kd d v) (hb : Below W.heap.size W W') : P3 w W' s t tm kd d v :=
  ⟨Below.on h.bel hb, Nat.le_trans h.size hb.size, cell_up hb h.a0, cell_up hb h.a1, cell_up hb h.a2, cell_up hb h.e0, cell_up hb h.e1, cell_up hb h.e2, cell_up hb h.r0, cell_up hb h.r1, cell_up hb h.r2, frozen_up hb h.r0 h.f0, frozen_up hb h.r1 h.f1, frozen_up hb h.r2 h.f2⟩
theorem P3.below {w W W' : World} {s t tm kd : Int} {d : ByteArray} {v : Value} {B : Nat} (h : P3 w W s t tm kd d v) (hb : Below B W W') (hB : w.heap.size + 3 ≤ B) : P3 w W' s t tm kd d v :=
  ⟨h.bel.trans (hb.mono (by omega)), Nat.le_trans h.size hb.size, (hb.cell (by simp; omega)).trans h.a0, (hb.cell (by simp; omega)).trans h.a1, (hb.cell (by simp; omega)).trans h.a2, (hb.cell (by simp; omega)).trans h.e0, (hb.cell (by simp; omega)).trans h.e1, (hb.cell (by simp; omega)).trans h.e2, (hb.cell (by simp; omega)).trans h.r0, (hb.cell (by simp; omega)).trans h.r1, (hb.cell (by simp; omega)).trans h.r2, (hb.frozen (by simp; omega)).trans h.f0, (hb.frozen (by simp; omega)).trans h.f1, (hb.frozen (by simp; omega)).trans h.f2⟩
theorem p3_new (w : World) (s t tm kd : Int) (d : ByteArray) (v : Value) : P3 w (((w.alloc (Obj.cells #[.int .i64 s, .int .i64 t, v] 28)).alloc (Obj.cells #[.int .i64 tm, .int .i64 kd, .string d] 110)).alloc (Obj.cells #[.int .i64 0, .int .i64 0, .slice none 0 0] 28)) s t tm kd d v := by
  refine ⟨ba (ba (ba (Below.refl _ _) _) _) _, by simp, ?_, ?_, ?_, ?_, ?_, ?_, ?_, ?_, ?_, ?_, ?_, ?_⟩ <;> simp [go_sem]
theorem frozen_other {w w' : World} {r : Option Nat} {p : Addr} {b : Bool} {u : Value} (hc : w.cell? p = some u) (h : w.frozen? p = b) (hg : w.grownBy w' r) (hne : some p.block ≠ r) : w'.frozen? p = b :=
  (World.frozen?_of_block (hg.block p.block (World.block_lt_of_cell? w p hc) hne)).trans h
/-- An entry laid into a row of its own. -/
theorem reads_built (w : World) (f : En) : Reads (w.alloc (.cells #[.int .i64 f.term, .int .i64 f.kind, .string f.data] 110)) (.slice (some ⟨w.heap.size, 0, none⟩) 1 1) [f] := by
  refine ⟨_, 1, rfl, fun _ => ⟨w.heap.size, 0, rfl, by simp, fun i x hx j u hu => ?_⟩⟩
  cases i with
  | succ i => simp at hx
  | zero =>
    simp only [List.getElem?_cons_zero, Option.some.injEq] at hx
    subst hx
    have hu : [Value.int .i64 f.term, .int .i64 f.kind, .string f.data][j]? = some u := hu
    match j, hu with
    | 0, hu => simp at hu; subst hu; simp [go_sem]
    | 1, hu => simp at hu; subst hu; simp [go_sem]
    | 2, hu => simp at hu; subst hu; simp [go_sem]
    | j + 3, hu => simp at hu
end Go.Proofs.YtgpojfkdcdgloaaGreatDoor
