/-
  A task copied by the program, its row of names new: the walk. A plan copied by the program, its rows new, each between blocks of its own: the walk. How a task's state is asked for by its place: the walks. A run with its states anew, on both sides: the walks.
-/
import Derived.Test.YtkfhmeiiicidaaaCln
import Derived.Test.YtkfhmeiiicidaaaAr
import Derived.Test.YtkfhmeiiicidaaaPk2
import Derived.Test.YtkfhmeiiicidaaaX3
import Derived.Maps.AppendAt
import Derived.Test.YtkfhmeiiicidaaaSts
import Derived.Test.YtkfhmeiiicidaaaR5s
import Derived.Test.YtkfhmeiiicidaaaRlh
namespace Go.Proofs.Ytkfhmeiiicidaaa
open Go Go.RowKit
set_option linter.unusedVariables false

theorem B5.on' {t : TypeId} {W W' : World} {b : Nat} {x0 x1 x2 x3 x4 : Value} (h : B5 t W b x0 x1 x2 x3 x4) (hb : Below W.heap.size W W') : B5 t W' b x0 x1 x2 x3 x4 := h.up hb
/-- What lies there while a task is copied. -/
structure TcS (w : World) (nm po : ByteArray) (rt : Int) (pa : Bool) (l : List ByteArray) (v : Value) (W : World) : Prop where
  x : B5 109 W w.heap.size (.string nm) (.string po) (.int .i64 rt) (.bool pa) v
  z : B5 109 W (w.heap.size + 1) (.string ⟨#[]⟩) (.string ⟨#[]⟩) (.int .i64 0) (.bool false) (.slice none 0 0)
  own : ownsR W (w.heap.size + 2) 9 v l
  bel : Below w.heap.size w W
theorem TcS.up {w : World} {nm po : ByteArray} {rt : Int} {pa : Bool} {l : List ByteArray} {v : Value} {W W' : World} (h : TcS w nm po rt pa l v W) (hb : Below W.heap.size W W') : TcS w nm po rt pa l v W' := ⟨h.x.up hb, h.z.up hb, h.own.all hb, h.bel.trans (hb.mono h.bel.size)⟩
theorem TcS.more {w : World} {nm po : ByteArray} {rt : Int} {pa : Bool} {l l' : List ByteArray} {v v' : Value} {W W' : World} (h : TcS w nm po rt pa l v W) (hg : W.grownBy W' v.ownBlock) (ho : ownsR W' (w.heap.size + 2) 9 v' l') : TcS w nm po rt pa l' v' (W'.setCell ⟨w.heap.size, 4, none⟩ v') := by
  have hne : ∀ b, b < w.heap.size + 2 → some b ≠ v.ownBlock := fun b hb e => by have := (h.own.lt b e.symm).1; omega
  refine ⟨(h.x.grown hg (hne _ (by omega))).s4 v', (h.z.grown hg (hne _ (by omega))).far (p := ⟨w.heap.size, 4, none⟩) (by show w.heap.size ≠ w.heap.size + 1; omega) v', ho.setB (by show w.heap.size < w.heap.size + 2; omega) v', ?_⟩
  exact (h.bel.trans (⟨hg.os, hg.tape, hg.output, hg.size, fun k hk => hg.block k (Nat.lt_of_lt_of_le hk h.bel.size) (hne k (by omega))⟩)).setCell (p := ⟨w.heap.size, 4, none⟩) (Nat.le_refl _) v'
/-- A world in which nothing has turned that lay there, but for one block. -/
structure Wg (w : World) (r : Option Nat) where
  at' : World
  ok : w.grownBy at' r
instance {w : World} {r : Option Nat} : Nonempty (Wg w r) := ⟨⟨w, grown_of_below (Below.refl _ _) r⟩⟩
theorem Wg.cell {w : World} {r : Option Nat} {a : Addr} {v : Value} (h : w.cell? a = some v) (hr : some a.block ≠ r) : ∀ x : Wg w r, x.at'.cell? a = some v := fun x => by
  have := x.ok.block _ (World.block_lt_of_cell? w a h) hr
  simpa [World.cell?, this] using h
theorem tx_one (l : List ByteArray) : ∀ x ∈ l, ∀ u ∈ Rec.cells x, u.oneCell' = true := by
  intro x _ u hu
  simp only [Rec.cells, List.mem_singleton] at hu
  subst hu
  rfl
theorem reads_one1 (w : World) (t : ByteArray) : Reads (w.alloc (.cells #[.string t] 9)) (.slice (some ⟨w.heap.size, 0, none⟩) 1 1) [t] := by
  refine ⟨some ⟨w.heap.size, 0, none⟩, 1, rfl, fun _ => ⟨w.heap.size, 0, rfl, by simp, fun i x hi j u hu => ?_⟩⟩
  have hi0 : i = 0 := by have := (List.getElem?_eq_some_iff.1 hi).1; simp at this; omega
  subst hi0
  simp at hi
  subst hi
  have hj : j < 1 := (List.getElem?_eq_some_iff.1 hu).1
  have hj0 : j = 0 := by omega
  subst hj0
  cases hu
  have e : (w.alloc (.cells #[.string t] 9)).heap[w.heap.size]? = some (.cells #[.string t] 9) := by
    show (w.heap.push _)[w.heap.size]? = _
    rw [Array.getElem?_push, if_pos rfl]
  generalize w.alloc (.cells #[.string t] 9) = W at e
  simp [World.cell?, e]
set_option maxRecDepth 10000 in
set_option maxHeartbeats 4000000 in
theorem taskCloned_any (nm po : ByteArray) (rt : Int) (pa : Bool) (fo : Option Addr) (m fc : Nat) (af : List ByteArray) (w : World) (hr : Reads w (.slice fo m fc) af) (hm : m ≤ 1048576) (h1 : nm.size ≤ 1048576) (h2 : po.size ≤ 1048576) (h3 : ∀ s ∈ af, s.size ≤ 1048576) :
    Calls Try.prog 69 #[.agg #[.string nm, .string po, .int .i64 rt, .bool pa, .slice fo m fc]] w fun e w' => ∃ v, e = .returned (.agg #[.string nm, .string po, .int .i64 rt, .bool pa, v]) ∧ ownsR w' w.heap.size 9 v af ∧ Below w.heap.size w w' := by
  have HN : Hid (af.length = m) := hr.len.symm
  have HR : Hid (∀ W, Below w.heap.size w W → Reads W (.slice fo m fc) af) := fun W hb => hr.below hb
  have H3 : Hid (∀ s ∈ af, ∀ W, Calls Try.prog 48 #[.string s] W fun e w' => e = .returned (.string s) ∧ Below W.heap.size W w') := fun s hs W => clone_any s W (h3 s hs)
  have H1 : Hid (∀ W, Calls Try.prog 48 #[.string nm] W fun e w' => e = .returned (.string nm) ∧ Below W.heap.size W w') := fun W => clone_any nm W h1
  have H2 : Hid (∀ W, Calls Try.prog 48 #[.string po] W fun e w' => e = .returned (.string po) ∧ Below W.heap.size W w') := fun W => clone_any po W h2
  clear hr h1 h2 h3
  obtain ⟨W0, HW0⟩ : ∃ W, Hid ((w.alloc (.cells #[.string nm, .string po, .int .i64 rt, .bool pa, .slice fo m fc] 109)).alloc (.cells #[.string ⟨#[]⟩, .string ⟨#[]⟩, .int .i64 0, .bool false, .slice none 0 0] 109) = W) := ⟨_, rfl⟩
  have X0 : B5 109 W0 w.heap.size (.string nm) (.string po) (.int .i64 rt) (.bool pa) (.slice fo m fc) := by rw [← HW0.out]; exact (B5.new _ _ _ _ _ _ _).alloc _
  have Z0 : B5 109 W0 (w.heap.size + 1) (.string ⟨#[]⟩) (.string ⟨#[]⟩) (.int .i64 0) (.bool false) (.slice none 0 0) := by
    rw [← HW0.out]
    have := B5.new 109 (w.alloc (.cells #[.string nm, .string po, .int .i64 rt, .bool pa, .slice fo m fc] 109)) (.string ⟨#[]⟩) (.string ⟨#[]⟩) (.int .i64 0) (.bool false) (.slice none 0 0)
    simpa using this
  have B0 : Below w.heap.size w W0 := by rw [← HW0.out]; exact ba (ba (Below.refl _ _) _) _
  go_enter Try.func69, Try.ntmps69
  go_wp2_with fail
  rw [HW0.out]
  have hdr : Below W0.heap.size W0 W0.drew := (Below.refl _ _).drew
  have q0 := Wd.cell X0.c0
  have q1 := Wd.cell X0.c1
  refine wp_region_pick (fun w' => ∃ x : Wd W0, w' = x.at') [0, 1, 3, 4] 7 3 (by kernel_rfl) (by decide) (by decide) (by kernel_rfl) (fun _ _ d _ _ h => by cases d <;> exact h) ⟨⟨W0.drew, hdr⟩, rfl⟩ ?_
  (repeat (refine wpTakes_l rfl (by first | (intro x h; cases h; done) | (intro x h; cases h; exact ⟨_, rfl⟩)) ?_; go_big_quiet_step (fail); refine wpQuiet_nil ?_)); refine takes_nil ?_
  refine pk_oneW (fuel := 2) (i := 2) (by kernel_rfl) rfl (by kernel_rfl) ?_
  intro K hK
  go_wp2_with fail
  refine (H1.out _).mono ?_
  rintro e w1 ⟨rfl, hb1⟩
  have B1 : Below W0.heap.size W0 w1 := Below.on hdr hb1
  clear hb1
  go_wp2
  refine hK.out _ _ ⟨⟨w1, B1⟩, rfl⟩ ?_
  clear hK K
  refine pk_takes [6] 7 1 ⟨⟨w1, B1⟩, rfl⟩ (by kernel_rfl) (fun _ _ d _ _ h => by cases d <;> exact h) ?_
  (repeat (refine wpTakes_l rfl (by first | (intro x h; cases h; done) | (intro x h; cases h; exact ⟨_, rfl⟩)) ?_; go_big_quiet_step (fail); refine wpQuiet_nil ?_)); refine takes_nil ?_
  refine pk_oneW (fuel := 0) (i := 5) (by kernel_rfl) rfl (by kernel_rfl) ?_
  intro K hK
  go_wp2_with fail
  refine (H2.out _).mono ?_
  rintro e w2 ⟨rfl, hb2⟩
  have B2 : Below W0.heap.size W0 w2 := Below.on B1 hb2
  clear hb2
  go_wp2
  refine hK.out _ _ ⟨⟨w2, B2⟩, rfl⟩ ?_
  clear hK K
  refine any_done (by kernel_rfl) ?_
  simp only [List.drop_succ_cons, List.drop_zero]
  have X2 := X0.up B2
  have Z2 := Z0.up B2
  have BW2 := Below.on B0 B2
  clear q0 q1 B1 B2 hdr X0 Z0 B0 HW0 H1 H2
  have c0 := X2.c0
  have c1 := X2.c1
  have c4 := X2.c4
  have f0 := X2.fr 0
  have f1 := X2.fr 1
  have f4 := X2.fr 4
  obtain ⟨V, HV⟩ : ∃ V, Hid (((w2.setCell ⟨w.heap.size, 0, none⟩ (.string nm)).setCell ⟨w.heap.size, 1, none⟩ (.string po)).setCell ⟨w.heap.size, 4, none⟩ (.slice none 0 0) = V) := ⟨_, rfl⟩
  have HS : Hid (TcS w nm po rt pa (af.take 0) (.slice none 0 0) V) := by
    rw [← HV.out]
    refine ⟨((X2.s0 _).s1 _).s4 _, ((Z2.far (p := ⟨w.heap.size, 0, none⟩) (by show w.heap.size ≠ w.heap.size + 1; omega) _).far (p := ⟨w.heap.size, 1, none⟩) (by show w.heap.size ≠ w.heap.size + 1; omega) _).far (p := ⟨w.heap.size, 4, none⟩) (by show w.heap.size ≠ w.heap.size + 1; omega) _, ownsR_nil _ _ _, ?_⟩
    exact ((BW2.setCell (p := ⟨w.heap.size, 0, none⟩) (Nat.le_refl _) _).setCell (p := ⟨w.heap.size, 1, none⟩) (Nat.le_refl _) _).setCell (p := ⟨w.heap.size, 4, none⟩) (Nat.le_refl _) _
  go_wp2
  rw [HV.out]
  clear c0 c1 c4 f0 f1 f4 X2 Z2 BW2 HV
  go_loopw [19] (fun i wr => ∃ (k : Nat) (v : Value), k ≤ m ∧ i = .int .i64 k ∧ Hid (TcS w nm po rt pa (af.take k) v wr)) (fun i _ => m - (intOf i).toNat)
  case atStart => exact ⟨0, _, Nat.zero_le _, rfl, HS⟩
  case round =>
    clear HS
    obtain ⟨k, v, hk, rfl, HS⟩ := hrel
    by_cases hlt : k < m
    · obtain ⟨t, ht⟩ : ∃ t, af[k]? = some t := ⟨_, List.getElem?_eq_getElem (by rw [HN.out]; exact hlt)⟩
      obtain ⟨b', o, rfl, hb, c0⟩ := text_at (HR.out wr HS.out.bel) ht
      have HC : Hid (∀ W, Calls Try.prog 48 #[.string t] W fun e w' => e = .returned (.string t) ∧ Below W.heap.size W w') := H3.out t (List.mem_of_getElem? ht)
      have HTK : Hid (af.take (k + 1) = af.take k ++ [t]) := by show _ = _; rw [List.take_add_one, ht]; rfl
      have HLN : Hid ((af.take k).length + [t].length ≤ 1048577) := by show _ ≤ _; rw [List.length_take]; simp; omega
      obtain ⟨va, vn, vc, rfl⟩ := HS.out.own.slice3
      have hne : ∀ b, b < w.heap.size + 2 → some b ≠ (Value.slice va vn vc).ownBlock := fun b hb e => by have := (HS.out.own.lt b e.symm).1; omega
      have q4 := Wg.cell (r := (Value.slice va vn vc).ownBlock) HS.out.x.c4 (hne w.heap.size (by omega))
      have hdr : wr.grownBy wr.drew (Value.slice va vn vc).ownBlock := grown_of_below (Below.refl _ _).drew _
      go_wp2_with fail
      refine wp_region_pick (fun w' => ∃ x : Wg wr (Value.slice va vn vc).ownBlock, w' = x.at') [0, 1, 2] 6 3 (by kernel_rfl) (by decide) (by decide) (by kernel_rfl) (fun _ _ d _ _ h => by cases d <;> exact h) ⟨⟨wr.drew, hdr⟩, rfl⟩ ?_
      (repeat (refine wpTakes_l rfl (by first | (intro x h; cases h; done) | (intro x h; cases h; exact ⟨_, rfl⟩)) ?_; go_big_quiet_step (fail); refine wpQuiet_nil ?_)); refine takes_nil ?_
      refine pk_oneW (fuel := 2) (i := 3) (by kernel_rfl) rfl (by kernel_rfl) ?_
      intro K hK
      go_wp2_with fail
      refine (HC.out _).mono ?_
      rintro e w1 ⟨rfl, hb1⟩
      have B1 : Below wr.heap.size wr w1 := Below.on (Below.refl _ _).drew hb1
      clear hb1
      go_wp2
      refine hK.out _ _ ⟨⟨w1, grown_of_below B1 _⟩, rfl⟩ ?_
      clear hK K
      refine pk_oneW (fuel := 1) (i := 4) (by kernel_rfl) rfl (by kernel_rfl) ?_
      intro K hK
      go_wp2
      have B2 : Below wr.heap.size wr (w1.alloc (.cells #[.string t] 9)) := ba B1 _
      refine hK.out _ _ ⟨⟨_, grown_of_below B2 _⟩, rfl⟩ ?_
      clear hK K
      obtain ⟨g1, HG1⟩ : ∃ g1, Hid (w1.heap.size = g1) := ⟨_, rfl⟩
      have RD : Hid (Reads (w1.alloc (.cells #[.string t] 9)) (.slice (some ⟨g1, 0, none⟩) 1 1) [t]) := by rw [← HG1.out]; exact reads_one1 w1 t
      obtain ⟨W2, HW2⟩ : ∃ W2, Hid (w1.alloc (.cells #[.string t] 9) = W2) := ⟨_, rfl⟩
      rw [HW2.out] at B2 RD
      rw [HW2.out, HG1.out]
      have HS2 : Hid (TcS w nm po rt pa (af.take k) (.slice va vn vc) W2) := HS.out.up B2
      refine pk_oneW (fuel := 0) (i := 5) (by kernel_rfl) rfl (by kernel_rfl) ?_
      intro K hK
      refine wpList_append_recs rfl (.tmp 24) (.tmp 27) 107 rfl (w.heap.size + 2) 9 _ 16 Try.underlying107 info9 rfl _ (.slice (some ⟨g1, 0, none⟩) 1 1) (af.take k) [t] rfl rfl HS2.out.own RD.out (tx_one _) HLN.out (by decide) (by have := HS2.out.z.lt; omega) ?_
      intro v5 w5 ho5 hg5
      have HS5 : Hid (TcS w nm po rt pa (af.take (k + 1)) v5 (w5.setCell ⟨w.heap.size, 4, none⟩ v5)) := by rw [HTK.out]; exact HS2.out.more hg5 ho5
      have x5 := HS2.out.x.grown hg5 (hne _ (by omega))
      have c4 := x5.c4
      have f4 := x5.fr 4
      have G5 : wr.grownBy w5 (Value.slice va vn vc).ownBlock := grown_trans (grown_of_below B2 _) hg5
      obtain ⟨a5, k5, n5, rfl⟩ := ho5.slice3
      clear ho5 hg5 HS2 RD B2 x5
      go_wp2
      refine hK.out _ _ ⟨⟨w5, G5⟩, rfl⟩ ?_
      clear hK K
      refine any_done (by kernel_rfl) ?_
      simp only [List.drop_succ_cons, List.drop_zero]
      clear q4 hdr B1 HS HC HTK HLN HW2 HG1 G5 c0
      go_wp2
      go_roundw
      case rel => exact ⟨k + 1, _, by omega, by go_num, HS5⟩
      case measure => simp [intOf]; omega
    · have hkn : k = af.length := by rw [HN.out]; omega
      rw [hkn, List.take_length] at HS
      obtain ⟨va, vn, vc, rfl⟩ := HS.out.own.slice3
      have c0 := HS.out.x.c0
      have c1 := HS.out.x.c1
      have c2 := HS.out.x.c2
      have c3 := HS.out.x.c3
      have c4 := HS.out.x.c4
      have d0 := HS.out.z.c0
      have d1 := HS.out.z.c1
      have d2 := HS.out.z.c2
      have d3 := HS.out.z.c3
      have d4 := HS.out.z.c4
      have f0 := HS.out.z.fr 0
      have f1 := HS.out.z.fr 1
      have f2 := HS.out.z.fr 2
      have f3 := HS.out.z.fr 3
      have f4 := HS.out.z.fr 4
      clear hkn
      go_wp2
      have HE := HS.out.z.set (.string nm) (.string po) (.int .i64 rt) (.bool pa) (.slice va vn vc)
      refine bodyPost_ret (ret_t1 rfl rfl HE) rfl ?_
      exact ⟨_, rfl, (ownsR_set5 HS.out.own (by omega) _ _ _ _ _).mono (by omega), below_set5 HS.out.bel (by omega) _ _ _ _ _⟩
end Go.Proofs.Ytkfhmeiiicidaaa

namespace Go.Proofs.Ytkfhmeiiicidaaa
open Go Go.RowKit
set_option linter.unusedVariables false

section
open Rec
variable {α : Type} [Rec α]
/-- One record more behind a row that the call owns, and where the row lies then. -/
theorem wpList_append_at {P : Program} {w : World} {ops : Array Oper} {rest : List Oper} {o : Oper} {a : Act} {Q : Exit → Act → World → Prop} (hgd : o.guard = none) (s x : Operand) (t : TypeId)
    (ho : o.op = .call { callee := .builtin .append, args := #[s, x], argTypes := #[t, t] }) (B : Nat) (e : TypeId) (z : Value) (bytes : Nat) (ht : P.underlying t = some (.slice e)) (hi : (P.info? e).map (fun i => (i.zero, i.size, i.bytes)) = some (some z, width α, bytes)) (hz : z.cells.size = width α)
    (v v2 : Value) (l1 l2 : List α) (hs : a.eval s = v) (hx : a.eval x = v2) (hown : ownsR w B e v l1) (hr : Reads w v2 l2) (hne : l2 ≠ []) (h1 : ∀ x ∈ l2, ∀ u ∈ cells x, u.oneCell' = true) (hlen : l1.length + l2.length ≤ 1048577) (hby : bytes ≤ 134217000) (hB : B ≤ w.heap.size)
    (h : ∀ v' w', ownsR w' B e v' (l1 ++ l2) → w.grownBy w' v.ownBlock → (v'.ownBlock = v.ownBlock ∨ v'.ownBlock = some w.heap.size) → wpList P ops Q rest (a.put o.dst v') w') : wpList P ops Q (o :: rest) a w := by
  obtain ⟨i0, hi0, hz0, hz1, hz2⟩ := info_parts hi
  have hbytes : (l1.length + l2.length) * bytes ≤ 140737488355328 := by
    have : (l1.length + l2.length) * bytes ≤ 1048577 * 134217000 := Nat.mul_le_mul hlen hby
    omega
  have h63 : l1.length + l2.length ≤ maxLen := by unfold maxLen; omega
  have hone : ∀ u ∈ l2.flatMap cells, u.oneCell' = true := fun u hu => by
    obtain ⟨x, hx, hu⟩ := List.mem_flatMap.1 hu
    exact h1 x hx u hu
  obtain ⟨ao, cap, rfl, hc⟩ := hr
  obtain ⟨b, of, rfl, _, hcell⟩ := hc hne
  obtain ⟨v', w', hrun, ho', hg, _, hat⟩ := run_append_own_at (P := P) (w := w) B t o.type e i0 z (width α) bytes ht hi0 hz0 hz1 hz2 hz Rec.pos v l1.length _ hown ⟨b, of, none⟩ l2.length cap (l2.flatMap cells) (flat_length l2) (fun j u hj => by
    obtain ⟨x, hx, hu⟩ := flat_cell hj
    have := hcell _ x hx _ u hu
    have hadd : (⟨b, of, none⟩ : Addr).add j = ⟨b, of + j, none⟩ := by unfold Addr.add; split <;> simp_all
    rw [hadd]
    rw [Nat.add_assoc, Nat.mul_comm, Nat.div_add_mod] at this
    exact this) hone h63 hbytes hB
  refine wpList_plain hgd fun K hK => ?_
  unfold Oper.wp
  simp [execOp, ho, resolve, invoke, builtin, hs, hx, hrun, Result.andThen]
  exact hK _ _ (h v' w' (by simpa [ownsR, List.flatMap_append] using ho') hg hat)
/-- A row of one record, just built. -/
theorem reads_oneR (w : World) (e : TypeId) (x : α) : Reads (w.alloc (.cells (cells x).toArray e)) (.slice (some ⟨w.heap.size, 0, none⟩) 1 1) [x] := by
  refine ⟨some ⟨w.heap.size, 0, none⟩, 1, rfl, fun _ => ⟨w.heap.size, 0, rfl, by simp, fun i y hi j u hu => ?_⟩⟩
  have hi0 : i = 0 := by have := (List.getElem?_eq_some_iff.1 hi).1; simp at this; omega
  subst hi0
  simp at hi
  subst hi
  have e' : (w.alloc (.cells (cells x).toArray e)).heap[w.heap.size]? = some (.cells (cells x).toArray e) := by
    show (w.heap.push _)[w.heap.size]? = _
    rw [Array.getElem?_push, if_pos rfl]
  generalize w.alloc (.cells (cells x).toArray e) = W at e'
  simp [World.cell?, e', hu]
end
/-- What lies there while a plan is copied. -/
structure DcS (w : World) (nm cr : ByteArray) (fr up : Int) (cu : Bool) (l : List Ta) (v : Value) (W : World) : Prop where
  x : P6 W w.heap.size nm cr fr up cu v
  z : P6 W (w.heap.size + 1) ⟨#[]⟩ ⟨#[]⟩ 0 0 false (.slice none 0 0)
  dk : ∃ ks a b, DK OneTkI 109 (w.heap.size + 2) W.heap.size W v ks a b l
  bel : Below w.heap.size w W
theorem DcS.up {w : World} {nm cr : ByteArray} {fr up : Int} {cu : Bool} {l : List Ta} {v : Value} {W W' : World} (h : DcS w nm cr fr up cu l v W) (hb : Below W.heap.size W W') : DcS w nm cr fr up cu l v W' := by
  obtain ⟨ks, a, b, hd⟩ := h.dk
  exact ⟨h.x.on hb, h.z.on hb, ⟨ks, a, b, (hd.up keepTk hb).top' hb.size⟩, h.bel.trans (hb.mono h.bel.size)⟩
theorem DcS.ne {w : World} {nm cr : ByteArray} {fr up : Int} {cu : Bool} {l : List Ta} {v : Value} {W : World} (h : DcS w nm cr fr up cu l v W) {b : Nat} (hb : b < w.heap.size + 2) : some b ≠ v.ownBlock := fun e => by
  obtain ⟨ks, a, b', hd⟩ := h.dk
  have := (hd.own.lt b e.symm).1
  omega
theorem tk_ones {x : Tk} {a : Option Addr} {n c : Nat} (h : x.after = .slice a n c) : ∀ y ∈ [x], ∀ u ∈ Rec.cells y, u.oneCell' = true := by
  intro y hy u hu
  simp only [List.mem_singleton] at hy
  subst hy
  simp only [Rec.cells, List.mem_cons, List.not_mem_nil, or_false] at hu
  rcases hu with rfl | rfl | rfl | rfl | rfl
  · rfl
  · rfl
  · rfl
  · rfl
  · rw [h]; rfl
set_option maxRecDepth 10000 in
set_option maxHeartbeats 4000000 in
theorem dagCloned_any (nm cr : ByteArray) (fr up : Int) (cu : Bool) (ao : Option Addr) (n cap : Nat) (ts : List Ta) (w : World) (hr : Tasks w (.slice ao n cap) ts) (hn : n ≤ 1048576) (h1 : nm.size ≤ 1048576) (h2 : cr.size ≤ 1048576) (h3 : ∀ t ∈ ts, t.name.size ≤ 1048576 ∧ t.pool.size ≤ 1048576 ∧ t.after.length ≤ 1048576 ∧ ∀ s ∈ t.after, s.size ≤ 1048576) :
    Calls Try.prog 49 #[.agg #[.string nm, .string cr, .int .i64 fr, .int .i64 up, .bool cu, .slice ao n cap]] w fun e w' => ∃ v, e = .returned (.agg #[.string nm, .string cr, .int .i64 fr, .int .i64 up, .bool cu, v]) ∧ TasksI w.heap.size w'.heap.size w' v ts ∧ Below w.heap.size w w' := by
  have HN : Hid (ts.length = n) := by
    obtain ⟨ao', cap', e⟩ := hr.slice
    injection e with _ e2 _
    exact e2.symm
  have HR : Hid (∀ W, Below w.heap.size w W → Tasks W (.slice ao n cap) ts) := fun W hb => hr.below hb
  have H3 : Hid (∀ t ∈ ts, t.name.size ≤ 1048576 ∧ t.pool.size ≤ 1048576 ∧ t.after.length ≤ 1048576 ∧ ∀ s ∈ t.after, s.size ≤ 1048576) := h3
  have H1 : Hid (∀ W, Calls Try.prog 48 #[.string nm] W fun e w' => e = .returned (.string nm) ∧ Below W.heap.size W w') := fun W => clone_any nm W h1
  have H2 : Hid (∀ W, Calls Try.prog 48 #[.string cr] W fun e w' => e = .returned (.string cr) ∧ Below W.heap.size W w') := fun W => clone_any cr W h2
  clear hr h1 h2 h3
  obtain ⟨W0, HW0⟩ : ∃ W, Hid ((w.alloc (.cells #[.string nm, .string cr, .int .i64 fr, .int .i64 up, .bool cu, .slice ao n cap] 68)).alloc (.cells #[.string ⟨#[]⟩, .string ⟨#[]⟩, .int .i64 0, .int .i64 0, .bool false, .slice none 0 0] 68) = W) := ⟨_, rfl⟩
  have X0 : P6 W0 w.heap.size nm cr fr up cu (.slice ao n cap) := by rw [← HW0.out]; exact (P6.new _ _ _ _ _ _ _).on (ba (Below.refl _ _) _)
  have Z0 : P6 W0 (w.heap.size + 1) ⟨#[]⟩ ⟨#[]⟩ 0 0 false (.slice none 0 0) := by
    rw [← HW0.out]
    have := P6.new (w.alloc (.cells #[.string nm, .string cr, .int .i64 fr, .int .i64 up, .bool cu, .slice ao n cap] 68)) ⟨#[]⟩ ⟨#[]⟩ 0 0 false (.slice none 0 0)
    simpa using this
  have B0 : Below w.heap.size w W0 := by rw [← HW0.out]; exact ba (ba (Below.refl _ _) _) _
  go_enter Try.func49, Try.ntmps49
  go_wp2_with fail
  rw [HW0.out]
  have hdr : Below W0.heap.size W0 W0.drew := (Below.refl _ _).drew
  have q0 := Wd.cell X0.c0
  have q1 := Wd.cell X0.c1
  refine wp_region_pick (fun w' => ∃ x : Wd W0, w' = x.at') [0, 1, 3, 4] 7 3 (by kernel_rfl) (by decide) (by decide) (by kernel_rfl) (fun _ _ d _ _ h => by cases d <;> exact h) ⟨⟨W0.drew, hdr⟩, rfl⟩ ?_
  (repeat (refine wpTakes_l rfl (by first | (intro x h; cases h; done) | (intro x h; cases h; exact ⟨_, rfl⟩)) ?_; go_big_quiet_step (fail); refine wpQuiet_nil ?_)); refine takes_nil ?_
  refine pk_oneW (fuel := 2) (i := 2) (by kernel_rfl) rfl (by kernel_rfl) ?_
  intro K hK
  go_wp2_with fail
  refine (H1.out _).mono ?_
  rintro e w1 ⟨rfl, hb1⟩
  have B1 : Below W0.heap.size W0 w1 := Below.on hdr hb1
  clear hb1
  go_wp2
  refine hK.out _ _ ⟨⟨w1, B1⟩, rfl⟩ ?_
  clear hK K
  refine pk_takes [6] 7 1 ⟨⟨w1, B1⟩, rfl⟩ (by kernel_rfl) (fun _ _ d _ _ h => by cases d <;> exact h) ?_
  (repeat (refine wpTakes_l rfl (by first | (intro x h; cases h; done) | (intro x h; cases h; exact ⟨_, rfl⟩)) ?_; go_big_quiet_step (fail); refine wpQuiet_nil ?_)); refine takes_nil ?_
  refine pk_oneW (fuel := 0) (i := 5) (by kernel_rfl) rfl (by kernel_rfl) ?_
  intro K hK
  go_wp2_with fail
  refine (H2.out _).mono ?_
  rintro e w2 ⟨rfl, hb2⟩
  have B2 : Below W0.heap.size W0 w2 := Below.on B1 hb2
  clear hb2
  go_wp2
  refine hK.out _ _ ⟨⟨w2, B2⟩, rfl⟩ ?_
  clear hK K
  refine any_done (by kernel_rfl) ?_
  simp only [List.drop_succ_cons, List.drop_zero]
  have X2 := X0.on B2
  have Z2 := Z0.on B2
  have BW2 := Below.on B0 B2
  clear q0 q1 B1 B2 hdr X0 Z0 B0 HW0 H1 H2
  have c0 := X2.c0
  have c1 := X2.c1
  have c5 := X2.c5
  have f0 := X2.fz 0
  have f1 := X2.fz 1
  have f5 := X2.fz 5
  obtain ⟨V, HV⟩ : ∃ V, Hid (((w2.setCell ⟨w.heap.size, 0, none⟩ (.string nm)).setCell ⟨w.heap.size, 1, none⟩ (.string cr)).setCell ⟨w.heap.size, 5, none⟩ (.slice none 0 0) = V) := ⟨_, rfl⟩
  have HS : Hid (DcS w nm cr fr up cu (ts.take 0) (.slice none 0 0) V) := by
    rw [← HV.out]
    refine ⟨((X2.s0 _).s1 _).s5 _, ((Z2.far (a := ⟨w.heap.size, 0, none⟩) (by show w.heap.size ≠ w.heap.size + 1; omega) _).far (a := ⟨w.heap.size, 1, none⟩) (by show w.heap.size ≠ w.heap.size + 1; omega) _).far (a := ⟨w.heap.size, 5, none⟩) (by show w.heap.size ≠ w.heap.size + 1; omega) _, ⟨[], fun _ => 0, fun _ => 0, dk_none _ _ _ _ _⟩, ?_⟩
    exact ((BW2.setCell (p := ⟨w.heap.size, 0, none⟩) (Nat.le_refl _) _).setCell (p := ⟨w.heap.size, 1, none⟩) (Nat.le_refl _) _).setCell (p := ⟨w.heap.size, 5, none⟩) (Nat.le_refl _) _
  go_wp2
  rw [HV.out]
  clear c0 c1 c5 f0 f1 f5 X2 Z2 BW2 HV
  go_loopw [19] (fun i wr => ∃ (k : Nat) (v : Value), k ≤ n ∧ i = .int .i64 k ∧ Hid (DcS w nm cr fr up cu (ts.take k) v wr)) (fun i _ => n - (intOf i).toNat)
  case atStart => exact ⟨0, _, Nat.zero_le _, rfl, HS⟩
  case round =>
    clear HS
    obtain ⟨k, v, hk, rfl, HS⟩ := hrel
    by_cases hlt : k < n
    · obtain ⟨t, ht⟩ : ∃ t, ts[k]? = some t := ⟨_, List.getElem?_eq_getElem (by rw [HN.out]; exact hlt)⟩
      obtain ⟨b', o, av, rfl, hb, c0, c1, c2, c3, c4, hav⟩ := (HR.out wr HS.out.bel).at ht
      have h3 := H3.out t (List.mem_of_getElem? ht)
      obtain ⟨fo, fc, rfl⟩ := reads_slice hav
      have HC : Hid (∀ W, Below wr.heap.size wr W → Calls Try.prog 69 #[.agg #[.string t.name, .string t.pool, .int .i64 t.ret, .bool t.past, .slice fo t.after.length fc]] W fun e w' => ∃ v, e = .returned (.agg #[.string t.name, .string t.pool, .int .i64 t.ret, .bool t.past, v]) ∧ ownsR w' W.heap.size 9 v t.after ∧ Below W.heap.size W w') := fun W hb => taskCloned_any t.name t.pool t.ret t.past fo t.after.length fc t.after W (hav.below hb) h3.2.2.1 h3.1 h3.2.1 h3.2.2.2
      have HTK : Hid (ts.take (k + 1) = ts.take k ++ [t]) := by show _ = _; rw [List.take_add_one, ht]; rfl
      have HLN : Hid (k + 1 ≤ 1048577 ∧ (ts.take k).length = k) := by refine ⟨by omega, ?_⟩; rw [List.length_take, HN.out]; omega
      clear ht hav h3
      obtain ⟨ks, a, b, hd⟩ := HS.out.dk
      obtain ⟨va, vn, vc, rfl⟩ := hd.own.slice3
      have HD : Hid (DK OneTkI 109 (w.heap.size + 2) wr.heap.size wr (.slice va vn vc) ks a b (ts.take k)) := hd
      obtain ⟨W1, HW1⟩ : ∃ W1, Hid (wr.alloc (.cells #[.string t.name, .string t.pool, .int .i64 t.ret, .bool t.past, .slice fo t.after.length fc] 109) = W1) := ⟨_, rfl⟩
      have BB1 : Below wr.heap.size wr W1 := by rw [← HW1.out]; exact ba (Below.refl _ _) _
      have bx : B5 109 W1 wr.heap.size (.string t.name) (.string t.pool) (.int .i64 t.ret) (.bool t.past) (.slice fo t.after.length fc) := by rw [← HW1.out]; exact B5.new _ _ _ _ _ _ _
      have hneb : some wr.heap.size ≠ (Value.slice va vn vc).ownBlock := fun e => by have := (HD.out.own.lt _ e.symm).2; omega
      have hne5 : some w.heap.size ≠ (Value.slice va vn vc).ownBlock := HS.out.ne (by omega)
      have q5 := Wg.cell (r := (Value.slice va vn vc).ownBlock) (HS.out.x.on BB1).c5 hne5
      have p0 := Wg.cell (r := (Value.slice va vn vc).ownBlock) bx.c0 hneb
      have p1 := Wg.cell (r := (Value.slice va vn vc).ownBlock) bx.c1 hneb
      have p2 := Wg.cell (r := (Value.slice va vn vc).ownBlock) bx.c2 hneb
      have p3 := Wg.cell (r := (Value.slice va vn vc).ownBlock) bx.c3 hneb
      have p4 := Wg.cell (r := (Value.slice va vn vc).ownBlock) bx.c4 hneb
      have hdr : W1.grownBy W1.drew (Value.slice va vn vc).ownBlock := grown_of_below (Below.refl _ _).drew _
      clear hd
      go_wp2_with fail
      rw [HW1.out]
      refine wp_region_pick (fun w' => ∃ x : Wg W1 (Value.slice va vn vc).ownBlock, w' = x.at') [0, 1, 2] 6 3 (by kernel_rfl) (by decide) (by decide) (by kernel_rfl) (fun _ _ d _ _ h => by cases d <;> exact h) ⟨⟨W1.drew, hdr⟩, rfl⟩ ?_
      (repeat (refine wpTakes_l rfl (by first | (intro x h; cases h; done) | (intro x h; cases h; exact ⟨_, rfl⟩)) ?_; go_big_quiet_step (fail); refine wpQuiet_nil ?_)); refine takes_nil ?_
      refine pk_oneW (fuel := 2) (i := 3) (by kernel_rfl) rfl (by kernel_rfl) ?_
      intro K hK
      go_wp2_with fail
      have D0 : Below W1.heap.size W1 W1.drew := (Below.refl _ _).drew
      refine (HC.out _ (Below.on BB1 D0)).mono ?_
      rintro e w2 ⟨av, rfl, hav, hb2⟩
      have B2 : Below W1.heap.size W1 w2 := Below.on D0 hb2
      have hdz : W1.drew.heap.size = W1.heap.size := rfl
      rw [hdz] at hav
      obtain ⟨a2, n2, c2', rfl⟩ := hav.slice3
      have HAV : Hid (ownsR w2 W1.heap.size 9 (.slice a2 n2 c2') t.after) := hav
      clear hb2 D0 hdz hav
      go_wp2
      refine hK.out _ _ ⟨⟨w2, grown_of_below B2 _⟩, rfl⟩ ?_
      clear hK K
      refine pk_oneW (fuel := 1) (i := 4) (by kernel_rfl) rfl (by kernel_rfl) ?_
      intro K hK
      go_wp2
      obtain ⟨x, HX⟩ : ∃ x : Tk, Hid (x = ⟨t.name, t.pool, t.ret, t.past, .slice a2 n2 c2'⟩) := ⟨_, rfl⟩
      have RD : Hid (Reads (w2.alloc (.cells #[.string t.name, .string t.pool, .int .i64 t.ret, .bool t.past, .slice a2 n2 c2'] 109)) (.slice (some ⟨w2.heap.size, 0, none⟩) 1 1) [x]) := by rw [HX.out]; exact reads_oneR w2 109 (⟨t.name, t.pool, t.ret, t.past, .slice a2 n2 c2'⟩ : Tk)
      have C3 : Below w2.heap.size w2 (w2.alloc (.cells #[.string t.name, .string t.pool, .int .i64 t.ret, .bool t.past, .slice a2 n2 c2'] 109)) := ba (Below.refl _ _) _
      obtain ⟨g1, HG1⟩ : ∃ g1, Hid (w2.heap.size = g1) := ⟨_, rfl⟩
      obtain ⟨W3, HW3⟩ : ∃ W3, Hid (w2.alloc (.cells #[.string t.name, .string t.pool, .int .i64 t.ret, .bool t.past, .slice a2 n2 c2'] 109) = W3) := ⟨_, rfl⟩
      rw [HW3.out] at C3 RD
      rw [HG1.out] at RD
      have B3 : Below W1.heap.size W1 W3 := Below.on B2 C3
      rw [HW3.out, HG1.out]
      refine hK.out _ _ ⟨⟨W3, grown_of_below B3 _⟩, rfl⟩ ?_
      clear hK K
      have HD3 : Hid (DK OneTkI 109 (w.heap.size + 2) wr.heap.size W3 (.slice va vn vc) ks a b (ts.take k)) := (HD.out.up keepTk BB1).up keepTk B3
      have HS3 : Hid (DcS w nm cr fr up cu (ts.take k) (.slice va vn vc) W3) := (HS.out.up BB1).up B3
      have hz0 : w.heap.size + 2 ≤ wr.heap.size := HS.out.z.lt
      have hz1 : wr.heap.size ≤ W1.heap.size := BB1.size
      have hz2 : W1.heap.size ≤ w2.heap.size := B2.size
      have hz3 : w2.heap.size ≤ W3.heap.size := C3.size
      refine pk_oneW (fuel := 0) (i := 5) (by kernel_rfl) rfl (by kernel_rfl) ?_
      intro K hK
      refine wpList_append_at rfl (.tmp 24) (.tmp 27) 66 rfl (w.heap.size + 2) 109 _ 72 Try.underlying66 infoTk rfl (.slice va vn vc) (.slice (some ⟨g1, 0, none⟩) 1 1) ks [x] rfl rfl HD3.out.own RD.out (by simp) (tk_ones (by rw [HX.out])) (by rw [HD3.out.len, HLN.out.2]; exact HLN.out.1) (by decide) (by omega) ?_
      intro v5 w5 ho5 hg5 hat5
      have HS5 : Hid (DcS w nm cr fr up cu (ts.take (k + 1)) v5 (w5.setCell ⟨w.heap.size, 5, none⟩ v5)) := by
        have hne1 : some (w.heap.size + 1) ≠ (Value.slice va vn vc).ownBlock := HS3.out.ne (by omega)
        have hO : OneTkI W1.heap.size w2.heap.size w5 x t := by
          have h0 : OneTkI W1.heap.size w2.heap.size w2 x t := by rw [HX.out]; exact ⟨rfl, rfl, rfl, rfl, HAV.out, fun q hq => (HAV.out.lt q hq).2⟩
          refine keepTk _ _ _ _ _ _ (keepTk _ _ _ _ _ _ h0 fun q _ _ hq => C3.block q hq) fun q q1 q2 q3 => hg5.block q q3 fun e => ?_
          have := HD3.out.top q e.symm
          omega
        have hd5 := HD3.out.more keepTk (W := w5) (v' := v5) (a' := W1.heap.size) (b' := w2.heap.size) (hi' := w5.heap.size) (x' := x) (t' := t) (by omega) (by omega) (by omega) (by omega) (Nat.le_trans hz3 hg5.size) ho5 hO (fun q hq hne => hg5.block q hq fun e => hne e.symm) (fun q hq => by
          rcases hat5 with e | e
          · exact .inl (by rw [← e]; exact hq)
          · have e' : q = W3.heap.size := by rw [e] at hq; exact (Option.some.inj hq).symm
            exact .inr ⟨by omega, (ho5.lt q hq).2⟩)
        rw [← HTK.out] at hd5
        have hdk : ∃ ks a b, DK OneTkI 109 (w.heap.size + 2) (w5.setCell ⟨w.heap.size, 5, none⟩ v5).heap.size (w5.setCell ⟨w.heap.size, 5, none⟩ v5) v5 ks a b (ts.take (k + 1)) := ⟨_, _, _, (hd5.keep keepTk (W := w5.setCell ⟨w.heap.size, 5, none⟩ v5) fun q q1 _ _ => heap_setCell_other w5 ⟨w.heap.size, 5, none⟩ q v5 fun e => by
          have e : q = w.heap.size := e
          omega).top' (by simp)⟩
        refine ⟨(HS3.out.x.grown hg5 hne5).s5 v5, (HS3.out.z.grown hg5 hne1).far (a := ⟨w.heap.size, 5, none⟩) (by show w.heap.size ≠ w.heap.size + 1; omega) v5, hdk, ?_⟩
        · exact (HS3.out.bel.trans (⟨hg5.os, hg5.tape, hg5.output, hg5.size, fun k hk => hg5.block k (Nat.lt_of_lt_of_le hk HS3.out.bel.size) (HS3.out.ne (by omega))⟩)).setCell (p := ⟨w.heap.size, 5, none⟩) (Nat.le_refl _) v5
      have x5 := HS3.out.x.grown hg5 hne5
      have c5 := x5.c5
      have f5 := x5.fz 5
      have G5 : W1.grownBy w5 (Value.slice va vn vc).ownBlock := grown_trans (grown_of_below B3 _) hg5
      obtain ⟨a5, k5, n5, rfl⟩ := ho5.slice3
      clear ho5 hg5 hat5 HS3 HD3 RD B3 C3 x5 HAV HX
      go_wp2
      refine hK.out _ _ ⟨⟨w5, G5⟩, rfl⟩ ?_
      clear hK K
      refine any_done (by kernel_rfl) ?_
      simp only [List.drop_succ_cons, List.drop_zero]
      clear q5 p0 p1 p2 p3 p4 hdr B2 HS HC HTK HLN HW3 HG1 G5 HD HW1 bx BB1 c0 c1 c2 c3 c4
      go_wp2
      go_roundw
      case rel => exact ⟨k + 1, _, by omega, by go_num, HS5⟩
      case measure => simp [intOf]; omega
    · have hkn : k = ts.length := by rw [HN.out]; omega
      rw [hkn, List.take_length] at HS
      obtain ⟨ks, a, b, hd⟩ := HS.out.dk
      obtain ⟨va, vn, vc, rfl⟩ := hd.own.slice3
      have HD : Hid (DK OneTkI 109 (w.heap.size + 2) wr.heap.size wr (.slice va vn vc) ks a b ts) := hd
      have c0 := HS.out.x.c0
      have c1 := HS.out.x.c1
      have c2 := HS.out.x.c2
      have c3 := HS.out.x.c3
      have c4 := HS.out.x.c4
      have c5 := HS.out.x.c5
      have d0 := HS.out.z.c0
      have d1 := HS.out.z.c1
      have d2 := HS.out.z.c2
      have d3 := HS.out.z.c3
      have d4 := HS.out.z.c4
      have d5 := HS.out.z.c5
      have f0 := HS.out.z.fz 0
      have f1 := HS.out.z.fz 1
      have f2 := HS.out.z.fz 2
      have f3 := HS.out.z.fz 3
      have f4 := HS.out.z.fz 4
      have f5 := HS.out.z.fz 5
      clear hkn hd
      go_wp2
      have HE := ((((((HS.out.z.s0 nm).s1 cr).s2 fr).s3 up).s4 cu).s5 (.slice va vn vc))
      refine bodyPost_ret (ret_g1 rfl rfl HE) rfl ?_
      have low : w.heap.size ≤ w.heap.size + 1 := Nat.le_succ _
      refine ⟨_, rfl, ⟨ks, a, b, ?_⟩, (((((HS.out.bel.setCell (p := ⟨w.heap.size + 1, 0, none⟩) low _).setCell (p := ⟨w.heap.size + 1, 1, none⟩) low _).setCell (p := ⟨w.heap.size + 1, 2, none⟩) low _).setCell (p := ⟨w.heap.size + 1, 3, none⟩) low _).setCell (p := ⟨w.heap.size + 1, 4, none⟩) low _).setCell (p := ⟨w.heap.size + 1, 5, none⟩) low _⟩
      refine ((HD.out.keep keepTk fun q q1 _ _ => ?_).low' (by omega)).top' (by simp)
      have hne : q ≠ w.heap.size + 1 := by omega
      rw [heap_setCell_other _ ⟨w.heap.size + 1, 5, none⟩ q _ hne, heap_setCell_other _ ⟨w.heap.size + 1, 4, none⟩ q _ hne, heap_setCell_other _ ⟨w.heap.size + 1, 3, none⟩ q _ hne, heap_setCell_other _ ⟨w.heap.size + 1, 2, none⟩ q _ hne, heap_setCell_other _ ⟨w.heap.size + 1, 1, none⟩ q _ hne, heap_setCell_other _ ⟨w.heap.size + 1, 0, none⟩ q _ hne]
end Go.Proofs.Ytkfhmeiiicidaaa

namespace Go.Proofs.Ytkfhmeiiicidaaa
open Go Go.RowKit
set_option linter.unusedVariables false

set_option maxRecDepth 10000 in
set_option maxHeartbeats 2000000 in
theorem isIn_any (ao : Option Addr) (n cap : Nat) (nm : ByteArray) (fr up ep : Int) (st : List Sa) (i s : Int) (w : World) (hr : Reads w (.slice ao n cap) st) (hn : n ≤ 1048577) :
    Calls Try.prog 82 #[.agg #[.string nm, .int .i64 fr, .int .i64 up, .int .i64 ep, .slice ao n cap], .int .i64 i, .int .i64 s] w fun e w' => e = .returned (.bool (isN st i s)) ∧ Below w.heap.size w w' := by
  have HN : Hid (n = st.length) := hr.len
  obtain ⟨W1, hW1⟩ : ∃ W1, w.alloc (.cells #[.string nm, .int .i64 fr, .int .i64 up, .int .i64 ep, .slice ao n cap] 52) = W1 := ⟨_, rfl⟩
  have Z1 : R5 W1 w.heap.size nm fr up ep (.slice ao n cap) := by rw [← hW1]; exact R5.new _ _ _ _ _ _
  have B1 : Below w.heap.size w W1 := by rw [← hW1]; exact ba (Below.refl _ _) _
  have c4 := Z1.c4
  by_cases h0 : 0 ≤ i
  case neg =>
    have HE : Hid (isN st i s = false) := isN_out (.inl (by omega)) s
    rw [HE.out]
    have h0' : decide (0 ≤ i) = false := decide_eq_false h0
    clear hr
    go_enter Try.func82, Try.ntmps82
    go_wp2
    go_ret
    exact ⟨rfl, B1⟩
  have h0' : decide (0 ≤ i) = true := decide_eq_true h0
  by_cases h1 : i < (n : Int)
  case neg =>
    have HE : Hid (isN st i s = false) := isN_out (.inr (by have := HN.out; omega)) s
    rw [HE.out]
    have h1' : decide (i < (n : Int)) = false := decide_eq_false h1
    clear hr
    go_enter Try.func82, Try.ntmps82
    go_wp2
    go_ret
    exact ⟨rfl, B1⟩
  have h1' : decide (i < (n : Int)) = true := decide_eq_true h1
  obtain ⟨k, rfl⟩ : ∃ k : Nat, i = (k : Int) := ⟨i.toNat, by omega⟩
  obtain ⟨x, hx⟩ : ∃ x, st[k]? = some x := ⟨_, List.getElem?_eq_getElem (by have := HN.out; omega)⟩
  have HE : Hid (isN st (k : Int) s = decide (x.is = s)) := isN_in hx s
  rw [HE.out]
  obtain ⟨b, o, rfl, hb, d0, -, -, -⟩ := sa_at (hr.below B1) hx
  clear hr hx
  go_enter Try.func82, Try.ntmps82
  go_wp2
  go_ret
  exact ⟨rfl, B1⟩
set_option maxRecDepth 10000 in
set_option maxHeartbeats 2000000 in
theorem isRunning_any (ao : Option Addr) (n cap : Nat) (nm : ByteArray) (fr up ep : Int) (st : List Sa) (i : Int) (w : World) (hr : Reads w (.slice ao n cap) st) (hn : n ≤ 1048577) :
    Calls Try.prog 71 #[.agg #[.string nm, .int .i64 fr, .int .i64 up, .int .i64 ep, .slice ao n cap], .int .i64 i] w fun e w' => e = .returned (.bool (isN st i 1)) ∧ Below w.heap.size w w' := by
  have H1 : Hid (∀ W s, Below w.heap.size w W → Calls Try.prog 82 #[.agg #[.string nm, .int .i64 fr, .int .i64 up, .int .i64 ep, .slice ao n cap], .int .i64 i, .int .i64 s] W fun e w' => e = .returned (.bool (isN st i s)) ∧ Below W.heap.size W w') := fun W s hb => isIn_any ao n cap nm fr up ep st i s W (hr.below hb) hn
  clear hr
  go_enter Try.func71, Try.ntmps71
  go_wp2_with fail
  refine (H1.out _ _ (ba (Below.refl _ _) _)).mono ?_
  rintro e w1 ⟨rfl, hb1⟩
  go_wp2
  go_ret
  exact ⟨rfl, below_new hb1⟩
end Go.Proofs.Ytkfhmeiiicidaaa

namespace Go.Proofs.Ytkfhmeiiicidaaa
open Go Go.RowKit
set_option linter.unusedVariables false

theorem sa_one (l : List Sa) : ∀ x ∈ l, ∀ u ∈ Rec.cells x, u.oneCell' = true := by
  intro x _ u hu
  simp only [Rec.cells, List.mem_cons, List.not_mem_nil, or_false] at hu
  rcases hu with rfl | rfl | rfl | rfl <;> rfl
/-- A run's block is no row of states. -/
theorem not_rowR5 {W : World} {b B : Nat} {nm : ByteArray} {fr up ep : Int} {tv v : Value} {l : List Sa} (h : R5 W b nm fr up ep tv) (ho : ownsR W B 47 v l) : v.ownBlock ≠ some b := by
  intro e
  rcases ho.2 with ⟨rfl, _⟩ | ⟨g, cap, cur, rfl, _, hg, _⟩
  · cases e
  · cases e
    rw [show W.heap[g]? = _ from h] at hg
    injection hg with hg
    injection hg with _ hg
    exact absurd hg (by decide)
theorem grown_put {B : Nat} {w w' : World} {v : Value} {l : List Sa} (ho : ownsR w B 47 v l) {p : Addr} (u : Value) (hp : v.ownBlock ≠ some p.block) : ownsR (w.setCell p u) B 47 v l := own_keep ho fun k hk => heap_setCell_other w p k u fun e => hp (by rw [hk, e])
set_option maxRecDepth 10000 in
set_option maxHeartbeats 4000000 in
theorem l14Copy_any (ao : Option Addr) (n cap : Nat) (nm : ByteArray) (fr up ep : Int) (st : List Sa) (w : World) (hr : Reads w (.slice ao n cap) st) (hn : n ≤ 1048577) :
    Calls Try.prog 44 #[.agg #[.string nm, .int .i64 fr, .int .i64 up, .int .i64 ep, .slice ao n cap]] w fun e w' => ∃ v, e = .returned (.agg #[.string nm, .int .i64 fr, .int .i64 up, .int .i64 ep, v]) ∧ ownsR w' w.heap.size 47 v st ∧ Below w.heap.size w w' := by
  have HR : Hid (Reads w (.slice ao n cap) st) := hr
  have HL : Hid (([] : List Sa).length + st.length ≤ 1048577) := by show _ ≤ _; rw [← hr.len]; simpa using hn
  clear hr hn
  go_enter Try.func44, Try.ntmps44
  have J0 := ((R5.new w nm fr up ep (.slice ao n cap)).on (ba (Below.refl _ _) (.cells #[.string ⟨#[]⟩, .int .i64 0, .int .i64 0, .int .i64 0, .slice none 0 0] 52))).on (ba (Below.refl _ _) (.cells #[] 47))
  have Z0 : R5 (((w.alloc (.cells #[.string nm, .int .i64 fr, .int .i64 up, .int .i64 ep, .slice ao n cap] 52)).alloc (.cells #[.string ⟨#[]⟩, .int .i64 0, .int .i64 0, .int .i64 0, .slice none 0 0] 52)).alloc (.cells #[] 47)) (w.heap.size + 1) ⟨#[]⟩ 0 0 0 (.slice none 0 0) := by
    have := (R5.new (w.alloc (.cells #[.string nm, .int .i64 fr, .int .i64 up, .int .i64 ep, .slice ao n cap] 52)) ⟨#[]⟩ 0 0 0 (.slice none 0 0)).on (ba (Below.refl _ _) (.cells #[] 47))
    simpa using this
  have B0 : Below w.heap.size w (((w.alloc (.cells #[.string nm, .int .i64 fr, .int .i64 up, .int .i64 ep, .slice ao n cap] 52)).alloc (.cells #[.string ⟨#[]⟩, .int .i64 0, .int .i64 0, .int .i64 0, .slice none 0 0] 52)).alloc (.cells #[] 47)) := ba (ba (ba (Below.refl _ _) _) _) _
  have O0 : ownsR (((w.alloc (.cells #[.string nm, .int .i64 fr, .int .i64 up, .int .i64 ep, .slice ao n cap] 52)).alloc (.cells #[.string ⟨#[]⟩, .int .i64 0, .int .i64 0, .int .i64 0, .slice none 0 0] 52)).alloc (.cells #[] 47)) w.heap.size 47 (.slice (some ⟨w.heap.size + 1 + 1, 0, none⟩) 0 0) ([] : List Sa) := by
    have := ownsR_made0 (α := Sa) ((w.alloc (.cells #[.string nm, .int .i64 fr, .int .i64 up, .int .i64 ep, .slice ao n cap] 52)).alloc (.cells #[.string ⟨#[]⟩, .int .i64 0, .int .i64 0, .int .i64 0, .slice none 0 0] 52)) w.heap.size 47 (by simp; omega)
    simpa using this
  have R0 := HR.out.below B0
  go_wp2_with (at_builtin; refine wpList_append_recs rfl (.tmp 3) (.tmp 5) 50 rfl w.heap.size 47 _ 32 underSa infoSa rfl _ (.slice ao n cap) [] st (by rfl) (by rfl) O0 R0 (sa_one _) HL.out (by decide) B0.size ?_)
  intro v5 w5 ho5 hg5
  obtain ⟨a5, k5, c5, rfl⟩ := ho5.slice3
  have J5 := J0.grown hg5 (by simp [Value.ownBlock]; omega)
  have Z5 := Z0.grown hg5 (by simp [Value.ownBlock])
  have B5 := B0.grown hg5 B0.size (by simp [Value.ownBlock]; omega)
  clear J0 Z0 B0 O0 R0 hg5
  have j0 := J5.c0
  have j1 := J5.c1
  have j2 := J5.c2
  have j3 := J5.c3
  have j4 := J5.c4
  have jf := J5.fz
  have z0 := Z5.c0
  have z1 := Z5.c1
  have z2 := Z5.c2
  have z3 := Z5.c3
  have z4 := Z5.c4
  have zf := Z5.fz
  have J6 := J5.s4 (.slice a5 k5 c5)
  have Z6 := Z5.far (a := ⟨w.heap.size, 4, none⟩) (by simp) (.slice a5 k5 c5)
  have B6' := Below.setCell (p := ⟨w.heap.size, 4, none⟩) B5 (Nat.le_refl _) (.slice a5 k5 c5)
  have O6 : ownsR (w5.setCell ⟨w.heap.size, 4, none⟩ (.slice a5 k5 c5)) w.heap.size 47 (.slice a5 k5 c5) st := grown_put (w' := w5) ho5 _ (not_rowR5 J5 ho5)
  have Z7 := Z6.set nm fr up ep (.slice a5 k5 c5)
  have B7 := below_putR5 (g := w.heap.size + 1) B6' (by omega) nm fr up ep (.slice a5 k5 c5)
  have O7 := own_putR5 (b := w.heap.size + 1) O6 (not_rowR5 Z6 O6) nm fr up ep (.slice a5 k5 c5)
  go_wp2
  refine bodyPost_ret (ret_run1 rfl rfl Z7) rfl ⟨_, rfl, O7, B7⟩
set_option maxRecDepth 10000 in
set_option maxHeartbeats 4000000 in
theorem cloned_any (ao : Option Addr) (n cap : Nat) (nm : ByteArray) (fr up ep : Int) (st : List Sa) (w : World) (hr : Reads w (.slice ao n cap) st) (hn : n ≤ 1048577) (hz : nm.size ≤ 1048576) :
    Calls Try.prog 50 #[.agg #[.string nm, .int .i64 fr, .int .i64 up, .int .i64 ep, .slice ao n cap]] w fun e w' => ∃ v, e = .returned (.agg #[.string nm, .int .i64 fr, .int .i64 up, .int .i64 ep, v]) ∧ ownsR w' w.heap.size 47 v st ∧ Below w.heap.size w w' := by
  have HR : Hid (∀ W, Below w.heap.size w W → Reads W (.slice ao n cap) st) := fun W hb => hr.below hb
  have HL : Hid (([] : List Sa).length + st.length ≤ 1048577) := by show _ ≤ _; rw [← hr.len]; simpa using hn
  clear hr hn
  go_enter Try.func50, Try.ntmps50
  obtain ⟨W0, hW⟩ : ∃ W, (w.alloc (.cells #[.string nm, .int .i64 fr, .int .i64 up, .int .i64 ep, .slice ao n cap] 52)).alloc (.cells #[.string ⟨#[]⟩, .int .i64 0, .int .i64 0, .int .i64 0, .slice none 0 0] 52) = W := ⟨_, rfl⟩
  have J0 : R5 W0 w.heap.size nm fr up ep (.slice ao n cap) := by rw [← hW]; exact (R5.new w nm fr up ep (.slice ao n cap)).on (ba (Below.refl _ _) _)
  have Z0 : R5 W0 (w.heap.size + 1) ⟨#[]⟩ 0 0 0 (.slice none 0 0) := by
    rw [← hW]
    have := R5.new (w.alloc (.cells #[.string nm, .int .i64 fr, .int .i64 up, .int .i64 ep, .slice ao n cap] 52)) ⟨#[]⟩ 0 0 0 (.slice none 0 0)
    simpa using this
  have B0 : Below w.heap.size w W0 := by rw [← hW]; exact ba (ba (Below.refl _ _) _) _
  have c0 := J0.c0
  go_wp2_with fail
  refine (clone_any nm _ hz).mono ?_
  rintro e w1 ⟨rfl, hb1⟩
  have J1 := J0.on hb1
  have Z1 := Z0.on hb1
  have B1 := Below.on B0 hb1
  clear c0 J0 Z0 B0 hb1 hW
  have d0 := J1.c0
  have f0 := J1.fz 0
  have J2 := J1.s0 nm
  have Z2 := Z1.far (a := ⟨w.heap.size, 0, none⟩) (by show w.heap.size ≠ w.heap.size + 1; omega) (.string nm)
  have B2 := Below.setCell (p := ⟨w.heap.size, 0, none⟩) B1 (Nat.le_refl _) (.string nm)
  obtain ⟨W2, hW2⟩ : ∃ W, w1.setCell ⟨w.heap.size, 0, none⟩ (.string nm) = W := ⟨_, rfl⟩
  rw [hW2] at J2 Z2 B2
  have J3 := J2.on (ba (Below.refl _ _) (.cells #[] 47))
  have Z3 := Z2.on (ba (Below.refl _ _) (.cells #[] 47))
  have B3 := ba B2 (.cells #[] 47)
  have O3 : ownsR (W2.alloc (.cells #[] 47)) w.heap.size 47 (.slice (some ⟨W2.heap.size, 0, none⟩) 0 0) ([] : List Sa) := ownsR_made0 (α := Sa) W2 w.heap.size 47 B2.size
  have R3 := HR.out _ B3
  have e4 := J3.c4
  go_wp2_with (at_builtin; refine wpList_append_recs rfl (.tmp 7) (.tmp 9) 50 rfl w.heap.size 47 _ 32 underSa infoSa rfl _ (.slice ao n cap) [] st (by rfl) (by rfl) O3 R3 (sa_one _) HL.out (by decide) B3.size ?_)
  intro v5 w5 ho5 hg5
  obtain ⟨a5, k5, c5, rfl⟩ := ho5.slice3
  have h1 := J2.lt
  have h2 := Z2.lt
  have J5 := J3.grown hg5 (by simp [Value.ownBlock]; omega)
  have Z5 := Z3.grown hg5 (by simp [Value.ownBlock]; omega)
  have B5 := B3.grown hg5 B3.size (by simp [Value.ownBlock]; omega)
  clear J1 J2 J3 Z1 Z2 Z3 B1 B2 B3 O3 R3 hg5 d0 f0 e4 hW2
  have j0 := J5.c0
  have j1 := J5.c1
  have j2 := J5.c2
  have j3 := J5.c3
  have j4 := J5.c4
  have jf := J5.fz
  have z0 := Z5.c0
  have z1 := Z5.c1
  have z2 := Z5.c2
  have z3 := Z5.c3
  have z4 := Z5.c4
  have zf := Z5.fz
  have J6 := J5.s4 (.slice a5 k5 c5)
  have Z6 := Z5.far (a := ⟨w.heap.size, 4, none⟩) (by simp) (.slice a5 k5 c5)
  have B6' := Below.setCell (p := ⟨w.heap.size, 4, none⟩) B5 (Nat.le_refl _) (.slice a5 k5 c5)
  have O6 : ownsR (w5.setCell ⟨w.heap.size, 4, none⟩ (.slice a5 k5 c5)) w.heap.size 47 (.slice a5 k5 c5) st := grown_put (w' := w5) ho5 _ (not_rowR5 J5 ho5)
  have Z7 := Z6.set nm fr up ep (.slice a5 k5 c5)
  have B7 := below_putR5 (g := w.heap.size + 1) B6' (by omega) nm fr up ep (.slice a5 k5 c5)
  have O7 := own_putR5 (b := w.heap.size + 1) O6 (not_rowR5 Z6 O6) nm fr up ep (.slice a5 k5 c5)
  go_wp2
  refine bodyPost_ret (ret_run1 rfl rfl Z7) rfl ⟨_, rfl, O7, B7⟩
end Go.Proofs.Ytkfhmeiiicidaaa
