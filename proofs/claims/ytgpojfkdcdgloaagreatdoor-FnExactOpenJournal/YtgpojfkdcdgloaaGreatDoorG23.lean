/-
  Journals: the law's helpers on them (copies, held against each other, marked): the walks; a journal that came in. The law on a journal's file that is read: the walk. A disk's journal that is opened, as the program does it: the walk of openJournal. A right disk's journal that is opened, as the program does it: the walk of openJournal. A disk's journal that is opened, as the program does it: the walk of OpenJournal.
-/
import Derived.Test.YtgpojfkdcdgloaaGreatDoorG9
import Derived.Lib.SmallJoins
import Derived.Test.YtgpojfkdcdgloaaGreatDoorG22
import Derived.Test.YtgpojfkdcdgloaaGreatDoorG18
import Derived.Deep.RegionLaw
namespace Go.Proofs.YtgpojfkdcdgloaaGreatDoor
open Go Go.RowKit

set_option maxRecDepth 10000 in
set_option maxHeartbeats 1000000 in
theorem eqJournal_any (n t v s st : Int) (va vb : Value) (l : List En) (w : World) (ha : Reads w va l) (hb : Reads w vb l) (hn : l.length ≤ 1048577) :
    Calls Tryz.prog 8 #[jV n t v s st va, jV n t v s st vb] w fun e w' => e = .returned (.bool true) ∧ Below w.heap.size w w' := by
  obtain ⟨ao, c, rfl, _⟩ := id ha
  obtain ⟨bo, d, rfl, _⟩ := id hb
  have HA : Hid (Reads w (.slice ao l.length c) l) := ha
  have HB : Hid (Reads w (.slice bo l.length d) l) := hb
  clear ha hb
  go_enter Tryz.func8, Tryz.ntmps8
  go_wp2_with (go_at_call 27; refine (eqLog_any s st _ _ l _ ((HA.out.alloc _).alloc _) ((HB.out.alloc _).alloc _) hn).mono ?_; rintro e w2 ⟨rfl, hb2⟩)
  go_ret
  exact ⟨rfl, (ba (ba (Below.refl _ _) _) _).trans (hb2.mono (by simp; omega))⟩

set_option maxRecDepth 10000 in
set_option maxHeartbeats 1000000 in
theorem markJournal_any {w : World} {B : Nat} {n t v s st x : Int} {e : Value} {l : List En} (ho : ownsR w B 110 e l) (hn : l.length ≤ 1048577) (hx0 : 0 < x) (hx : x ≤ 100000000) :
    Calls Tryz.prog 12 #[jV n t v s st e, .int .i64 x] w fun r w' => r = .returned (.int .i64 (x + 3 * (l.length : Int))) ∧ ownsR w' B 110 e (marksEn x l.length) ∧ w.grownBy w' e.ownBlock := by
  obtain ⟨ao, c, rfl⟩ := ho.slice
  have HO : Hid (ownsR w B 110 (.slice ao l.length c) l) := ho
  clear ho
  go_enter Tryz.func12, Tryz.ntmps12
  go_wp2_with (go_at_call 31; refine (markLog_any (HO.out.alloc _) hn hx0 hx).mono ?_; rintro e w2 ⟨rfl, ho2, hb2⟩)
  go_ret
  exact ⟨rfl, ho2, grown_trans (World.grownBy_alloc w _ _) hb2⟩

set_option maxRecDepth 10000 in
set_option maxHeartbeats 1000000 in
theorem heldJournal_any {w : World} {n t v s st x : Int} {k : Nat} {e : Value} (hr : Reads w e (marksEn x k)) (hn : k ≤ 1048577) (hx0 : 0 < x) (hx : x ≤ 100000000) :
    Calls Tryz.prog 14 #[jV n t v s st e, .int .i64 x] w fun r w' => r = .returned (.int .i64 (x + 3 * (k : Int))) ∧ Below w.heap.size w w' := by
  obtain ⟨ao, c, rfl, _⟩ := id hr
  have HR : Hid (Reads w (.slice ao (marksEn x k).length c) (marksEn x k)) := hr
  clear hr
  go_enter Tryz.func14, Tryz.ntmps14
  go_wp2_with (go_at_call 33; refine (heldLog_any (HR.out.alloc _) hn hx0 hx).mono ?_; rintro e w2 ⟨rfl, hb2⟩)
  all_goals go_ret
  all_goals exact ⟨rfl, below_new hb2⟩

theorem len6 {α : Type} {l : List α} (h : l.length = 6) : ∃ a b c d e f, l = [a, b, c, d, e, f] := by
  match l, h with
  | [a, b, c, d, e, f], _ => exact ⟨a, b, c, d, e, f, rfl⟩
end Go.Proofs.YtgpojfkdcdgloaaGreatDoor

namespace Go.Proofs.YtgpojfkdcdgloaaGreatDoor
open Go Go.RowKit

theorem goJ_good : ∀ (l : List (ByteArray × Nat)) (z : Jn × Nat), (∀ x ∈ l, 1 ≤ x.2 ∧ x.2 ≤ 20000) → JGood z → JGood (goJ z l)
  | [], _, _, h => h
  | x :: l, z, hl, h => by
    unfold goJ
    split
    · rename_i hb
      exact goJ_good l _ (fun y hy => hl y (List.mem_cons_of_mem _ hy)) (h.next hb (hl x List.mem_cons_self).1 (hl x List.mem_cons_self).2)
    · exact h
theorem chain_mem (s : ByteArray) (hs : s.size ≤ 20000) : ∀ (l : List (ByteArray × Nat)) (a : Nat), a ≤ s.size → ChainF s a l → ∀ x ∈ l, 1 ≤ x.2 ∧ x.2 ≤ 20000
  | [], _, _, _, x, hx => by cases hx
  | y :: l, a, ha, hc, x, hx => by
    have hbd := rdF_bd ha (hc.1.trans (by rfl : some y = some (y.1, y.2)))
    rcases List.mem_cons.1 hx with rfl | h
    · omega
    · exact chain_mem s hs l y.2 hbd.2 hc.2 x h
theorem rdJ_good (s : ByteArray) : JGood (rdJ s) := by
  unfold rdJ
  refine goJ_good _ _ ?_ JGood.init
  by_cases h : s.size ≤ 20000
  · rw [frq_in h]
    exact chain_mem s h _ 0 (Nat.zero_le _) (unf_chain s _ 0)
  · rw [frq_long (by omega)]
    intro x hx; cases hx
theorem rjJ_len (n : Int) (s : ByteArray) : (rjJ n s).l.length ≤ 60 := by
  unfold rjJ
  split
  · exact (rdJ_good s).len
  · simp

end Go.Proofs.YtgpojfkdcdgloaaGreatDoor

namespace Go.Proofs.YtgpojfkdcdgloaaGreatDoor
open Go Go.RowKit

/-- The text of the newest journal's file. -/
def opT (l : List Fl) : ByteArray := (fileR l (jname (newN l))).1
/-- The journal that is read of it. -/
def opJ (l : List Fl) : Jn := rjJ (newN l) (opT l)
/-- Whether no byte of it is left. -/
def opE (l : List Fl) : Bool := decide ((opT l).size ≤ rjP (newN l) (opT l))
/-- Whether it can be opened. -/
def opB (l : List Fl) : Bool := diskR l && (rjB (newN l) (opT l) && (opE l || jtB (newN l + 1) (opJ l).t (opJ l).v (opJ l).s (opJ l).st (opJ l).l))
def opN (l : List Fl) : Int := if opE l then newN l else newN l + 1
def opA (l : List Fl) : List Ac := dropsOf (newN l) l ++ (if opE l then [] else renA (jtX (newN l + 1) (opJ l).t (opJ l).v (opJ l).s (opJ l).st (opJ l).l) (jname (newN l + 1)) (jname (newN l)))
/-- What the program's inner function answers. -/
def OjP (l : List Fl) (w : World) (e : Ending) (w' : World) : Prop :=
  ∃ (n1 t1 v1 s1 u1 : Int) (xa : Option Addr) (xk xc : Nat) (a ev : Value), e = .returned (.tuple #[jV n1 t1 v1 s1 u1 (.slice xa xk xc), a, ev]) ∧ Below w.heap.size w w' ∧
    (opB l = true → ev = .nilIface ∧ (n1 = opN l ∧ t1 = (opJ l).t ∧ v1 = (opJ l).v ∧ s1 = (opJ l).s ∧ u1 = (opJ l).st) ∧ ownsR w' w.heap.size 110 (.slice xa xk xc) (opJ l).l ∧ ownsR w' w.heap.size 57 a (opA l)) ∧
    (opB l = false → ∃ c, ev = faultV c)
theorem file_small {l : List Fl} (h : diskR l = true) (s : ByteArray) : (fileR l s).1.size ≤ 20000 := by
  unfold fileR findF
  split
  · rename_i f hf
    obtain ⟨i, hi⟩ := List.getElem?_of_mem (List.mem_of_find?_eq_some hf)
    have := (right_true (diskR_right h i f hi)).2.1
    dsimp only
    omega
  · exact Nat.zero_le _
theorem texts_right {l : List Fl} (h : diskR l = true) : TextsL l := fun f hf => by
  obtain ⟨i, hi⟩ := List.getElem?_of_mem hf
  have := (right_true (diskR_right h i f hi)).2.1
  omega
theorem disk_len {l : List Fl} (h : diskR l = true) : l.length ≤ 30 := by
  unfold diskR at h
  simp at h
  exact h.1
theorem rjJ_sized (n : Int) (s : ByteArray) : SizedE (rjJ n s).l := by
  unfold rjJ
  split
  · exact (rdJ_good s).sized
  · intro f hf; cases hf
theorem ac_ones (l : List Ac) : ∀ x ∈ l, ∀ v ∈ Rec.cells x, v.oneCell' = true := by
  intro x _ v hv
  simp [Rec.cells] at hv
  rcases hv with rfl | rfl | rfl | rfl <;> rfl
/-- Rows of unlike types lie apart. -/
theorem rows_apart {w : World} {B : Nat} {v v2 : Value} {l : List En} {l2 : List Ac} (h : ownsR w B 110 v l) (h2 : ownsR w B 57 v2 l2) : v.ownBlock = none ∨ v.ownBlock ≠ v2.ownBlock := by
  rcases h.2 with ⟨rfl, _⟩ | ⟨g, cap, cur, rfl, _, hg, _⟩
  · exact .inl rfl
  · refine .inr fun e => ?_
    rcases h2.2 with ⟨rfl, _⟩ | ⟨g2, cap2, cur2, rfl, _, hg2, _⟩
    · cases e
    · simp only [Value.ownBlock, Option.some.injEq] at e
      subst e
      rw [hg] at hg2
      simp only [Option.some.injEq, Obj.cells.injEq] at hg2
      exact absurd hg2.2.1 (by decide)

set_option maxRecDepth 10000 in
set_option maxHeartbeats 4000000 in
theorem openJournal_wrong (ao : Option Addr) (n c : Nat) (l : List Fl) (w : World) (hr : Reads w (.slice ao n c) l) (hd : diskR l = false) :
    Calls Tryz.prog 26 #[.agg #[.slice ao n c]] w (OjP l w) := by
  have CD : Hid (∀ W, Below w.heap.size w W → Calls Tryz.prog 46 #[.agg #[.slice ao n c]] W fun e w' => e = .returned (.bool false) ∧ Below W.heap.size W w') := fun W hb => by
    have := diskOk_any (hr.below hb)
    rwa [hd] at this
  have HB : Hid (opB l = false) := by show _ = _; unfold opB; rw [hd]; rfl
  clear hr hd
  go_enter Tryz.func26, Tryz.ntmps26
  have Z0 : B6 ((w.alloc (.cells #[.slice ao n c] 36)).alloc (.cells #[.int .i64 0, .int .i64 0, .int .i64 0, .int .i64 0, .int .i64 0, .slice none 0 0] 30)) (w.heap.size + 1) (.int .i64 0) (.int .i64 0) (.int .i64 0) (.int .i64 0) (.int .i64 0) (.slice none 0 0) := by
    have := B6.new (w.alloc (.cells #[.slice ao n c] 36)) (.int .i64 0) (.int .i64 0) (.int .i64 0) (.int .i64 0) (.int .i64 0) (.slice none 0 0)
    simpa using this
  have B0 : Below w.heap.size w ((w.alloc (.cells #[.slice ao n c] 36)).alloc (.cells #[.int .i64 0, .int .i64 0, .int .i64 0, .int .i64 0, .int .i64 0, .slice none 0 0] 30)) := ba (ba (Below.refl _ _) _) _
  go_wp2_with fail
  refine Calls.mono (CD.out _ B0) ?_
  rintro e w1 ⟨rfl, hb1⟩
  have Z1 := Z0.up hb1
  have B1 := Below.on B0 hb1
  clear Z0 B0 hb1
  have r0 := Z1.c0
  have r1 := Z1.c1
  have r2 := Z1.c2
  have r3 := Z1.c3
  have r4 := Z1.c4
  have r5 := Z1.c5
  have rf := Z1.fr
  have Z2 := Z1.set (.int .i64 0) (.int .i64 0) (.int .i64 0) (.int .i64 0) (.int .i64 0) (.slice none 0 0)
  have B2 := below_set6 (b := w.heap.size + 1) B1 (by omega) (.int .i64 0) (.int .i64 0) (.int .i64 0) (.int .i64 0) (.int .i64 0) (.slice none 0 0)
  go_wp2
  exact bodyPost_ret (ret_j3 rfl rfl rfl rfl Z2) rfl ⟨0, 0, 0, 0, 0, _, _, _, _, _, rfl, B2, fun h => (by rw [HB.out] at h; cases h), fun _ => ⟨1, rfl⟩⟩
end Go.Proofs.YtgpojfkdcdgloaaGreatDoor

namespace Go.Proofs.YtgpojfkdcdgloaaGreatDoor
open Go Go.RowKit

/-- The store behind the append, and the append behind the store: what lies there then. -/
def OjF (w w' : World) (u0 u1 u2 u3 u4 y a : Value) (L : List En) (A : List Ac) : Prop := Below w.heap.size w w' ∧ B6 w' (w.heap.size + 1) u0 u1 u2 u3 u4 y ∧ ownsR w' w.heap.size 110 y L ∧ ownsR w' w.heap.size 57 a A
theorem oj_last {w w9 : World} {u0 u1 u2 u3 u4 y a x0 x1 x2 x3 x4 x5 : Value} {L : List En} {A : List Ac} (B : Below w.heap.size w w9) (Z : B6 w9 (w.heap.size + 1) x0 x1 x2 x3 x4 x5) (X : ownsR w9 w.heap.size 110 y L) (O : ownsR w9 w.heap.size 57 a A) :
    OjF w (set6 w9 (w.heap.size + 1) u0 u1 u2 u3 u4 y) u0 u1 u2 u3 u4 y a L A :=
  ⟨below_set6 B (Nat.le_succ _) _ _ _ _ _ _, Z.set _ _ _ _ _ _, ownsR_set6 X (not_row6 Z X) _ _ _ _ _ _, ownsR_set6 O (not_row6a Z O) _ _ _ _ _ _⟩
theorem oj_grown {w ws w9 : World} {u0 u1 u2 u3 u4 y a a2 : Value} {L : List En} {A A2 : List Ac} (F : OjF w ws u0 u1 u2 u3 u4 y a L A) (hg : ws.grownBy w9 a.ownBlock) (O : ownsR w9 w.heap.size 57 a2 A2) : OjF w w9 u0 u1 u2 u3 u4 y a2 L A2 := by
  obtain ⟨B, Z, X, O1⟩ := F
  exact ⟨B.grown hg B.size (fun k hk => (O1.lt k hk).1), Z.grown hg (not_row6a Z O1), ownsR.other X hg (rows_apart X O1), O⟩
theorem OjF.drew {w w' : World} {u0 u1 u2 u3 u4 y a : Value} {L : List En} {A : List Ac} (h : OjF w w' u0 u1 u2 u3 u4 y a L A) : OjF w w'.drew u0 u1 u2 u3 u4 y a L A := ⟨Below.drew h.1, B6.drew h.2.1, ownsR.drew h.2.2.1, ownsR.drew h.2.2.2⟩

set_option maxRecDepth 10000 in
set_option maxHeartbeats 1000000 in
theorem openJournal_right (ao : Option Addr) (n c : Nat) (l : List Fl) (w : World) (hr : Reads w (.slice ao n c) l) (hd : diskR l = true) (hp : PowIs w) (ht : TableIs w) (he : ErrIs w) :
    Calls Tryz.prog 26 #[.agg #[.slice ao n c]] w (OjP l w) := by
  obtain ⟨m, HM⟩ : ∃ m, Hid (newN l = m) := ⟨_, rfl⟩
  obtain ⟨tx, HTX⟩ : ∃ x, Hid (opT l = x) := ⟨_, rfl⟩
  have HS : Hid (tx.size ≤ 20000) := by show _ ≤ _; rw [← HTX.out]; exact file_small hd _
  have HL : Hid (l.length ≤ 30) := disk_len hd
  obtain ⟨ev, HEV⟩ : ∃ ev, Hid ((if rjB m tx then (if rjP m tx < tx.size then faultV 3 else .nilIface) else if numB m then faultV 2 else faultV 1) = ev) := ⟨_, rfl⟩
  obtain ⟨jn, H1⟩ : ∃ q, Hid (rjN m tx = q) := ⟨_, rfl⟩
  obtain ⟨jt, H2⟩ : ∃ q, Hid ((rjJ m tx).t = q) := ⟨_, rfl⟩
  obtain ⟨jv, H3⟩ : ∃ q, Hid ((rjJ m tx).v = q) := ⟨_, rfl⟩
  obtain ⟨js, H4⟩ : ∃ q, Hid ((rjJ m tx).s = q) := ⟨_, rfl⟩
  obtain ⟨ju, H5⟩ : ∃ q, Hid ((rjJ m tx).st = q) := ⟨_, rfl⟩
  obtain ⟨L, H7⟩ : ∃ q, Hid ((rjJ m tx).l = q) := ⟨_, rfl⟩
  have HLL : Hid (L.length ≤ 60 ∧ SizedE L) := by show _ ∧ _; rw [← H7.out]; exact ⟨rjJ_len m tx, rjJ_sized m tx⟩
  have CD : Hid (∀ W, Below w.heap.size w W → Calls Tryz.prog 46 #[.agg #[.slice ao n c]] W fun e w' => e = .returned (.bool true) ∧ Below W.heap.size W w') := fun W hb => by
    have := diskOk_any (hr.below hb)
    rwa [hd] at this
  have CN : Hid (∀ W, Below w.heap.size w W → Calls Tryz.prog 47 #[.agg #[.slice ao n c]] W fun e w' => e = .returned (.int .i64 m) ∧ Below W.heap.size W w') := fun W hb => by
    have := newestNumber_any (hr.below hb) (by have := HL.out; omega) (names_right hd) (hp.below hb)
    rwa [HM.out] at this
  have CJ : Hid (∀ W, Below w.heap.size w W → Calls Tryz.prog 49 #[.int .i64 m] W fun e w' => e = .returned (.string (jname m)) ∧ Below W.heap.size W w') := fun W hb => journalName_any _ W (hp.below hb)
  obtain ⟨z, HZ⟩ : ∃ z, Hid ((fileR l (jname m)).2 = z) := ⟨_, rfl⟩
  have CF : Hid (∀ W, Below w.heap.size w W → Calls Tryz.prog 48 #[.agg #[.slice ao n c], .string (jname m)] W fun e w' => e = .returned (.tuple #[.string tx, .bool z]) ∧ Below W.heap.size W w') := fun W hb => by
    have := fileAt_any (jname m) (hr.below hb) (by have := HL.out; omega) (texts_right hd)
    rw [show (fileR l (jname m)).1 = tx by rw [← HTX.out]; unfold opT; rw [HM.out], HZ.out] at this
    exact this
  have CR : Hid (∀ W, Below w.heap.size w W → Calls Tryz.prog 50 #[.int .i64 m, .string tx] W fun e w' => ∃ v, e = .returned (.tuple #[jV jn jt jv js ju v, .int .i64 (rjP m tx : Int), ev]) ∧ ownsR w' W.heap.size 110 v L ∧ Below W.heap.size W w') := fun W hb => by
    refine (readJournal1 m tx W (by have := HS.out; omega) (hp.below hb) (ht.below hb)).mono ?_
    rintro e w' ⟨n1, t1, v1, s1, u1, a1, k1, c1, h1, ⟨rfl, rfl, rfl, rfl, rfl⟩, h3, h4⟩
    rw [HEV.out, H1.out, H2.out, H3.out, H4.out, H5.out] at h1
    rw [H7.out] at h3
    exact ⟨_, h1, h3, h4⟩
  have CO : Hid (∀ W, Below w.heap.size w W → Calls Tryz.prog 51 #[.agg #[.slice ao n c], .int .i64 m] W fun e w' => ∃ v, e = .returned v ∧ ownsR w' W.heap.size 57 v (dropsOf m l) ∧ Below W.heap.size W w') := fun W hb => by
    have hh := (hr.below hb).len
    exact otherDrops_try ao n c l m W (hr.below hb) (by have := HL.out; omega) (names_right hd) (hp.below hb)
  have HD : Hid (diskR l = true) := hd
  have HE : Hid (ErrIs w) := he
  have HP : Hid (PowIs w) := hp
  have HT : Hid (TableIs w) := ht
  clear hr hd hp ht he
  go_enter Tryz.func26, Tryz.ntmps26
  have D0 : ((w.alloc (.cells #[.slice ao n c] 36)).alloc (.cells #[.int .i64 0, .int .i64 0, .int .i64 0, .int .i64 0, .int .i64 0, .slice none 0 0] 30)).cell? ⟨w.heap.size, 0, none⟩ = some (.slice ao n c) := by simp [go_sem]
  have Z0 : B6 ((w.alloc (.cells #[.slice ao n c] 36)).alloc (.cells #[.int .i64 0, .int .i64 0, .int .i64 0, .int .i64 0, .int .i64 0, .slice none 0 0] 30)) (w.heap.size + 1) (.int .i64 0) (.int .i64 0) (.int .i64 0) (.int .i64 0) (.int .i64 0) (.slice none 0 0) := by
    have := B6.new (w.alloc (.cells #[.slice ao n c] 36)) (.int .i64 0) (.int .i64 0) (.int .i64 0) (.int .i64 0) (.int .i64 0) (.slice none 0 0)
    simpa using this
  have B0 : Below w.heap.size w ((w.alloc (.cells #[.slice ao n c] 36)).alloc (.cells #[.int .i64 0, .int .i64 0, .int .i64 0, .int .i64 0, .int .i64 0, .slice none 0 0] 30)) := ba (ba (Below.refl _ _) _) _
  go_wp2_with fail
  refine Calls.mono (CD.out _ B0) ?_
  rintro e w1 ⟨rfl, hb1⟩
  have D1 := cell_up hb1 D0
  have Z1 := Z0.up hb1
  have B1 := Below.on B0 hb1
  clear Z0 B0 D0 hb1
  go_wp2_with fail
  refine Calls.mono (CN.out _ B1) ?_
  rintro e w2 ⟨rfl, hb2⟩
  have D2 := cell_up hb2 D1
  have Z2 := Z1.up hb2
  have B2 := Below.on B1 hb2
  clear Z1 B1 D1 hb2
  go_wp2
  have k0 := Wd.cell D2
  have CF2 : Hid (∀ x : Wd w2, Calls Tryz.prog 48 #[.agg #[.slice ao n c], .string (jname m)] x.at' fun e w' => e = .returned (.tuple #[.string tx, .bool z]) ∧ ∃ y : Wd w2, w' = y.at') := fun x => calls_wd (CF.out _ (Below.on B2 x.ok))
  have CJ2 : Hid (∀ x : Wd w2, Calls Tryz.prog 49 #[.int .i64 m] x.at' fun e w' => e = .returned (.string (jname m)) ∧ ∃ y : Wd w2, w' = y.at') := fun x => calls_wd (CJ.out _ (Below.on B2 x.ok))
  refine wp_region_wd (by kernel_rfl) (by kernel_rfl) ?_
  repeat (go_big_quiet_step (first | (go_at_call 49; with_reducible exact CJ2.out _) | (go_at_call 48; with_reducible exact CF2.out _)))
  refine wpQuiet_nil ?_
  rintro _ ⟨x1, rfl⟩
  obtain ⟨w3, hb3⟩ := x1
  dsimp only
  have D3 := cell_up hb3 D2
  have Z3 := Z2.up hb3
  have B3 := Below.on B2 hb3
  clear Z2 B2 D2 hb3 k0 CJ2 CF2
  go_wp2_with fail
  refine Calls.mono (CR.out _ B3) ?_
  rintro e w4 ⟨v4, rfl, ho4, hb4⟩
  obtain ⟨a4, k4, c4, rfl⟩ := ho4.slice3
  have D4 := cell_up (ba hb4 (.cells #[.int .i64 jn, .int .i64 jt, .int .i64 jv, .int .i64 js, .int .i64 ju, .slice a4 k4 c4] 30)) D3
  have Z4 := Z3.up (ba hb4 (.cells #[.int .i64 jn, .int .i64 jt, .int .i64 jv, .int .i64 js, .int .i64 ju, .slice a4 k4 c4] 30))
  have B4 := Below.on B3 (ba hb4 (.cells #[.int .i64 jn, .int .i64 jt, .int .i64 jv, .int .i64 js, .int .i64 ju, .slice a4 k4 c4] 30))
  have O4 := (ho4.mono B3.size).alloc (.cells #[.int .i64 jn, .int .i64 jt, .int .i64 jv, .int .i64 js, .int .i64 ju, .slice a4 k4 c4] 30)
  have J4 := B6.new w4 (.int .i64 jn) (.int .i64 jt) (.int .i64 jv) (.int .i64 js) (.int .i64 ju) (.slice a4 k4 c4)
  clear Z3 B3 D3 hb4 ho4
  go_wp2_with fail
  refine Calls.mono (CO.out _ B4) ?_
  rintro e w5 ⟨v5, rfl, ho5, hb5⟩
  obtain ⟨a5, k5, c5, rfl⟩ := ho5.slice3
  have Z5 := Z4.up hb5
  have B5 := Below.on B4 hb5
  have O5 := O4.all hb5
  have J5 := J4.up hb5
  have A5 := ho5.mono B4.size
  clear Z4 B4 D4 O4 J4 hb5 ho5
  obtain ⟨g, hg⟩ : ∃ g, w4.heap.size = g := ⟨_, rfl⟩
  rw [hg] at J5 ⊢
  clear hg
  go_wp2_with fail
  cases hq : rjB m tx with
  | false =>
    have HB : Hid (opB l = false) := by show _ = _; unfold opB; rw [HM.out, HTX.out, hq]; simp
    cases hn : numB m with
    | false =>
      have he1 : ev = faultV 1 := by rw [← HEV.out, hq, hn]; rfl
      subst he1
      clear hq
      refine Calls.mono (codeOf_fault 1 _ (HE.out.below B5)) ?_
      rintro e w6 ⟨rfl, hb6⟩
      have J6 := J5.up hb6
      have Z6 := Z5.up hb6
      have B6' := Below.on B5 hb6
      have O6 := O5.all hb6
      have A6 := A5.all hb6
      clear J5 Z5 B5 O5 A5 hb6
      have j0 := J6.c0
      have j1 := J6.c1
      have j2 := J6.c2
      have j3 := J6.c3
      have j4 := J6.c4
      have j5 := J6.c5
      have z0 := Z6.c0
      have z1 := Z6.c1
      have z2 := Z6.c2
      have z3 := Z6.c3
      have z4 := Z6.c4
      have z5 := Z6.c5
      have zf := Z6.fr
      go_wp2
      have Z7 := Z6.set (.int .i64 jn) (.int .i64 jt) (.int .i64 jv) (.int .i64 js) (.int .i64 ju) (.slice a4 k4 c4)
      have B7 := below_set6 (b := w.heap.size + 1) B6' (by omega) (.int .i64 jn) (.int .i64 jt) (.int .i64 jv) (.int .i64 js) (.int .i64 ju) (.slice a4 k4 c4)
      have O7 := ownsR_set6 (b := w.heap.size + 1) O6 (not_row6 Z6 O6) (.int .i64 jn) (.int .i64 jt) (.int .i64 jv) (.int .i64 js) (.int .i64 ju) (.slice a4 k4 c4)
      have A7 := ownsR_set6 (b := w.heap.size + 1) A6 (not_row6a Z6 A6) (.int .i64 jn) (.int .i64 jt) (.int .i64 jv) (.int .i64 js) (.int .i64 ju) (.slice a4 k4 c4)
      exact bodyPost_ret (ret_j3 rfl rfl rfl rfl Z7) rfl ⟨jn, jt, jv, js, ju, _, _, _, _, _, rfl, B7, fun h => (by rw [HB.out] at h; cases h), fun _ => ⟨1, rfl⟩⟩
    | true =>
      have he1 : ev = faultV 2 := by rw [← HEV.out, hq, hn]; rfl
      subst he1
      clear hq
      refine Calls.mono (codeOf_fault 2 _ (HE.out.below B5)) ?_
      rintro e w6 ⟨rfl, hb6⟩
      have J6 := J5.up hb6
      have Z6 := Z5.up hb6
      have B6' := Below.on B5 hb6
      have O6 := O5.all hb6
      have A6 := A5.all hb6
      clear J5 Z5 B5 O5 A5 hb6
      have j0 := J6.c0
      have j1 := J6.c1
      have j2 := J6.c2
      have j3 := J6.c3
      have j4 := J6.c4
      have j5 := J6.c5
      have z0 := Z6.c0
      have z1 := Z6.c1
      have z2 := Z6.c2
      have z3 := Z6.c3
      have z4 := Z6.c4
      have z5 := Z6.c5
      have zf := Z6.fr
      go_wp2
      have Z7 := Z6.set (.int .i64 jn) (.int .i64 jt) (.int .i64 jv) (.int .i64 js) (.int .i64 ju) (.slice a4 k4 c4)
      have B7 := below_set6 (b := w.heap.size + 1) B6' (by omega) (.int .i64 jn) (.int .i64 jt) (.int .i64 jv) (.int .i64 js) (.int .i64 ju) (.slice a4 k4 c4)
      have O7 := ownsR_set6 (b := w.heap.size + 1) O6 (not_row6 Z6 O6) (.int .i64 jn) (.int .i64 jt) (.int .i64 jv) (.int .i64 js) (.int .i64 ju) (.slice a4 k4 c4)
      have A7 := ownsR_set6 (b := w.heap.size + 1) A6 (not_row6a Z6 A6) (.int .i64 jn) (.int .i64 jt) (.int .i64 jv) (.int .i64 js) (.int .i64 ju) (.slice a4 k4 c4)
      exact bodyPost_ret (ret_j3 rfl rfl rfl rfl Z7) rfl ⟨jn, jt, jv, js, ju, _, _, _, _, _, rfl, B7, fun h => (by rw [HB.out] at h; cases h), fun _ => ⟨2, rfl⟩⟩
  | true =>
    have HRB : Hid (rjB m tx = true) := hq
    have HJN : Hid (jn = m) := by show _ = _; rw [← H1.out]; unfold rjN; rw [hq]; rfl
    by_cases hlt : rjP m tx < tx.size
    · have he3 : ev = faultV 3 := by rw [← HEV.out, hq, if_pos rfl, if_pos hlt]
      subst he3
      have HOE : Hid (opE l = false) := by show _ = _; unfold opE; rw [HM.out, HTX.out]; exact decide_eq_false (by omega)
      clear hq hlt
      refine Calls.mono (codeOf_fault 3 _ (HE.out.below B5)) ?_
      rintro e w6 ⟨rfl, hb6⟩
      have J6 := J5.up hb6
      have Z6 := Z5.up hb6
      have B6' := Below.on B5 hb6
      have O6 := O5.all hb6
      have A6 := A5.all hb6
      clear J5 Z5 B5 O5 A5 hb6
      have hm := numB_out (show numB m = true by have := HRB.out; unfold rjB at this; simp at this; exact this.1)
      obtain ⟨hm0, hm1⟩ := hm
      obtain ⟨RA, HRA⟩ : ∃ q, Hid (renA (jtX (m + 1) jt jv js ju L) (jname (m + 1)) (jname m) = q) := ⟨_, rfl⟩
      obtain ⟨E, HEE⟩ : ∃ q, Hid (jtE (m + 1) jt jv js ju L = q) := ⟨_, rfl⟩
      have CW : Hid (∀ W, Below w6.heap.size w6 W → Calls Tryz.prog 53 #[.int .i64 m, jV jn jt jv js ju (.slice a4 k4 c4)] W fun e w' => ∃ a y, e = .returned (.tuple #[a, jV (m + 1) jt jv js ju y, E]) ∧ ownsR w' W.heap.size 57 a RA ∧ ownsR w' W.heap.size 110 y L ∧ Below W.heap.size W w') := fun W hb => by
        have := renewedActs_try m jn jt jv js ju a4 k4 c4 L W (O6.all hb).reads (by have := HLL.out.1; omega) HLL.out.2 hm0 hm1 (HP.out.below (Below.on B6' hb)) (HT.out.below (Below.on B6' hb))
        rw [HRA.out, HEE.out] at this
        exact this
      have hlenA : (dropsOf m l).length + RA.length ≤ 1048577 := by
        have h1 := drops_length m l
        have h2 := HL.out
        have h3 : RA.length = 4 := by rw [← HRA.out]; rfl
        omega
      have j0 := J6.c0
      have j1 := J6.c1
      have j2 := J6.c2
      have j3 := J6.c3
      have j4 := J6.c4
      have j5 := J6.c5
      go_wp2_with fail
      refine Calls.mono (CW.out _ (Below.refl _ _)) ?_
      rintro e w7 ⟨va, vy, rfl, ho7, hx7, hb7⟩
      obtain ⟨a7, k7, c7, rfl⟩ := ho7.slice3
      obtain ⟨a8, k8, c8, rfl⟩ := hx7.slice3
      have N8 := B6.new w7 (.int .i64 (m + 1)) (.int .i64 jt) (.int .i64 jv) (.int .i64 js) (.int .i64 ju) (.slice a8 k8 c8)
      have Z8 := (Z6.up hb7).alloc (.cells #[.int .i64 (m + 1), .int .i64 jt, .int .i64 jv, .int .i64 js, .int .i64 ju, .slice a8 k8 c8] 30)
      have B8 := ba (Below.on B6' hb7) (.cells #[.int .i64 (m + 1), .int .i64 jt, .int .i64 jv, .int .i64 js, .int .i64 ju, .slice a8 k8 c8] 30)
      have A8 := (A6.all hb7).alloc (.cells #[.int .i64 (m + 1), .int .i64 jt, .int .i64 jv, .int .i64 js, .int .i64 ju, .slice a8 k8 c8] 30)
      have R8 := (ho7.mono B6'.size).alloc (.cells #[.int .i64 (m + 1), .int .i64 jt, .int .i64 jv, .int .i64 js, .int .i64 ju, .slice a8 k8 c8] 30)
      have X8 := (hx7.mono B6'.size).alloc (.cells #[.int .i64 (m + 1), .int .i64 jt, .int .i64 jv, .int .i64 js, .int .i64 ju, .slice a8 k8 c8] 30)
      clear J6 Z6 B6' O6 A6 hb7 ho7 hx7 j0 j1 j2 j3 j4 j5 CW
      go_wp2
      obtain ⟨w8, hw8⟩ : ∃ w8, w7.alloc (.cells #[.int .i64 (m + 1), .int .i64 jt, .int .i64 jv, .int .i64 js, .int .i64 ju, .slice a8 k8 c8] 30) = w8 := ⟨_, rfl⟩
      rw [hw8] at N8 Z8 B8 A8 R8 X8 ⊢
      clear hw8
      obtain ⟨g8, hg8⟩ : ∃ g, w7.heap.size = g := ⟨_, rfl⟩
      rw [hg8] at N8 ⊢
      clear hg8
      have y0 := N8.c0
      have y1 := N8.c1
      have y2 := N8.c2
      have y3 := N8.c3
      have y4 := N8.c4
      have y5 := N8.c5
      have z0 := Z8.c0
      have z1 := Z8.c1
      have z2 := Z8.c2
      have z3 := Z8.c3
      have z4 := Z8.c4
      have z5 := Z8.c5
      have zf := Z8.fr
      have FS : OjF w (set6 w8 (w.heap.size + 1) (.int .i64 (m + 1)) (.int .i64 jt) (.int .i64 jv) (.int .i64 js) (.int .i64 ju) (.slice a8 k8 c8)).drew (.int .i64 (m + 1)) (.int .i64 jt) (.int .i64 jv) (.int .i64 js) (.int .i64 ju) (.slice a8 k8 c8) (.slice a5 k5 c5) L (dropsOf m l) := (oj_last B8 Z8 X8 A8).drew
      have RS : ownsR (set6 w8 (w.heap.size + 1) (.int .i64 (m + 1)) (.int .i64 jt) (.int .i64 jv) (.int .i64 js) (.int .i64 ju) (.slice a8 k8 c8)).drew w.heap.size 57 (.slice a7 k7 c7) RA := ownsR.drew (ownsR_set6 (b := w.heap.size + 1) R8 (not_row6a Z8 R8) (.int .i64 (m + 1)) (.int .i64 jt) (.int .i64 jv) (.int .i64 js) (.int .i64 ju) (.slice a8 k8 c8))
      refine wp_puts' (α := Option Addr × Nat × Nat) (fun x => [(52, jV (m + 1) jt jv js ju (.slice a8 k8 c8)), (53, .slice a5 k5 c5), (54, .slice a7 k7 c7), (55, .slice x.1 x.2.1 x.2.2), (56, E), (3, .slice x.1 x.2.1 x.2.2), (4, E)]) (fun x w' => OjF w w' (.int .i64 (m + 1)) (.int .i64 jt) (.int .i64 jv) (.int .i64 js) (.int .i64 ju) (.slice a8 k8 c8) (.slice x.1 x.2.1 x.2.2) L (dropsOf m l ++ RA)) ?_ ?_
      · go_region_law (first
          | (refine step_append_recs rfl (.tmp 53) (.tmp 54) 31 rfl w.heap.size 57 _ 56 underAc infoAc rfl (.slice a5 k5 c5) (.slice a7 k7 c7) (dropsOf m l) RA rfl rfl A8.drew R8.drew.reads (ac_ones _) hlenA (by decide) B8.size ?_; intro v9 w9 ho9 hg9; obtain ⟨a9, k9, c9, rfl⟩ := ho9.slice3; have hu9 := grown_undrew hg9; have Z9 := Z8.grown hu9 (not_row6a Z8 A8); have N9 := N8.grown hu9 (not_row6a N8 A8); have X9 := ownsR.other X8 hu9 (rows_apart X8 A8); have B9 := B8.grown hu9 B8.size (fun k hk => (A8.lt k hk).1); have q0 := N9.c0; have q1 := N9.c1; have q2 := N9.c2; have q3 := N9.c3; have q4 := N9.c4; have q5 := N9.c5; have p0 := Z9.c0; have p1 := Z9.c1; have p2 := Z9.c2; have p3 := Z9.c3; have p4 := Z9.c4; have p5 := Z9.c5; have pf := Z9.fr; clear hg9 hu9)
          | (refine step_append_recs rfl (.tmp 53) (.tmp 54) 31 rfl w.heap.size 57 _ 56 underAc infoAc rfl (.slice a5 k5 c5) (.slice a7 k7 c7) (dropsOf m l) RA rfl rfl FS.2.2.2 RS.reads (ac_ones _) hlenA (by decide) FS.1.size ?_; intro v9 w9 ho9 hg9; obtain ⟨a9, k9, c9, rfl⟩ := ho9.slice3; have F9 := oj_grown FS hg9 ho9; clear hg9))
        all_goals
          dsimp only [nrm]
          first | refine ⟨(a9, k9, c9), ?_, F9⟩ | refine ⟨(a9, k9, c9), ?_, oj_last B9 Z9 X9 ho9⟩
          kernel_rfl
      clear FS RS N8 Z8 B8 A8 R8 X8 y0 y1 y2 y3 y4 y5 z0 z1 z2 z3 z4 z5 zf
      rintro ⟨a9, k9, c9⟩ w9 ⟨B9, Z9, X9, A9⟩
      simp only [putAll]
      dsimp only at A9
      have HFB : Hid (opB l = jtB (m + 1) jt jv js ju L) := by
        show _ = _
        unfold opB
        rw [HD.out, HOE.out]
        unfold opJ
        rw [HM.out, HTX.out, HRB.out, H2.out, H3.out, H4.out, H5.out, H7.out]
        simp
      have HF : Hid (opN l = m + 1 ∧ (opJ l).t = jt ∧ (opJ l).v = jv ∧ (opJ l).s = js ∧ (opJ l).st = ju ∧ (opJ l).l = L ∧ opA l = dropsOf m l ++ RA) := by
        show _ ∧ _
        unfold opN opA opJ
        rw [HOE.out, HM.out, HTX.out, H2.out, H3.out, H4.out, H5.out, H7.out, ← HRA.out]
        exact ⟨rfl, rfl, rfl, rfl, rfl, rfl, rfl⟩
      go_wp2
      refine bodyPost_ret (ret_j3 (p := 2) (u := 3) (u2 := 4) (g := w.heap.size + 1) (x := .slice a9 k9 c9) (y := E) rfl (by kernel_rfl) (by kernel_rfl) (by kernel_rfl) Z9) rfl ⟨m + 1, jt, jv, js, ju, _, _, _, _, _, rfl, B9, fun h => ?_, fun h => ?_⟩
      · obtain ⟨f1, f2, f3, f4, f5, f6, f7⟩ := HF.out
        rw [HFB.out] at h
        rw [f1, f2, f3, f4, f5, f6, f7]
        exact ⟨by rw [← HEE.out]; unfold jtE; rw [h]; rfl, ⟨rfl, rfl, rfl, rfl, rfl⟩, X9, A9⟩
      · rw [HFB.out] at h
        exact ⟨if jokB (m + 1) jt jv js ju L then 6 else 1, by rw [← HEE.out]; unfold jtE; rw [h]; rfl⟩
    · have he0 : ev = .nilIface := by rw [← HEV.out, hq, if_pos rfl, if_neg hlt]
      subst he0
      have HOE : Hid (opE l = true) := by show _ = _; unfold opE; rw [HM.out, HTX.out]; exact decide_eq_true (by omega)
      have HF : Hid (opN l = jn ∧ (opJ l).t = jt ∧ (opJ l).v = jv ∧ (opJ l).s = js ∧ (opJ l).st = ju ∧ (opJ l).l = L ∧ opA l = dropsOf m l) := by
        show _ ∧ _
        unfold opN opA opJ
        rw [HOE.out, HM.out, HTX.out, HJN.out]
        exact ⟨rfl, H2.out, H3.out, H4.out, H5.out, H7.out, by simp⟩
      have HB : Hid (opB l = true) := by show _ = _; unfold opB; rw [HD.out, HM.out, HTX.out, HRB.out, HOE.out]; rfl
      clear hq hlt
      refine Calls.mono (codeOf_nil _) ?_
      rintro e w6 ⟨rfl, hb6⟩
      have J6 := J5.up hb6
      have Z6 := Z5.up hb6
      have B6' := Below.on B5 hb6
      have O6 := O5.all hb6
      have A6 := A5.all hb6
      clear J5 Z5 B5 O5 A5 hb6
      have j0 := J6.c0
      have j1 := J6.c1
      have j2 := J6.c2
      have j3 := J6.c3
      have j4 := J6.c4
      have j5 := J6.c5
      have z0 := Z6.c0
      have z1 := Z6.c1
      have z2 := Z6.c2
      have z3 := Z6.c3
      have z4 := Z6.c4
      have z5 := Z6.c5
      have zf := Z6.fr
      go_wp2
      have Z7 := Z6.set (.int .i64 jn) (.int .i64 jt) (.int .i64 jv) (.int .i64 js) (.int .i64 ju) (.slice a4 k4 c4)
      have B7 := below_set6 (b := w.heap.size + 1) B6' (by omega) (.int .i64 jn) (.int .i64 jt) (.int .i64 jv) (.int .i64 js) (.int .i64 ju) (.slice a4 k4 c4)
      have O7 := ownsR_set6 (b := w.heap.size + 1) O6 (not_row6 Z6 O6) (.int .i64 jn) (.int .i64 jt) (.int .i64 jv) (.int .i64 js) (.int .i64 ju) (.slice a4 k4 c4)
      have A7 := ownsR_set6 (b := w.heap.size + 1) A6 (not_row6a Z6 A6) (.int .i64 jn) (.int .i64 jt) (.int .i64 jv) (.int .i64 js) (.int .i64 ju) (.slice a4 k4 c4)
      refine bodyPost_ret (ret_j3 rfl rfl rfl rfl Z7) rfl ⟨jn, jt, jv, js, ju, _, _, _, _, _, rfl, B7, fun _ => ?_, fun h => (by rw [HB.out] at h; cases h)⟩
      obtain ⟨f1, f2, f3, f4, f5, f6, f7⟩ := HF.out
      rw [f1, f2, f3, f4, f5, f6, f7]
      exact ⟨rfl, ⟨rfl, rfl, rfl, rfl, rfl⟩, O7, A7⟩
end Go.Proofs.YtgpojfkdcdgloaaGreatDoor

namespace Go.Proofs.YtgpojfkdcdgloaaGreatDoor
open Go Go.RowKit

/-- What OpenJournal answers. -/
def opRN (l : List Fl) : Int := if opB l then opN l else 0
def opRJ (l : List Fl) : Jn := if opB l then opJ l else ⟨0, 0, 0, 0, []⟩
def opRA (l : List Fl) : List Ac := if opB l then opA l else []
def OpP (l : List Fl) (w : World) (e : Ending) (w' : World) : Prop :=
  ∃ x a, e = .returned (.tuple #[jV (opRN l) (opRJ l).t (opRJ l).v (opRJ l).s (opRJ l).st x, a, .bool (opB l)]) ∧ ownsR w' w.heap.size 110 x (opRJ l).l ∧ ownsR w' w.heap.size 57 a (opRA l) ∧ Below w.heap.size w w'

set_option maxRecDepth 10000 in
set_option maxHeartbeats 2000000 in
theorem openJournal_try (ao : Option Addr) (n c : Nat) (l : List Fl) (w : World) (hr : Reads w (.slice ao n c) l) (hp : PowIs w) (ht : TableIs w) (he : ErrIs w) :
    Calls Tryz.prog 7 #[.agg #[.slice ao n c]] w (OpP l w) := by
  have CO : Hid (∀ W, Below w.heap.size w W → Calls Tryz.prog 26 #[.agg #[.slice ao n c]] W (OjP l W)) := fun W hb => by
    cases hd : diskR l with
    | false => exact openJournal_wrong ao n c l W (hr.below hb) hd
    | true => exact openJournal_right ao n c l W (hr.below hb) hd (hp.below hb) (ht.below hb) (he.below hb)
  clear hr hp ht he
  go_enter Tryz.func7, Tryz.ntmps7
  have Z0 : B6 ((w.alloc (.cells #[.slice ao n c] 36)).alloc (.cells #[.int .i64 0, .int .i64 0, .int .i64 0, .int .i64 0, .int .i64 0, .slice none 0 0] 30)) (w.heap.size + 1) (.int .i64 0) (.int .i64 0) (.int .i64 0) (.int .i64 0) (.int .i64 0) (.slice none 0 0) := by
    have := B6.new (w.alloc (.cells #[.slice ao n c] 36)) (.int .i64 0) (.int .i64 0) (.int .i64 0) (.int .i64 0) (.int .i64 0) (.slice none 0 0)
    simpa using this
  have B0 : Below w.heap.size w ((w.alloc (.cells #[.slice ao n c] 36)).alloc (.cells #[.int .i64 0, .int .i64 0, .int .i64 0, .int .i64 0, .int .i64 0, .slice none 0 0] 30)) := ba (ba (Below.refl _ _) _) _
  go_wp2_with fail
  refine Calls.mono (CO.out _ B0) ?_
  rintro e w1 ⟨n1, t1, v1, s1, u1, xa, xk, xc, va, ev, rfl, hb1, hT, hF⟩
  have Z1 := (Z0.up hb1).alloc (.cells #[.int .i64 n1, .int .i64 t1, .int .i64 v1, .int .i64 s1, .int .i64 u1, .slice xa xk xc] 30)
  have B1 := ba (Below.on B0 hb1) (.cells #[.int .i64 n1, .int .i64 t1, .int .i64 v1, .int .i64 s1, .int .i64 u1, .slice xa xk xc] 30)
  have J1 := B6.new w1 (.int .i64 n1) (.int .i64 t1) (.int .i64 v1) (.int .i64 s1) (.int .i64 u1) (.slice xa xk xc)
  have z0 := Z1.c0
  have z1 := Z1.c1
  have z2 := Z1.c2
  have z3 := Z1.c3
  have z4 := Z1.c4
  have z5 := Z1.c5
  have zf := Z1.fr
  cases hB : opB l with
  | false =>
    obtain ⟨c0, rfl⟩ := hF hB
    have HB : Hid (opB l = false) := hB
    clear hT hF hB hb1 Z0 CO
    have Z2 := Z1.alloc (.cells #[] 57)
    have B2 := ba B1 (.cells #[] 57)
    have y0 := Z2.c0
    have y1 := Z2.c1
    have y2 := Z2.c2
    have y3 := Z2.c3
    have y4 := Z2.c4
    have y5 := Z2.c5
    have yf := Z2.fr
    have A2 := ownsA_made (w1.alloc (.cells #[.int .i64 n1, .int .i64 t1, .int .i64 v1, .int .i64 s1, .int .i64 u1, .slice xa xk xc] 30)) w.heap.size 0 #[] B1.size (by decide) rfl
    go_wp2
    have Z3 := Z2.set (.int .i64 0) (.int .i64 0) (.int .i64 0) (.int .i64 0) (.int .i64 0) (.slice none 0 0)
    have B3 := below_set6 (b := w.heap.size + 1) B2 (by omega) (.int .i64 0) (.int .i64 0) (.int .i64 0) (.int .i64 0) (.int .i64 0) (.slice none 0 0)
    have A3 := ownsR_set6 (b := w.heap.size + 1) A2 (not_row6a Z2 A2) (.int .i64 0) (.int .i64 0) (.int .i64 0) (.int .i64 0) (.int .i64 0) (.slice none 0 0)
    refine bodyPost_ret (ret_j3 rfl rfl rfl rfl Z3) rfl ?_
    unfold OpP opRN opRJ opRA
    rw [HB.out]
    refine ⟨_, _, rfl, ownsR_nil _ _ _, ?_, B3⟩
    first | exact A3 | (simp only [World.size_alloc] at A3; exact A3)
  | true =>
    obtain ⟨rfl, ⟨rfl, rfl, rfl, rfl, rfl⟩, hx, ha⟩ := hT hB
    have HB : Hid (opB l = true) := hB
    have X1 := (hx.mono B0.size).alloc (.cells #[.int .i64 (opN l), .int .i64 (opJ l).t, .int .i64 (opJ l).v, .int .i64 (opJ l).s, .int .i64 (opJ l).st, .slice xa xk xc] 30)
    have A1 := (ha.mono B0.size).alloc (.cells #[.int .i64 (opN l), .int .i64 (opJ l).t, .int .i64 (opJ l).v, .int .i64 (opJ l).s, .int .i64 (opJ l).st, .slice xa xk xc] 30)
    clear hT hF hB hb1 Z0 CO hx ha
    have y0 := J1.c0
    have y1 := J1.c1
    have y2 := J1.c2
    have y3 := J1.c3
    have y4 := J1.c4
    have y5 := J1.c5
    go_wp2
    have Z3 := Z1.set (.int .i64 (opN l)) (.int .i64 (opJ l).t) (.int .i64 (opJ l).v) (.int .i64 (opJ l).s) (.int .i64 (opJ l).st) (.slice xa xk xc)
    have B3 := below_set6 (b := w.heap.size + 1) B1 (by omega) (.int .i64 (opN l)) (.int .i64 (opJ l).t) (.int .i64 (opJ l).v) (.int .i64 (opJ l).s) (.int .i64 (opJ l).st) (.slice xa xk xc)
    have X3 := ownsR_set6 (b := w.heap.size + 1) X1 (not_row6 Z1 X1) (.int .i64 (opN l)) (.int .i64 (opJ l).t) (.int .i64 (opJ l).v) (.int .i64 (opJ l).s) (.int .i64 (opJ l).st) (.slice xa xk xc)
    have A3 := ownsR_set6 (b := w.heap.size + 1) A1 (not_row6a Z1 A1) (.int .i64 (opN l)) (.int .i64 (opJ l).t) (.int .i64 (opJ l).v) (.int .i64 (opJ l).s) (.int .i64 (opJ l).st) (.slice xa xk xc)
    refine bodyPost_ret (ret_j3 rfl rfl rfl rfl Z3) rfl ?_
    unfold OpP opRN opRJ opRA
    rw [HB.out]
    exact ⟨_, _, rfl, X3, A3, B3⟩
theorem openJournal_any {w : World} {v : Value} {l : List Fl} (hr : Reads w v l) (hp : PowIs w) (ht : TableIs w) (he : ErrIs w) : Calls Tryz.prog 7 #[.agg #[v]] w (OpP l w) := by
  obtain ⟨ao, c, rfl, _⟩ := id hr
  exact openJournal_try ao _ c l w hr hp ht he
end Go.Proofs.YtgpojfkdcdgloaaGreatDoor
