/- L8s,Spo,Rmb,Chm,Bkm,Pk2,Pks -/
import Derived.Test.YtpjpheicldegkaaGreatDoorGM15
import Derived.Test.YtpjpheicldegkaaGreatDoorGM5
import Derived.Test.YtpjpheicldegkaaGreatDoorGM12
import Derived.Test.YtpjpheicldegkaaGreatDoorGM18
import Derived.Test.YtpjpheicldegkaaGreatDoorGM14
import Derived.Test.YtpjpheicldegkaaGreatDoorGM6
import Derived.Test.YtpjpheicldegkaaGreatDoorGM16
import Derived.Test.YtpjpheicldegkaaGreatDoorGM17
namespace Go.Proofs.YtpjpheicldegkaaGreatDoor
open Go Go.RowKit
set_option linter.unusedVariables false

structure M8S (g : Nat) (w : World) (m : Nat) (x0 x1 x2 x3 x4 x5 x6 x7 x8 x9 x10 x11 : Value) (l : List En) (cs : List Int) (W : World) : Prop where
  res : Kc12 27 W w.heap.size (.int .i64 0) (.int .i64 0) (.int .i64 0) (.int .i64 0) (.int .i64 0) (.int .i64 0) (.int .i64 0) (.bool false) (.slice none 0 0) (.slice none 0 0) (.string ⟨#[]⟩) (.bool false)
  msg : Kc12 27 W m x0 x1 x2 x3 x4 x5 x6 x7 x8 x9 x10 x11
  own : ownsR W (w.heap.size + 1) 59 x8 l
  ownc : ownsR W (w.heap.size + 1) 3 x9 cs
  drw : Drw W g
  sv : Save g w W
  gl : g < w.heap.size
  lo : w.heap.size < m
theorem Kc12.ty {t : TypeId} {W : World} {b : Nat} {x0 x1 x2 x3 x4 x5 x6 x7 x8 x9 x10 x11 : Value} (h : Kc12 t W b x0 x1 x2 x3 x4 x5 x6 x7 x8 x9 x10 x11) : TyB W b t := ⟨_, h⟩
theorem qza {α : Type} [Rec α] {W : World} {B m j : Nat} {e : TypeId} {x0 x1 x2 x3 x4 x5 x6 x7 x8 x9 x10 x11 v u : Value} {l : List α} (h : ownsR W B e v l) (hk : Kc12 27 W m x0 x1 x2 x3 x4 x5 x6 x7 x8 x9 x10 x11) (he : 27 ≠ e) : ownsR (W.setCell ⟨m, j, none⟩ u) B e v l :=
  h.same' fun r hr => heap_setCell_other W ⟨m, j, none⟩ r _ (fun e' => h.apartTy hk.ty he (by rw [hr, e']))
section
variable {g : Nat} {w W W' : World} {m : Nat} {x0 x1 x2 x3 x4 x5 x6 x7 x8 x9 x10 x11 : Value} {l : List En} {cs : List Int}
theorem M8S.save (h : M8S g w m x0 x1 x2 x3 x4 x5 x6 x7 x8 x9 x10 x11 l cs W) (hs : Save g W W') (hd : Drw W' g) : M8S g w m x0 x1 x2 x3 x4 x5 x6 x7 x8 x9 x10 x11 l cs W' :=
  ⟨h.res.save hs (by have := h.gl; omega), h.msg.save hs (by have := h.gl; have := h.lo; omega), h.own.save hs (by have := h.gl; omega), h.ownc.save hs (by have := h.gl; omega), hd, h.sv.trans hs, h.gl, h.lo⟩
theorem M8S.up (h : M8S g w m x0 x1 x2 x3 x4 x5 x6 x7 x8 x9 x10 x11 l cs W) (hb : Below W.heap.size W W') : M8S g w m x0 x1 x2 x3 x4 x5 x6 x7 x8 x9 x10 x11 l cs W' := h.save (Save.of_below hb) (h.drw.keep (hb.mono h.drw.lt))
theorem M8S.alloc (h : M8S g w m x0 x1 x2 x3 x4 x5 x6 x7 x8 x9 x10 x11 l cs W) (o : Obj) : M8S g w m x0 x1 x2 x3 x4 x5 x6 x7 x8 x9 x10 x11 l cs (W.alloc o) := h.up (ba (Below.refl _ _) _)
theorem M8S.drew (h : M8S g w m x0 x1 x2 x3 x4 x5 x6 x7 x8 x9 x10 x11 l cs W) : M8S g w m x0 x1 x2 x3 x4 x5 x6 x7 x8 x9 x10 x11 l cs W.drew := h.up (Below.refl _ _).drew
theorem M8S.bsz (h : M8S g w m x0 x1 x2 x3 x4 x5 x6 x7 x8 x9 x10 x11 l cs W) : w.heap.size + 1 ≤ W.heap.size := h.res.lt
theorem M8S.ne (h : M8S g w m x0 x1 x2 x3 x4 x5 x6 x7 x8 x9 x10 x11 l cs W) : some m ≠ x8.ownBlock := h.own.apartTy h.msg.ty (by decide)
theorem M8S.msgG (h : M8S g w m x0 x1 x2 x3 x4 x5 x6 x7 x8 x9 x10 x11 l cs W) (hg : W.grownBy W' x8.ownBlock) : Kc12 27 W' m x0 x1 x2 x3 x4 x5 x6 x7 x8 x9 x10 x11 := (hg.block m h.msg.lt h.ne).trans h.msg
theorem M8S.put {y0 y1 y2 y3 y4 y5 y6 y7 y8 y9 y10 y11 : Value} {l' : List En} {cs' : List Int} (h : M8S g w m x0 x1 x2 x3 x4 x5 x6 x7 x8 x9 x10 x11 l cs W) (hb : Below (w.heap.size + 1) W W') (hl : Kc12 27 W' m y0 y1 y2 y3 y4 y5 y6 y7 y8 y9 y10 y11) (ho : ownsR W' (w.heap.size + 1) 59 y8 l') (hc : ownsR W' (w.heap.size + 1) 3 y9 cs') : M8S g w m y0 y1 y2 y3 y4 y5 y6 y7 y8 y9 y10 y11 l' cs' W' :=
  ⟨h.res.on hb (Nat.lt_succ_self _), hl, ho, hc, h.drw.keep (hb.mono (by have := h.gl; omega)), h.sv.qua hb (Nat.le_succ _), h.gl, h.lo⟩
theorem M8S.bset (h : M8S g w m x0 x1 x2 x3 x4 x5 x6 x7 x8 x9 x10 x11 l cs W) (j : Nat) (u : Value) : Below (w.heap.size + 1) W (W.setCell ⟨m, j, none⟩ u) := Below.setCell (Below.refl _ _) (by show w.heap.size + 1 ≤ m; have := h.lo; omega) _
theorem M8S.s0 (h : M8S g w m x0 x1 x2 x3 x4 x5 x6 x7 x8 x9 x10 x11 l cs W) (u : Value) : M8S g w m u x1 x2 x3 x4 x5 x6 x7 x8 x9 x10 x11 l cs (W.setCell ⟨m, 0, none⟩ u) := h.put (h.bset 0 u) (h.msg.s0 u) (qza h.own h.msg (by decide)) (qza h.ownc h.msg (by decide))
theorem M8S.s1 (h : M8S g w m x0 x1 x2 x3 x4 x5 x6 x7 x8 x9 x10 x11 l cs W) (u : Value) : M8S g w m x0 u x2 x3 x4 x5 x6 x7 x8 x9 x10 x11 l cs (W.setCell ⟨m, 1, none⟩ u) := h.put (h.bset 1 u) (h.msg.s1 u) (qza h.own h.msg (by decide)) (qza h.ownc h.msg (by decide))
theorem M8S.s2 (h : M8S g w m x0 x1 x2 x3 x4 x5 x6 x7 x8 x9 x10 x11 l cs W) (u : Value) : M8S g w m x0 x1 u x3 x4 x5 x6 x7 x8 x9 x10 x11 l cs (W.setCell ⟨m, 2, none⟩ u) := h.put (h.bset 2 u) (h.msg.s2 u) (qza h.own h.msg (by decide)) (qza h.ownc h.msg (by decide))
theorem M8S.s3 (h : M8S g w m x0 x1 x2 x3 x4 x5 x6 x7 x8 x9 x10 x11 l cs W) (u : Value) : M8S g w m x0 x1 x2 u x4 x5 x6 x7 x8 x9 x10 x11 l cs (W.setCell ⟨m, 3, none⟩ u) := h.put (h.bset 3 u) (h.msg.s3 u) (qza h.own h.msg (by decide)) (qza h.ownc h.msg (by decide))
theorem M8S.s4 (h : M8S g w m x0 x1 x2 x3 x4 x5 x6 x7 x8 x9 x10 x11 l cs W) (u : Value) : M8S g w m x0 x1 x2 x3 u x5 x6 x7 x8 x9 x10 x11 l cs (W.setCell ⟨m, 4, none⟩ u) := h.put (h.bset 4 u) (h.msg.s4 u) (qza h.own h.msg (by decide)) (qza h.ownc h.msg (by decide))
theorem M8S.s5 (h : M8S g w m x0 x1 x2 x3 x4 x5 x6 x7 x8 x9 x10 x11 l cs W) (u : Value) : M8S g w m x0 x1 x2 x3 x4 u x6 x7 x8 x9 x10 x11 l cs (W.setCell ⟨m, 5, none⟩ u) := h.put (h.bset 5 u) (h.msg.s5 u) (qza h.own h.msg (by decide)) (qza h.ownc h.msg (by decide))
theorem M8S.s6 (h : M8S g w m x0 x1 x2 x3 x4 x5 x6 x7 x8 x9 x10 x11 l cs W) (u : Value) : M8S g w m x0 x1 x2 x3 x4 x5 u x7 x8 x9 x10 x11 l cs (W.setCell ⟨m, 6, none⟩ u) := h.put (h.bset 6 u) (h.msg.s6 u) (qza h.own h.msg (by decide)) (qza h.ownc h.msg (by decide))
theorem M8S.s7 (h : M8S g w m x0 x1 x2 x3 x4 x5 x6 x7 x8 x9 x10 x11 l cs W) (u : Value) : M8S g w m x0 x1 x2 x3 x4 x5 x6 u x8 x9 x10 x11 l cs (W.setCell ⟨m, 7, none⟩ u) := h.put (h.bset 7 u) (h.msg.s7 u) (qza h.own h.msg (by decide)) (qza h.ownc h.msg (by decide))
theorem M8S.s10 (h : M8S g w m x0 x1 x2 x3 x4 x5 x6 x7 x8 x9 x10 x11 l cs W) (u : Value) : M8S g w m x0 x1 x2 x3 x4 x5 x6 x7 x8 x9 u x11 l cs (W.setCell ⟨m, 10, none⟩ u) := h.put (h.bset 10 u) (h.msg.s10 u) (qza h.own h.msg (by decide)) (qza h.ownc h.msg (by decide))
theorem M8S.s11 (h : M8S g w m x0 x1 x2 x3 x4 x5 x6 x7 x8 x9 x10 x11 l cs W) (u : Value) : M8S g w m x0 x1 x2 x3 x4 x5 x6 x7 x8 x9 x10 u l cs (W.setCell ⟨m, 11, none⟩ u) := h.put (h.bset 11 u) (h.msg.s11 u) (qza h.own h.msg (by decide)) (qza h.ownc h.msg (by decide))
theorem M8S.s9 {u : Value} {cs' : List Int} (h : M8S g w m x0 x1 x2 x3 x4 x5 x6 x7 x8 x9 x10 x11 l cs W) (hc : ownsR W (w.heap.size + 1) 3 u cs') : M8S g w m x0 x1 x2 x3 x4 x5 x6 x7 x8 u x10 x11 l cs' (W.setCell ⟨m, 9, none⟩ u) := h.put (h.bset 9 u) (h.msg.s9 u) (qza h.own h.msg (by decide)) (qza hc h.msg (by decide))
theorem M8S.more {u : Value} {l' : List En} (h : M8S g w m x0 x1 x2 x3 x4 x5 x6 x7 x8 x9 x10 x11 l cs W) (hg : W.grownBy W' x8.ownBlock) (ho : ownsR W' (w.heap.size + 1) 59 u l') : M8S g w m x0 x1 x2 x3 x4 x5 x6 x7 u x9 x10 x11 l' cs (W'.setCell ⟨m, 8, none⟩ u) :=
  have hk := h.msgG hg
  have hc : ownsR W' (w.heap.size + 1) 3 x9 cs := h.ownc.same' fun r hr => hg.block r (h.ownc.lt r hr).2 (fun e => ((h.ownc.ty hr).ne (h.own.ty e.symm) (by decide)) rfl)
  have hb : Below (w.heap.size + 1) W W' := ⟨hg.os, hg.tape, hg.output, hg.size, fun k hk => hg.block k (by have := h.bsz; omega) (fun e => by have := (h.own.lt k e.symm).1; omega)⟩
  h.put (hb.trans (Below.setCell (Below.refl _ _) (by show w.heap.size + 1 ≤ m; have := h.lo; omega) _)) (hk.s8 u) (qza ho hk (by decide)) (qza hc hk (by decide))
theorem M8S.fin (h : M8S g w m x0 x1 x2 x3 x4 x5 x6 x7 x8 x9 x10 x11 l cs W) : Kc12 27 (set12 W w.heap.size x0 x1 x2 x3 x4 x5 x6 x7 x8 x9 x10 x11) w.heap.size x0 x1 x2 x3 x4 x5 x6 x7 x8 x9 x10 x11 ∧ ownsR (set12 W w.heap.size x0 x1 x2 x3 x4 x5 x6 x7 x8 x9 x10 x11) w.heap.size 59 x8 l ∧ ownsR (set12 W w.heap.size x0 x1 x2 x3 x4 x5 x6 x7 x8 x9 x10 x11) w.heap.size 3 x9 cs ∧ Drw (set12 W w.heap.size x0 x1 x2 x3 x4 x5 x6 x7 x8 x9 x10 x11) g ∧ Save g w (set12 W w.heap.size x0 x1 x2 x3 x4 x5 x6 x7 x8 x9 x10 x11) :=
  have hb : Below w.heap.size W (set12 W w.heap.size x0 x1 x2 x3 x4 x5 x6 x7 x8 x9 x10 x11) := qya (Below.refl _ _) (Nat.le_refl _) _ _ _ _ _ _ _ _ _ _ _ _
  ⟨h.res.set _ _ _ _ _ _ _ _ _ _ _ _, (qva h.own (Nat.lt_succ_self _) _ _ _ _ _ _ _ _ _ _ _ _).mono (Nat.le_succ _), (qva h.ownc (Nat.lt_succ_self _) _ _ _ _ _ _ _ _ _ _ _ _).mono (Nat.le_succ _), h.drw.keep (hb.mono h.gl), h.sv.qua hb (Nat.le_refl _)⟩
end
def LmD (LLEN : Nat) (g : Nat) (w : World) (e : Ending) (w' : World) : Prop :=
  ∃ (kd fr up tm ix lt cm : Int) (ok : Bool) (da : ByteArray) (la : Bool) (o0 : Option Addr) (o1 o2 : Nat) (c0 : Option Addr) (c1 c2 : Nat) (l : List En) (cs : List Int), e = .returned (.agg #[.int .i64 kd, .int .i64 fr, .int .i64 up, .int .i64 tm, .int .i64 ix, .int .i64 lt, .int .i64 cm, .bool ok, .slice o0 o1 o2, .slice c0 c1 c2, .string da, .bool la]) ∧ (0 ≤ up ∧ up ≤ 100) ∧ l.length ≤ LLEN ∧ (∀ f ∈ l, f.data.size ≤ 1000) ∧ cs.length ≤ 6 ∧ da.size ≤ 1000 ∧ ownsR w' w.heap.size 59 (.slice o0 o1 o2) l ∧ ownsR w' w.heap.size 3 (.slice c0 c1 c2) cs ∧ Drw w' g ∧ Save g w w'
theorem en_builtD (w : World) (f : En) : Reads ((w.alloc (.cells #[.int .i64 f.term, .int .i64 f.kind, .string f.data] 59))) (.slice (some ⟨w.heap.size, 0, none⟩) 1 1) [f] := by
  have h := K3.new 59 w (.int .i64 f.term) (.int .i64 f.kind) (.string f.data)
  refine ⟨some ⟨w.heap.size, 0, none⟩, 1, rfl, fun _ => ⟨w.heap.size, 0, rfl, by simp, fun i y hy j u hu => ?_⟩⟩
  match i, hy with
  | 0, hy =>
    simp only [List.getElem?_cons_zero, Option.some.injEq] at hy
    subst hy
    match j, hu with
    | 0, hu => cases hu; exact h.c0
    | 1, hu => cases hu; exact h.c1
    | 2, hu => cases hu; exact h.c2
    | j + 3, hu => simp [Rec.cells] at hu
  | i + 1, hy => simp at hy
theorem en_oneD (f : En) : ∀ x ∈ [f], ∀ u ∈ Rec.cells x, u.oneCell' = true := by
  intro x hx u hu
  rw [List.mem_singleton.1 hx] at hu
  have hu2 : u ∈ ([.int .i64 f.term, .int .i64 f.kind, .string f.data] : List Value) := hu
  simp only [List.mem_cons, List.not_mem_nil, or_false] at hu2
  rcases hu2 with rfl | rfl | rfl <;> rfl
structure LmY (m : Nat) (ev : Value) where
  at' : World
  okl : at'.cell? ⟨m, 8, none⟩ = some ev
end Go.Proofs.YtpjpheicldegkaaGreatDoor

namespace Go.Proofs.YtpjpheicldegkaaGreatDoor
open Go Go.RowKit
set_option linter.unusedVariables false

def TxtP (g m : Nat) (w : World) (e : Ending) (w' : World) : Prop := ∃ t : ByteArray, e = .returned (.string t) ∧ t.size ≤ m ∧ Drw w' g ∧ Save g w w'
theorem dtext_one (g : Nat) (w : World) (hd : Drw w g) : Calls Tryz.prog 67 #[.pointer (some ⟨g, 0, none⟩), .int .i64 1] w fun e w' => ∃ t : ByteArray, e = .returned (.string t) ∧ t.size = 1 ∧ Drw w' g ∧ Save g w w' := dtext_any g 1 w hd (by decide)
structure Anw where
  at' : World
set_option maxRecDepth 10000 in
set_option maxHeartbeats 2000000 in
theorem spoilt_any (g : Nat) (s : ByteArray) (w : World) (hd : Drw w g) (hs : s.size ≤ 10000) :
    Calls Tryz.prog 34 #[.pointer (some ⟨g, 0, none⟩), .string s] w (TxtP g 10001 w) := by
  go_enter Tryz.func34, Tryz.ntmps34
  go_wp2_with fail
  refine (qga g 12 _ hd (by decide) (by decide)).mono ?_
  rintro e w1 ⟨x, rfl, x0, x1, hd1, hs1⟩
  clear hd
  obtain rfl | rfl | rfl | rfl | hx : x = 0 ∨ x = 1 ∨ x = 2 ∨ x = 3 ∨ 3 < x := by omega
  · go_wp2_with fail
    refine (dtext_one g _ hd1).mono ?_
    rintro e w2 ⟨t, rfl, ht, hd2, hs2⟩
    go_wp2
    go_ret
    exact ⟨_, rfl, by rw [ByteArray.size_append]; omega, hd2, hs1.trans hs2⟩
  · go_wp2_with fail
    refine (qga g ((s.size : Int) + 1) _ hd1 (by omega) (by omega)).mono ?_
    rintro e w2 ⟨y, rfl, y0, y1, hd2, hs2⟩
    obtain ⟨k, rfl⟩ := Int.eq_ofNat_of_zero_le y0
    have hk : k ≤ s.size := by omega
    go_wp2
    go_ret
    exact ⟨_, rfl, by rw [ByteArray.size_extract]; omega, hd2, hs1.trans hs2⟩
  · by_cases h0 : (0 : Int) < (s.size : Int)
    · go_wp2_with fail
      refine (qga g (s.size : Int) _ hd1 (by omega) (by omega)).mono ?_
      rintro e w2 ⟨y, rfl, y0, y1, hd2, hs2⟩
      obtain ⟨k, rfl⟩ := Int.eq_ofNat_of_zero_le y0
      have hk : k < s.size := by omega
      have HS2 : Hid (Save g w w2) := hs1.trans hs2
      clear hs1 hs2 hd1
      go_wp2
      haveI : Nonempty Anw := ⟨⟨w2⟩⟩
      refine qha (fun w' => ∃ x : Anw, w' = x.at') [0, 1, 2, 3, 6, 7, 8, 9] 11 3 (by kernel_rfl) (by decide) (by decide) (by kernel_rfl) (fun _ _ d _ _ h => by cases d <;> exact h) ⟨⟨_⟩, rfl⟩ ?_
      repeat (refine qea rfl (fun x h => by cases h) ?_; go_big_quiet_step (fail); refine wpQuiet_nil ?_)
      refine qda ?_
      refine qfa (fuel := 2) (i := 4) (by kernel_rfl) rfl rfl ?_
      intro K hK
      go_wp2_with fail
      refine (dtext_one g _ (hd2.keep (Below.refl _ _).drew)).mono ?_
      rintro e w3 ⟨t, rfl, ht, hd3, hs3⟩
      have HS3 : Hid (Save g w w3) := (HS2.out.drew).trans hs3
      go_wp2
      refine hK.out _ _ ⟨⟨_⟩, rfl⟩ ?_
      clear hK K
      refine qfa (fuel := 1) (i := 5) (by kernel_rfl) rfl rfl ?_
      intro K hK
      go_wp2
      refine hK.out _ _ ⟨⟨_⟩, rfl⟩ ?_
      clear hK K
      refine qfa (fuel := 0) (i := 10) (by kernel_rfl) rfl rfl ?_
      intro K hK
      go_wp2
      refine hK.out _ _ ⟨⟨_⟩, rfl⟩ ?_
      clear hK K
      refine qoa (by kernel_rfl) ?_
      simp only [List.drop_succ_cons, List.drop_zero]
      go_wp2
      go_ret
      exact ⟨_, rfl, by simp only [ByteArray.size_append, ByteArray.size_extract]; omega, hd3, HS3.out⟩
    · go_wp2
      go_ret
      exact ⟨_, rfl, by omega, hd1, hs1⟩
  · by_cases h0 : (0 : Int) < (s.size : Int)
    · go_wp2_with fail
      refine (qga g (s.size : Int) _ hd1 (by omega) (by omega)).mono ?_
      rintro e w2 ⟨y, rfl, y0, y1, hd2, hs2⟩
      obtain ⟨k, rfl⟩ := Int.eq_ofNat_of_zero_le y0
      have hk : k < s.size := by omega
      have HS2 : Hid (Save g w w2) := hs1.trans hs2
      clear hs1 hs2 hd1
      go_wp2
      haveI : Nonempty Anw := ⟨⟨w2⟩⟩
      refine qha (fun w' => ∃ x : Anw, w' = x.at') [0, 1, 2, 3, 6, 7, 8, 9] 11 3 (by kernel_rfl) (by decide) (by decide) (by kernel_rfl) (fun _ _ d _ _ h => by cases d <;> exact h) ⟨⟨_⟩, rfl⟩ ?_
      repeat (refine qea rfl (fun x h => by cases h) ?_; go_big_quiet_step (fail); refine wpQuiet_nil ?_)
      refine qda ?_
      refine qfa (fuel := 2) (i := 4) (by kernel_rfl) rfl rfl ?_
      intro K hK
      go_wp2_with fail
      refine (dtext_one g _ (hd2.keep (Below.refl _ _).drew)).mono ?_
      rintro e w3 ⟨t, rfl, ht, hd3, hs3⟩
      have HS3 : Hid (Save g w w3) := (HS2.out.drew).trans hs3
      go_wp2
      refine hK.out _ _ ⟨⟨_⟩, rfl⟩ ?_
      clear hK K
      refine qfa (fuel := 1) (i := 5) (by kernel_rfl) rfl rfl ?_
      intro K hK
      go_wp2
      refine hK.out _ _ ⟨⟨_⟩, rfl⟩ ?_
      clear hK K
      refine qfa (fuel := 0) (i := 10) (by kernel_rfl) rfl rfl ?_
      intro K hK
      go_wp2
      refine hK.out _ _ ⟨⟨_⟩, rfl⟩ ?_
      clear hK K
      refine qoa (by kernel_rfl) ?_
      simp only [List.drop_succ_cons, List.drop_zero]
      go_wp2
      go_ret
      exact ⟨_, rfl, by simp only [ByteArray.size_append, ByteArray.size_extract]; omega, hd3, HS3.out⟩
    · go_wp2
      go_ret
      exact ⟨_, rfl, by omega, hd1, hs1⟩
  · have n0 : ¬ x = 0 := by omega
    have n1 : ¬ x = 1 := by omega
    have n2 : ¬ x = 2 := by omega
    have n3 : ¬ x = 3 := by omega
    go_wp2
    go_ret
    exact ⟨_, rfl, by omega, hd1, hs1⟩
end Go.Proofs.YtpjpheicldegkaaGreatDoor

namespace Go.Proofs.YtpjpheicldegkaaGreatDoor
open Go Go.RowKit
set_option linter.unusedVariables false

def okX8 (x : Mg8) : Bool := okM (x.kd : Int) (x.fr : Int) (x.up : Int) (x.tm : Int) (x.ix : Int) (x.lt : Int) (x.cm : Int) x.da x.la x.es (confT x.c)
def enX8 (x : Mg8) : ByteArray := encS (x.kd : Int) (x.fr : Int) (x.up : Int) (x.tm : Int) (x.ix : Int) (x.lt : Int) (x.cm : Int) x.ok x.da x.la x.es (confT x.c)
def rcM (s : ByteArray) : Option Mg8 := match rwM s with
  | some x => if okX8 x = true ∧ enX8 x = s then some x else none
  | none => none
theorem entsP_fine {s : ByteArray} {a b : Nat} {l : List En} (h : entsP s a = some (l, b)) : l.length ≤ 4 ∧ ∀ f ∈ l, f.data.size ≤ 20000 := by
  unfold entsP at h
  split at h
  · rename_i n c e
    have h1 := entsG_len _ _ _ h
    have h2 := entsG_sz _ _ _ h (fun f hf => by cases hf)
    refine ⟨?_, h2⟩
    unfold numU at e
    split at e
    · split at e
      · rename_i hl
        simp only [Option.some.injEq, Prod.mk.injEq] at e
        simp at h1
        omega
      · cases e
    · cases e
  · cases h
theorem msgP_fine {s : ByteArray} {a b : Nat} {x : Mg8} (h : msgP s a = some (x, b)) : x.es.length ≤ 4 ∧ ∀ f ∈ x.es, f.data.size ≤ 20000 := by
  unfold msgP at h
  simp only [Option.bind_eq_some_iff] at h
  obtain ⟨r0, _, r1, _, r2, _, r3, _, r4, _, r5, _, r6, _, r7, _, r8, _, r9, h9, r10, _, r11, _, h⟩ := h
  simp only [Option.some.injEq, Prod.mk.injEq] at h
  obtain ⟨rfl, _⟩ := h
  exact entsP_fine (b := r9.2) h9
theorem rwM_fine (s : ByteArray) : (((rwM s).getD zeroM).es.length ≤ 4) ∧ ∀ f ∈ ((rwM s).getD zeroM).es, f.data.size ≤ 20000 := by
  cases h : rwM s with
  | none => exact ⟨Nat.zero_le _, fun f hf => by cases hf⟩
  | some x =>
    unfold rwM at h
    split at h
    · rename_i y b e
      split at h
      · injection h with h
        subst h
        exact msgP_fine e
      · cases h
    · cases h
theorem qkb {fn : Func} {p q : Tmp} {w : World} {g : Nat} {x0 x1 x2 x3 x4 x5 x6 x7 x8 x9 x10 x11 y : Value} {tmps : Array Value} (h : fn.results = #[.cell p 27, .tmp q]) (hp : tmps.getD p undef = .pointer (some ⟨g, 0, none⟩)) (hq : tmps.getD q undef = y) (hb : Kc12 27 w g x0 x1 x2 x3 x4 x5 x6 x7 x8 x9 x10 x11) :
    (results fn tmps).run Tryz.prog w = .ok (.tuple #[.agg #[x0, x1, x2, x3, x4, x5, x6, x7, x8, x9, x10, x11], y]) w := by
  have hp' : tmps[p]?.getD undef = .pointer (some ⟨g, 0, none⟩) := by simpa using hp
  have hq' : tmps[q]?.getD undef = y := by simpa using hq
  simp [results, h, hp', hq', hb.c0, hb.c1, hb.c2, hb.c3, hb.c4, hb.c5, hb.c6, hb.c7, hb.c8, hb.c9, hb.c10, hb.c11, asAddr, go_sem]

theorem implEncodeW_any (kd fr up tm ix lt cm : Int) (ok : Bool) (da : ByteArray) (la : Bool) (e c : Value) (es : List En) (cs : List Int) (w : World) (he : Reads w e es) (hc : Reads w c cs) (hn : es.length ≤ 1048577) (hm : cs.length ≤ 1048577) (hz : qsc es) :
    Calls Tryz.prog 6 #[.agg #[.int .i64 kd, .int .i64 fr, .int .i64 up, .int .i64 tm, .int .i64 ix, .int .i64 lt, .int .i64 cm, .bool ok, e, c, .string da, .bool la]] w fun e' w' => e' = .returned (encV kd fr up tm ix lt cm ok da la es cs) ∧ Below w.heap.size w w' := by
  obtain ⟨ao, cap, rfl, _⟩ := id he
  obtain ⟨bo, cbp, rfl, _⟩ := id hc
  exact qud kd fr up tm ix lt cm ok da la ao bo _ cap _ cbp es cs w he hc hn hm hz
set_option maxRecDepth 10000 in
set_option maxHeartbeats 8000000 in
theorem readBack_any (s : ByteArray) (w : World) (hs : s.size ≤ 1048576) :
    Calls Tryz.prog 22 #[.string s, .func (.func 23) #[] #[], .func (.func 6) #[] #[]] w (RwM ((rcM s).getD zeroM) (rcM s).isSome w) := by
  have HS : Hid (s.size ≤ 1048576) := hs
  clear hs
  obtain ⟨W0, HW0⟩ : ∃ V, Hid (w.alloc (.cells #[.int .i64 0, .int .i64 0, .int .i64 0, .int .i64 0, .int .i64 0, .int .i64 0, .int .i64 0, .bool false, .slice none 0 0, .slice none 0 0, .string { data := #[] }, .bool false] 27) = V) := ⟨_, rfl⟩
  have K0 : Hid (Kc12 27 W0 w.heap.size (.int .i64 0) (.int .i64 0) (.int .i64 0) (.int .i64 0) (.int .i64 0) (.int .i64 0) (.int .i64 0) (.bool false) (.slice none 0 0) (.slice none 0 0) (.string { data := #[] }) (.bool false)) := by rw [← HW0.out]; exact Kc12.new _ _ _ _ _ _ _ _ _ _ _ _ _ _
  have B0 : Hid (Below w.heap.size w W0) := by rw [← HW0.out]; exact ba (Below.refl _ _) _
  have hw0 : w.heap.size < W0.heap.size := K0.out.lt
  obtain ⟨R, HR⟩ : ∃ R, Hid (rcM s = R) := ⟨_, rfl⟩
  rw [HR.out]
  obtain ⟨x, HX⟩ : ∃ x, Hid ((rwM s).getD zeroM = x) := ⟨_, rfl⟩
  obtain ⟨z, HZ⟩ : ∃ z, Hid ((rwM s).isSome = z) := ⟨_, rfl⟩
  have HF : Hid (x.es.length ≤ 4 ∧ ∀ f ∈ x.es, f.data.size ≤ 20000) := by show _ ∧ _; rw [← HX.out]; exact rwM_fine s
  obtain ⟨T, q, HV⟩ : ∃ (T : ByteArray) (q : Bool), Hid (encV (x.kd : Int) (x.fr : Int) (x.up : Int) (x.tm : Int) (x.ix : Int) (x.lt : Int) (x.cm : Int) x.ok x.da x.la x.es (confT x.c) = .tuple #[.string T, .bool q] ∧ q = okX8 x ∧ (q = true → T = enX8 x)) := by
    unfold encV
    cases hk : okX8 x with
    | true => exact ⟨enX8 x, true, by show _ ∧ _; rw [show okM (x.kd : Int) (x.fr : Int) (x.up : Int) (x.tm : Int) (x.ix : Int) (x.lt : Int) (x.cm : Int) x.da x.la x.es (confT x.c) = true from hk]; exact ⟨rfl, rfl, fun _ => rfl⟩⟩
    | false => exact ⟨_, false, by show _ ∧ _; rw [show okM (x.kd : Int) (x.fr : Int) (x.up : Int) (x.tm : Int) (x.ix : Int) (x.lt : Int) (x.cm : Int) x.da x.la x.es (confT x.c) = false from hk]; exact ⟨rfl, rfl, fun h => by cases h⟩⟩
  have HRV : Hid (R = if z = true ∧ q = true ∧ T = s then some x else none) := by
    show R = _
    rw [← HR.out]
    unfold rcM
    obtain ⟨-, h1, h2⟩ := HV.out
    cases hr : rwM s with
    | none =>
      have : z = false := by rw [← HZ.out, hr]; rfl
      rw [this]; simp
    | some y =>
      have hz : z = true := by rw [← HZ.out, hr]; rfl
      have hx : x = y := by rw [← HX.out, hr]; rfl
      subst hx
      show (if okX8 x = true ∧ enX8 x = s then some x else none) = _
      rw [hz, ← h1]
      cases q with
      | false => simp
      | true => rw [h2 rfl]; simp
  go_enter Tryz.func22, Tryz.ntmps22
  go_wp2_with fail
  rw [HW0.out]
  refine (readWhole_any s _ HS.out).mono ?_
  rw [HX.out, HZ.out]
  rintro e w1 ⟨ea, en, ec, oa, on, oc, rfl, hoe, hoc, hb⟩
  have K1 := K0.out.up hb
  have B1 := Below.on B0.out hb
  have hw1 : W0.heap.size ≤ w1.heap.size := hb.size
  have OE1 : Hid (ownsR w1 W0.heap.size 59 (.slice ea en ec) x.es) := hoe
  have OC1 : Hid (ownsR w1 W0.heap.size 3 (.slice oa on oc) (confT x.c)) := hoc
  clear hb hoe hoc
  obtain ⟨W2, HW2⟩ : ∃ V, Hid (w1.alloc (.cells #[.int .i64 (x.kd : Int), .int .i64 (x.fr : Int), .int .i64 (x.up : Int), .int .i64 (x.tm : Int), .int .i64 (x.ix : Int), .int .i64 (x.lt : Int), .int .i64 (x.cm : Int), .bool x.ok, .slice ea en ec, .slice oa on oc, .string x.da, .bool x.la] 27) = V) := ⟨_, rfl⟩
  have K2 : Kc12 27 W2 w.heap.size (.int .i64 0) (.int .i64 0) (.int .i64 0) (.int .i64 0) (.int .i64 0) (.int .i64 0) (.int .i64 0) (.bool false) (.slice none 0 0) (.slice none 0 0) (.string { data := #[] }) (.bool false) := by rw [← HW2.out]; exact K1.alloc _
  have L2 : Kc12 27 W2 w1.heap.size (.int .i64 (x.kd : Int)) (.int .i64 (x.fr : Int)) (.int .i64 (x.up : Int)) (.int .i64 (x.tm : Int)) (.int .i64 (x.ix : Int)) (.int .i64 (x.lt : Int)) (.int .i64 (x.cm : Int)) (.bool x.ok) (.slice ea en ec) (.slice oa on oc) (.string x.da) (.bool x.la) := by rw [← HW2.out]; exact Kc12.new _ _ _ _ _ _ _ _ _ _ _ _ _ _
  have B2 : Below w.heap.size w W2 := by rw [← HW2.out]; exact ba B1 _
  have OE2 : Hid (ownsR W2 W0.heap.size 59 (.slice ea en ec) x.es) := by rw [← HW2.out]; exact OE1.out.alloc _
  have OC2 : Hid (ownsR W2 W0.heap.size 3 (.slice oa on oc) (confT x.c)) := by rw [← HW2.out]; exact OC1.out.alloc _
  clear K1 B1 OE1 OC1
  go_wp2_with fail
  rw [HW2.out]
  refine (implEncodeW_any (x.kd : Int) (x.fr : Int) (x.up : Int) (x.tm : Int) (x.ix : Int) (x.lt : Int) (x.cm : Int) x.ok x.da x.la _ _ x.es (confT x.c) _ OE2.out.reads OC2.out.reads (by have := HF.out.1; omega) (by have := confT_len x.c; omega) (fun f hf => by have := HF.out.2 f hf; omega)).mono ?_
  rw [HV.out.1]
  rintro e w3 ⟨rfl, hb⟩
  have K3 := K2.up hb
  have L3 := L2.up hb
  have B3 := Below.on B2 hb
  have OE3 : Hid (ownsR w3 W0.heap.size 59 (.slice ea en ec) x.es) := OE2.out.all hb
  have OC3 : Hid (ownsR w3 W0.heap.size 3 (.slice oa on oc) (confT x.c)) := OC2.out.all hb
  clear K2 L2 B2 hb HW2 OE2 OC2
  by_cases hok : z = true ∧ q = true ∧ T = s
  · obtain ⟨rfl, rfl, rfl⟩ := hok
    obtain rfl : R = some x := by rw [HRV.out]; simp
    have hl3 := K3.lt
    have hl4 := L3.lt
    have c0 := K3.c0
    have c1 := K3.c1
    have c2 := K3.c2
    have c3 := K3.c3
    have c4 := K3.c4
    have c5 := K3.c5
    have c6 := K3.c6
    have c7 := K3.c7
    have c8 := K3.c8
    have c9 := K3.c9
    have c10 := K3.c10
    have c11 := K3.c11
    have f0 := K3.fz 0
    have f1 := K3.fz 1
    have f2 := K3.fz 2
    have f3 := K3.fz 3
    have f4 := K3.fz 4
    have f5 := K3.fz 5
    have f6 := K3.fz 6
    have f7 := K3.fz 7
    have f8 := K3.fz 8
    have f9 := K3.fz 9
    have f10 := K3.fz 10
    have f11 := K3.fz 11
    have n0 := L3.c0
    have n1 := L3.c1
    have n2 := L3.c2
    have n3 := L3.c3
    have n4 := L3.c4
    have n5 := L3.c5
    have n6 := L3.c6
    have n7 := L3.c7
    have n8 := L3.c8
    have n9 := L3.c9
    have n10 := L3.c10
    have n11 := L3.c11
    go_wp2
    have KE := K3.set (.int .i64 (x.kd : Int)) (.int .i64 (x.fr : Int)) (.int .i64 (x.up : Int)) (.int .i64 (x.tm : Int)) (.int .i64 (x.ix : Int)) (.int .i64 (x.lt : Int)) (.int .i64 (x.cm : Int)) (.bool x.ok) (.slice ea en ec) (.slice oa on oc) (.string x.da) (.bool x.la)
    refine bodyPost_ret (qkb rfl rfl rfl KE) rfl ?_
    exact ⟨ea, en, ec, oa, on, oc, rfl, (qva OE3.out hw0 _ _ _ _ _ _ _ _ _ _ _ _).mono (Nat.le_of_lt hw0), (qva OC3.out hw0 _ _ _ _ _ _ _ _ _ _ _ _).mono (Nat.le_of_lt hw0), qya B3 (Nat.le_refl _) _ _ _ _ _ _ _ _ _ _ _ _⟩
  · obtain rfl : R = none := by rw [HRV.out, if_neg hok]
    obtain ⟨W4, HW4⟩ : ∃ V, w3.alloc (.cells #[.int .i64 0, .int .i64 0, .int .i64 0, .int .i64 0, .int .i64 0, .int .i64 0, .int .i64 0, .bool false, .slice none 0 0, .slice none 0 0, .string { data := #[] }, .bool false] 27) = V := ⟨_, rfl⟩
    have K4 : Kc12 27 W4 w.heap.size (.int .i64 0) (.int .i64 0) (.int .i64 0) (.int .i64 0) (.int .i64 0) (.int .i64 0) (.int .i64 0) (.bool false) (.slice none 0 0) (.slice none 0 0) (.string { data := #[] }) (.bool false) := by rw [← HW4]; exact K3.alloc _
    have L4 : Kc12 27 W4 w3.heap.size (.int .i64 0) (.int .i64 0) (.int .i64 0) (.int .i64 0) (.int .i64 0) (.int .i64 0) (.int .i64 0) (.bool false) (.slice none 0 0) (.slice none 0 0) (.string { data := #[] }) (.bool false) := by rw [← HW4]; exact Kc12.new _ _ _ _ _ _ _ _ _ _ _ _ _ _
    have B4 : Below w.heap.size w W4 := by rw [← HW4]; exact ba B3 _
    have hl3 := K3.lt
    have c0 := K4.c0
    have c1 := K4.c1
    have c2 := K4.c2
    have c3 := K4.c3
    have c4 := K4.c4
    have c5 := K4.c5
    have c6 := K4.c6
    have c7 := K4.c7
    have c8 := K4.c8
    have c9 := K4.c9
    have c10 := K4.c10
    have c11 := K4.c11
    have f0 := K4.fz 0
    have f1 := K4.fz 1
    have f2 := K4.fz 2
    have f3 := K4.fz 3
    have f4 := K4.fz 4
    have f5 := K4.fz 5
    have f6 := K4.fz 6
    have f7 := K4.fz 7
    have f8 := K4.fz 8
    have f9 := K4.fz 9
    have f10 := K4.fz 10
    have f11 := K4.fz 11
    have n0 := L4.c0
    have n1 := L4.c1
    have n2 := L4.c2
    have n3 := L4.c3
    have n4 := L4.c4
    have n5 := L4.c5
    have n6 := L4.c6
    have n7 := L4.c7
    have n8 := L4.c8
    have n9 := L4.c9
    have n10 := L4.c10
    have n11 := L4.c11
    have KE := K4.set (.int .i64 0) (.int .i64 0) (.int .i64 0) (.int .i64 0) (.int .i64 0) (.int .i64 0) (.int .i64 0) (.bool false) (.slice none 0 0) (.slice none 0 0) (.string { data := #[] }) (.bool false)
    have HEND : Hid (RwM (Option.getD none zeroM) (Option.isSome (none : Option Mg8)) w (.returned (.tuple #[.agg #[.int .i64 0, .int .i64 0, .int .i64 0, .int .i64 0, .int .i64 0, .int .i64 0, .int .i64 0, .bool false, .slice none 0 0, .slice none 0 0, .string { data := #[] }, .bool false], .bool false])) (set12 W4 w.heap.size (.int .i64 0) (.int .i64 0) (.int .i64 0) (.int .i64 0) (.int .i64 0) (.int .i64 0) (.int .i64 0) (.bool false) (.slice none 0 0) (.slice none 0 0) (.string { data := #[] }) (.bool false))) := ⟨none, 0, 0, none, 0, 0, rfl, qmb _ _ _, qse _ _, qya B4 (Nat.le_refl _) _ _ _ _ _ _ _ _ _ _ _ _⟩
    clear K3 B3 L3 B4 K4 L4
    cases z with
    | false =>
      go_wp2
      exact bodyPost_ret (qkb rfl rfl rfl KE) rfl HEND.out
    | true =>
    cases q with
    | false =>
      go_wp2
      exact bodyPost_ret (qkb rfl rfl rfl KE) rfl HEND.out
    | true =>
    have hne := qab (fun h : T = s => hok ⟨rfl, rfl, h⟩)
    go_wp2
    exact bodyPost_ret (qkb rfl rfl rfl KE) rfl HEND.out
set_option maxRecDepth 10000 in
set_option maxHeartbeats 2000000 in
theorem implDecode_any (s : ByteArray) (w : World) (hs : s.size ≤ 1048576) :
    Calls Tryz.prog 7 #[.string s] w (RwM ((rcM s).getD zeroM) (rcM s).isSome w) := by
  have HS : Hid (s.size ≤ 1048576) := hs
  clear hs
  obtain ⟨W0, HW0⟩ : ∃ V, Hid (w.alloc (.cells #[.int .i64 0, .int .i64 0, .int .i64 0, .int .i64 0, .int .i64 0, .int .i64 0, .int .i64 0, .bool false, .slice none 0 0, .slice none 0 0, .string { data := #[] }, .bool false] 27) = V) := ⟨_, rfl⟩
  have K0 : Hid (Kc12 27 W0 w.heap.size (.int .i64 0) (.int .i64 0) (.int .i64 0) (.int .i64 0) (.int .i64 0) (.int .i64 0) (.int .i64 0) (.bool false) (.slice none 0 0) (.slice none 0 0) (.string { data := #[] }) (.bool false)) := by rw [← HW0.out]; exact Kc12.new _ _ _ _ _ _ _ _ _ _ _ _ _ _
  have B0 : Hid (Below w.heap.size w W0) := by rw [← HW0.out]; exact ba (Below.refl _ _) _
  have hw0 : w.heap.size < W0.heap.size := K0.out.lt
  obtain ⟨x, HX⟩ : ∃ x, Hid ((rcM s).getD zeroM = x) := ⟨_, rfl⟩
  obtain ⟨z, HZ⟩ : ∃ z, Hid ((rcM s).isSome = z) := ⟨_, rfl⟩
  rw [HX.out, HZ.out]
  go_enter Tryz.func7, Tryz.ntmps7
  go_wp2_with fail
  rw [HW0.out]
  refine (readBack_any s _ HS.out).mono ?_
  rw [HX.out, HZ.out]
  rintro e w1 ⟨ea, en, ec, oa, on, oc, rfl, hoe, hoc, hb⟩
  have K1 := K0.out.up hb
  have B1 := Below.on B0.out hb
  have hl1 := K1.lt
  have OE1 : Hid (ownsR w1 W0.heap.size 59 (.slice ea en ec) x.es) := hoe
  have OC1 : Hid (ownsR w1 W0.heap.size 3 (.slice oa on oc) (confT x.c)) := hoc
  clear hb hoe hoc
  have c0 := K1.c0
  have c1 := K1.c1
  have c2 := K1.c2
  have c3 := K1.c3
  have c4 := K1.c4
  have c5 := K1.c5
  have c6 := K1.c6
  have c7 := K1.c7
  have c8 := K1.c8
  have c9 := K1.c9
  have c10 := K1.c10
  have c11 := K1.c11
  have f0 := K1.fz 0
  have f1 := K1.fz 1
  have f2 := K1.fz 2
  have f3 := K1.fz 3
  have f4 := K1.fz 4
  have f5 := K1.fz 5
  have f6 := K1.fz 6
  have f7 := K1.fz 7
  have f8 := K1.fz 8
  have f9 := K1.fz 9
  have f10 := K1.fz 10
  have f11 := K1.fz 11
  go_wp2
  have KE := K1.set (.int .i64 (x.kd : Int)) (.int .i64 (x.fr : Int)) (.int .i64 (x.up : Int)) (.int .i64 (x.tm : Int)) (.int .i64 (x.ix : Int)) (.int .i64 (x.lt : Int)) (.int .i64 (x.cm : Int)) (.bool x.ok) (.slice ea en ec) (.slice oa on oc) (.string x.da) (.bool x.la)
  refine bodyPost_ret (qkb rfl rfl rfl KE) rfl ?_
  exact ⟨ea, en, ec, oa, on, oc, rfl, (qva OE1.out hw0 _ _ _ _ _ _ _ _ _ _ _ _).mono (Nat.le_of_lt hw0), (qva OC1.out hw0 _ _ _ _ _ _ _ _ _ _ _ _).mono (Nat.le_of_lt hw0), qya B1 (Nat.le_refl _) _ _ _ _ _ _ _ _ _ _ _ _⟩
end Go.Proofs.YtpjpheicldegkaaGreatDoor

namespace Go.Proofs.YtpjpheicldegkaaGreatDoor
open Go Go.RowKit
set_option linter.unusedVariables false

theorem numP_back {s : ByteArray} (a b : ByteArray) (n : Nat) (hn : n ≤ 1000000000) (he : s = a ++ bstr (varI n) ++ b) {p q : Nat} (hp : p = a.size) (hq : q = a.size + (bstr (varI n)).size) : numP s p = some (n, q) := by
  subst he hp hq
  unfold numP
  rw [rv_back a b n hn, if_pos rfl, qbe, Int.toNat_natCast, Int.toNat_natCast]
theorem extract_mid (a t b : ByteArray) : (a ++ t ++ b).extract a.size (a.size + t.size) = t := by
  apply ByteArray.ext
  apply Array.ext
  · simp only [ByteArray.data_extract, ByteArray.data_append, Array.size_extract, Array.size_append]
    show min (a.size + t.size) (a.size + t.size + b.size) - a.size = t.size
    omega
  · intro i h1 h2
    have hi : i < t.size := h2
    simp only [ByteArray.data_extract, ByteArray.data_append, Array.getElem_extract]
    rw [Array.getElem_append_left (by rw [Array.size_append]; show a.size + i < a.size + t.size; omega), Array.getElem_append_right (by show a.size ≤ a.size + i; omega)]
    congr 1
    show a.size + i - a.size = i
    omega
theorem shoP_back {s : ByteArray} (a t b : ByteArray) (ht : t.size ≤ 20000) (he : s = a ++ qsa t ++ b) {p q : Nat} (hp : p = a.size) (hq : q = a.size + (qsa t).size) : shoP s p = some (t, q) := by
  have e1 : s = a ++ bstr (varI t.size) ++ (t ++ b) := by rw [he]; simp [qsa, ByteArray.append_assoc]
  have e2 : s = (a ++ bstr (varI t.size)) ++ t ++ b := by rw [he]; simp [qsa, ByteArray.append_assoc]
  have hz : s.size = a.size + (bstr (varI t.size)).size + t.size + b.size := by rw [e2]; simp only [ByteArray.size_append]
  unfold shoP
  rw [numP_back a (t ++ b) t.size (by omega) e1 hp rfl]
  simp only []
  rw [if_pos ⟨ht, by omega⟩]
  have e3 : s.extract (a.size + (bstr (varI t.size)).size) (a.size + (bstr (varI t.size)).size + t.size) = t := by
    have := extract_mid (a ++ bstr (varI t.size)) t b
    rw [ByteArray.size_append, ← e2] at this
    exact this
  rw [e3]
  subst hq
  simp only [qsa, ByteArray.size_append, Nat.add_assoc]
theorem oneP_back {s : ByteArray} (a b : ByteArray) (n : Int) (h0 : 0 ≤ n) (h1 : n < 256) (he : s = a ++ bstr [n] ++ b) {p q : Nat} (hp : p = a.size) (hq : q = a.size + (bstr [n]).size) : oneP s p = some (n.toNat, q) := by
  have hz : s.size = a.size + 1 + b.size := by rw [he]; simp only [ByteArray.size_append, qbe, List.length_singleton]
  unfold oneP
  rw [if_pos (by omega), kAt_in (by omega)]
  have hq2 : q = a.size + 1 := by rw [hq, qbe]; rfl
  subst hp
  have hg : s[a.size]'(by omega) = n.toNat.toUInt8 := by
    have hx : (a ++ (bstr [n] ++ b))[a.size]'(by rw [← ByteArray.append_assoc, ← he]; omega) = n.toNat.toUInt8 := by
      rw [ByteArray.getElem_append_right (Nat.le_refl _), ByteArray.getElem_append_left (by rw [qbe]; simp)]
      simp [bstr]
      rfl
    have e2 : s = a ++ (bstr [n] ++ b) := by rw [he, ByteArray.append_assoc]
    simp only [e2]
    exact hx
  refine congrArg some (Prod.ext ?_ hq2.symm)
  show (s[a.size]'(by omega)).toNat = n.toNat
  rw [hg]
  simp [Nat.toUInt8]
  omega
theorem flagS_one (f : Bool) : flagS f = bstr [if f then 1 else 0] := by cases f <;> rfl
theorem varS_of {s : ByteArray} {a X Y : Nat} (h : numP s a = some (X, Y)) : varS s a false = (X, Y, false) := varS_yes (numP_some h).1
def sho5P (s : ByteArray) (a : Nat) (b : Bool) : ByteArray × Nat × Bool := takeS s (varS s a b).2.1 (varS s a b).2.2 (varS s a b).1
def entC (s : ByteArray) : Nat → Nat → Bool → List En → List En × Nat × Bool
  | 0, a, b, l => (l, a, b)
  | k + 1, a, b, l => if b = true then (l, a, b) else entC s k (sho5P s a b).2.1 (sho5P s a b).2.2 (l ++ [entT (sho5P s a b).1])
theorem takeS_szM (s : ByteArray) (a n : Nat) (b : Bool) : (takeS s a b n).1.size ≤ s.size := by
  unfold takeS
  split
  · show (s.extract a (a + n)).size ≤ s.size
    rw [ByteArray.size_extract]
    omega
  · exact Nat.zero_le _
theorem sho5P_sz (s : ByteArray) (a : Nat) (b : Bool) : (sho5P s a b).1.size ≤ s.size := takeS_szM _ _ _ _
theorem entC_bad (s : ByteArray) (k a : Nat) (l : List En) : entC s k a true l = (l, a, true) := by cases k <;> simp [entC]
theorem entC_step (s : ByteArray) (k a : Nat) (l : List En) : entC s (k + 1) a false l = entC s k (sho5P s a false).2.1 (sho5P s a false).2.2 (l ++ [entT (sho5P s a false).1]) := by simp [entC]
theorem entC_len (s : ByteArray) : ∀ (k a : Nat) (b : Bool) (l : List En), (entC s k a b l).1.length ≤ l.length + k
  | 0, a, b, l => Nat.le_refl _
  | k + 1, a, b, l => by
    unfold entC
    split
    · exact Nat.le_add_right _ _
    · have := entC_len s k (sho5P s a b).2.1 (sho5P s a b).2.2 (l ++ [entT (sho5P s a b).1])
      rw [List.length_append, List.length_singleton] at this
      omega
theorem entC_sz (s : ByteArray) : ∀ (k a : Nat) (b : Bool) (l : List En), (∀ f ∈ l, f.data.size ≤ s.size) → ∀ f ∈ (entC s k a b l).1, f.data.size ≤ s.size
  | 0, a, b, l, h => h
  | k + 1, a, b, l, h => by
    unfold entC
    split
    · exact h
    · refine entC_sz s k _ _ _ fun f hf => ?_
      rcases List.mem_append.1 hf with hf | hf
      · exact h f hf
      · rw [List.mem_singleton.1 hf]
        exact Nat.le_trans (entT_size _) (sho5P_sz s a b)
def chS (s : ByteArray) : Mg8 × Bool :=
  let r3 := varS s 3 false
  let r4 := varS s r3.2.1 r3.2.2
  let r5 := varS s r4.2.1 r4.2.2
  let r6 := varS s r5.2.1 r5.2.2
  let r7 := takeS s r6.2.1 r6.2.2 1
  let r8 := takeS s r7.2.1 r7.2.2 1
  let r9 := varS s r8.2.1 r8.2.2
  let r10 := entC s (min r9.1 5) r9.2.1 r9.2.2 []
  let r11 := sho5P s r10.2.1 r10.2.2
  let r12 := sho5P s r11.2.1 r11.2.2
  (⟨kAt s 0, kAt s 1, kAt s 2, r3.1, r4.1, r5.1, r6.1, (r7.1.toList == ([1] : List UInt8)), (r8.1.toList == ([1] : List UInt8)), r10.1, r11.1, r12.1⟩, r12.2.2)
theorem chS_fine (s : ByteArray) : (chS s).1.es.length ≤ 5 ∧ ∀ f ∈ (chS s).1.es, f.data.size ≤ s.size := by
  refine ⟨?_, ?_⟩
  · refine Nat.le_trans (entC_len s _ _ _ _) ?_
    simp only [List.length_nil]
    omega
  · exact entC_sz s _ _ _ _ (fun f hf => by cases hf)
theorem take1_list {s : ByteArray} {a : Nat} (h : a < s.size) : (s.extract a (a + 1)).toList = [s[a]] := by
  have hz : (s.extract a (a + 1)).toList.length = 1 := by
    rw [ByteArray.toList_eq]
    show (s.extract a (a + 1)).size = 1
    rw [ByteArray.size_extract]
    omega
  apply List.ext_getElem
  · rw [hz]; rfl
  · intro i h1 h2
    have hi : i = 0 := by simp at h2; omega
    subst hi
    simp only [ByteArray.toList_eq, Array.getElem_toList, ByteArray.data_extract, Array.getElem_extract, Nat.add_zero, List.getElem_singleton]
    rfl
theorem sho5_of {s t : ByteArray} {a b : Nat} (h : shoP s a = some (t, b)) : sho5P s a false = (t, b, false) := by
  obtain ⟨X, Y, hr, h1, h2, rfl, rfl, h3⟩ := shoP_some h
  unfold sho5P
  rw [varS_yes hr]
  exact takeS_yes h2
theorem fla_of {s : ByteArray} {a c : Nat} {f : Bool} (h : flaP s a = some (f, c)) : ∃ t, takeS s a false 1 = (t, c, false) ∧ (t.toList == ([1] : List UInt8)) = f := by
  unfold flaP at h
  split at h
  · rename_i x d e
    unfold oneP at e
    split at e
    · rename_i hl
      simp only [Option.some.injEq, Prod.mk.injEq] at e h
      obtain ⟨rfl, rfl⟩ := e
      obtain ⟨rfl, rfl⟩ := h
      refine ⟨_, takeS_yes (by omega), ?_⟩
      rw [take1_list hl, kAt_in hl, Bool.eq_iff_iff]
      simp only [beq_iff_eq, List.cons.injEq, and_true, decide_eq_true_eq]
      constructor
      · intro h
        rw [h]; rfl
      · intro h
        apply UInt8.toNat_inj.1
        show s[a].toNat = 1
        omega
    · cases e
  · cases h
theorem entC_of {s : ByteArray} : ∀ (k a : Nat) (l : List En) {r : List En} {b : Nat}, entsG s k a l = some (r, b) → entC s k a false l = (r, b, false)
  | 0, a, l, r, b, h => by
    simp only [entsG, Option.some.injEq, Prod.mk.injEq] at h
    rw [← h.1, ← h.2]; rfl
  | k + 1, a, l, r, b, h => by
    unfold entsG at h
    split at h
    · rename_i t c e
      rw [entC_step, sho5_of e]
      exact entC_of k _ _ h
    · cases h
theorem ents_of {s : ByteArray} {a c : Nat} {l : List En} (h : entsP s a = some (l, c)) : ∃ n d, varS s a false = (n, d, false) ∧ entC s (min n 5) d false [] = (l, c, false) := by
  unfold entsP at h
  split at h
  · rename_i n d e
    unfold numU at e
    split at e
    · rename_i x y e2
      split at e
      · rename_i hl
        simp only [Option.some.injEq, Prod.mk.injEq] at e
        obtain ⟨rfl, rfl⟩ := e
        refine ⟨_, _, varS_of e2, ?_⟩
        rw [show min x 5 = x by omega]
        exact entC_of _ _ _ h
      · cases e
    · cases e
  · cases h
theorem oneP_out {s : ByteArray} {a x b : Nat} (h : oneP s a = some (x, b)) : x = kAt s a ∧ b = a + 1 := by
  unfold oneP at h
  split at h
  · simp only [Option.some.injEq, Prod.mk.injEq] at h
    exact ⟨h.1.symm, h.2.symm⟩
  · cases h
theorem chS_of {s : ByteArray} {y : Mg8} {b : Nat} (h : msgP s 0 = some (y, b)) : chS s = (y, false) := by
  unfold msgP at h
  simp only [Option.bind_eq_some_iff] at h
  obtain ⟨⟨x0, a0⟩, h0, ⟨x1, a1⟩, h1, ⟨x2, a2⟩, h2, ⟨x3, a3⟩, h3, ⟨x4, a4⟩, h4, ⟨x5, a5⟩, h5, ⟨x6, a6⟩, h6, ⟨x7, a7⟩, h7, ⟨x8, a8⟩, h8, ⟨x9, a9⟩, h9, ⟨x10, a10⟩, h10, ⟨x11, a11⟩, h11, h⟩ := h
  simp only [Option.some.injEq, Prod.mk.injEq] at h
  obtain ⟨rfl, rfl⟩ := h
  obtain ⟨rfl, rfl⟩ := oneP_out h0
  obtain ⟨rfl, rfl⟩ := oneP_out h1
  obtain ⟨rfl, rfl⟩ := oneP_out h2
  obtain ⟨t7, e7, f7⟩ := fla_of h7
  obtain ⟨t8, e8, f8⟩ := fla_of h8
  obtain ⟨n, d, e9, e10⟩ := ents_of h9
  have e3 : varS s 3 false = (x3, a3, false) := varS_of h3
  simp only [chS, e3, varS_of h4, varS_of h5, varS_of h6, e7, e8, f7, f8, e9, e10, sho5_of h10, sho5_of h11]
theorem rcM_short {s : ByteArray} (h : s.size < 3) : rcM s = none := by
  have h1 : msgP s 0 = none := by
    cases e : msgP s 0 with
    | none => rfl
    | some r =>
      exfalso
      unfold msgP at e
      simp only [Option.bind_eq_some_iff] at e
      obtain ⟨⟨x0, a0⟩, h0, ⟨x1, a1⟩, h1, ⟨x2, a2⟩, h2, _⟩ := e
      obtain ⟨rfl, rfl⟩ := oneP_out h0
      obtain ⟨rfl, rfl⟩ := oneP_out h1
      unfold oneP at h2
      simp only [] at h2
      split at h2
      · omega
      · cases h2
  unfold rcM rwM
  rw [h1]
theorem entT_back (f : En) (h : okE f.term f.kind f.data = true) : entT (tx8 f) = f := by
  obtain ⟨t, k, d⟩ := f
  have hx : okX 1 t k d = true := by
    unfold okX
    rw [show okE t k d = true from h]
    rfl
  obtain ⟨h1, h2, h3, h4, h5, h6, h7⟩ := okX_out hx
  obtain ⟨T, rfl⟩ : ∃ T : Nat, t = (T : Int) := ⟨t.toNat, by omega⟩
  obtain ⟨K, rfl⟩ : ∃ K : Nat, k = (K : Int) := ⟨k.toNat, by omega⟩
  have he : tx8 ⟨T, K, d⟩ = textE 1 T K d := by
    unfold tx8 textX
    rw [hx]; rfl
  rw [he]
  obtain ⟨s, hs⟩ : ∃ s, textE 1 T K d = s := ⟨_, rfl⟩
  rw [hs]
  obtain ⟨Q, hQ⟩ : ∃ Q, bstr (varI T) = Q := ⟨_, rfl⟩
  have hs1 : s = (⟨#[69]⟩ : ByteArray) ++ bstr (varI 1) ++ (Q ++ bstr [(K : Int)] ++ d) := by
    rw [← hs, ← hQ]
    unfold textE rawE
    simp [ByteArray.append_assoc]
  have v1 : (varI 1).length = 1 := by rw [qcb (by omega)]; rfl
  have r1 : rv s 1 = (((1 : Nat) : Int), ((2 : Nat) : Int), true) := by
    have := rv_back ⟨#[69]⟩ (Q ++ bstr [(K : Int)] ++ d) 1 (by omega)
    rw [← hs1, v1] at this
    exact this
  obtain ⟨P, hP⟩ : ∃ P, (⟨#[69]⟩ : ByteArray) ++ bstr (varI 1) = P := ⟨_, rfl⟩
  have hPz : P.size = 2 := by
    rw [← hP, ByteArray.size_append, qbe, v1]; rfl
  have hs2 : s = P ++ bstr (varI T) ++ (bstr [(K : Int)] ++ d) := by
    rw [hs1, hP, hQ]
    simp [ByteArray.append_assoc]
  have hs3 : s = (P ++ Q) ++ bstr [(K : Int)] ++ d := by
    rw [hs1, hP]
    simp [ByteArray.append_assoc]
  obtain ⟨A, hA⟩ : ∃ A : Nat, A = (P ++ Q).size := ⟨_, rfl⟩
  have hAQ : A = 2 + (varI T).length := by
    rw [hA, ByteArray.size_append, hPz, ← hQ, qbe]
  have r2 : rv s 2 = ((T : Int), (A : Int), true) := by
    have := rv_back P (bstr [(K : Int)] ++ d) T (by omega)
    rw [← hs2, hPz] at this
    rw [hAQ]
    exact this
  have hz : s.size = A + 1 + d.size := by
    rw [hs3, ByteArray.size_append, ByteArray.size_append, ← hA, qbe]; rfl
  have hk : kAt s A = K := by
    have := oneP_back (s := s) (P ++ Q) d (K : Int) (by omega) (by omega) hs3 hA rfl
    have := (oneP_out this).1
    rw [← this]
    omega
  have hd : dAt s A = d := by
    unfold dAt
    have := extract_mid ((P ++ Q) ++ bstr [(K : Int)]) d ByteArray.empty
    rw [show (P ++ Q) ++ bstr [(K : Int)] ++ d ++ ByteArray.empty = s by rw [hs3]; simp, ByteArray.size_append, ← hA, qbe] at this
    rw [show s.size = A + 1 + d.size from hz]
    exact this
  have hf : okF s 1 T A = true := by
    unfold okF
    rw [hk, hd]
    unfold textX
    rw [show okX ((1 : Nat) : Int) (T : Int) (K : Int) d = true from hx]
    simp only [Bool.true_and, if_true]
    rw [show textE ((1 : Nat) : Int) (T : Int) (K : Int) d = s from hs]
    exact beq_self_eq_true _
  have r1' : rv s 1 = (1, 2, true) := r1
  unfold entT
  rw [r1']
  simp only []
  rw [r2]
  simp only []
  rw [if_pos ⟨trivial, trivial, by omega⟩]
  unfold finE
  rw [show (1 : Int).toNat = 1 from rfl, Int.toNat_natCast, Int.toNat_natCast, hf, if_pos rfl, hk, hd]
theorem ents_back {s : ByteArray} : ∀ (es : List En) (A B : ByteArray) (l : List En), (∀ f ∈ es, okE f.term f.kind f.data = true) → s = A ++ shoS (es.map tx8) ++ B → entsG s es.length A.size l = some (l ++ es, A.size + (shoS (es.map tx8)).size)
  | [], A, B, l, h, e => by
    simp [entsG, shoS]
  | f :: r, A, B, l, h, e => by
    have hf := h f List.mem_cons_self
    have hx : okX 1 f.term f.kind f.data = true := by
      unfold okX
      rw [hf]
      rfl
    have hz := tx8_size f (by have := (okX_out hx).2.2.2.2.2.1; omega)
    have e2 : s = A ++ qsa (tx8 f) ++ (shoS (r.map tx8) ++ B) := by
      rw [e]
      simp [shoS, ByteArray.append_assoc]
    have h1 := shoP_back A (tx8 f) (shoS (r.map tx8) ++ B) (by omega) e2 rfl rfl
    rw [List.length_cons, entsG_some h1, entT_back f hf]
    have e3 : s = (A ++ qsa (tx8 f)) ++ shoS (r.map tx8) ++ B := by
      rw [e2]
      simp [ByteArray.append_assoc]
    have := ents_back r (A ++ qsa (tx8 f)) B (l ++ [f]) (fun g hg => h g (List.mem_cons_of_mem _ hg)) e3
    rw [ByteArray.size_append] at this
    rw [this]
    simp only [List.append_assoc, List.singleton_append, List.map_cons, shoS, ByteArray.size_append, Nat.add_assoc]
theorem risesU_ok (tm : Int) : ∀ (l : List En) (a : Int), qxd tm a l = true → ∀ f ∈ l, okE f.term f.kind f.data = true
  | [], a, _, f, hf => by cases hf
  | e :: r, a, h, f, hf => by
    simp only [qxd, Bool.and_eq_true] at h
    rcases List.mem_cons.1 hf with rfl | hf
    · exact h.1
    · exact risesU_ok tm r _ h.2.2.2 f hf
theorem okM_ents {kd fr up tm ix lt cm : Int} {da : ByteArray} {la : Bool} {es : List En} {cs : List Int} (h : okM kd fr up tm ix lt cm da la es cs = true) : ∀ f ∈ es, okE f.term f.kind f.data = true := by
  rw [okM_eq] at h
  unfold okMs sendS at h
  simp only [Bool.and_eq_true] at h
  exact risesU_ok _ _ _ h.2.1.2.2
theorem flaP_back {s : ByteArray} (a b : ByteArray) (f : Bool) (he : s = a ++ bstr [if f then 1 else 0] ++ b) {p q : Nat} (hp : p = a.size) (hq : q = a.size + (bstr [if f then (1 : Int) else 0]).size) : flaP s p = some (f, q) := by
  unfold flaP
  rw [oneP_back a b (if f then 1 else 0) (by split <;> omega) (by split <;> omega) he hp hq]
  cases f <;> simp
theorem rwM_back (x : Mg8) (hx : okX8 x = true) : rwM (enX8 x) = some { x with c := textC (confT x.c) } := by
  obtain ⟨kd, fr, up, tm, ix, lt, cm, ok, la, es, c, da⟩ := x
  have hf := okM_fine (show okM (kd : Int) (fr : Int) (up : Int) (tm : Int) (ix : Int) (lt : Int) (cm : Int) da la es (confT c) = true from hx)
  have hes := okM_ents (show okM (kd : Int) (fr : Int) (up : Int) (tm : Int) (ix : Int) (lt : Int) (cm : Int) da la es (confT c) = true from hx)
  obtain ⟨k0, k1, f0, f1, u0, u1, t0, t1, l0, l1, i0, i1, c0, c1, e1, d1⟩ := hf
  obtain ⟨s, hs⟩ : ∃ s, enX8 ⟨kd, fr, up, tm, ix, lt, cm, ok, la, es, c, da⟩ = s := ⟨_, rfl⟩
  rw [hs]
  have hs2 : s = bstr [(kd : Int)] ++ bstr [(fr : Int)] ++ bstr [(up : Int)] ++ bstr (varI tm) ++ bstr (varI ix) ++ bstr (varI lt) ++ bstr (varI cm) ++ bstr [if ok then (1 : Int) else 0] ++ bstr [if la then (1 : Int) else 0] ++ bstr (varI es.length) ++ shoS (es.map tx8) ++ qsa (textC (confT c)) ++ qsa da := by
    rw [← hs]
    unfold enX8 encS
    rw [bstr_three, flagS_one, flagS_one]
    simp only [Int.toNat_natCast]
  obtain ⟨A0, h0⟩ : ∃ A, bstr [(kd : Int)] = A := ⟨_, rfl⟩
  obtain ⟨A1, h1⟩ : ∃ A, bstr [(fr : Int)] = A := ⟨_, rfl⟩
  obtain ⟨A2, h2⟩ : ∃ A, bstr [(up : Int)] = A := ⟨_, rfl⟩
  obtain ⟨A3, h3⟩ : ∃ A, bstr (varI tm) = A := ⟨_, rfl⟩
  obtain ⟨A4, h4⟩ : ∃ A, bstr (varI ix) = A := ⟨_, rfl⟩
  obtain ⟨A5, h5⟩ : ∃ A, bstr (varI lt) = A := ⟨_, rfl⟩
  obtain ⟨A6, h6⟩ : ∃ A, bstr (varI cm) = A := ⟨_, rfl⟩
  obtain ⟨A7, h7⟩ : ∃ A, bstr [if ok then (1 : Int) else 0] = A := ⟨_, rfl⟩
  obtain ⟨A8, h8⟩ : ∃ A, bstr [if la then (1 : Int) else 0] = A := ⟨_, rfl⟩
  obtain ⟨A9, h9⟩ : ∃ A, bstr (varI es.length) = A := ⟨_, rfl⟩
  obtain ⟨A10, h10⟩ : ∃ A, shoS (es.map tx8) = A := ⟨_, rfl⟩
  obtain ⟨A11, h11⟩ : ∃ A, qsa (textC (confT c)) = A := ⟨_, rfl⟩
  obtain ⟨A12, h12⟩ : ∃ A, qsa da = A := ⟨_, rfl⟩
  rw [h0, h1, h2, h3, h4, h5, h6, h7, h8, h9, h10, h11, h12] at hs2
  have hz : s.size = A0.size + A1.size + A2.size + A3.size + A4.size + A5.size + A6.size + A7.size + A8.size + A9.size + A10.size + A11.size + A12.size := by rw [hs2]; simp only [ByteArray.size_append]
  have r0 : oneP s 0 = some (kd, A0.size) := by
    have := oneP_back (s := s) ByteArray.empty (A1 ++ A2 ++ A3 ++ A4 ++ A5 ++ A6 ++ A7 ++ A8 ++ A9 ++ A10 ++ A11 ++ A12) (kd : Int) (by omega) (by omega) (by rw [h0, hs2]; simp [ByteArray.append_assoc]) (p := 0) rfl rfl
    rw [h0] at this
    simpa using this
  have r1 : oneP s (A0.size) = some (fr, A0.size + A1.size) := by
    have := oneP_back (s := s) (A0) (A2 ++ A3 ++ A4 ++ A5 ++ A6 ++ A7 ++ A8 ++ A9 ++ A10 ++ A11 ++ A12) (fr : Int) (by omega) (by omega) (by rw [h1, hs2]; simp [ByteArray.append_assoc]) (p := A0.size) rfl rfl
    rw [h1] at this
    simpa [ByteArray.size_append] using this
  have r2 : oneP s (A0.size + A1.size) = some (up, A0.size + A1.size + A2.size) := by
    have := oneP_back (s := s) (A0 ++ A1) (A3 ++ A4 ++ A5 ++ A6 ++ A7 ++ A8 ++ A9 ++ A10 ++ A11 ++ A12) (up : Int) (by omega) (by omega) (by rw [h2, hs2]; simp [ByteArray.append_assoc]) (p := A0.size + A1.size) (by simp only [ByteArray.size_append]) rfl
    rw [h2] at this
    simpa [ByteArray.size_append] using this
  have r3 : numP s (A0.size + A1.size + A2.size) = some (tm, A0.size + A1.size + A2.size + A3.size) := numP_back (A0 ++ A1 ++ A2) (A4 ++ A5 ++ A6 ++ A7 ++ A8 ++ A9 ++ A10 ++ A11 ++ A12) tm (by omega) (by rw [h3, hs2]; simp [ByteArray.append_assoc]) (by simp only [ByteArray.size_append]) (by rw [h3]; simp only [ByteArray.size_append])
  have r4 : numP s (A0.size + A1.size + A2.size + A3.size) = some (ix, A0.size + A1.size + A2.size + A3.size + A4.size) := numP_back (A0 ++ A1 ++ A2 ++ A3) (A5 ++ A6 ++ A7 ++ A8 ++ A9 ++ A10 ++ A11 ++ A12) ix (by omega) (by rw [h4, hs2]; simp [ByteArray.append_assoc]) (by simp only [ByteArray.size_append]) (by rw [h4]; simp only [ByteArray.size_append])
  have r5 : numP s (A0.size + A1.size + A2.size + A3.size + A4.size) = some (lt, A0.size + A1.size + A2.size + A3.size + A4.size + A5.size) := numP_back (A0 ++ A1 ++ A2 ++ A3 ++ A4) (A6 ++ A7 ++ A8 ++ A9 ++ A10 ++ A11 ++ A12) lt (by omega) (by rw [h5, hs2]; simp [ByteArray.append_assoc]) (by simp only [ByteArray.size_append]) (by rw [h5]; simp only [ByteArray.size_append])
  have r6 : numP s (A0.size + A1.size + A2.size + A3.size + A4.size + A5.size) = some (cm, A0.size + A1.size + A2.size + A3.size + A4.size + A5.size + A6.size) := numP_back (A0 ++ A1 ++ A2 ++ A3 ++ A4 ++ A5) (A7 ++ A8 ++ A9 ++ A10 ++ A11 ++ A12) cm (by omega) (by rw [h6, hs2]; simp [ByteArray.append_assoc]) (by simp only [ByteArray.size_append]) (by rw [h6]; simp only [ByteArray.size_append])
  have r7 : flaP s (A0.size + A1.size + A2.size + A3.size + A4.size + A5.size + A6.size) = some (ok, A0.size + A1.size + A2.size + A3.size + A4.size + A5.size + A6.size + A7.size) := flaP_back (A0 ++ A1 ++ A2 ++ A3 ++ A4 ++ A5 ++ A6) (A8 ++ A9 ++ A10 ++ A11 ++ A12) ok (by rw [h7, hs2]; simp [ByteArray.append_assoc]) (by simp only [ByteArray.size_append]) (by rw [h7]; simp only [ByteArray.size_append])
  have r8 : flaP s (A0.size + A1.size + A2.size + A3.size + A4.size + A5.size + A6.size + A7.size) = some (la, A0.size + A1.size + A2.size + A3.size + A4.size + A5.size + A6.size + A7.size + A8.size) := flaP_back (A0 ++ A1 ++ A2 ++ A3 ++ A4 ++ A5 ++ A6 ++ A7) (A9 ++ A10 ++ A11 ++ A12) la (by rw [h8, hs2]; simp [ByteArray.append_assoc]) (by simp only [ByteArray.size_append]) (by rw [h8]; simp only [ByteArray.size_append])
  have r9 : numP s (A0.size + A1.size + A2.size + A3.size + A4.size + A5.size + A6.size + A7.size + A8.size) = some (es.length, A0.size + A1.size + A2.size + A3.size + A4.size + A5.size + A6.size + A7.size + A8.size + A9.size) := numP_back (A0 ++ A1 ++ A2 ++ A3 ++ A4 ++ A5 ++ A6 ++ A7 ++ A8) (A10 ++ A11 ++ A12) es.length (by omega) (by rw [h9, hs2]; simp [ByteArray.append_assoc]) (by simp only [ByteArray.size_append]) (by rw [h9]; simp only [ByteArray.size_append])
  have r10 : entsP s (A0.size + A1.size + A2.size + A3.size + A4.size + A5.size + A6.size + A7.size + A8.size) = some (es, A0.size + A1.size + A2.size + A3.size + A4.size + A5.size + A6.size + A7.size + A8.size + A9.size + A10.size) := by
    unfold entsP numU
    rw [r9]
    simp only []
    rw [if_pos e1]
    have := ents_back (s := s) es (A0 ++ A1 ++ A2 ++ A3 ++ A4 ++ A5 ++ A6 ++ A7 ++ A8 ++ A9) (A11 ++ A12) [] hes (by rw [h10, hs2]; simp [ByteArray.append_assoc])
    rw [h10] at this
    simpa [ByteArray.size_append] using this
  have r11 : shoP s (A0.size + A1.size + A2.size + A3.size + A4.size + A5.size + A6.size + A7.size + A8.size + A9.size + A10.size) = some ((textC (confT c)), A0.size + A1.size + A2.size + A3.size + A4.size + A5.size + A6.size + A7.size + A8.size + A9.size + A10.size + A11.size) := shoP_back (A0 ++ A1 ++ A2 ++ A3 ++ A4 ++ A5 ++ A6 ++ A7 ++ A8 ++ A9 ++ A10) (textC (confT c)) (A12) (by have := textC_size (confT c); omega) (by rw [h11, hs2]) (by simp only [ByteArray.size_append]) (by rw [h11]; simp only [ByteArray.size_append])
  have r12 : shoP s (A0.size + A1.size + A2.size + A3.size + A4.size + A5.size + A6.size + A7.size + A8.size + A9.size + A10.size + A11.size) = some (da, A0.size + A1.size + A2.size + A3.size + A4.size + A5.size + A6.size + A7.size + A8.size + A9.size + A10.size + A11.size + A12.size) := shoP_back (A0 ++ A1 ++ A2 ++ A3 ++ A4 ++ A5 ++ A6 ++ A7 ++ A8 ++ A9 ++ A10 ++ A11) da (ByteArray.empty) (by omega) (by rw [h12, hs2]; simp [ByteArray.append_assoc]) (by simp only [ByteArray.size_append]) (by rw [h12]; simp only [ByteArray.size_append])
  unfold rwM msgP
  simp [r0, r1, r2, r3, r4, r5, r6, r7, r8, r10, r11, r12, hz]
theorem rcM_chS (s : ByteArray) : rcM s = if (chS s).2 = false ∧ okX8 (chS s).1 = true ∧ enX8 (chS s).1 = s then some (chS s).1 else none := by
  split
  · rename_i h
    obtain ⟨h1, h2, h3⟩ := h
    have hb := rwM_back _ h2
    rw [h3] at hb
    have hy : ({ (chS s).1 with c := textC (confT (chS s).1.c) } : Mg8) = (chS s).1 := by
      have hb2 := hb
      unfold rwM at hb2
      split at hb2
      · rename_i y b hy
        split at hb2
        · injection hb2 with hb2
          subst hb2
          exact (congrArg Prod.fst (chS_of hy)).symm
        · cases hb2
      · cases hb2
    unfold rcM
    rw [hb, hy]
    simp only []
    rw [if_pos ⟨h2, h3⟩]
  · rename_i h
    symm
    unfold rcM
    split
    · rename_i x hx
      split
      · rename_i hc
        exfalso
        unfold rwM at hx
        split at hx
        · rename_i y b hy
          split at hx
          · injection hx with hx
            subst hx
            rw [chS_of hy] at h
            exact h ⟨rfl, hc.1, hc.2⟩
          · cases hx
        · cases hx
      · rfl
    · rfl
theorem encX_forms (x : Mg8) : ∃ (T : ByteArray) (q : Bool), encV (x.kd : Int) (x.fr : Int) (x.up : Int) (x.tm : Int) (x.ix : Int) (x.lt : Int) (x.cm : Int) x.ok x.da x.la x.es (confT x.c) = .tuple #[.string T, .bool q] ∧ q = okX8 x ∧ (q = true → T = enX8 x) := by
  unfold encV
  cases h : okM (x.kd : Int) (x.fr : Int) (x.up : Int) (x.tm : Int) (x.ix : Int) (x.lt : Int) (x.cm : Int) x.da x.la x.es (confT x.c) with
  | true => exact ⟨_, true, rfl, h.symm, fun _ => rfl⟩
  | false => exact ⟨_, false, rfl, h.symm, fun h => by cases h⟩
end Go.Proofs.YtpjpheicldegkaaGreatDoor

namespace Go.Proofs.YtpjpheicldegkaaGreatDoor
open Go Go.RowKit
set_option linter.unusedVariables false

theorem conf_of {kd fr up tm ix lt cm : Int} {da : ByteArray} {la : Bool} {es : List En} {cs : List Int} (h : okM kd fr up tm ix lt cm da la es cs = true) : confT (textC cs) = cs := by
  cases hc : okC cs with
  | true => exact (confT_back hc).2
  | false =>
    have h2 := h
    rw [okM_eq] at h2
    unfold okMs tailM at h2
    simp only [Bool.and_eq_true] at h2
    have t := h2.2.2
    have hz : cs = [] := by
      split at t
      · unfold chunkM at t
        rw [hc] at t
        simp at t
      · unfold noneC at t
        simp only [Bool.and_eq_true, decide_eq_true_eq] at t
        exact List.eq_nil_of_length_eq_zero t.1
    subst hz
    have e : textC [] = ByteArray.empty := by unfold textC; rw [hc]; rfl
    rw [e]
    exact confT_zero
theorem back_all {kd fr up tm ix lt cm : Int} (ok : Bool) {da : ByteArray} {la : Bool} {es : List En} {cs : List Int} (h : okM kd fr up tm ix lt cm da la es cs = true) :
    ∃ y : Mg8, rcM (encS kd fr up tm ix lt cm ok da la es cs) = some y ∧ (y.kd : Int) = kd ∧ (y.fr : Int) = fr ∧ (y.up : Int) = up ∧ (y.tm : Int) = tm ∧ (y.ix : Int) = ix ∧ (y.lt : Int) = lt ∧ (y.cm : Int) = cm ∧ y.ok = ok ∧ y.la = la ∧ y.es = es ∧ confT y.c = cs ∧ y.da = da := by
  obtain ⟨k0, k1, f0, f1, u0, u1, t0, t1, l0, l1, i0, i1, c0, c1, e1, d1⟩ := okM_fine h
  have hcf := conf_of h
  have e0 : ((kd.toNat : Nat) : Int) = kd := Int.toNat_of_nonneg (by omega)
  have e2 : ((fr.toNat : Nat) : Int) = fr := Int.toNat_of_nonneg (by omega)
  have e3 : ((up.toNat : Nat) : Int) = up := Int.toNat_of_nonneg (by omega)
  have e4 : ((tm.toNat : Nat) : Int) = tm := Int.toNat_of_nonneg (by omega)
  have e5 : ((ix.toNat : Nat) : Int) = ix := Int.toNat_of_nonneg (by omega)
  have e6 : ((lt.toNat : Nat) : Int) = lt := Int.toNat_of_nonneg (by omega)
  have e7 : ((cm.toNat : Nat) : Int) = cm := Int.toNat_of_nonneg (by omega)
  obtain ⟨x, hx⟩ : ∃ x : Mg8, (⟨kd.toNat, fr.toNat, up.toNat, tm.toNat, ix.toNat, lt.toNat, cm.toNat, ok, la, es, textC cs, da⟩ : Mg8) = x := ⟨_, rfl⟩
  have hok : okX8 x = true := by
    rw [← hx]
    unfold okX8
    simp only [e0, e2, e3, e4, e5, e6, e7, hcf]
    exact h
  have hen : enX8 x = encS kd fr up tm ix lt cm ok da la es cs := by
    rw [← hx]
    unfold enX8
    simp only [e0, e2, e3, e4, e5, e6, e7, hcf]
  have hb := rwM_back x hok
  have hxc : ({ x with c := textC (confT x.c) } : Mg8) = x := by
    rw [← hx]
    simp only [hcf]
  rw [hxc] at hb
  refine ⟨x, ?_, ?_⟩
  · rw [← hen]
    unfold rcM
    rw [hb]
    simp only []
    first | rw [if_pos ⟨hok, trivial⟩] | rw [if_pos ⟨hok, rfl⟩]
  · rw [← hx]
    exact ⟨e0, e2, e3, e4, e5, e6, e7, rfl, rfl, rfl, hcf, rfl⟩
theorem rcM_out {s : ByteArray} {x : Mg8} (h : rcM s = some x) : okX8 x = true ∧ enX8 x = s := by
  unfold rcM at h
  split at h
  · split at h
    · rename_i hc
      injection h with h
      subst h
      exact hc
    · cases h
  · cases h
theorem encV_forms (kd fr up tm ix lt cm : Int) (ok : Bool) (da : ByteArray) (la : Bool) (es : List En) (cs : List Int) : ∃ (T : ByteArray) (q : Bool), encV kd fr up tm ix lt cm ok da la es cs = .tuple #[.string T, .bool q] ∧ q = okM kd fr up tm ix lt cm da la es cs ∧ (q = true → T = encS kd fr up tm ix lt cm ok da la es cs) ∧ (q = false → T = ⟨#[]⟩) := by
  unfold encV
  cases h : okM kd fr up tm ix lt cm da la es cs with
  | true => exact ⟨_, true, rfl, rfl, fun _ => rfl, fun h => (by cases h)⟩
  | false => exact ⟨_, false, rfl, rfl, fun h => (by cases h), fun _ => rfl⟩
theorem shoS_size7 : ∀ (l : List ByteArray), (∀ n ∈ l, n.size ≤ 700) → (shoS l).size ≤ l.length * 1401
  | [], _ => Nat.zero_le _
  | n :: l, h => by
    have h1 := shoS_size7 l fun m hm => h m (List.mem_cons_of_mem _ hm)
    have h2 := qwb n
    have h3 := h n List.mem_cons_self
    simp only [shoS, ByteArray.size_append, List.length_cons]
    omega
theorem encS_size' {kd fr up tm ix lt cm : Int} (ok : Bool) {da : ByteArray} {la : Bool} {es : List En} {cs : List Int} (h : okM kd fr up tm ix lt cm da la es cs = true) : (encS kd fr up tm ix lt cm ok da la es cs).size ≤ 10000 := by
  obtain ⟨k0, k1, f0, f1, u0, u1, t0, t1, l0, l1, i0, i1, c0, c1, e1, d1⟩ := okM_fine h
  have hes := okM_ents h
  have s1 := shoS_size7 (es.map tx8) fun x hx => by
    obtain ⟨y, hy, rfl⟩ := List.mem_map.1 hx
    have hy2 := hes y hy
    have hx2 : okX 1 y.term y.kind y.data = true := by unfold okX; rw [hy2]; rfl
    exact tx8_size y (by have := (okX_out hx2).2.2.2.2.2.1; omega)
  rw [List.length_map] at s1
  have s2 := qwb (textC cs)
  have s3 := textC_size cs
  have s4 := qwb da
  have v : ∀ n : Nat, n ≤ 1000000 → (bstr (varI n)).size ≤ 3 := fun n hn => by rw [qbe]; exact qic hn
  have v1 := v tm.toNat (by omega)
  have v2 := v ix.toNat (by omega)
  have v3 := v lt.toNat (by omega)
  have v4 := v cm.toNat (by omega)
  have v5 := v es.length (by omega)
  have b1 : (flagS ok).size = 1 := by cases ok <;> rfl
  have b2 : (flagS la).size = 1 := by cases la <;> rfl
  unfold encS
  simp only [ByteArray.size_append, qbe, List.length_cons, List.length_nil] at *
  omega
end Go.Proofs.YtpjpheicldegkaaGreatDoor

namespace Go.Proofs.YtpjpheicldegkaaGreatDoor
open Go Go.RowKit

end Go.Proofs.YtpjpheicldegkaaGreatDoor

namespace Go.Proofs.YtpjpheicldegkaaGreatDoor
open Go Go.RowKit

section
variable {P : Program} {Q : Exit → Act → World → Prop} {R : Act → World → Prop}
def firstB (ops : Array Oper) (L listed : Array Bool) (i m : Nat) : Bool :=
  Region.noSelect ops && (Region.ready .any ops L).all (· == m) && qfe .any ops m && (Region.ready .any ops listed).contains i && Region.free .any ops listed i && decide (i < m)
theorem any_first {l : List Oper} {C : World → Prop} {L listed : Array Bool} {fuel : Nat} {o : Oper} {a : Act} {w : World} (i m : Nat) (v : Value) (ho : l[i]? = some o) (hB : firstB l.toArray L listed i m = true) (hQ : ∀ c a d v w, Q (.panic c) (Act.put a d v) w → Q (.panic c) a w) (hw : C w)
    (hwt : Region.wanted o (yielded l.toArray a.tmps) = true) (hy : ∀ w, C w → (execOp a.eval o).run P w = .ok (.value v) w)
    (h : qhb P .any l.toArray Q C L R fuel (listed.setIfInBounds i true) (a.put o.dst v) w) : qhb P .any l.toArray Q C L R (fuel + 1) listed a w := by
  simp only [firstB, Bool.and_eq_true] at hB
  obtain ⟨⟨⟨⟨⟨h1, h2⟩, h3⟩, h4⟩, h5⟩, h6⟩ := hB
  have ho' : l.toArray[i]? = some o := by simpa using ho
  refine wpAnyU_first (m := m) ho' (Region.noSelect_spec h1) (fun c a w => hQ c a _ _ w) (fun j hj => ?_) (fun om hom => ?_) fuel listed a w (Region.free_spec ho' h5) (by simpa using h4) (.inl ⟨hwt, hy⟩) hw h
  · rw [List.all_eq_true] at h2
    simpa using h2 j hj
  · unfold qfe at h3
    rw [List.all_eq_true] at h3
    have := h3 i (List.mem_range.2 (by simpa using h6))
    rw [hom] at this
    simp only [Array.any_eq_true', Bool.and_eq_true, beq_iff_eq] at this
    obtain ⟨e, he, hb, heq⟩ := this
    exact ⟨e, he, hb, heq⟩
theorem qgb {md : Region.Mode} {ops : Array Oper} {C C' : World → Prop} {L : Array Bool} (h : ∀ w, C' w → C w) : ∀ (fuel : Nat) (listed : Array Bool) (a : Act) (w : World), qhb P md ops Q C' L R fuel listed a w → qhb P md ops Q C L R fuel listed a w
  | 0, _, _, _, H => H
  | fuel + 1, _, _, _, H => ⟨H.1, fun i hi => wpOp_mono (fun a' w' h' => ⟨h _ h'.1, qgb h fuel _ a' w' h'.2⟩) (H.2 i hi)⟩
end
structure Wx (w : World) (X : Nat) (o : Obj) where
  at' : World
  ok : Below w.heap.size w at'
  blk : at'.heap[X]? = some o
theorem Wx.cell {w : World} {X : Nat} {o : Obj} {a : Addr} {v : Value} (h : w.cell? a = some v) : ∀ x : Wx w X o, x.at'.cell? a = some v :=
  fun x => (x.ok.cell (World.block_lt_of_cell? w a h)).trans h
def Wx.up {w : World} {X : Nat} {o : Obj} (x : Wx w X o) {w' : World} (hb : Below x.at'.heap.size x.at' w') : Wx w X o := ⟨w', x.ok.trans (hb.mono x.ok.size), (hb.block _ (Array.getElem?_eq_some_iff.1 x.blk).1).trans x.blk⟩
end Go.Proofs.YtpjpheicldegkaaGreatDoor
