/- Crk,Csh,Cy,Ar,Lg,Mgh,Rs -/
import Derived.Test.YtpjpheicldegkaaGreatDoorCrl
import Derived.Test.YtpjpheicldegkaaGreatDoorPc
import Derived.Test.YtpjpheicldegkaaGreatDoorGn
import Derived.Laws.CopyRow
import Derived.Test.YtpjpheicldegkaaGreatDoorGM5
import Derived.Test.YtpjpheicldegkaaGreatDoorGM1
import Derived.Test.YtpjpheicldegkaaGreatDoorGM2
import Derived.Test.YtpjpheicldegkaaGreatDoorGM4
import Derived.Test.YtpjpheicldegkaaGreatDoorGM11
namespace Go.Proofs.YtpjpheicldegkaaGreatDoor
open Go Go.RowKit

def cronB (a b c d e : List Int) : Bool := listB 0 59 a && (listB 0 23 b && (listB 1 31 c && (listB 1 12 d && listB 0 6 e)))
set_option maxRecDepth 10000 in
set_option maxHeartbeats 2000000 in
theorem cronOk_any (va vb vc vd ve : Value) (a b c d e : List Int) (w : World) (h1 : Reads w va a) (h2 : Reads w vb b) (h3 : Reads w vc c) (h4 : Reads w vd d) (h5 : Reads w ve e)
    (n1 : a.length ≤ 1048577) (n2 : b.length ≤ 1048577) (n3 : c.length ≤ 1048577) (n4 : d.length ≤ 1048577) (n5 : e.length ≤ 1048577) :
    Calls Tryz.prog 130 #[.agg #[va, vb, vc, vd, ve]] w fun x w' => x = .returned (.bool (cronB a b c d e)) ∧ Below w.heap.size w w' := by
  obtain ⟨ao, ac, rfl, _⟩ := id h1
  obtain ⟨bo, bc, rfl, _⟩ := id h2
  obtain ⟨co, cc, rfl, _⟩ := id h3
  obtain ⟨d0, dc, rfl, _⟩ := id h4
  obtain ⟨eo, ec, rfl, _⟩ := id h5
  have H1 : Hid (∀ w', Below w.heap.size w w' → Calls Tryz.prog 135 #[.slice ao a.length ac, .int .i64 0, .int .i64 59] w' fun x w'' => x = .returned (.bool (listB 0 59 a)) ∧ Below w'.heap.size w' w'') := fun w' hb => qle 0 59 (h1.below hb) n1
  have H2 : Hid (∀ w', Below w.heap.size w w' → Calls Tryz.prog 135 #[.slice bo b.length bc, .int .i64 0, .int .i64 23] w' fun x w'' => x = .returned (.bool (listB 0 23 b)) ∧ Below w'.heap.size w' w'') := fun w' hb => qle 0 23 (h2.below hb) n2
  have H3 : Hid (∀ w', Below w.heap.size w w' → Calls Tryz.prog 135 #[.slice co c.length cc, .int .i64 1, .int .i64 31] w' fun x w'' => x = .returned (.bool (listB 1 31 c)) ∧ Below w'.heap.size w' w'') := fun w' hb => qle 1 31 (h3.below hb) n3
  have H4 : Hid (∀ w', Below w.heap.size w w' → Calls Tryz.prog 135 #[.slice d0 d.length dc, .int .i64 1, .int .i64 12] w' fun x w'' => x = .returned (.bool (listB 1 12 d)) ∧ Below w'.heap.size w' w'') := fun w' hb => qle 1 12 (h4.below hb) n4
  have H5 : Hid (∀ w', Below w.heap.size w w' → Calls Tryz.prog 135 #[.slice eo e.length ec, .int .i64 0, .int .i64 6] w' fun x w'' => x = .returned (.bool (listB 0 6 e)) ∧ Below w'.heap.size w' w'') := fun w' hb => qle 0 6 (h5.below hb) n5
  unfold cronB
  clear h1 h2 h3 h4 h5
  generalize listB 0 59 a = q1 at *
  generalize listB 0 23 b = q2 at *
  generalize listB 1 31 c = q3 at *
  generalize listB 1 12 d = q4 at *
  generalize listB 0 6 e = q5 at *
  go_enter Tryz.func130, Tryz.ntmps130
  go_wp2_with fail
  refine (H1.out _ (ba (Below.refl _ _) _)).mono ?_
  rintro x w1 ⟨rfl, hb1⟩
  have B1 := qma hb1
  have c11 : w1.cell? ⟨w.heap.size, 1, none⟩ = some (.slice bo b.length bc) := (hb1.cell (by simp)).trans (by simp [go_sem])
  have c21 : w1.cell? ⟨w.heap.size, 2, none⟩ = some (.slice co c.length cc) := (hb1.cell (by simp)).trans (by simp [go_sem])
  have c31 : w1.cell? ⟨w.heap.size, 3, none⟩ = some (.slice d0 d.length dc) := (hb1.cell (by simp)).trans (by simp [go_sem])
  have c41 : w1.cell? ⟨w.heap.size, 4, none⟩ = some (.slice eo e.length ec) := (hb1.cell (by simp)).trans (by simp [go_sem])
  clear hb1
  cases q1 with
  | false =>
    go_wp2
    go_ret
    exact ⟨by simp, B1⟩
  | true =>
    go_wp2_with fail
    refine (H2.out _ B1).mono ?_
    rintro x w2 ⟨rfl, hb2⟩
    have B2 := Below.on B1 hb2
    have c22 := qia hb2 c21
    have c32 := qia hb2 c31
    have c42 := qia hb2 c41
    clear hb2 c11 c21 c31 c41
    cases q2 with
    | false =>
      go_wp2
      go_ret
      exact ⟨by simp, B2⟩
    | true =>
      go_wp2_with fail
      refine (H3.out _ B2).mono ?_
      rintro x w3 ⟨rfl, hb3⟩
      have B3 := Below.on B2 hb3
      have c33 := qia hb3 c32
      have c43 := qia hb3 c42
      clear hb3 c22 c32 c42
      cases q3 with
      | false =>
        go_wp2
        go_ret
        exact ⟨by simp, B3⟩
      | true =>
        go_wp2_with fail
        refine (H4.out _ B3).mono ?_
        rintro x w4 ⟨rfl, hb4⟩
        have B4 := Below.on B3 hb4
        have c44 := qia hb4 c43
        clear hb4 c33 c43
        cases q4 with
        | false =>
          go_wp2
          go_ret
          exact ⟨by simp, B4⟩
        | true =>
          go_wp2_with fail
          refine (H5.out _ B4).mono ?_
          rintro x w5 ⟨rfl, hb5⟩
          have B5 := Below.on B4 hb5
          clear hb5 c44
          go_wp2
          go_ret
          exact ⟨by simp, B5⟩
end Go.Proofs.YtpjpheicldegkaaGreatDoor

namespace Go.Proofs.YtpjpheicldegkaaGreatDoor
open Go Go.RowKit

def showP (l : List Int) : Nat → ByteArray
  | 0 => ByteArray.empty
  | k + 1 => (if k = 0 then showP l k else showP l k ++ ⟨#[44]⟩) ++ bstr (decI ((l[k]?).getD 0).toNat)
def showS (l : List Int) (n : Int) : ByteArray := if (l.length : Int) = n then ⟨#[42]⟩ else showP l l.length
theorem decI_two {n : Nat} (h : n < 100) : (decI n).length ≤ 2 := by
  by_cases h1 : n < 10
  · rw [qnc h1]; simp
  · rw [decI_more h1, qnc (by omega)]; simp
theorem showP_size {l : List Int} (h : ∀ x ∈ l, 0 ≤ x ∧ x < 100) : ∀ k, k ≤ l.length → (showP l k).size ≤ 3 * k
  | 0, _ => by simp [showP]
  | k + 1, hk => by
    have ih := showP_size h k (by omega)
    have hm : l[k] ∈ l := List.getElem_mem _
    have hx := h _ hm
    have h2 : (decI ((l[k]?).getD 0).toNat).length ≤ 2 := by
      rw [List.getElem?_eq_getElem (by omega)]
      exact decI_two (by simp; omega)
    unfold showP
    rw [ByteArray.size_append, qra]
    split
    · omega
    · rw [ByteArray.size_append]
      have : (ByteArray.mk #[44]).size = 1 := rfl
      omega

set_option maxHeartbeats 1000000 in
theorem l10Show_try (ao : Option Addr) (n c : Nat) (l : List Int) (z : Int) (w : World) (hr : Reads w (.slice ao n c) l) (hn : l.length ≤ 1000) (hx : ∀ x ∈ l, 0 ≤ x ∧ x < 100) :
    Calls Tryz.prog 131 #[.slice ao n c, .int .i64 z] w fun e w' => e = .returned (.string (showS l z)) ∧ Below w.heap.size w w' := by
  have HR : Hid (Reads w (.slice ao n c) l) := hr
  have HN : Hid (n = l.length) := hr.len
  have hn1 : n ≤ 1000 := by rw [hr.len]; exact hn
  have HB : Hid (∀ x ∈ l, 0 ≤ x ∧ x < 100) := hx
  clear hr hx hn
  by_cases hz : (n : Int) = z
  · have HF : Hid (showS l z = ⟨#[42]⟩) := by show _ = _; unfold showS; rw [← HN.out, if_pos hz]
    go_enter Tryz.func131, Tryz.ntmps131
    go_wp2
    go_ret
    exact ⟨by rw [HF.out]; rfl, Below.refl _ _⟩
  · have HF : Hid (showS l z = showP l n) := by show _ = _; unfold showS; rw [← HN.out, if_neg hz]
    go_enter Tryz.func131, Tryz.ntmps131
    go_wp2
    rw [beq_eq_false_iff_ne.2 hz]
    go_loopw [5, 6] (fun t i wr => ∃ (k : Nat) (y : ByteArray), k ≤ n ∧ i = .int .i64 k ∧ t = .string y ∧ Hid (showP l k = y) ∧ y.size ≤ 3 * k ∧ Below w.heap.size w wr) (fun _ i _ => n - (intOf i).toNat)
    case atStart => exact ⟨0, ⟨#[]⟩, Nat.zero_le _, rfl, rfl, rfl, Nat.zero_le _, Below.refl _ _⟩
    case round =>
      obtain ⟨k, y, hk, rfl, rfl, HY, hy3, hbel⟩ := hrel
      by_cases hlt : k < n
      · obtain ⟨x, hx⟩ : ∃ x, l[k]? = some x := ⟨_, List.getElem?_eq_getElem (by rw [← HN.out]; exact hlt)⟩
        have hb2 := HB.out x (List.mem_of_getElem? hx)
        have HS : Hid (showP l (k + 1) = (if k = 0 then y else y ++ ⟨#[44]⟩) ++ bstr (decI x.toNat)) := by
          show _ = _
          rw [showP, hx, HY.out]; rfl
        have h2 : (bstr (decI x.toNat)).size ≤ 2 := by rw [qra]; exact decI_two (by omega)
        obtain ⟨u, hu⟩ : ∃ u, bstr (decI x.toNat) = u := ⟨_, rfl⟩
        have CD : Hid (∀ W, Calls Tryz.prog 105 #[.int .i64 x] W fun e w' => e = .returned (.string u) ∧ Below W.heap.size W w') := fun W => by rw [← hu]; exact qhc x W hb2.1 (by omega)
        rw [hu] at HS h2
        obtain ⟨b, o, rfl, hb, c0⟩ := int_at (HR.out.below hbel) hx
        clear hx hu
        by_cases hk0 : k = 0
        · have HS2 : Hid (showP l (k + 1) = y ++ u) := by show _ = _; have := HS.out; rwa [if_pos hk0] at this
          have hk1 : ¬ (0 : Int) < (k : Int) := by omega
          clear hk0
          go_wp2_with (go_at_call 105; refine (CD.out _).mono ?_; rintro e w1 ⟨rfl, hb1⟩)
          go_roundw
          case rel => exact ⟨k + 1, y ++ u, by omega, by go_num, rfl, HS2, by rw [ByteArray.size_append]; omega, Below.on hbel hb1⟩
          case measure => simp [intOf]; omega
        · have HS2 : Hid (showP l (k + 1) = y ++ ⟨#[44]⟩ ++ u) := by show _ = _; have := HS.out; rwa [if_neg hk0] at this
          have hs1 : (y ++ (⟨#[44]⟩ : ByteArray)).size ≤ 3 * k + 1 := by
            rw [ByteArray.size_append]
            have : (ByteArray.mk #[44]).size = 1 := rfl
            omega
          have hk1 : (0 : Int) < (k : Int) := by omega
          go_wp2_with (go_at_call 105; refine (CD.out _).mono ?_; rintro e w1 ⟨rfl, hb1⟩)
          go_roundw
          case rel => exact ⟨k + 1, y ++ ⟨#[44]⟩ ++ u, by omega, by go_num, rfl, HS2, by rw [ByteArray.size_append]; omega, Below.on hbel hb1⟩
          case measure => simp [intOf]; omega
      · have hkn : k = n := by omega
        subst hkn
        go_wp2
        go_ret
        exact ⟨by rw [HF.out, HY.out]; rfl, hbel⟩
theorem qke {w : World} {v : Value} {l : List Int} (z : Int) (hr : Reads w v l) (hn : l.length ≤ 1000) (hx : ∀ x ∈ l, 0 ≤ x ∧ x < 100) :
    Calls Tryz.prog 131 #[v, .int .i64 z] w fun e w' => e = .returned (.string (showS l z)) ∧ Below w.heap.size w w' := by
  obtain ⟨ao, c, rfl, _⟩ := id hr
  exact l10Show_try ao _ c l z w hr hn hx
end Go.Proofs.YtpjpheicldegkaaGreatDoor

namespace Go.Proofs.YtpjpheicldegkaaGreatDoor
open Go Go.RowKit
section
variable {α : Type} [Rec α]
open Rec

theorem flat_cell {l : List α} {j : Nat} {v : Value} (h : (l.flatMap cells)[j]? = some v) : ∃ x, l[j / width α]? = some x ∧ (cells x)[j % width α]? = some v := by
  have hpos : 0 < width α := Rec.pos
  have e := flat_at l (j / width α) (j % width α) (Nat.mod_lt _ hpos)
  rw [Nat.mul_comm, Nat.div_add_mod] at e
  rw [e] at h
  cases hx : l[j / width α]? with
  | none => rw [hx] at h; simp at h
  | some x => rw [hx] at h; exact ⟨x, rfl, h⟩

end
end Go.Proofs.YtpjpheicldegkaaGreatDoor

namespace Go.Proofs.YtpjpheicldegkaaGreatDoor
open Go Go.RowKit
section
variable {α : Type} [Rec α]
open Rec
theorem qoe (w : World) (B : Nat) (e : TypeId) (hB : B ≤ w.heap.size) : ownsR (w.alloc (.cells #[] e)) B e (.slice (some ⟨w.heap.size, 0, none⟩) 0 0) ([] : List α) :=
  World.ownsRow_made w #[] 0 hB (Nat.zero_le _) (by simp)
theorem run_append_recs {P : Program} (w : World) (B : Nat) (t ty e : TypeId) (z : Value) (bytes : Nat) (ht : P.underlying t = some (.slice e)) (hi : (P.info? e).map (fun i => (i.zero, i.size, i.bytes)) = some (some z, width α, bytes)) (hz : z.cells.size = width α)
    (v v2 : Value) (l1 l2 : List α) (hown : ownsR w B e v l1) (hr : Reads w v2 l2) (h1 : ∀ x ∈ l2, ∀ u ∈ cells x, u.oneCell' = true) (hlen : l1.length + l2.length ≤ 1048577) (hby : bytes ≤ 134217000) (hB : B ≤ w.heap.size) :
    ∃ v' w', (Builtin.append_ #[t, t] ty #[v, v2]).run P w = .ok v' w' ∧ ownsR w' B e v' (l1 ++ l2) ∧ w.grownBy w' v.ownBlock := by
  obtain ⟨i0, hi0, hz0, hz1, hz2⟩ := info_parts hi
  have hbytes : (l1.length + l2.length) * bytes ≤ 140737488355328 := by
    have : (l1.length + l2.length) * bytes ≤ 1048577 * 134217000 := Nat.mul_le_mul hlen hby
    omega
  have h63 : l1.length + l2.length ≤ maxLen := by unfold maxLen; omega
  have hone : ∀ u ∈ l2.flatMap cells, u.oneCell' = true := fun u hu => by
    obtain ⟨x, hx, hu⟩ := List.mem_flatMap.1 hu
    exact h1 x hx u hu
  obtain ⟨ao, cap, rfl, hc⟩ := hr
  cases ao with
  | none =>
    have h0 : l2 = [] := by
      cases l2 with
      | nil => rfl
      | cons x r => obtain ⟨b, o, e, _⟩ := hc (by simp); cases e
    subst h0
    refine ⟨v, w, ?_, by simpa using hown, grown_refl _ _⟩
    rcases hown.2 with ⟨rfl, h0⟩ | ⟨g, cap, cur, rfl, _, _, hnc, _⟩
    · simp [Builtin.append_, run_underlying ht, sizeOf, typeInfo, hi0, Builtin.lenOf, Builtin.firstCells]
    · simp [Builtin.append_, run_underlying ht, sizeOf, typeInfo, hi0, Builtin.lenOf, Builtin.firstCells, hnc, storeCells]
  | some a =>
    obtain ⟨v', w', hrun, ho, hg, _⟩ := run_append_own (P := P) (w := w) B t ty e i0 z (width α) bytes ht hi0 hz0 hz1 hz2 hz Rec.pos v l1.length _ hown a l2.length cap (l2.flatMap cells) (flat_length l2) (fun j u hj => by
      obtain ⟨x, hx, hu⟩ := flat_cell hj
      obtain ⟨b, o, e, _, hcell⟩ := hc (by rintro rfl; simp at hx)
      cases e
      have := hcell _ x hx _ u hu
      have hadd : (⟨b, o, none⟩ : Addr).add j = ⟨b, o + j, none⟩ := by unfold Addr.add; split <;> simp_all
      rw [hadd]
      rw [Nat.add_assoc, Nat.mul_comm, Nat.div_add_mod] at this
      exact this) hone h63 hbytes hB
    exact ⟨v', w', hrun, by simpa [ownsR, List.flatMap_append] using ho, hg⟩
theorem qca {P : Program} {w : World} {ops : Array Oper} {rest : List Oper} {o : Oper} {a : Act} {Q : Exit → Act → World → Prop} (hgd : o.guard = none) (s x : Operand) (t : TypeId)
    (ho : o.op = .call { callee := .builtin .append, args := #[s, x], argTypes := #[t, t] }) (B : Nat) (e : TypeId) (z : Value) (bytes : Nat) (ht : P.underlying t = some (.slice e)) (hi : (P.info? e).map (fun i => (i.zero, i.size, i.bytes)) = some (some z, width α, bytes)) (hz : z.cells.size = width α)
    (v v2 : Value) (l1 l2 : List α) (hs : a.eval s = v) (hx : a.eval x = v2) (hown : ownsR w B e v l1) (hr : Reads w v2 l2) (h1 : ∀ x ∈ l2, ∀ u ∈ cells x, u.oneCell' = true) (hlen : l1.length + l2.length ≤ 1048577) (hby : bytes ≤ 134217000) (hB : B ≤ w.heap.size)
    (h : ∀ v' w', ownsR w' B e v' (l1 ++ l2) → w.grownBy w' v.ownBlock → wpList P ops Q rest (a.put o.dst v') w') : wpList P ops Q (o :: rest) a w := by
  refine wpList_plain hgd fun K hK => ?_
  obtain ⟨v', w', hrun, ho', hg'⟩ := run_append_recs (P := P) w B t o.type e z bytes ht hi hz v v2 l1 l2 hown hr h1 hlen hby hB
  unfold Oper.wp
  simp [execOp, ho, resolve, invoke, builtin, hs, hx, hrun, Result.andThen]
  exact hK _ _ (h v' w' ho' hg')
end
end Go.Proofs.YtpjpheicldegkaaGreatDoor

namespace Go.Proofs.YtpjpheicldegkaaGreatDoor
open Go Go.RowKit

end Go.Proofs.YtpjpheicldegkaaGreatDoor

namespace Go.Proofs.YtpjpheicldegkaaGreatDoor
open Go Go.RowKit

theorem qqb {W : World} {k : Nat} {o : Obj} (h : W.heap[k]? = some o) {p : Addr} (hp : p.block ≠ k) (u : Value) : (W.setCell p u).heap[k]? = some o :=
  (heap_setCell_other W p k u (Ne.symm hp)).trans h

def Kc12 (t : TypeId) (W : World) (b : Nat) (x0 x1 x2 x3 x4 x5 x6 x7 x8 x9 x10 x11 : Value) : Prop := W.heap[b]? = some (.cells #[x0, x1, x2, x3, x4, x5, x6, x7, x8, x9, x10, x11] t)
section Kc12
variable {t : TypeId} {W W' : World} {b : Nat} {x0 x1 x2 x3 x4 x5 x6 x7 x8 x9 x10 x11 : Value}
theorem Kc12.lt (h : Kc12 t W b x0 x1 x2 x3 x4 x5 x6 x7 x8 x9 x10 x11) : b < W.heap.size := (Array.getElem?_eq_some_iff.1 h).1
theorem Kc12.on {B : Nat} (h : Kc12 t W b x0 x1 x2 x3 x4 x5 x6 x7 x8 x9 x10 x11) (hb : Below B W W') (hB : b < B) : Kc12 t W' b x0 x1 x2 x3 x4 x5 x6 x7 x8 x9 x10 x11 := (hb.block _ hB).trans h
theorem Kc12.up (h : Kc12 t W b x0 x1 x2 x3 x4 x5 x6 x7 x8 x9 x10 x11) (hb : Below W.heap.size W W') : Kc12 t W' b x0 x1 x2 x3 x4 x5 x6 x7 x8 x9 x10 x11 := h.on hb h.lt
theorem Kc12.alloc (h : Kc12 t W b x0 x1 x2 x3 x4 x5 x6 x7 x8 x9 x10 x11) (o : Obj) : Kc12 t (W.alloc o) b x0 x1 x2 x3 x4 x5 x6 x7 x8 x9 x10 x11 := h.up (ba (Below.refl _ _) _)
theorem Kc12.fz (h : Kc12 t W b x0 x1 x2 x3 x4 x5 x6 x7 x8 x9 x10 x11) (k : Nat) : W.frozen? ⟨b, k, none⟩ = false := by simp [World.frozen?, show W.heap[b]? = _ from h]
theorem Kc12.new (t : TypeId) (W : World) (x0 x1 x2 x3 x4 x5 x6 x7 x8 x9 x10 x11 : Value) : Kc12 t (W.alloc (.cells #[x0, x1, x2, x3, x4, x5, x6, x7, x8, x9, x10, x11] t)) W.heap.size x0 x1 x2 x3 x4 x5 x6 x7 x8 x9 x10 x11 := by
  show (W.heap.push _)[W.heap.size]? = _
  rw [Array.getElem?_push, if_pos rfl]
theorem Kc12.far {p : Addr} (h : Kc12 t W b x0 x1 x2 x3 x4 x5 x6 x7 x8 x9 x10 x11) (hp : p.block ≠ b) (u : Value) : Kc12 t (W.setCell p u) b x0 x1 x2 x3 x4 x5 x6 x7 x8 x9 x10 x11 := qqb h hp u
theorem Kc12.c0 (h : Kc12 t W b x0 x1 x2 x3 x4 x5 x6 x7 x8 x9 x10 x11) : W.cell? ⟨b, 0, none⟩ = some x0 := by simp [World.cell?, show W.heap[b]? = _ from h]
theorem Kc12.s0 (h : Kc12 t W b x0 x1 x2 x3 x4 x5 x6 x7 x8 x9 x10 x11) (u : Value) : Kc12 t (W.setCell ⟨b, 0, none⟩ u) b u x1 x2 x3 x4 x5 x6 x7 x8 x9 x10 x11 := by simp [Kc12, World.setCell, Array.getElem?_modify, show W.heap[b]? = _ from h]
theorem Kc12.c1 (h : Kc12 t W b x0 x1 x2 x3 x4 x5 x6 x7 x8 x9 x10 x11) : W.cell? ⟨b, 1, none⟩ = some x1 := by simp [World.cell?, show W.heap[b]? = _ from h]
theorem Kc12.s1 (h : Kc12 t W b x0 x1 x2 x3 x4 x5 x6 x7 x8 x9 x10 x11) (u : Value) : Kc12 t (W.setCell ⟨b, 1, none⟩ u) b x0 u x2 x3 x4 x5 x6 x7 x8 x9 x10 x11 := by simp [Kc12, World.setCell, Array.getElem?_modify, show W.heap[b]? = _ from h]
theorem Kc12.c2 (h : Kc12 t W b x0 x1 x2 x3 x4 x5 x6 x7 x8 x9 x10 x11) : W.cell? ⟨b, 2, none⟩ = some x2 := by simp [World.cell?, show W.heap[b]? = _ from h]
theorem Kc12.s2 (h : Kc12 t W b x0 x1 x2 x3 x4 x5 x6 x7 x8 x9 x10 x11) (u : Value) : Kc12 t (W.setCell ⟨b, 2, none⟩ u) b x0 x1 u x3 x4 x5 x6 x7 x8 x9 x10 x11 := by simp [Kc12, World.setCell, Array.getElem?_modify, show W.heap[b]? = _ from h]
theorem Kc12.c3 (h : Kc12 t W b x0 x1 x2 x3 x4 x5 x6 x7 x8 x9 x10 x11) : W.cell? ⟨b, 3, none⟩ = some x3 := by simp [World.cell?, show W.heap[b]? = _ from h]
theorem Kc12.s3 (h : Kc12 t W b x0 x1 x2 x3 x4 x5 x6 x7 x8 x9 x10 x11) (u : Value) : Kc12 t (W.setCell ⟨b, 3, none⟩ u) b x0 x1 x2 u x4 x5 x6 x7 x8 x9 x10 x11 := by simp [Kc12, World.setCell, Array.getElem?_modify, show W.heap[b]? = _ from h]
theorem Kc12.c4 (h : Kc12 t W b x0 x1 x2 x3 x4 x5 x6 x7 x8 x9 x10 x11) : W.cell? ⟨b, 4, none⟩ = some x4 := by simp [World.cell?, show W.heap[b]? = _ from h]
theorem Kc12.s4 (h : Kc12 t W b x0 x1 x2 x3 x4 x5 x6 x7 x8 x9 x10 x11) (u : Value) : Kc12 t (W.setCell ⟨b, 4, none⟩ u) b x0 x1 x2 x3 u x5 x6 x7 x8 x9 x10 x11 := by simp [Kc12, World.setCell, Array.getElem?_modify, show W.heap[b]? = _ from h]
theorem Kc12.c5 (h : Kc12 t W b x0 x1 x2 x3 x4 x5 x6 x7 x8 x9 x10 x11) : W.cell? ⟨b, 5, none⟩ = some x5 := by simp [World.cell?, show W.heap[b]? = _ from h]
theorem Kc12.s5 (h : Kc12 t W b x0 x1 x2 x3 x4 x5 x6 x7 x8 x9 x10 x11) (u : Value) : Kc12 t (W.setCell ⟨b, 5, none⟩ u) b x0 x1 x2 x3 x4 u x6 x7 x8 x9 x10 x11 := by simp [Kc12, World.setCell, Array.getElem?_modify, show W.heap[b]? = _ from h]
theorem Kc12.c6 (h : Kc12 t W b x0 x1 x2 x3 x4 x5 x6 x7 x8 x9 x10 x11) : W.cell? ⟨b, 6, none⟩ = some x6 := by simp [World.cell?, show W.heap[b]? = _ from h]
theorem Kc12.s6 (h : Kc12 t W b x0 x1 x2 x3 x4 x5 x6 x7 x8 x9 x10 x11) (u : Value) : Kc12 t (W.setCell ⟨b, 6, none⟩ u) b x0 x1 x2 x3 x4 x5 u x7 x8 x9 x10 x11 := by simp [Kc12, World.setCell, Array.getElem?_modify, show W.heap[b]? = _ from h]
theorem Kc12.c7 (h : Kc12 t W b x0 x1 x2 x3 x4 x5 x6 x7 x8 x9 x10 x11) : W.cell? ⟨b, 7, none⟩ = some x7 := by simp [World.cell?, show W.heap[b]? = _ from h]
theorem Kc12.s7 (h : Kc12 t W b x0 x1 x2 x3 x4 x5 x6 x7 x8 x9 x10 x11) (u : Value) : Kc12 t (W.setCell ⟨b, 7, none⟩ u) b x0 x1 x2 x3 x4 x5 x6 u x8 x9 x10 x11 := by simp [Kc12, World.setCell, Array.getElem?_modify, show W.heap[b]? = _ from h]
theorem Kc12.c8 (h : Kc12 t W b x0 x1 x2 x3 x4 x5 x6 x7 x8 x9 x10 x11) : W.cell? ⟨b, 8, none⟩ = some x8 := by simp [World.cell?, show W.heap[b]? = _ from h]
theorem Kc12.s8 (h : Kc12 t W b x0 x1 x2 x3 x4 x5 x6 x7 x8 x9 x10 x11) (u : Value) : Kc12 t (W.setCell ⟨b, 8, none⟩ u) b x0 x1 x2 x3 x4 x5 x6 x7 u x9 x10 x11 := by simp [Kc12, World.setCell, Array.getElem?_modify, show W.heap[b]? = _ from h]
theorem Kc12.c9 (h : Kc12 t W b x0 x1 x2 x3 x4 x5 x6 x7 x8 x9 x10 x11) : W.cell? ⟨b, 9, none⟩ = some x9 := by simp [World.cell?, show W.heap[b]? = _ from h]
theorem Kc12.s9 (h : Kc12 t W b x0 x1 x2 x3 x4 x5 x6 x7 x8 x9 x10 x11) (u : Value) : Kc12 t (W.setCell ⟨b, 9, none⟩ u) b x0 x1 x2 x3 x4 x5 x6 x7 x8 u x10 x11 := by simp [Kc12, World.setCell, Array.getElem?_modify, show W.heap[b]? = _ from h]
theorem Kc12.c10 (h : Kc12 t W b x0 x1 x2 x3 x4 x5 x6 x7 x8 x9 x10 x11) : W.cell? ⟨b, 10, none⟩ = some x10 := by simp [World.cell?, show W.heap[b]? = _ from h]
theorem Kc12.s10 (h : Kc12 t W b x0 x1 x2 x3 x4 x5 x6 x7 x8 x9 x10 x11) (u : Value) : Kc12 t (W.setCell ⟨b, 10, none⟩ u) b x0 x1 x2 x3 x4 x5 x6 x7 x8 x9 u x11 := by simp [Kc12, World.setCell, Array.getElem?_modify, show W.heap[b]? = _ from h]
theorem Kc12.c11 (h : Kc12 t W b x0 x1 x2 x3 x4 x5 x6 x7 x8 x9 x10 x11) : W.cell? ⟨b, 11, none⟩ = some x11 := by simp [World.cell?, show W.heap[b]? = _ from h]
theorem Kc12.s11 (h : Kc12 t W b x0 x1 x2 x3 x4 x5 x6 x7 x8 x9 x10 x11) (u : Value) : Kc12 t (W.setCell ⟨b, 11, none⟩ u) b x0 x1 x2 x3 x4 x5 x6 x7 x8 x9 x10 u := by simp [Kc12, World.setCell, Array.getElem?_modify, show W.heap[b]? = _ from h]
end Kc12
abbrev set12 (W : World) (b : Nat) (u0 u1 u2 u3 u4 u5 u6 u7 u8 u9 u10 u11 : Value) : World := ((((((((((((W.setCell ⟨b, 0, none⟩ u0).setCell ⟨b, 1, none⟩ u1).setCell ⟨b, 2, none⟩ u2).setCell ⟨b, 3, none⟩ u3).setCell ⟨b, 4, none⟩ u4).setCell ⟨b, 5, none⟩ u5).setCell ⟨b, 6, none⟩ u6).setCell ⟨b, 7, none⟩ u7).setCell ⟨b, 8, none⟩ u8).setCell ⟨b, 9, none⟩ u9).setCell ⟨b, 10, none⟩ u10).setCell ⟨b, 11, none⟩ u11)
theorem Kc12.set {t : TypeId} {W : World} {b : Nat} {x0 x1 x2 x3 x4 x5 x6 x7 x8 x9 x10 x11 : Value} (h : Kc12 t W b x0 x1 x2 x3 x4 x5 x6 x7 x8 x9 x10 x11) (u0 u1 u2 u3 u4 u5 u6 u7 u8 u9 u10 u11 : Value) : Kc12 t (set12 W b u0 u1 u2 u3 u4 u5 u6 u7 u8 u9 u10 u11) b u0 u1 u2 u3 u4 u5 u6 u7 u8 u9 u10 u11 := ((((((((((((h.s0 u0).s1 u1).s2 u2).s3 u3).s4 u4).s5 u5).s6 u6).s7 u7).s8 u8).s9 u9).s10 u10).s11 u11)
theorem heap_set12 {W : World} {b q : Nat} {o : Obj} (h : W.heap[q]? = some o) (hb : b ≠ q) (u0 u1 u2 u3 u4 u5 u6 u7 u8 u9 u10 u11 : Value) : (set12 W b u0 u1 u2 u3 u4 u5 u6 u7 u8 u9 u10 u11).heap[q]? = some o := (qqb (qqb (qqb (qqb (qqb (qqb (qqb (qqb (qqb (qqb (qqb (qqb h (p := ⟨b, 0, none⟩) hb u0) (p := ⟨b, 1, none⟩) hb u1) (p := ⟨b, 2, none⟩) hb u2) (p := ⟨b, 3, none⟩) hb u3) (p := ⟨b, 4, none⟩) hb u4) (p := ⟨b, 5, none⟩) hb u5) (p := ⟨b, 6, none⟩) hb u6) (p := ⟨b, 7, none⟩) hb u7) (p := ⟨b, 8, none⟩) hb u8) (p := ⟨b, 9, none⟩) hb u9) (p := ⟨b, 10, none⟩) hb u10) (p := ⟨b, 11, none⟩) hb u11)
theorem qya {B b : Nat} {V W : World} (h : Below B V W) (hB : B ≤ b) (u0 u1 u2 u3 u4 u5 u6 u7 u8 u9 u10 u11 : Value) : Below B V (set12 W b u0 u1 u2 u3 u4 u5 u6 u7 u8 u9 u10 u11) := (Below.setCell (Below.setCell (Below.setCell (Below.setCell (Below.setCell (Below.setCell (Below.setCell (Below.setCell (Below.setCell (Below.setCell (Below.setCell (Below.setCell h (p := ⟨b, 0, none⟩) hB u0) (p := ⟨b, 1, none⟩) hB u1) (p := ⟨b, 2, none⟩) hB u2) (p := ⟨b, 3, none⟩) hB u3) (p := ⟨b, 4, none⟩) hB u4) (p := ⟨b, 5, none⟩) hB u5) (p := ⟨b, 6, none⟩) hB u6) (p := ⟨b, 7, none⟩) hB u7) (p := ⟨b, 8, none⟩) hB u8) (p := ⟨b, 9, none⟩) hB u9) (p := ⟨b, 10, none⟩) hB u10) (p := ⟨b, 11, none⟩) hB u11)

def SzP (left : Int) (n : Int) (w : World) (e : Ending) (w' : World) : Prop := ∃ r : Int, e = .returned (.int .i64 r) ∧ (r = -1 ∨ 0 ≤ r ∧ r = left - n) ∧ Below w.heap.size w w'
theorem qgd {fn : Func} {p : Tmp} {w : World} {g : Nat} {x0 x1 x2 x3 x4 x5 x6 x7 x8 x9 x10 x11 : Value} {tmps : Array Value} (h : fn.results = #[.cell p 27]) (hp : tmps.getD p undef = .pointer (some ⟨g, 0, none⟩)) (hb : Kc12 27 w g x0 x1 x2 x3 x4 x5 x6 x7 x8 x9 x10 x11) :
    (results fn tmps).run Tryz.prog w = .ok (.agg #[x0, x1, x2, x3, x4, x5, x6, x7, x8, x9, x10, x11]) w := by
  have hp' : tmps[p]?.getD undef = .pointer (some ⟨g, 0, none⟩) := by simpa using hp
  simp [results, h, hp', hb.c0, hb.c1, hb.c2, hb.c3, hb.c4, hb.c5, hb.c6, hb.c7, hb.c8, hb.c9, hb.c10, hb.c11, asAddr, go_sem]
theorem qva {α : Type} [Rec α] {w : World} {B b : Nat} {t : TypeId} {v : Value} {l : List α} (h : ownsR w B t v l) (hb : b < B) (u0 u1 u2 u3 u4 u5 u6 u7 u8 u9 u10 u11 : Value) : ownsR (set12 w b u0 u1 u2 u3 u4 u5 u6 u7 u8 u9 u10 u11) B t v l := (ownsR.qta (ownsR.qta (ownsR.qta (ownsR.qta (ownsR.qta (ownsR.qta (ownsR.qta (ownsR.qta (ownsR.qta (ownsR.qta (ownsR.qta (ownsR.qta h (a := ⟨b, 0, none⟩) hb u0) (a := ⟨b, 1, none⟩) hb u1) (a := ⟨b, 2, none⟩) hb u2) (a := ⟨b, 3, none⟩) hb u3) (a := ⟨b, 4, none⟩) hb u4) (a := ⟨b, 5, none⟩) hb u5) (a := ⟨b, 6, none⟩) hb u6) (a := ⟨b, 7, none⟩) hb u7) (a := ⟨b, 8, none⟩) hb u8) (a := ⟨b, 9, none⟩) hb u9) (a := ⟨b, 10, none⟩) hb u10) (a := ⟨b, 11, none⟩) hb u11)
def MsP (kd fr up tm ix lt cm : Int) (ok : Bool) (da : ByteArray) (la : Bool) (es : List En) (cs : List Int) (w : World) (e : Ending) (w' : World) : Prop := ∃ v u, e = .returned (.agg #[.int .i64 kd, .int .i64 fr, .int .i64 up, .int .i64 tm, .int .i64 ix, .int .i64 lt, .int .i64 cm, .bool ok, v, u, .string da, .bool la]) ∧ ownsR w' w.heap.size 59 v es ∧ ownsR w' w.heap.size 3 u cs ∧ Below w.heap.size w w'
end Go.Proofs.YtpjpheicldegkaaGreatDoor

namespace Go.Proofs.YtpjpheicldegkaaGreatDoor
open Go.RowKit

theorem rvGo_true (s : ByteArray) : ∀ (f i k n : Nat) (x y : Int), rvGo s f i k n = (x, y, true) → 0 ≤ x ∧ x ≤ 1000000000 ∧ 0 ≤ y ∧ y ≤ s.size
  | 0, i, k, n, x, y, h => by simp [rvGo] at h
  | f + 1, i, k, n, x, y, h => by
    by_cases h1 : i < s.size
    · by_cases h2 : s[i].toNat < 128
      · by_cases h3 : 1000000000 < n + s[i].toNat % 128 * 128 ^ k ∨ (s[i].toNat = 0 ∧ 0 < k)
        · rw [rvGo_bad h1 h2 h3] at h
          simp at h
        · rw [rvGo_ok h1 h2 h3] at h
          generalize n + s[i].toNat % 128 * 128 ^ k = v at h h3
          simp only [Prod.mk.injEq, and_true] at h
          omega
      · rw [rvGo_more h1 h2] at h
        exact rvGo_true s f _ _ _ x y h
    · rw [rvGo_end h1] at h
      simp at h
theorem rv_true {s : ByteArray} {at' x y : Int} (h : rv s at' = (x, y, true)) : 0 ≤ x ∧ x ≤ 1000000000 ∧ 0 ≤ y ∧ y ≤ s.size := by
  unfold rv at h
  by_cases hc : 0 ≤ at' ∧ at' ≤ s.size
  · rw [if_pos hc] at h
    exact rvGo_true s _ _ _ _ x y h
  · rw [if_neg hc] at h
    simp at h

set_option maxHeartbeats 400000 in
theorem readShort_bad (s : ByteArray) (at' : Int) (w : World) (hs : s.size ≤ 1048576) (x y : Int) (z : Bool) (HR : Hid (rv s at' = (x, y, z)))
    (hbad : z = false ∨ 20000 < x ∨ (s.size : Int) - y < x) :
    Calls Tryz.prog 84 #[.string s, .int .i64 at'] w fun e w' => e = .returned (.tuple #[.string ByteArray.empty, .int .i64 0, .bool false]) ∧ Below w.heap.size w w' := by
  cases z with
  | false =>
    clear hbad
    go_enter Tryz.func84, Tryz.ntmps84
    go_wp2_with (go_at_call 80; refine (qgc s at' _ hs x y false HR.out).mono ?_; rintro e w1 ⟨rfl, hb1⟩)
    go_ret3
    exact ⟨rfl, by subst hb1; exact Below.refl _ _⟩
  | true =>
    obtain ⟨hx0, hx1, hy0, hy1⟩ := rv_true HR.out
    by_cases h1 : 20000 < x
    · clear hbad
      go_enter Tryz.func84, Tryz.ntmps84
      go_wp2_with (go_at_call 80; refine (qgc s at' _ hs x y true HR.out).mono ?_; rintro e w1 ⟨rfl, hb1⟩)
      go_ret3
      exact ⟨rfl, by subst hb1; exact Below.refl _ _⟩
    · have h2 : (s.size : Int) - y < x := by simp at hbad; omega
      clear hbad
      go_enter Tryz.func84, Tryz.ntmps84
      go_wp2_with (go_at_call 80; refine (qgc s at' _ hs x y true HR.out).mono ?_; rintro e w1 ⟨rfl, hb1⟩)
      go_ret3
      exact ⟨rfl, by subst hb1; exact Below.refl _ _⟩

set_option maxHeartbeats 400000 in
theorem readShort_ok (s : ByteArray) (at' : Int) (w : World) (hs : s.size ≤ 1048576) (x y : Int) (HR : Hid (rv s at' = (x, y, true)))
    (h1 : x ≤ 20000) (h2 : x ≤ (s.size : Int) - y) :
    Calls Tryz.prog 84 #[.string s, .int .i64 at'] w fun e w' => e = .returned (.tuple #[.string (s.extract y.toNat (y + x).toNat), .int .i64 (y + x), .bool true]) ∧ Below w.heap.size w w' := by
  obtain ⟨hx0, hx1, hy0, hy1⟩ := rv_true HR.out
  go_enter Tryz.func84, Tryz.ntmps84
  go_wp2_with (first | (go_at_call 80; refine (qgc s at' _ hs x y true HR.out).mono ?_; rintro e w1 ⟨rfl, hb1⟩) | (go_at_call 91; refine (clone_any _ _ (by simp only [ByteArray.size_extract]; omega)).mono ?_; rintro e w2 ⟨rfl, hb2⟩))
  go_ret3
  exact ⟨rfl, by subst hb1; exact hb2⟩

end Go.Proofs.YtpjpheicldegkaaGreatDoor
