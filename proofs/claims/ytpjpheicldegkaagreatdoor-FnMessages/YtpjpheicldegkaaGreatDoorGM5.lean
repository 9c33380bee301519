/- Rb,Mx,Lco,Ct,Rc,Rcs,En,Ens,Cu,Rea,Open,Eo,Hn,ShelfW,Smi -/
import Derived.Test.YtpjpheicldegkaaGreatDoorGM2
import Derived.Test.YtpjpheicldegkaaGreatDoorGM1
import Derived.OrdersHeld
import Derived.Test.YtpjpheicldegkaaGreatDoorCo
import Derived.WalkSpells
import Derived.WalkLawsBesides
import Derived.Test.YtpjpheicldegkaaGreatDoorGn
import Derived.Test.YtpjpheicldegkaaGreatDoorGM4
import Derived.Deep.Slices
import Derived.Deep.Strs
import Derived.ProofKit
import Derived.OpenShut
import Derived.Handy
import Derived.Shelf.LaysM
import Derived.Shelf.Bytes.GrowSliceCatch
import Derived.Shelf.Bytes.GrowSlice
import Derived.Shelf.Strconv.Clone
import Derived.Shelf.Bytes.LenAt
import Derived.Shelf.Bytes.StringAt
import Derived.Shelf.Bytes.TryGrowAt
import Derived.Shelf.Bytes.GrowRow0At
import Derived.Shelf.Bytes.GrowRowAt
import Derived.Shelf.Bytes.GrowNilAt
import Derived.Shelf.Bytes.GrowAt
import Derived.Shelf.Bytes.WriteByteAt
import Derived.Shelf.Bytes.WriteStringAt
import Derived.Test.YtpjpheicldegkaaGreatDoorProg
namespace Go.Proofs.YtpjpheicldegkaaGreatDoor
open Go Go.RowKit
instance : Rec Bool := ⟨1, fun b => [.bool b], fun _ => rfl, by decide⟩
theorem underB : Tryz.prog.underlying 204 = some (.slice 4) := by kernel_rfl
theorem infoB : (Tryz.prog.info? 4).map (fun i => (i.zero, i.size, i.bytes)) = some (some (.bool false), 1, 1) := by kernel_rfl
theorem made_bools (n : Nat) : (madeCells (Value.cells (.bool false)) (n * 1)).toList = (List.replicate n false).flatMap Rec.cells := by
  apply List.ext_getElem?
  intro m
  have e := flat_at (List.replicate n false) m 0 (by decide)
  have e1 : m * Rec.width Bool + 0 = m := by show m * 1 + 0 = m; omega
  rw [e1] at e
  rw [e]
  simp only [madeCells, Value.cells, Array.toList_map, Array.toList_range, List.getElem?_map, List.getElem?_replicate]
  by_cases hlt : m < n
  · rw [if_pos hlt, List.getElem?_range (by omega)]
    simp [Nat.mod_one]
    rfl
  · rw [if_neg hlt, List.getElem?_eq_none (by simp; omega)]
    rfl
theorem bool_put {w : World} {B : Nat} {e : TypeId} {g n cap : Nat} {l : List Bool} (h : ownsR w B e (.slice (some ⟨g, 0, none⟩) n cap) l) {i : Nat} {y : Bool} (f : Bool) (hi : l[i]? = some y) :
    ownsR (w.setCell ⟨g, i, none⟩ (.bool f)) B e (.slice (some ⟨g, 0, none⟩) n cap) (l.set i f) := by
  have := h.put (j := 0) (u := .bool f) f hi (by decide) rfl
  have e : Rec.width Bool = 1 := rfl
  rw [e, Nat.mul_one, Nat.add_zero] at this
  exact this
theorem bool_own {w : World} {B : Nat} {e : TypeId} {g n cap : Nat} {l : List Bool} (h : ownsR w B e (.slice (some ⟨g, 0, none⟩) n cap) l) {i : Nat} {x : Bool} (hi : l[i]? = some x) :
    g < w.heap.size ∧ w.cell? ⟨g, i, none⟩ = some (.bool x) ∧ w.frozen? ⟨g, i, none⟩ = false := by
  obtain ⟨h1, _, _, h2⟩ := h.at hi
  have h3 := h2 0 (by decide)
  have e : Rec.width Bool = 1 := rfl
  rw [e, Nat.mul_one, Nat.add_zero] at h3
  exact ⟨h1, h3.1, h3.2⟩
end Go.Proofs.YtpjpheicldegkaaGreatDoor

namespace Go.Proofs.YtpjpheicldegkaaGreatDoor
open Go Go.RowKit

def valueOp : Op → Bool
  | .move _ | .assign _ | .pick .. | .build .. | .load .. | .binOp .. | .unOp .. | .convert .. | .slice .. | .fieldAddr .. | .field .. | .indexAddr .. | .index .. | .lookup .. | .extract .. => true
  | _ => false

theorem andThen_value {s : Result Value} {n : Next} {w' : World} (h : (s.andThen fun a w => Result.ok (Next.value a) w) = .ok n w') : ∃ v, n = .value v := by
  cases s with
  | ok v w => simp only [Result.andThen, Result.ok.injEq] at h; exact ⟨v, h.1.symm⟩
  | halt x w => simp [Result.andThen] at h

theorem value_only {P : Program} {o : Oper} (h : valueOp o.op = true) {ρ : Operand → Value} {w w' : World} {n : Next} (hr : (execOp ρ o).run P w = .ok n w') : ∃ v, n = .value v := by
  unfold execOp at hr
  cases ho : o.op <;> rw [ho] at h hr <;> first
    | (simp [valueOp] at h; done)
    | (simp only [Sem.run_pure, Result.ok.injEq] at hr; exact ⟨_, hr.1.symm⟩)
    | (simp only [Sem.run_bind, Sem.run_pure] at hr; exact andThen_value hr)
    | (simp only [Sem.run_bind, Sem.run_pure] at hr
       generalize hs : (asBool _).run P w = s at hr
       cases s with
       | ok v w => simp only [Result.andThen, Result.ok.injEq] at hr; exact ⟨_, hr.1.symm⟩
       | halt x w => simp [Result.andThen] at hr)

section
variable {P : Program} {ops : Array Oper} {md : Region.Mode} {C : World → Prop} {Q : Exit → Act → World → Prop}

theorem yieldsIf_of_in {o : Oper} {v : Value} {a : Act} (h : valueOp o.op = true) (hy : YieldsIn P ops C o v a) : YieldsIf P ops C o v a := by
  rcases hy with ⟨hw, hq⟩ | h2
  · refine .inl ⟨hw, fun w hC => ?_⟩
    have h3 := hq w hC
    unfold Oper.quietAt at h3
    cases hr : (execOp a.eval o).run P w with
    | ok n w' =>
      obtain ⟨u, rfl⟩ := value_only h hr
      rw [hr] at h3
      simp only [Oper.quietUpon] at h3
      rw [h3.1, h3.2]
    | halt x w' => rw [hr] at h3; simp only [Oper.quietUpon] at h3
  · exact .inr h2

def qhb (P : Program) (md : Region.Mode) (ops : Array Oper) (Q : Exit → Act → World → Prop) (C : World → Prop) (L : Array Bool) (R : Act → World → Prop) : Nat → Array Bool → Act → World → Prop
  | 0, listed, a, w => listed = L ∧ R a w
  | fuel + 1, listed, a, w => Region.ready md ops listed ≠ [] ∧ ∀ i ∈ Region.ready md ops listed, wpOp P ops Q i (fun a' w' => C w' ∧ qhb P md ops Q C L R fuel (listed.setIfInBounds i true) a' w') a w

theorem wpAny_of_U {R : Act → World → Prop} {L : Array Bool} {f : Nat} (hR : ∀ a w, R a w → wpAny P md ops Q f L a w) : ∀ (fuel : Nat) (listed : Array Bool) (a : Act) (w : World),
    qhb P md ops Q C L R fuel listed a w → wpAny P md ops Q (f + fuel) listed a w
  | 0, _, _, _, h => by obtain ⟨rfl, h⟩ := h; exact hR _ _ h
  | fuel + 1, _, _, _, h => ⟨fun h0 => absurd h0 h.1, fun i hi => wpOp_mono (fun a' w' h' => wpAny_of_U hR fuel _ a' w' h'.2) (h.2 i hi)⟩

theorem wpAnyU_first {R : Act → World → Prop} {L : Array Bool} {m i : Nat} {oi : Oper} {v : Value} (hi : ops[i]? = some oi) (hsel : ∀ (j : Nat) (o : Oper) cs b, ops[j]? = some o → o.op ≠ .select cs b)
    (hQ : ∀ c a w, Q (.panic c) (a.put oi.dst v) w → Q (.panic c) a w)
    (hL : ∀ j ∈ Region.ready md ops L, j = m) (hwait : ∀ om, ops[m]? = some om → ∃ e ∈ om.after, Region.binds md e = true ∧ e.on = i) :
    ∀ (fuel : Nat) (listed : Array Bool) (a : Act) (w : World),
      (∀ j oj, ops[j]? = some oj → j ≠ i → listed.getD j true = false → (∀ e ∈ oj.after, Region.binds md e = true → e.on ≠ i) → oi.apart ops oj = true) →
      i ∈ Region.ready md ops listed → YieldsIf P ops C oi v a → C w →
      qhb P md ops Q C L R fuel (listed.setIfInBounds i true) (a.put oi.dst v) w → qhb P md ops Q C L R (fuel + 1) listed a w := by
  intro fuel
  induction fuel with
  | zero =>
    intro listed a w _ hr hy hS H
    refine ⟨fun h => (by rw [h] at hr; cases hr), fun j hj => ?_⟩
    by_cases hji : j = i
    · subst hji; exact hy.wpOp hi hS ⟨hS, H⟩
    · have h1 := ready_mono hj hji
      rw [H.1] at h1
      have hjm := hL j h1
      subst hjm
      obtain ⟨hjun, oj, hoj, hall⟩ := mem_ready.1 hj
      obtain ⟨e, he, hb, heq⟩ := hwait oj hoj
      have h2 := hall e he hb
      have h0 := (mem_ready.1 hr).1
      rw [heq] at h2
      rcases Nat.lt_or_ge i listed.size with h' | h'
      · simp [h'] at h0 h2; rw [h0] at h2; cases h2
      · simp [Array.getElem?_eq_none h'] at h2
  | succ fuel ih =>
    intro listed a w hfree hr hy hS H
    refine ⟨fun h => (by rw [h] at hr; cases hr), fun j hj => ?_⟩
    by_cases hji : j = i
    · subst hji; exact hy.wpOp hi hS ⟨hS, H⟩
    · have h1 := H.2 j (ready_mono hj hji)
      obtain ⟨hjun, oj, hoj, hall⟩ := mem_ready.1 hj
      have hnot : ∀ e ∈ oj.after, Region.binds md e = true → e.on ≠ i := fun e he hb heq => by
        have h1 := hall e he hb
        have h0 := (mem_ready.1 hr).1
        rw [heq] at h1
        rcases Nat.lt_or_ge i listed.size with h' | h'
        · simp [h'] at h0 h1; rw [h0] at h1; cases h1
        · simp [Array.getElem?_eq_none h'] at h1
      have h2 := wpOp_putIf hoj (hfree j oj hoj hji hjun hnot) (fun cs b => hsel i oi cs b hi) (fun cs b => hsel j oj cs b hoj) hQ hy h1
      have hfree' : ∀ k ok, ops[k]? = some ok → k ≠ i → (listed.setIfInBounds j true).getD k true = false →
          (∀ e ∈ ok.after, Region.binds md e = true → e.on ≠ i) → oi.apart ops ok = true := fun k ok hk hki hun hno => by
        refine hfree k ok hk hki ?_ hno
        by_cases hjk : j = k
        · subst hjk; exact hjun
        · rw [getD_set_ne true hjk] at hun; exact hun
      refine wpOp_mono (fun a' w' h3 => ⟨h3.2.1, ih (listed.setIfInBounds j true) a' w' hfree' (ready_mono hr (Ne.symm hji)) h3.1 h3.2.1 ?_⟩) h2
      rw [Array.setIfInBounds_comm _ _ hji]
      exact h3.2.2

def wpForced (P : Program) (ops : Array Oper) (Q : Exit → Act → World → Prop) (C : World → Prop) (R : Act → World → Prop) : List Oper → Act → World → Prop
  | [], a, w => R a w
  | o :: l, a, w => if Region.wanted o (yielded ops a.tmps) then o.wp P a w (fun a' w' => C w' ∧ wpForced P ops Q C R l a' w') Q ∨ (o.asks P a w ∧ LetsOut Q) else C w ∧ wpForced P ops Q C R l (a.put o.dst undef) w

def forcedTo (md : Region.Mode) (ops : Array Oper) (L : Array Bool) : Nat → Nat → Array Bool → Bool
  | 0, _, listed => decide (listed = L)
  | fuel + 1, k, listed => decide (Region.ready md ops listed = [k]) && forcedTo md ops L fuel (k + 1) (listed.setIfInBounds k true)
def lexMix (md : Region.Mode) (ops : Array Oper) (L : Array Bool) (m2 : Nat) : Nat → Nat → Array Bool → Bool
  | 0, k, listed => forcedTo md ops L (m2 - k) k listed
  | fuel + 1, k, listed => (Region.ready md ops listed).contains k && Region.free md ops listed k && ((ops[k]?).map fun o => valueOp o.op).getD false && lexMix md ops L m2 fuel (k + 1) (listed.setIfInBounds k true)

def mixB (md : Region.Mode) (ops : Array Oper) (m1 m2 : Nat) : Bool :=
  let L := (Array.range ops.size).map fun i => decide (i < m2)
  Region.noSelect ops && (Region.ready md ops L).all (· == m2) && qfe md ops m2 && lexMix md ops L m2 m1 0 (Array.replicate ops.size false) && forcedB md ops (ops.size - m2) m2 L

end

structure Sw (S : World → Prop) where
  at' : World
  ok : S at'
end Go.Proofs.YtpjpheicldegkaaGreatDoor

namespace Go.Proofs.YtpjpheicldegkaaGreatDoor
open Go Go.RowKit

end Go.Proofs.YtpjpheicldegkaaGreatDoor

namespace Go.Proofs.YtpjpheicldegkaaGreatDoor
open Go Go.RowKit

def textC (l : List Int) : ByteArray := if okC l then bstr l else ByteArray.empty
def textV (l : List Int) : Value := .tuple #[.string (textC l), .bool (okC l)]
theorem textV_no {l : List Int} (h : okC l = false) : textV l = .tuple #[.string ByteArray.empty, .bool false] := by simp [textV, textC, h]
theorem textV_yes {l : List Int} (h : okC l = true) : textV l = .tuple #[.string (bstr l), .bool true] := by simp [textV, textC, h]
theorem okC_at {l : List Int} (h : okC l = true) {k : Nat} {x : Int} (hx : l[k]? = some x) : 0 < x ∧ x ≤ 4 := by
  have h0 : asc 0 l = true := by
    unfold okC at h
    rw [Bool.and_eq_true] at h
    exact h.2
  exact okC_range l 0 h0 (Int.le_refl _) x (List.mem_of_getElem? hx)
theorem okC_len {l : List Int} (h : okC l = true) : l.length ≤ 4 := by
  rcases Nat.lt_or_ge 4 l.length with h1 | h1
  · rw [okC_long h1] at h; cases h
  · exact h1
theorem take_snoc {α : Type} {l : List α} {k : Nat} {x : α} (h : l[k]? = some x) : l.take (k + 1) = l.take k ++ [x] := by
  rw [List.take_add_one, h]
  rfl

set_option maxHeartbeats 1000000 in
theorem confText_any {w : World} {v : Value} {l : List Int} (hr : Reads w v l) (hn : l.length ≤ 1048577) :
    Calls Tryz.prog 19 #[v] w fun e w' => e = .returned (textV l) ∧ Below w.heap.size w w' := by
  obtain ⟨ao, c, rfl, _⟩ := id hr
  have hmk : ∀ w, (Instr.makeSlice 22 (.int .i64 0) (.int .i64 4)).run Tryz.prog w = .ok (.slice (some ⟨w.heap.size, 0, none⟩) 0 4) (w.alloc (.cells #[.int .u8 0, .int .u8 0, .int .u8 0, .int .u8 0] 5)) := fun _ => by kernel_rfl
  have HR : Hid (Reads w (.slice ao l.length c) l) := hr
  clear hr
  obtain ⟨n, HN⟩ : ∃ n, Hid (n = l.length) := ⟨_, rfl⟩
  have HC : Hid (Calls Tryz.prog 50 #[.slice ao n c] w fun e w' => e = .returned (.bool (okC l)) ∧ Below w.heap.size w w') := by
    show Calls _ _ _ _ _
    rw [HN.out]
    exact confOk_any HR.out hn
  rw [← HN.out]
  have HR : Hid (Reads w (.slice ao n c) l) := by show Reads _ _ _; rw [HN.out]; exact HR.out
  cases hq : okC l with
  | false =>
    rw [textV_no hq]
    rw [hq] at HC
    go_enter Tryz.func19, Tryz.ntmps19
    go_wp2_with (go_at_call 50; refine (HC.out).mono ?_; rintro e w1 ⟨rfl, hb1⟩)
    go_ret2
    exact ⟨rfl, hb1⟩
  | true =>
    rw [textV_yes hq]
    have hl4 : n ≤ 4 := by rw [HN.out]; exact okC_len hq
    have HQ : Hid (okC l = true) := hq
    rw [hq] at HC
    clear hq
    go_enter Tryz.func19, Tryz.ntmps19
    go_wp2_with (go_at_call 50; refine (HC.out).mono ?_; rintro e w1 ⟨rfl, hb1⟩)
    have hs1 := hb1.size
    go_loopw [4, 13] (fun out i wr => ∃ k : Nat, k ≤ n ∧ i = .int .i64 k ∧ ownsB wr w.heap.size 5 out (l.take k) ∧ Below w.heap.size w wr) (fun _ i _ => n - (intOf i).toNat)
    case atStart => exact ⟨0, Nat.zero_le _, rfl, ownsB_made _ _ _ _ _ hs1 (by decide) rfl, hb1.alloc hs1 _⟩
    case round =>
      obtain ⟨k, hk, rfl, hown, hbel⟩ := hrel
      have hsz := hbel.size
      by_cases hlt : k < n
      · obtain ⟨x, hx⟩ : ∃ x, l[k]? = some x := ⟨_, List.getElem?_eq_getElem (by rw [← HN.out]; exact hlt)⟩
        have HT : Hid (l.take (k + 1) = l.take k ++ [x]) := take_snoc hx
        obtain ⟨hx0, hx4⟩ := okC_at HQ.out hx
        obtain ⟨b, o, rfl, hb, c0⟩ := int_at (HR.out.below hbel) hx
        clear hx
        have hlen : (l.take k).length ≤ 4 := by simp; omega
        go_wp2_with (at_builtin; refine wpList_append_byte _ w rfl (.tmp 17) (.tmp 20) 22 rfl w.heap.size 5 Tryz.underlying22 info5 _ (l.take k) rfl (hown.alloc _) (hbel.alloc hsz _) ⟨wr.heap.size, 0, none⟩ 1 x rfl ?c1 ?c2 ?c3 ?_)
        case c1 => simp
        case c2 => omega
        case c3 => simp; omega
        intro v' w2 hown2 hbel2
        clear hown hbel
        rw [← HT.out] at hown2
        go_wp2
        go_roundw
        case rel => exact ⟨k + 1, by omega, by go_num, hown2, hbel2⟩
        case measure => simp [intOf]; omega
      · have hkn : k = l.length := by rw [← HN.out]; omega
        have hown2 := hown
        rw [hkn, List.take_length] at hown2
        have hcv := qdb (P := Tryz.prog) 22 9 hown2 Tryz.underlying22 Tryz.underlying5 Tryz.underlying9
        clear hown hown2 hkn
        go_wp2
        go_ret2
        exact ⟨rfl, hbel⟩

set_option maxHeartbeats 1000000 in
theorem specConfText_any {w : World} {v : Value} {l : List Int} (hr : Reads w v l) (hn : l.length ≤ 1048577) :
    Calls Tryz.prog 66 #[v] w fun e w' => e = .returned (textV l) ∧ Below w.heap.size w w' := by
  obtain ⟨ao, c, rfl, _⟩ := id hr
  have HR : Hid (Reads w (.slice ao l.length c) l) := hr
  clear hr
  obtain ⟨n, HN⟩ : ∃ n, Hid (n = l.length) := ⟨_, rfl⟩
  have HC : Hid (Calls Tryz.prog 26 #[.slice ao n c] w fun e w' => e = .returned (.bool (okC l)) ∧ Below w.heap.size w w') := by
    show Calls _ _ _ _ _
    rw [HN.out]
    exact qtd HR.out hn
  rw [← HN.out]
  have HR : Hid (Reads w (.slice ao n c) l) := by show Reads _ _ _; rw [HN.out]; exact HR.out
  cases hq : okC l with
  | false =>
    rw [textV_no hq]
    rw [hq] at HC
    go_enter Tryz.func66, Tryz.ntmps66
    go_wp2_with (go_at_call 26; refine (HC.out).mono ?_; rintro e w1 ⟨rfl, hb1⟩)
    go_ret2
    exact ⟨rfl, hb1⟩
  | true =>
    rw [textV_yes hq]
    have hl4 : n ≤ 4 := by rw [HN.out]; exact okC_len hq
    have HQ : Hid (okC l = true) := hq
    rw [hq] at HC
    clear hq
    go_enter Tryz.func66, Tryz.ntmps66
    go_wp2_with (go_at_call 26; refine (HC.out).mono ?_; rintro e w1 ⟨rfl, hb1⟩)
    have hs1 := hb1.size
    go_loopw [4, 5] (fun out i wr => ∃ k : Nat, k ≤ n ∧ i = .int .i64 k ∧ ownsB wr w.heap.size 5 out (l.take k) ∧ Below w.heap.size w wr) (fun _ i _ => n - (intOf i).toNat)
    case atStart => exact ⟨0, Nat.zero_le _, rfl, ownsB_made _ _ _ _ _ hs1 (by decide) rfl, hb1.alloc hs1 _⟩
    case round =>
      obtain ⟨k, hk, rfl, hown, hbel⟩ := hrel
      have hsz := hbel.size
      by_cases hlt : k < n
      · obtain ⟨x, hx⟩ : ∃ x, l[k]? = some x := ⟨_, List.getElem?_eq_getElem (by rw [← HN.out]; exact hlt)⟩
        have HT : Hid (l.take (k + 1) = l.take k ++ [x]) := take_snoc hx
        obtain ⟨hx0, hx4⟩ := okC_at HQ.out hx
        obtain ⟨b, o, rfl, hb, c0⟩ := int_at (HR.out.below hbel) hx
        clear hx
        have hlen : (l.take k).length ≤ 4 := by simp; omega
        go_wp2_with (at_builtin; refine wpList_append_byte _ w rfl (.tmp 16) (.tmp 22) 22 rfl w.heap.size 5 Tryz.underlying22 info5 _ (l.take k) rfl (hown.alloc _) (hbel.alloc hsz _) ⟨wr.heap.size, 0, none⟩ 1 x rfl ?c1 ?c2 ?c3 ?_)
        case c1 => simp
        case c2 => omega
        case c3 => simp; omega
        intro v' w2 hown2 hbel2
        clear hown hbel
        rw [← HT.out] at hown2
        go_wp2
        go_roundw
        case rel => exact ⟨k + 1, by omega, by go_num, hown2, hbel2⟩
        case measure => simp [intOf]; omega
      · have hkn : k = l.length := by rw [← HN.out]; omega
        have hown2 := hown
        rw [hkn, List.take_length] at hown2
        have hcv := qdb (P := Tryz.prog) 22 9 hown2 Tryz.underlying22 Tryz.underlying5 Tryz.underlying9
        clear hown hown2 hkn
        go_wp2
        go_ret2
        exact ⟨rfl, hbel⟩

end Go.Proofs.YtpjpheicldegkaaGreatDoor

namespace Go.Proofs.YtpjpheicldegkaaGreatDoor
open Go Go.RowKit

def qwd (s : ByteArray) : List Int := s.toList.map fun b => (b.toNat : Int)
theorem qjc (s : ByteArray) : (qwd s).length = s.size := by
  unfold qwd
  rw [List.length_map, ByteArray.toList_eq]
  exact Array.length_toList
theorem bytesI_at {s : ByteArray} {k : Nat} (h : k < s.size) : (qwd s)[k]? = some (s[k].toNat : Int) := by
  unfold qwd
  rw [ByteArray.toList_eq, List.getElem?_map, Array.getElem?_toList]
  have h' : k < s.data.size := h
  rw [Array.getElem?_eq_getElem h']
  rfl
def okT (s : ByteArray) : Bool := okC (qwd s)
def confT (s : ByteArray) : List Int := if okT s then qwd s else []
theorem okT_long {s : ByteArray} (h : 4 < s.size) : okT s = false := okC_long (by rw [qjc]; exact h)
theorem confT_no {s : ByteArray} (h : okT s = false) : confT s = [] := by simp [confT, h]
theorem confT_yes {s : ByteArray} (h : okT s = true) : confT s = qwd s := by simp [confT, h]
theorem confT_len (s : ByteArray) : (confT s).length ≤ 4 := by
  cases h : okT s with
  | false => rw [confT_no h]; simp
  | true => rw [confT_yes h]; exact okC_len h

theorem cells_int {b : Nat} {x : Int} {w : World} (h : w.cell? ⟨b, 0, none⟩ = some (.int .i64 x)) : ∀ j u, (Rec.cells x)[j]? = some u → w.cell? ⟨b, j, none⟩ = some u ∧ u.oneCell' = true := by
  intro j u hj
  match j, hj with
  | 0, hj =>
    have : Value.int .i64 x = u := by simpa [Rec.cells] using hj
    subst this
    exact ⟨h, rfl⟩
theorem qqd (w : World) (B cap : Nat) (cur : Array Value) (hb : B ≤ w.heap.size) (hm : cap ≤ maxLen) (hs : cur.size = cap) :
    ownsR (w.alloc (.cells cur 3)) B 3 (.slice (some ⟨w.heap.size, 0, none⟩) 0 cap) ([] : List Int) :=
  World.ownsRow_made w cur cap hb hm (by simp [Rec.width]; omega)

set_option maxHeartbeats 1000000 in
theorem readConf_any (s : ByteArray) (w : World) (hs : s.size ≤ maxLen) :
    Calls Tryz.prog 83 #[.string s] w fun e w' => ∃ v, e = .returned (.tuple #[v, .bool (okT s)]) ∧ ownsR w' w.heap.size 3 v (confT s) ∧ Below w.heap.size w w' := by
  unfold maxLen at hs
  have hmk : ∀ w, (Instr.makeSlice 25 (.int .i64 0) (.int .i64 4)).run Tryz.prog w = .ok (.slice (some ⟨w.heap.size, 0, none⟩) 0 4) (w.alloc (.cells #[.int .i64 0, .int .i64 0, .int .i64 0, .int .i64 0] 3)) := fun _ => by kernel_rfl
  by_cases h4 : (4 : Int) < (s.size : Int)
  · have HF : Hid (okT s = false) := okT_long (by omega)
    go_enter Tryz.func83, Tryz.ntmps83
    go_wp2
    go_ret2
    rw [HF.out, confT_no HF.out]
    exact ⟨_, rfl, qqd _ _ _ _ (Nat.le_refl _) (by decide) rfl, (Below.refl _ _).alloc (Nat.le_refl _) _⟩
  · obtain ⟨l, HB⟩ : ∃ l, Hid (qwd s = l) := ⟨_, rfl⟩
    have HL : Hid (l.length = s.size) := by show l.length = s.size; rw [← HB.out]; exact qjc s
    go_enter Tryz.func83, Tryz.ntmps83
    go_wp2
    go_loopw [4, 5] (fun out i wr => ∃ k : Nat, k ≤ s.size ∧ i = .int .i64 k ∧ ownsR wr w.heap.size 3 out (l.take k) ∧ Below w.heap.size w wr) (fun _ i _ => s.size - (intOf i).toNat)
    case atStart => exact ⟨0, Nat.zero_le _, rfl, qqd _ _ _ _ (Nat.le_refl _) (by decide) rfl, (Below.refl _ _).alloc (Nat.le_refl _) _⟩
    case round =>
      obtain ⟨k, hk, rfl, hown, hbel⟩ := hrel
      have hsz := hbel.size
      by_cases hlt : k < s.size
      · have HT : Hid (l.take (k + 1) = l.take k ++ [(s[k].toNat : Int)]) := take_snoc (by rw [← HB.out]; exact bytesI_at hlt)
        have hlen : (l.take k).length ≤ 4 := by simp; omega
        have hb8 : s[k].toNat < 256 := s[k].toNat_lt
        go_wp2_with (at_builtin; refine qkc _ w rfl (.tmp 17) (.tmp 22) 25 rfl w.heap.size 3 _ 8 Tryz.underlying25 info3 rfl _ (l.take k) rfl (hown.alloc _) (hbel.alloc hsz _) wr.heap.size 1 (s[k].toNat : Int) rfl ?c1 ?c2 ?c3 ?c4 ?_)
        case c1 => exact cells_int (by simp)
        case c2 => omega
        case c3 => omega
        case c4 => simp; omega
        intro v' w2 hown2 hbel2 _
        clear hown hbel
        rw [← HT.out] at hown2
        go_wp2
        go_roundw
        case rel => exact ⟨k + 1, by omega, by go_num, hown2, hbel2⟩
        case measure => simp [intOf]; omega
      · have hkn : k = l.length := by rw [HL.out]; omega
        have hown2 := hown
        rw [hkn, List.take_length] at hown2
        have HO : Hid (ownsR wr w.heap.size 3 _ l) := hown2
        clear hown hown2 hkn
        have hC := confOk_any HO.out.reads (by rw [HL.out]; omega)
        cases hq : okC l with
        | true =>
          have HQ : Hid (okT s = true) := by show okC (qwd s) = true; rw [HB.out]; exact hq
          rw [hq] at hC
          go_wp2_with (go_at_call 50; refine hC.mono ?_; rintro e w3 ⟨rfl, hb3⟩)
          go_ret2
          rw [HQ.out, confT_yes HQ.out, HB.out]
          exact ⟨_, rfl, HO.out.all hb3, hbel.trans (hb3.mono hsz)⟩
        | false =>
          have HQ : Hid (okT s = false) := by show okC (qwd s) = false; rw [HB.out]; exact hq
          rw [hq] at hC
          go_wp2_with (go_at_call 50; refine hC.mono ?_; rintro e w3 ⟨rfl, hb3⟩)
          go_ret2
          rw [HQ.out, confT_no HQ.out]
          have hb4 := hbel.trans (hb3.mono hsz)
          exact ⟨_, rfl, qqd _ _ _ _ hb4.size (by decide) rfl, hb4.alloc hb4.size _⟩
end Go.Proofs.YtpjpheicldegkaaGreatDoor

namespace Go.Proofs.YtpjpheicldegkaaGreatDoor
open Go Go.RowKit

set_option maxHeartbeats 1000000 in
theorem qyc (s : ByteArray) (w : World) (hs : s.size ≤ maxLen) :
    Calls Tryz.prog 39 #[.string s] w fun e w' => ∃ v, e = .returned (.tuple #[v, .bool (okT s)]) ∧ ownsR w' w.heap.size 3 v (confT s) ∧ Below w.heap.size w w' := by
  unfold maxLen at hs
  obtain ⟨l, HB⟩ : ∃ l, Hid (qwd s = l) := ⟨_, rfl⟩
  have HL : Hid (l.length = s.size) := by show l.length = s.size; rw [← HB.out]; exact qjc s
  go_enter Tryz.func39, Tryz.ntmps39
  go_wp2
  go_loopw [4, 5] (fun out i wr => ∃ k : Nat, k ≤ s.size ∧ k ≤ 5 ∧ i = .int .i64 k ∧ ownsR wr w.heap.size 3 out (l.take k) ∧ Below w.heap.size w wr) (fun _ i _ => s.size - (intOf i).toNat)
  case atStart => exact ⟨0, Nat.zero_le _, Nat.zero_le _, rfl, qqd _ _ _ _ (Nat.le_refl _) (by decide) rfl, (Below.refl _ _).alloc (Nat.le_refl _) _⟩
  case round =>
    obtain ⟨k, hk, hk5, rfl, hown, hbel⟩ := hrel
    have hsz := hbel.size
    by_cases hlt : k < s.size
    · by_cases hk4 : (k : Int) ≤ 4
      · have HT : Hid (l.take (k + 1) = l.take k ++ [(s[k].toNat : Int)]) := take_snoc (by rw [← HB.out]; exact bytesI_at hlt)
        have hlen : (l.take k).length ≤ 4 := by simp; omega
        have hb8 : s[k].toNat < 256 := s[k].toNat_lt
        go_wp2_with (at_builtin; refine qkc _ w rfl (.tmp 17) (.tmp 22) 25 rfl w.heap.size 3 _ 8 Tryz.underlying25 info3 rfl _ (l.take k) rfl (hown.alloc _) (hbel.alloc hsz _) wr.heap.size 1 (s[k].toNat : Int) rfl ?c1 ?c2 ?c3 ?c4 ?_)
        case c1 => exact cells_int (by simp)
        case c2 => omega
        case c3 => omega
        case c4 => simp; omega
        intro v' w2 hown2 hbel2 _
        clear hown hbel
        rw [← HT.out] at hown2
        go_wp2
        go_roundw
        case rel => exact ⟨k + 1, by omega, by omega, by go_num, hown2, hbel2⟩
        case measure => simp [intOf]; omega
      · have HQ : Hid (okT s = false) := okT_long (by omega)
        have hk6 : k = 5 := by omega
        obtain ⟨a, c, rfl⟩ := hown.slice
        have e5 : (l.take k).length = 5 := by rw [List.length_take, HL.out]; omega
        rw [e5] at hown ⊢
        by_cases h6 : s.size = 5
        · have HO : Hid (ownsR wr w.heap.size 3 (.slice a 5 c) l) := by
            have := hown
            rw [List.take_of_length_le (by rw [HL.out]; omega)] at this
            exact this
          have hC := qtd HO.out.reads (by rw [HL.out]; omega)
          rw [show okC l = false by rw [← HB.out]; exact HQ.out] at hC
          clear hown e5
          go_wp2_with (go_at_call 26; refine hC.mono ?_; rintro e w3 ⟨rfl, hb3⟩)
          go_ret2
          rw [HQ.out, confT_no HQ.out]
          have hb4 := hbel.trans (hb3.mono hsz)
          exact ⟨_, rfl, qqd _ _ _ _ hb4.size (by decide) rfl, hb4.alloc hb4.size _⟩
        · have h7 : ¬ (5 : Int) = (s.size : Int) := by omega
          clear hown e5 h6
          go_wp2
          go_ret2
          rw [HQ.out, confT_no HQ.out]
          exact ⟨_, rfl, qqd _ _ _ _ hsz (by decide) rfl, hbel.alloc hsz _⟩
    · have hkn : k = l.length := by rw [HL.out]; omega
      have hown2 := hown
      rw [hkn, List.take_length] at hown2
      obtain ⟨a, c, rfl⟩ := hown2.slice
      have HO : Hid (ownsR wr w.heap.size 3 (.slice a l.length c) l) := hown2
      have hC := qtd HO.out.reads (by rw [HL.out]; omega)
      rw [HL.out] at hC ⊢
      clear hown hown2
      have h7 : ¬ k < s.size := hlt
      cases hq : okC l with
      | true =>
        have HQ : Hid (okT s = true) := by show okC (qwd s) = true; rw [HB.out]; exact hq
        rw [hq] at hC
        clear hkn
        go_wp2_with (go_at_call 26; refine hC.mono ?_; rintro e w3 ⟨rfl, hb3⟩)
        go_ret2
        rw [HQ.out, confT_yes HQ.out, HB.out]
        refine ⟨_, rfl, ?_, hbel.trans (hb3.mono hsz)⟩
        have := HO.out.all hb3
        rw [HL.out] at this
        exact this
      | false =>
        have HQ : Hid (okT s = false) := by show okC (qwd s) = false; rw [HB.out]; exact hq
        rw [hq] at hC
        clear hkn
        go_wp2_with (go_at_call 26; refine hC.mono ?_; rintro e w3 ⟨rfl, hb3⟩)
        go_ret2
        rw [HQ.out, confT_no HQ.out]
        have hb4 := hbel.trans (hb3.mono hsz)
        exact ⟨_, rfl, qqd _ _ _ _ hb4.size (by decide) rfl, hb4.alloc hb4.size _⟩
end Go.Proofs.YtpjpheicldegkaaGreatDoor

namespace Go.Proofs.YtpjpheicldegkaaGreatDoor
open Go Go.RowKit

def kindOk (k : Int) (d : ByteArray) : Bool :=
  if k = 1 then d.toList.isEmpty else if k = 2 then okT d else if k = 3 then decide ((d.size : Int) ≤ 640) else false
def okE (t k : Int) (d : ByteArray) : Bool := decide (0 ≤ t) && decide (t ≤ 100000) && kindOk k d
def contV (k : Int) (d : ByteArray) : Value := if k = 1 then .iface 143 (.string d) else if k = 2 then .iface 144 (.string d) else if k = 3 then .iface 145 (.string d) else .nilIface

theorem qee (t k : Int) (d : ByteArray) (w : World) :
    Calls Tryz.prog 76 #[.agg #[.int .i64 t, .int .i64 k, .string d]] w fun e w' => e = .returned (contV k d) ∧ Below w.heap.size w w' := by
  by_cases h1 : k = 1
  · subst h1
    go_enter Tryz.func76, Tryz.ntmps76
    go_wp2
    go_ret
    exact ⟨rfl, ba (Below.refl _ _) _⟩
  · by_cases h2 : k = 2
    · subst h2
      go_enter Tryz.func76, Tryz.ntmps76
      go_wp2
      go_ret
      exact ⟨rfl, ba (Below.refl _ _) _⟩
    · by_cases h3 : k = 3
      · subst h3
        go_enter Tryz.func76, Tryz.ntmps76
        go_wp2
        go_ret
        exact ⟨rfl, ba (Below.refl _ _) _⟩
      · have HC : Hid (contV k d = .nilIface) := by show contV k d = _; simp [contV, h1, h2, h3]
        rw [HC.out]
        go_enter Tryz.func76, Tryz.ntmps76
        go_wp2
        go_ret
        exact ⟨rfl, ba (Below.refl _ _) _⟩

theorem as_yes (t : TypeId) (ht : t = 143 ∨ t = 144 ∨ t = 145) (d : ByteArray) (w : World) : (Instr.typeAssert (.iface t (.string d)) 126 t true).run Tryz.prog w = .ok (.tuple #[.string d, .bool true]) w := by
  rcases ht with rfl | rfl | rfl <;> kernel_rfl
theorem as_64_63 (d : ByteArray) (w : World) : (Instr.typeAssert (.iface 144 (.string d)) 126 143 true).run Tryz.prog w = .ok (.tuple #[.string ByteArray.empty, .bool false]) w := by kernel_rfl
theorem as_65_63 (d : ByteArray) (w : World) : (Instr.typeAssert (.iface 145 (.string d)) 126 143 true).run Tryz.prog w = .ok (.tuple #[.string ByteArray.empty, .bool false]) w := by kernel_rfl
theorem as_65_64 (d : ByteArray) (w : World) : (Instr.typeAssert (.iface 145 (.string d)) 126 144 true).run Tryz.prog w = .ok (.tuple #[.string ByteArray.empty, .bool false]) w := by kernel_rfl
theorem as_nil_63 (w : World) : (Instr.typeAssert .nilIface 126 143 true).run Tryz.prog w = .ok (.tuple #[.string ByteArray.empty, .bool false]) w := by kernel_rfl
theorem as_nil_64 (w : World) : (Instr.typeAssert .nilIface 126 144 true).run Tryz.prog w = .ok (.tuple #[.string ByteArray.empty, .bool false]) w := by kernel_rfl
theorem as_nil_65 (w : World) : (Instr.typeAssert .nilIface 126 145 true).run Tryz.prog w = .ok (.tuple #[.string ByteArray.empty, .bool false]) w := by kernel_rfl

set_option maxHeartbeats 1000000 in
theorem isRight_any (k : Int) (d : ByteArray) (w : World) (hd : d.size ≤ maxLen) :
    Calls Tryz.prog 90 #[contV k d] w fun e w' => e = .returned (.bool (kindOk k d)) ∧ Below w.heap.size w w' := by
  have HD : Hid (d.size ≤ maxLen) := hd
  clear hd
  by_cases h1 : k = 1
  · subst h1
    have a1 := as_yes 143 (by decide) d
    show Calls Tryz.prog 90 #[.iface 143 (.string d)] w fun e w' => e = .returned (.bool d.toList.isEmpty) ∧ Below w.heap.size w w'
    go_enter Tryz.func90, Tryz.ntmps90
    go_wp2
    go_ret
    exact ⟨rfl, Below.refl _ _⟩
  · by_cases h2 : k = 2
    · subst h2
      have a1 := as_64_63 d
      have a2 := as_yes 144 (by decide) d
      show Calls Tryz.prog 90 #[.iface 144 (.string d)] w fun e w' => e = .returned (.bool (okT d)) ∧ Below w.heap.size w w'
      go_enter Tryz.func90, Tryz.ntmps90
      go_wp2_with (go_at_call 83; refine (readConf_any _ _ HD.out).mono ?_; rintro e w1 ⟨v1, rfl, ho, hb⟩; clear ho)
      go_ret
      exact ⟨rfl, hb⟩
    · by_cases h3 : k = 3
      · subst h3
        have hd := HD.out
        unfold maxLen at hd
        have a1 := as_65_63 d
        have a2 := as_65_64 d
        have a3 := as_yes 145 (by decide) d
        show Calls Tryz.prog 90 #[.iface 145 (.string d)] w fun e w' => e = .returned (.bool (decide ((d.size : Int) ≤ 640))) ∧ Below w.heap.size w w'
        go_enter Tryz.func90, Tryz.ntmps90
        go_wp2
        go_ret
        exact ⟨rfl, Below.refl _ _⟩
      · have HC : Hid (contV k d = .nilIface) := by show contV k d = _; simp [contV, h1, h2, h3]
        have HK : Hid (kindOk k d = false) := by show kindOk k d = _; simp [kindOk, h1, h2, h3]
        rw [HC.out, HK.out]
        have a1 := as_nil_63
        have a2 := as_nil_64
        have a3 := as_nil_65
        go_enter Tryz.func90, Tryz.ntmps90
        go_wp2
        go_ret
        exact ⟨rfl, Below.refl _ _⟩
end Go.Proofs.YtpjpheicldegkaaGreatDoor

namespace Go.Proofs.YtpjpheicldegkaaGreatDoor
open Go Go.RowKit

structure En where
  term : Int
  kind : Int
  data : ByteArray
instance : Inhabited En := ⟨⟨0, 0, ByteArray.empty⟩⟩
instance : Rec En := ⟨3, fun a => [.int .i64 a.term, .int .i64 a.kind, .string a.data], fun _ => rfl, by decide⟩
theorem en_at {w : World} {ao : Option Addr} {n cap : Nat} {l : List En} (h : Reads w (.slice ao n cap) l) {k : Nat} {f : En} (hk : l[k]? = some f) :
    ∃ b o, ao = some ⟨b, o, none⟩ ∧ b < w.heap.size ∧ w.cell? ⟨b, o + k * 3, none⟩ = some (.int .i64 f.term) ∧ w.cell? ⟨b, o + k * 3 + 1, none⟩ = some (.int .i64 f.kind) ∧ w.cell? ⟨b, o + k * 3 + 2, none⟩ = some (.string f.data) := by
  obtain ⟨b, o, rfl, hlt, hc⟩ := h.at hk
  exact ⟨b, o, rfl, hlt, hc 0 _ rfl, hc 1 _ rfl, hc 2 _ rfl⟩
def sizeEn : List En → Nat
  | [] => 0
  | f :: r => f.data.size + sizeEn r
def SmallEn (l : List En) : Prop := ∀ f ∈ l, f.data.size ≤ 9223372036854775807

theorem infoEn : (Tryz.prog.info? 59).map (fun i => (i.zero, i.size, i.bytes)) = some (some (.agg #[.int .i64 0, .int .i64 0, .string ByteArray.empty]), 3, 32) := by kernel_rfl
theorem underEn : Tryz.prog.underlying 24 = some (.slice 59) := by kernel_rfl
def mkEn (x : Int) : En := ⟨x, x + 1, mkT (x + 1 + 1)⟩
def marksEn (x : Int) (n : Nat) : List En := marksR mkEn 3 x n
end Go.Proofs.YtpjpheicldegkaaGreatDoor

namespace Go.Proofs.YtpjpheicldegkaaGreatDoor
open Go Go.RowKit

def Cur (w : World) (g : Nat) (s : ByteArray) (a : Nat) (b : Bool) : Prop := w.heap[g]? = some (.cells #[.string s, .int .i64 (a : Int), .bool b] 80)
theorem Cur.lt {w : World} {g : Nat} {s : ByteArray} {a : Nat} {b : Bool} (h : Cur w g s a b) : g < w.heap.size := (Array.getElem?_eq_some_iff.1 h).1
theorem Cur.drewN {w : World} {g : Nat} {s : ByteArray} {a : Nat} {b : Bool} (h : Cur w g s a b) (n : Nat) : Cur (w.drewN n) g s a b := h
theorem Cur.up {w w' : World} {g : Nat} {s : ByteArray} {a : Nat} {b : Bool} (h : Cur w g s a b) (hb : Below w.heap.size w w') : Cur w' g s a b := (hb.block _ h.lt).trans h

def takeS (s : ByteArray) (a : Nat) (b : Bool) (n : Nat) : ByteArray × Nat × Bool := if b = false ∧ a + n ≤ s.size then (s.extract a (a + n), a + n, false) else (ByteArray.empty, a, true)

set_option maxHeartbeats 1000000 in
theorem take_no1 (g : Nat) (s : ByteArray) (a n : Nat) (w : World) (hc : Cur w g s a true) :
    Calls Tryz.prog 35 #[.pointer (some ⟨g, 0, none⟩), .int .i64 n] w fun e w' => e = .returned (.string ByteArray.empty) ∧ Cur w' g s a true ∧ Save g w w' := by
  have HC : Hid (Cur w g s a true) := hc
  obtain ⟨c0, c1, c2, hf⟩ := qpa hc
  clear hc
  go_enter Tryz.func35, Tryz.ntmps35
  go_wp2
  go_quiet (fail)
  go_wp2
  go_ret
  exact ⟨rfl, qmc (HC.out.drewN _) _, ((Save.refl g w).drewN _).setCell rfl _⟩

set_option maxHeartbeats 1000000 in
theorem take_no2 (g : Nat) (s : ByteArray) (a n : Nat) (w : World) (hc : Cur w g s a false) (hs : s.size ≤ 1048576) (ha : a ≤ s.size) (hn : s.size < a + n) :
    Calls Tryz.prog 35 #[.pointer (some ⟨g, 0, none⟩), .int .i64 n] w fun e w' => e = .returned (.string ByteArray.empty) ∧ Cur w' g s a true ∧ Save g w w' := by
  have HC : Hid (Cur w g s a false) := hc
  obtain ⟨c0, c1, c2, hf⟩ := qpa hc
  clear hc
  have hw : IntKind.i64.wrap ((s.size : Int) - (a : Int)) = (s.size : Int) - (a : Int) := by go_arith
  have hd : decide ((s.size : Int) - (a : Int) < (n : Int)) = true := decide_eq_true (by omega)
  go_enter Tryz.func35, Tryz.ntmps35
  go_wp2
  go_quiet (fail)
  go_wp2
  go_ret
  exact ⟨rfl, qmc (HC.out.drewN _) _, ((Save.refl g w).drewN _).setCell rfl _⟩

set_option maxHeartbeats 1000000 in
theorem take_yes (g : Nat) (s : ByteArray) (a n : Nat) (w : World) (hc : Cur w g s a false) (hs : s.size ≤ 1048576) (hn : a + n ≤ s.size) :
    Calls Tryz.prog 35 #[.pointer (some ⟨g, 0, none⟩), .int .i64 n] w fun e w' => e = .returned (.string (s.extract a (a + n))) ∧ Cur w' g s (a + n) false ∧ Save g w w' := by
  have HC : Hid (Cur w g s a false) := hc
  obtain ⟨c0, c1, c2, hf⟩ := qpa hc
  clear hc
  have hw : IntKind.i64.wrap ((s.size : Int) - (a : Int)) = (s.size : Int) - (a : Int) := by go_arith
  have hd : decide ((s.size : Int) - (a : Int) < (n : Int)) = false := decide_eq_false (by omega)
  have hw2 : IntKind.i64.wrap ((a : Int) + (n : Int) - (n : Int)) = (a : Int) := by go_arith
  have hsl : ∀ wx, (Instr.slice 9 (.string s) (some (.int .i64 (a : Int))) (some (.int .i64 ((a : Int) + (n : Int)))) none).run Tryz.prog wx = .ok (.string (s.extract a (a + n))) wx := fun wx => by
    have := run_slice_string (P := Tryz.prog) wx 9 s .i64 .i64 (a : Int) ((a : Int) + (n : Int)) Tryz.underlying9 (by omega) (by omega) (by omega)
    rw [show ((a : Int) + (n : Int)).toNat = a + n by omega, Int.toNat_natCast] at this
    exact this
  go_enter Tryz.func35, Tryz.ntmps35
  go_wp2
  go_quiet (fail)
  go_wp2
  have HC2 : Hid (Cur ((w.drewN nq).setCell ⟨g, 1, none⟩ (.int .i64 ((a : Int) + (n : Int)))) g s (a + n) false) := by
    have := qid (HC.out.drewN nq) (.int .i64 ((a : Int) + (n : Int)))
    unfold Hid Cur
    rw [Int.natCast_add]
    exact this
  have HS2 := ((Save.refl g w).drewN nq).setCell (p := ⟨g, 1, none⟩) rfl (.int .i64 ((a : Int) + (n : Int)))
  generalize hW : (w.drewN nq).setCell ⟨g, 1, none⟩ (.int .i64 ((a : Int) + (n : Int))) = W at HC2 HS2 ⊢
  clear hW c0 c1 c2 hf
  obtain ⟨c0, c1, c2, hf⟩ := qpa HC2.out
  rw [Int.natCast_add] at c1
  go_quiet (fail)
  go_wp2
  go_ret
  exact ⟨rfl, HC2.out.drewN _, HS2.drewN _⟩

theorem takeS_no1 (s : ByteArray) (a n : Nat) : takeS s a true n = (ByteArray.empty, a, true) := by simp [takeS]
theorem takeS_no2 {s : ByteArray} {a n : Nat} (h : s.size < a + n) : takeS s a false n = (ByteArray.empty, a, true) := by unfold takeS; rw [if_neg (by omega)]
theorem takeS_yes {s : ByteArray} {a n : Nat} (h : a + n ≤ s.size) : takeS s a false n = (s.extract a (a + n), a + n, false) := by unfold takeS; rw [if_pos ⟨rfl, h⟩]
theorem take_any (g : Nat) (s : ByteArray) (a n : Nat) (b : Bool) (w : World) (hc : Cur w g s a b) (hs : s.size ≤ 1048576) (ha : a ≤ s.size) :
    Calls Tryz.prog 35 #[.pointer (some ⟨g, 0, none⟩), .int .i64 n] w fun e w' => ∃ (t : ByteArray) (a' : Nat) (b' : Bool), e = .returned (.string t) ∧ takeS s a b n = (t, a', b') ∧ a' ≤ s.size ∧ Cur w' g s a' b' ∧ Save g w w' := by
  cases b with
  | true => exact (take_no1 g s a n w hc).mono fun e w' ⟨h1, h2, h3⟩ => ⟨_, _, _, h1, takeS_no1 s a n, ha, h2, h3⟩
  | false =>
    rcases Nat.lt_or_ge s.size (a + n) with h | h
    · exact (take_no2 g s a n w hc hs ha h).mono fun e w' ⟨h1, h2, h3⟩ => ⟨_, _, _, h1, takeS_no2 h, ha, h2, h3⟩
    · exact (take_yes g s a n w hc hs h).mono fun e w' ⟨h1, h2, h3⟩ => ⟨_, _, _, h1, takeS_yes h, h, h2, h3⟩

theorem rvGo_in (s : ByteArray) : ∀ (f i k n : Nat) (x y : Int), rvGo s f i k n = (x, y, true) → ∃ X Y : Nat, x = X ∧ y = Y ∧ X ≤ 1000000000 ∧ i < Y ∧ Y ≤ s.size
  | 0, _, _, _, x, y, h => by simp [rvGo] at h
  | f + 1, i, k, n, x, y, h => by
    rw [rvGo] at h
    split at h
    · rename_i hi
      split at h
      · split at h
        · simp at h
        · rename_i hx
          simp only [Prod.mk.injEq, and_true] at h
          exact ⟨_, i + 1, h.1.symm, by omega, by omega, by omega, by omega⟩
      · obtain ⟨X, Y, h1, h2, h3, h4, h5⟩ := rvGo_in s f _ _ _ x y h
        exact ⟨X, Y, h1, h2, h3, by omega, h5⟩
    · simp at h
theorem rv_in {s : ByteArray} {a : Int} {x y : Int} (h : rv s a = (x, y, true)) : ∃ X Y : Nat, x = X ∧ y = Y ∧ X ≤ 1000000000 ∧ a < Y ∧ Y ≤ s.size := by
  unfold rv at h
  split at h
  · obtain ⟨X, Y, h1, h2, h3, h4, h5⟩ := rvGo_in s _ _ _ _ x y h
    exact ⟨X, Y, h1, h2, h3, by omega, h5⟩
  · simp at h

def varS (s : ByteArray) (a : Nat) (b : Bool) : Nat × Nat × Bool := if b = false ∧ (rv s a).2.2 = true then ((rv s a).1.toNat, (rv s a).2.1.toNat, false) else (0, a, true)

set_option maxHeartbeats 1000000 in
theorem var_no1 (g : Nat) (s : ByteArray) (a : Nat) (x y : Int) (z : Bool) (w : World) (hc : Cur w g s a true) (hs : s.size ≤ 1048576) (hr : rv s a = (x, y, z)) :
    Calls Tryz.prog 36 #[.pointer (some ⟨g, 0, none⟩)] w fun e w' => e = .returned (.int .i64 0) ∧ Cur w' g s a true ∧ Save g w w' := by
  have HC : Hid (Cur w g s a true) := hc
  have HR : Hid (rv s a = (x, y, z)) := hr
  obtain ⟨c0, c1, c2, hf⟩ := qpa hc
  clear hc hr
  have q0 := Wd.cell c0
  have q1 := Wd.cell c1
  go_enter Tryz.func36, Tryz.ntmps36
  go_wp2
  refine qba (by kernel_rfl) (by kernel_rfl) ?_
  repeat (go_big_quiet_step ((go_at_call 68; refine qwa (v := .tuple #[.int .i64 x, .int .i64 y, .bool z]) ?_; exact qne _ _ _ hs x y z HR.out)))
  refine wpQuiet_nil ?_
  rintro _ ⟨v, rfl⟩
  have HC1 : Hid (Cur v.at' g s a true) := HC.out.up v.ok
  have HS : Hid (Save g w v.at') := Save.of_below v.ok
  generalize v.at' = w1 at HC1 HS ⊢
  clear c0 c1 c2 hf q0 q1
  obtain ⟨c0, c1, c2, hf⟩ := qpa HC1.out
  go_wp2
  go_ret
  exact ⟨rfl, qmc HC1.out _, HS.out.setCell rfl _⟩

set_option maxHeartbeats 1000000 in
theorem var_no2 (g : Nat) (s : ByteArray) (a : Nat) (x y : Int) (w : World) (hc : Cur w g s a false) (hs : s.size ≤ 1048576) (hr : rv s a = (x, y, false)) :
    Calls Tryz.prog 36 #[.pointer (some ⟨g, 0, none⟩)] w fun e w' => e = .returned (.int .i64 0) ∧ Cur w' g s a true ∧ Save g w w' := by
  have HC : Hid (Cur w g s a false) := hc
  have HR : Hid (rv s a = (x, y, false)) := hr
  obtain ⟨c0, c1, c2, hf⟩ := qpa hc
  clear hc hr
  have q0 := Wd.cell c0
  have q1 := Wd.cell c1
  go_enter Tryz.func36, Tryz.ntmps36
  go_wp2
  refine qba (by kernel_rfl) (by kernel_rfl) ?_
  repeat (go_big_quiet_step ((go_at_call 68; refine qwa (v := .tuple #[.int .i64 x, .int .i64 y, .bool false]) ?_; exact qne _ _ _ hs x y false HR.out)))
  refine wpQuiet_nil ?_
  rintro _ ⟨v, rfl⟩
  have HC1 : Hid (Cur v.at' g s a false) := HC.out.up v.ok
  have HS : Hid (Save g w v.at') := Save.of_below v.ok
  generalize v.at' = w1 at HC1 HS ⊢
  clear c0 c1 c2 hf q0 q1
  obtain ⟨c0, c1, c2, hf⟩ := qpa HC1.out
  go_wp2
  go_ret
  exact ⟨rfl, qmc HC1.out _, HS.out.setCell rfl _⟩

set_option maxHeartbeats 1000000 in
theorem var_yes (g : Nat) (s : ByteArray) (a X Y : Nat) (w : World) (hc : Cur w g s a false) (hs : s.size ≤ 1048576) (hr : rv s a = ((X : Int), (Y : Int), true)) :
    Calls Tryz.prog 36 #[.pointer (some ⟨g, 0, none⟩)] w fun e w' => e = .returned (.int .i64 X) ∧ Cur w' g s Y false ∧ Save g w w' := by
  have HC : Hid (Cur w g s a false) := hc
  have HR : Hid (rv s a = ((X : Int), (Y : Int), true)) := hr
  obtain ⟨c0, c1, c2, hf⟩ := qpa hc
  clear hc hr
  have q0 := Wd.cell c0
  have q1 := Wd.cell c1
  go_enter Tryz.func36, Tryz.ntmps36
  go_wp2
  refine qba (by kernel_rfl) (by kernel_rfl) ?_
  repeat (go_big_quiet_step ((go_at_call 68; refine qwa (v := .tuple #[.int .i64 (X : Int), .int .i64 (Y : Int), .bool true]) ?_; exact qne _ _ _ hs _ _ true HR.out)))
  refine wpQuiet_nil ?_
  rintro _ ⟨v, rfl⟩
  have HC1 : Hid (Cur v.at' g s a false) := HC.out.up v.ok
  have HS : Hid (Save g w v.at') := Save.of_below v.ok
  generalize v.at' = w1 at HC1 HS ⊢
  clear c0 c1 c2 hf q0 q1
  obtain ⟨c0, c1, c2, hf⟩ := qpa HC1.out
  go_wp2
  go_ret
  exact ⟨rfl, qid HC1.out _, HS.out.setCell rfl _⟩

theorem var_any (g : Nat) (s : ByteArray) (a : Nat) (b : Bool) (w : World) (hc : Cur w g s a b) (hs : s.size ≤ 1048576) (ha : a ≤ s.size) :
    Calls Tryz.prog 36 #[.pointer (some ⟨g, 0, none⟩)] w fun e w' => ∃ (x a' : Nat) (b' : Bool), e = .returned (.int .i64 x) ∧ varS s a b = (x, a', b') ∧ a' ≤ s.size ∧ x ≤ 1000000000 ∧ Cur w' g s a' b' ∧ Save g w w' := by
  rcases hr : rv s a with ⟨x, y, z⟩
  cases b with
  | true => exact (var_no1 g s a x y z w hc hs hr).mono fun e w' ⟨h1, h2, h3⟩ => ⟨0, _, _, h1, by simp [varS], ha, by omega, h2, h3⟩
  | false =>
    cases z with
    | false => exact (var_no2 g s a x y w hc hs hr).mono fun e w' ⟨h1, h2, h3⟩ => ⟨0, _, _, h1, by simp [varS, hr], ha, by omega, h2, h3⟩
    | true =>
      obtain ⟨X, Y, rfl, rfl, h4, h5, h6⟩ := rv_in hr
      exact (var_yes g s a X Y w hc hs hr).mono fun e w' ⟨h1, h2, h3⟩ => ⟨X, Y, _, h1, by simp [varS, hr], h6, h4, h2, h3⟩
end Go.Proofs.YtpjpheicldegkaaGreatDoor

namespace Go.Proofs.YtpjpheicldegkaaGreatDoor
open Go Go.RowKit

def kAt (s : ByteArray) (a : Nat) : Nat := if h : a < s.size then s[a].toNat else 0
theorem kAt_in {s : ByteArray} {a : Nat} (h : a < s.size) : kAt s a = s[a].toNat := by simp [kAt, h]
theorem kAt_lt (s : ByteArray) (a : Nat) : kAt s a < 256 := by
  unfold kAt
  split
  · exact UInt8.toNat_lt _
  · omega
theorem takeS_ok {s t : ByteArray} {a a' n : Nat} {b : Bool} (h : takeS s a b n = (t, a', false)) : b = false ∧ a + n ≤ s.size ∧ t = s.extract a (a + n) ∧ a' = a + n := by
  unfold takeS at h
  split at h
  · rename_i hc
    simp only [Prod.mk.injEq, and_true] at h
    exact ⟨hc.1, hc.2, h.1.symm, h.2.symm⟩
  · simp at h
theorem varS_ok {s : ByteArray} {a x a' : Nat} {b : Bool} (h : varS s a b = (x, a', false)) : b = false ∧ rv s a = ((x : Int), (a' : Int), true) := by
  unfold varS at h
  split at h
  · rename_i hc
    refine ⟨hc.1, ?_⟩
    rcases hr : rv s a with ⟨X, Y, z⟩
    rw [hr] at hc h
    obtain ⟨-, rfl⟩ := hc
    obtain ⟨X', Y', rfl, rfl, -⟩ := rv_in hr
    simp only [Prod.mk.injEq, and_true, Int.toNat_natCast] at h
    rw [h.1, h.2]
  · simp at h
theorem varS_yes {s : ByteArray} {a X Y : Nat} (h : rv s a = ((X : Int), (Y : Int), true)) : varS s a false = (X, Y, false) := by simp [varS, h]
theorem qkd (W : World) (o : Obj) : (W.alloc o).heap[W.heap.size]? = some o := by show (W.heap.push o)[W.heap.size]? = some o; simp
theorem heap_next (W : World) (o o2 : Obj) : ((W.alloc o).alloc o2).heap[W.heap.size + 1]? = some o2 := by
  have := qkd (W.alloc o) o2
  rwa [World.size_alloc] at this
theorem qvb {W : World} {k : Nat} {o : Obj} (h : W.heap[k]? = some o) (o2 : Obj) : (W.alloc o2).heap[k]? = some o :=
  (Below.heap_alloc _ _ _ (Array.getElem?_eq_some_iff.1 h).1).trans h
theorem qlb {W : World} {k : Nat} {o : Obj} (h : W.heap[k]? = some o) {p : Addr} (hp : p.block ≠ k) (u : Value) : (W.setCell p u).heap[k]? = some o :=
  (Below.heap_setCell _ _ _ _ (by omega)).trans h
theorem Save.heap {g : Nat} {w w' : World} {k : Nat} {o : Obj} (h : Save g w w') (hk : k ≠ g) (hc : w.heap[k]? = some o) : w'.heap[k]? = some o :=
  (h.block k (Array.getElem?_eq_some_iff.1 hc).1 hk).trans hc
theorem Save.under {B g : Nat} {w w1 w' : World} (h : Below B w w1) (hs : Save g w1 w') (hg : B ≤ g) (hB : B ≤ w1.heap.size) : Below B w w' := h.trans (hs.below hg hB)
end Go.Proofs.YtpjpheicldegkaaGreatDoor

namespace Go.Proofs.YtpjpheicldegkaaGreatDoor
open Go Go.RowKit Go.ChangeShapes Go.WideShapes

section
variable {α : Type} [Rec α] [Inhabited α] {H : Type} {enc : TypeId × Value → H} {P : Program} {w : World} {held : Bool}

end
end Go.Proofs.YtpjpheicldegkaaGreatDoor

namespace Go.Proofs.YtpjpheicldegkaaGreatDoor
open Go Go.RowKit

theorem okE_low {t k : Int} {d : ByteArray} (h : ¬ 0 ≤ t) : okE t k d = false := by simp [okE, h]
theorem okE_high {t k : Int} {d : ByteArray} (h : ¬ t ≤ 100000) : okE t k d = false := by simp [okE, h]
theorem okE_in {t k : Int} {d : ByteArray} (h : 0 ≤ t) (h2 : t ≤ 100000) : okE t k d = kindOk k d := by simp [okE, h, h2]

set_option maxHeartbeats 1000000 in
theorem qzc (t k : Int) (d : ByteArray) (w : World) (hd : d.size ≤ maxLen) :
    Calls Tryz.prog 75 #[.agg #[.int .i64 t, .int .i64 k, .string d]] w fun e w' => e = .returned (.bool (okE t k d)) ∧ Below w.heap.size w w' := by
  have HD : Hid (d.size ≤ maxLen) := hd
  clear hd
  by_cases h0 : 0 ≤ t
  · by_cases h1 : t ≤ 100000
    · rw [okE_in h0 h1]
      obtain ⟨q, HQ⟩ : ∃ q, Hid (kindOk k d = q) := ⟨_, rfl⟩
      obtain ⟨v, HV⟩ : ∃ v, Hid (contV k d = v) := ⟨_, rfl⟩
      have H1 : Hid (∀ w, Calls Tryz.prog 76 #[.agg #[.int .i64 t, .int .i64 k, .string d]] w fun e w' => e = .returned v ∧ Below w.heap.size w w') := by
        intro w; rw [← HV.out]; exact qee t k d w
      have H2 : Hid (∀ w, Calls Tryz.prog 90 #[v] w fun e w' => e = .returned (.bool q) ∧ Below w.heap.size w w') := by
        intro w; rw [← HV.out, ← HQ.out]; exact isRight_any k d w HD.out
      rw [HQ.out]
      go_enter Tryz.func75, Tryz.ntmps75
      go_wp2_with (first | (go_at_call 76; refine (H1.out _).mono ?_; rintro e w1 ⟨rfl, hb1⟩) | (go_at_call 90; refine (H2.out _).mono ?_; rintro e w2 ⟨rfl, hb2⟩))
      go_ret
      exact ⟨rfl, Below.on (qma hb1) hb2⟩
    · rw [okE_high h1]
      go_enter Tryz.func75, Tryz.ntmps75
      go_wp2
      go_ret
      exact ⟨rfl, ba (Below.refl _ _) _⟩
  · rw [okE_low h0]
    go_enter Tryz.func75, Tryz.ntmps75
    go_wp2
    go_ret
    exact ⟨rfl, ba (Below.refl _ _) _⟩

theorem okE_out {t k : Int} {d : ByteArray} (h : (decide (0 ≤ t) && decide (t ≤ 100000)) = false) : okE t k d = false := by simp [okE, h]
theorem okE_in' {t k : Int} {d : ByteArray} (h : (decide (0 ≤ t) && decide (t ≤ 100000)) = true) : okE t k d = kindOk k d := by simp [okE, h]

set_option maxHeartbeats 1000000 in
theorem qhd (t k : Int) (d : ByteArray) (w : World) (hd : d.size ≤ maxLen) :
    Calls Tryz.prog 25 #[.agg #[.int .i64 t, .int .i64 k, .string d]] w fun e w' => e = .returned (.bool (okE t k d)) ∧ Below w.heap.size w w' := by
  have HD : Hid (d.size ≤ maxLen) := hd
  unfold maxLen at hd
  cases hv : (decide (0 ≤ t) && decide (t ≤ 100000)) with
  | false =>
    rw [okE_out hv]
    go_enter Tryz.func25, Tryz.ntmps25
    go_wp2_with (go_at_call 24; refine (qub _ _ _ _).mono ?_; rintro e w' ⟨rfl, hw⟩; have hw2 := hw.symm; subst hw2; rw [hv])
    go_ret
    exact ⟨rfl, ba (Below.refl _ _) _⟩
  | true =>
    rw [okE_in' hv]
    by_cases h1 : k = 1
    · subst h1
      show Calls Tryz.prog 25 _ w fun e w' => e = .returned (.bool d.toList.isEmpty) ∧ Below w.heap.size w w'
      go_enter Tryz.func25, Tryz.ntmps25
      go_wp2_with (go_at_call 24; refine (qub _ _ _ _).mono ?_; rintro e w' ⟨rfl, hw⟩; have hw2 := hw.symm; subst hw2; rw [hv])
      go_ret
      exact ⟨rfl, ba (Below.refl _ _) _⟩
    · by_cases h2 : k = 2
      · subst h2
        show Calls Tryz.prog 25 _ w fun e w' => e = .returned (.bool (okT d)) ∧ Below w.heap.size w w'
        go_enter Tryz.func25, Tryz.ntmps25
        go_wp2_with (first | (go_at_call 24; refine (qub _ _ _ _).mono ?_; rintro e w' ⟨rfl, hw⟩; have hw2 := hw.symm; subst hw2; rw [hv]) | (go_at_call 39; refine (qyc _ _ HD.out).mono ?_; rintro e w1 ⟨v1, rfl, ho, hb⟩; clear ho))
        go_ret
        exact ⟨rfl, qma hb⟩
      · by_cases h3 : k = 3
        · subst h3
          show Calls Tryz.prog 25 _ w fun e w' => e = .returned (.bool (decide ((d.size : Int) ≤ 640))) ∧ Below w.heap.size w w'
          go_enter Tryz.func25, Tryz.ntmps25
          go_wp2_with (go_at_call 24; refine (qub _ _ _ _).mono ?_; rintro e w' ⟨rfl, hw⟩; have hw2 := hw.symm; subst hw2; rw [hv])
          go_ret
          exact ⟨rfl, ba (Below.refl _ _) _⟩
        · have HK : Hid (kindOk k d = false) := by show kindOk k d = _; simp [kindOk, h1, h2, h3]
          rw [HK.out]
          go_enter Tryz.func25, Tryz.ntmps25
          go_wp2_with (go_at_call 24; refine (qub _ _ _ _).mono ?_; rintro e w' ⟨rfl, hw⟩; have hw2 := hw.symm; subst hw2; rw [hv])
          go_ret
          exact ⟨rfl, ba (Below.refl _ _) _⟩

end Go.Proofs.YtpjpheicldegkaaGreatDoor

namespace Go.Proofs.YtpjpheicldegkaaGreatDoor
open Go Go.RowKit

theorem heap_new {W w' : World} {o : Obj} (hb : Below (W.alloc o).heap.size (W.alloc o) w') : w'.heap[W.heap.size]? = some o := (hb.block _ (by simp)).trans (by show (W.heap.push o)[W.heap.size]? = some o; simp)
theorem heap_newd {W w' : World} {o : Obj} (hb : Below (W.alloc o).drew.heap.size (W.alloc o).drew w') : w'.heap[W.heap.size]? = some o := (hb.block _ (by show W.heap.size < (W.alloc o).heap.size; simp)).trans (by show (W.heap.push o)[W.heap.size]? = some o; simp)
theorem heap_on {W w' : World} {X : Nat} {o : Obj} (hb : Below W.heap.size W w') (h : W.heap[X]? = some o) : w'.heap[X]? = some o := (hb.block _ (by
  rcases Nat.lt_or_ge X W.heap.size with hl | hl
  · exact hl
  · rw [Array.getElem?_eq_none hl] at h; cases h)).trans h
end Go.Proofs.YtpjpheicldegkaaGreatDoor

namespace Go.Proofs
open Go.Shelf
def Tryz.laysM181_ren : Go.Shelf.Ren := ⟨fun | 181 => 87 | n => n, fun | 130 => 105 | 3 => 3 | 0 => 0 | 93 => 42 | 37 => 22 | 91 => 40 | 5 => 5 | n => n, fun | n => n⟩
def Tryz.laysM182_ren : Go.Shelf.Ren := ⟨fun | 182 => 21 | n => n, fun | 130 => 105 | 9 => 9 | 4 => 4 | 0 => 0 | 93 => 42 | 37 => 22 | 3 => 3 | 91 => 40 | 5 => 5 | n => n, fun | n => n⟩
theorem Tryz.laysM182 : Go.Proofs.LaysM.n182 Tryz.prog Tryz.laysM182_ren := {
  mixed := by kernel_rfl
  f182 := Tryz.func21.trans (congrArg some (by kernel_rfl))
  t0 := Tryz.underlying0
  a0 := Tryz.isAgg0
  z0 := Tryz.sizeOf0
  v0 := Tryz.zeroValue0
  t3 := Tryz.underlying3
  a3 := Tryz.isAgg3
  z3 := Tryz.sizeOf3
  v3 := Tryz.zeroValue3
  t4 := Tryz.underlying4
  a4 := Tryz.isAgg4
  z4 := Tryz.sizeOf4
  v4 := Tryz.zeroValue4
  t9 := Tryz.underlying9
  a9 := Tryz.isAgg9
  z9 := Tryz.sizeOf9
  v9 := Tryz.zeroValue9
  t37 := Tryz.underlying22
  a37 := Tryz.isAgg22
  z37 := Tryz.sizeOf22
  v37 := Tryz.zeroValue22
  t93 := Tryz.underlying42
  a93 := Tryz.isAgg42
  z93 := Tryz.sizeOf42
  v93 := Tryz.zeroValue42
  t130 := Tryz.underlying105
  a130 := Tryz.isAgg105
  z130 := Tryz.sizeOf105
  v130 := Tryz.zeroValue105
  t5 := Tryz.underlying5
  a5 := Tryz.isAgg5
  z5 := Tryz.sizeOf5
  v5 := Tryz.zeroValue5
  t91 := Tryz.underlying40
  a91 := Tryz.isAgg40
  z91 := Tryz.sizeOf40
  v91 := Tryz.zeroValue40
  i0 := by kernel_rfl
  i3 := by kernel_rfl
  i4 := by kernel_rfl
  i5 := by kernel_rfl
  i9 := by kernel_rfl
  i37 := by kernel_rfl
  i91 := by kernel_rfl
  i93 := by kernel_rfl
  i130 := by kernel_rfl }
open Go.RowKit in
theorem Tryz.Buffer_String_at (T : TypeId) (R : Nat → Option Value) (B b q : Nat) (l : List UInt8) (w : World) (h : LibA.IsBuffer T R 5 B b q (Lib.byteCells l) w) :
    Calls Tryz.prog 21 #[.pointer (some ⟨b, q, none⟩)] w fun e w' => e = .returned (.string ⟨l.toArray⟩) ∧ ∃ n, w' = w.drewN n := Any.Buffer_String_at Tryz.laysM182 T R B b q l w h
def Tryz.laysM179_ren : Go.Shelf.Ren := ⟨fun | 179 => 46 | 251 => 73 | 252 => 74 | 181 => 87 | 184 => 88 | 290 => 89 | 324 => 99 | n => n, fun | 130 => 105 | 5 => 5 | 75 => 97 | 0 => 0 | 93 => 42 | 91 => 40 | 3 => 3 | 131 => 122 | 4 => 4 | 37 => 22 | 20 => 20 | 80 => 51 | 9 => 9 | n => n, fun | 14 => 0 | n => n⟩
theorem Tryz.laysM179 : Go.Proofs.LaysM.n179 Tryz.prog Tryz.laysM179_ren := {
  mixed := by kernel_rfl
  f179 := Tryz.func46.trans (congrArg some (by kernel_rfl))
  f181 := Tryz.func87.trans (congrArg some (by kernel_rfl))
  f184 := Tryz.func88.trans (congrArg some (by kernel_rfl))
  f251 := Tryz.func73.trans (congrArg some (by kernel_rfl))
  f252 := Tryz.func74.trans (congrArg some (by kernel_rfl))
  f290 := Tryz.func89.trans (congrArg some (by kernel_rfl))
  f324 := Tryz.func99.trans (congrArg some (by kernel_rfl))
  t0 := Tryz.underlying0
  a0 := Tryz.isAgg0
  z0 := Tryz.sizeOf0
  v0 := Tryz.zeroValue0
  t3 := Tryz.underlying3
  a3 := Tryz.isAgg3
  z3 := Tryz.sizeOf3
  v3 := Tryz.zeroValue3
  t4 := Tryz.underlying4
  a4 := Tryz.isAgg4
  z4 := Tryz.sizeOf4
  v4 := Tryz.zeroValue4
  t5 := Tryz.underlying5
  a5 := Tryz.isAgg5
  z5 := Tryz.sizeOf5
  v5 := Tryz.zeroValue5
  t20 := Tryz.underlying20
  a20 := Tryz.isAgg20
  z20 := Tryz.sizeOf20
  v20 := Tryz.zeroValue20
  t37 := Tryz.underlying22
  a37 := Tryz.isAgg22
  z37 := Tryz.sizeOf22
  v37 := Tryz.zeroValue22
  t75 := Tryz.underlying97
  a75 := Tryz.isAgg97
  z75 := Tryz.sizeOf97
  v75 := Tryz.zeroValue97
  t91 := Tryz.underlying40
  a91 := Tryz.isAgg40
  z91 := Tryz.sizeOf40
  v91 := Tryz.zeroValue40
  t93 := Tryz.underlying42
  a93 := Tryz.isAgg42
  z93 := Tryz.sizeOf42
  v93 := Tryz.zeroValue42
  t130 := Tryz.underlying105
  a130 := Tryz.isAgg105
  z130 := Tryz.sizeOf105
  v130 := Tryz.zeroValue105
  t131 := Tryz.underlying122
  a131 := Tryz.isAgg122
  z131 := Tryz.sizeOf122
  v131 := Tryz.zeroValue122
  g14 := by kernel_rfl
  t9 := Tryz.underlying9
  a9 := Tryz.isAgg9
  z9 := Tryz.sizeOf9
  v9 := Tryz.zeroValue9
  t80 := Tryz.underlying51
  a80 := Tryz.isAgg51
  z80 := Tryz.sizeOf51
  v80 := Tryz.zeroValue51
  i0 := by kernel_rfl
  i3 := by kernel_rfl
  i4 := by kernel_rfl
  i5 := by kernel_rfl
  i9 := by kernel_rfl
  i20 := by kernel_rfl
  i37 := by kernel_rfl
  i75 := by kernel_rfl
  i80 := by kernel_rfl
  i91 := by kernel_rfl
  i93 := by kernel_rfl
  i130 := by kernel_rfl
  i131 := by kernel_rfl
  m14 := by kernel_rfl }
open Go.RowKit in
theorem Tryz.Buffer_WriteByte_at (T : TypeId) (R : Nat → Option Value) (B b q : Nat) (bs : List Value) (c : Int) (w : World) (h : LibA.IsBuffer T R 5 B b q bs w) (hBw : B ≤ w.heap.size) (h1 : ∀ v ∈ bs, v.oneCell' = true) (hlim : bs.length + 1 ≤ 140737488355328) :
    Calls Tryz.prog 46 #[.pointer (some ⟨b, q, none⟩), .int .u8 c] w fun e w' => e = .returned .nilIface ∧ LibA.IsBuffer T R 5 B b q (bs ++ [.int .u8 c]) w' ∧ Below B w w' ∧ Lib.OthersKept 5 (some b) w w' := Any.Buffer_WriteByte_at Tryz.laysM179 T R B b q bs c w h hBw h1 hlim
def Tryz.laysM178_ren : Go.Shelf.Ren := ⟨fun | 178 => 48 | 251 => 73 | 252 => 74 | 181 => 87 | 184 => 88 | 290 => 89 | 324 => 99 | n => n, fun | 130 => 105 | 9 => 9 | 3 => 3 | 75 => 97 | 0 => 0 | 93 => 42 | 91 => 40 | 131 => 122 | 4 => 4 | 37 => 22 | 20 => 20 | 80 => 51 | 5 => 5 | n => n, fun | 14 => 0 | n => n⟩
theorem Tryz.laysM178 : Go.Proofs.LaysM.n178 Tryz.prog Tryz.laysM178_ren := {
  mixed := by kernel_rfl
  f178 := Tryz.func48.trans (congrArg some (by kernel_rfl))
  f181 := Tryz.func87.trans (congrArg some (by kernel_rfl))
  f184 := Tryz.func88.trans (congrArg some (by kernel_rfl))
  f251 := Tryz.func73.trans (congrArg some (by kernel_rfl))
  f252 := Tryz.func74.trans (congrArg some (by kernel_rfl))
  f290 := Tryz.func89.trans (congrArg some (by kernel_rfl))
  f324 := Tryz.func99.trans (congrArg some (by kernel_rfl))
  t0 := Tryz.underlying0
  a0 := Tryz.isAgg0
  z0 := Tryz.sizeOf0
  v0 := Tryz.zeroValue0
  t3 := Tryz.underlying3
  a3 := Tryz.isAgg3
  z3 := Tryz.sizeOf3
  v3 := Tryz.zeroValue3
  t4 := Tryz.underlying4
  a4 := Tryz.isAgg4
  z4 := Tryz.sizeOf4
  v4 := Tryz.zeroValue4
  t9 := Tryz.underlying9
  a9 := Tryz.isAgg9
  z9 := Tryz.sizeOf9
  v9 := Tryz.zeroValue9
  t20 := Tryz.underlying20
  a20 := Tryz.isAgg20
  z20 := Tryz.sizeOf20
  v20 := Tryz.zeroValue20
  t37 := Tryz.underlying22
  a37 := Tryz.isAgg22
  z37 := Tryz.sizeOf22
  v37 := Tryz.zeroValue22
  t75 := Tryz.underlying97
  a75 := Tryz.isAgg97
  z75 := Tryz.sizeOf97
  v75 := Tryz.zeroValue97
  t91 := Tryz.underlying40
  a91 := Tryz.isAgg40
  z91 := Tryz.sizeOf40
  v91 := Tryz.zeroValue40
  t93 := Tryz.underlying42
  a93 := Tryz.isAgg42
  z93 := Tryz.sizeOf42
  v93 := Tryz.zeroValue42
  t130 := Tryz.underlying105
  a130 := Tryz.isAgg105
  z130 := Tryz.sizeOf105
  v130 := Tryz.zeroValue105
  t131 := Tryz.underlying122
  a131 := Tryz.isAgg122
  z131 := Tryz.sizeOf122
  v131 := Tryz.zeroValue122
  g14 := by kernel_rfl
  t5 := Tryz.underlying5
  a5 := Tryz.isAgg5
  z5 := Tryz.sizeOf5
  v5 := Tryz.zeroValue5
  t80 := Tryz.underlying51
  a80 := Tryz.isAgg51
  z80 := Tryz.sizeOf51
  v80 := Tryz.zeroValue51
  i0 := by kernel_rfl
  i3 := by kernel_rfl
  i4 := by kernel_rfl
  i5 := by kernel_rfl
  i9 := by kernel_rfl
  i20 := by kernel_rfl
  i37 := by kernel_rfl
  i75 := by kernel_rfl
  i80 := by kernel_rfl
  i91 := by kernel_rfl
  i93 := by kernel_rfl
  i130 := by kernel_rfl
  i131 := by kernel_rfl
  m14 := by kernel_rfl }
open Go.RowKit in
theorem Tryz.Buffer_WriteString_at (T : TypeId) (R : Nat → Option Value) (B b q : Nat) (bs : List Value) (s : ByteArray) (w : World) (h : LibA.IsBuffer T R 5 B b q bs w) (hBw : B ≤ w.heap.size) (h1 : ∀ v ∈ bs, v.oneCell' = true) (hlim : bs.length + s.size ≤ 140737488355328) :
    Calls Tryz.prog 48 #[.pointer (some ⟨b, q, none⟩), .string s] w fun e w' => e = .returned (.tuple #[.int .i64 s.size, .nilIface]) ∧ LibA.IsBuffer T R 5 B b q (bs ++ Lib.byteCells s.data.toList) w' ∧ Below B w w' ∧ Lib.OthersKept 5 (some b) w w' := Any.Buffer_WriteString_at Tryz.laysM178 T R B b q bs s w h hBw h1 hlim
end Go.Proofs

namespace Go.Proofs.YtpjpheicldegkaaGreatDoor
open Go Go.RowKit

set_option maxHeartbeats 1000000 in
theorem sameInts_any (ao bo : Option Addr) (n c d : Nat) (l : List Int) (w : World) (ha : Reads w (.slice ao n c) l) (hb : Reads w (.slice bo n d) l) (hn : n ≤ 1048577) :
    Calls Tryz.prog 32 #[.slice ao n c, .slice bo n d] w fun e w' => e = .returned (.bool true) ∧ Below w.heap.size w w' := by
  have HN : Hid (n = l.length) := ha.len
  have HA : Hid (Reads w (.slice ao n c) l) := ha
  have HB : Hid (Reads w (.slice bo n d) l) := hb
  clear ha hb
  go_enter Tryz.func32, Tryz.ntmps32
  go_wp2
  go_loopw [5] (fun i wr => ∃ k : Nat, k ≤ n ∧ i = .int .i64 k ∧ Below w.heap.size w wr) (fun i _ => n - (intOf i).toNat)
  case atStart => exact ⟨0, Nat.zero_le _, rfl, Below.refl _ _⟩
  case round =>
    obtain ⟨k, hk, rfl, hbel⟩ := hrel
    by_cases hlt : k < n
    · obtain ⟨f, hf⟩ : ∃ f, l[k]? = some f := ⟨_, List.getElem?_eq_getElem (by rw [← HN.out]; exact hlt)⟩
      obtain ⟨a, oa, rfl, hga, a0⟩ := int_at (HA.out.below hbel) hf
      obtain ⟨b, ob, rfl, hgb, b0⟩ := int_at (HB.out.below hbel) hf
      clear hf
      go_wp2
      go_quiet (fail)
      go_wp2
      go_roundw
      case rel => exact ⟨k + 1, by omega, by go_num, bdrewN hbel _⟩
      case measure => simp [intOf]; omega
    · go_wp2
      go_ret
      exact ⟨rfl, hbel⟩
end Go.Proofs.YtpjpheicldegkaaGreatDoor
