/- Ta,Poo,Rp,Et,Sb,Tak -/
import Derived.Test.YtpjpheicldegkaaGreatDoorGM3
import Derived.Test.YtpjpheicldegkaaGreatDoorGM5
import Derived.Test.YtpjpheicldegkaaGreatDoorGM1
import Derived.Test.YtpjpheicldegkaaGreatDoorGM4
namespace Go.Proofs.YtpjpheicldegkaaGreatDoor
open Go Go.RowKit

instance : Rec ByteArray := ⟨1, fun s => [.string s], fun _ => rfl, by decide⟩
theorem qka {w : World} {ao : Option Addr} {n cap : Nat} {l : List ByteArray} (h : Reads w (.slice ao n cap) l) {k : Nat} {x : ByteArray} (hk : l[k]? = some x) :
    ∃ b o, ao = some ⟨b, o, none⟩ ∧ b < w.heap.size ∧ w.cell? ⟨b, o + k, none⟩ = some (.string x) := by
  obtain ⟨b, o, rfl, hlt, hc⟩ := h.at hk
  have := hc 0 _ rfl
  rw [show o + k * Rec.width ByteArray + 0 = o + k by show o + k * 1 + 0 = _; omega] at this
  exact ⟨b, o, rfl, hlt, this⟩
structure Tk where
  name : ByteArray
  pool : ByteArray
  ret : Int
  past : Bool
  after : Value
instance : Rec Tk := ⟨5, fun t => [.string t.name, .string t.pool, .int .i64 t.ret, .bool t.past, t.after], fun _ => rfl, by decide⟩
theorem tk_at {w : World} {ao : Option Addr} {n cap : Nat} {l : List Tk} (h : Reads w (.slice ao n cap) l) {k : Nat} {x : Tk} (hk : l[k]? = some x) :
    ∃ b o, ao = some ⟨b, o, none⟩ ∧ b < w.heap.size ∧ w.cell? ⟨b, o + k * 5, none⟩ = some (.string x.name) ∧ w.cell? ⟨b, o + k * 5 + 1, none⟩ = some (.string x.pool) ∧ w.cell? ⟨b, o + k * 5 + 2, none⟩ = some (.int .i64 x.ret) ∧ w.cell? ⟨b, o + k * 5 + 3, none⟩ = some (.bool x.past) ∧ w.cell? ⟨b, o + k * 5 + 4, none⟩ = some x.after := by
  obtain ⟨b, o, rfl, hlt, hc⟩ := h.at hk
  exact ⟨b, o, rfl, hlt, hc 0 _ rfl, hc 1 _ rfl, hc 2 _ rfl, hc 3 _ rfl, hc 4 _ rfl⟩
structure Ta where
  name : ByteArray
  pool : ByteArray
  ret : Int
  past : Bool
  after : List ByteArray
structure OneT (w : World) (k : Tk) (t : Ta) : Prop where
  name : k.name = t.name
  pool : k.pool = t.pool
  ret : k.ret = t.ret
  past : k.past = t.past
  after : Reads w k.after t.after
def Tasks (w : World) (v : Value) (l : List Ta) : Prop := ∃ ks : List Tk, Reads w v ks ∧ ks.length = l.length ∧ ∀ (i : Nat) (t : Ta), l[i]? = some t → ∃ k : Tk, ks[i]? = some k ∧ OneT w k t
theorem Tasks.below {w w' : World} {v : Value} {l : List Ta} (h : Tasks w v l) (hb : Below w.heap.size w w') : Tasks w' v l := by
  obtain ⟨ks, h1, h2, h3⟩ := h
  refine ⟨ks, h1.below hb, h2, fun i t ht => ?_⟩
  obtain ⟨k, hk, ho⟩ := h3 i t ht
  exact ⟨k, hk, ho.name, ho.pool, ho.ret, ho.past, ho.after.below hb⟩
theorem Tasks.slice {w : World} {v : Value} {l : List Ta} (h : Tasks w v l) : ∃ ao cap, v = .slice ao l.length cap := by
  obtain ⟨ks, h1, h2, _⟩ := h
  obtain ⟨ao, cap, rfl, _⟩ := id h1
  exact ⟨ao, cap, by rw [h2]⟩
theorem Tasks.at {w : World} {ao : Option Addr} {n cap : Nat} {l : List Ta} (h : Tasks w (.slice ao n cap) l) {k : Nat} {t : Ta} (ht : l[k]? = some t) :
    ∃ b o av, ao = some ⟨b, o, none⟩ ∧ b < w.heap.size ∧ w.cell? ⟨b, o + k * 5, none⟩ = some (.string t.name) ∧ w.cell? ⟨b, o + k * 5 + 1, none⟩ = some (.string t.pool) ∧ w.cell? ⟨b, o + k * 5 + 2, none⟩ = some (.int .i64 t.ret) ∧ w.cell? ⟨b, o + k * 5 + 3, none⟩ = some (.bool t.past) ∧ w.cell? ⟨b, o + k * 5 + 4, none⟩ = some av ∧ Reads w av t.after := by
  obtain ⟨ks, h1, h2, h3⟩ := h
  obtain ⟨x, hx, ho⟩ := h3 k t ht
  obtain ⟨b, o, rfl, hlt, c0, c1, c2, c3, c4⟩ := tk_at h1 hx
  rw [ho.name] at c0
  rw [ho.pool] at c1
  rw [ho.ret] at c2
  rw [ho.past] at c3
  exact ⟨b, o, x.after, rfl, hlt, c0, c1, c2, c3, c4, ho.after⟩
def atG (s : ByteArray) : Nat → List Ta → Int
  | _, [] => -1
  | k, t :: r => if t.name = s then (k : Int) else atG s (k + 1) r
def atN (l : List Ta) (s : ByteArray) : Int := atG s 0 l
theorem atG_at {s : ByteArray} {l : List Ta} {k : Nat} {t : Ta} (h : l[k]? = some t) : atG s k (l.drop k) = if t.name = s then (k : Int) else atG s (k + 1) (l.drop (k + 1)) := by
  obtain ⟨hk, rfl⟩ := List.getElem?_eq_some_iff.1 h
  rw [List.drop_eq_getElem_cons hk]
  rfl
theorem atG_end {s : ByteArray} {l : List Ta} {k : Nat} (h : k = l.length) : atG s k (l.drop k) = -1 := by
  subst h
  rw [List.drop_length]
  rfl
set_option maxHeartbeats 1000000 in
theorem qzd {w : World} {v : Value} {l : List Ta} (s : ByteArray) (hr : Tasks w v l) (hn : l.length ≤ 1048577) :
    Calls Tryz.prog 123 #[v, .string s] w fun e w' => e = .returned (.int .i64 (atN l s)) ∧ w' = w := by
  obtain ⟨ao, cap, rfl⟩ := hr.slice
  have HR : Hid (Tasks w (.slice ao l.length cap) l) := hr
  clear hr
  obtain ⟨n, HN⟩ : ∃ n, Hid (l.length = n) := ⟨_, rfl⟩
  rw [HN.out] at hn
  rw [HN.out] at HR ⊢
  go_enter Tryz.func123, Tryz.ntmps123
  go_wp2
  go_loopw [5] (fun i wr => ∃ k : Nat, k ≤ n ∧ i = .int .i64 k ∧ Hid (atN l s = atG s k (l.drop k)) ∧ wr = w) (fun i _ => n - (intOf i).toNat)
  case atStart => exact ⟨0, Nat.zero_le _, rfl, (by show atN l s = atG s 0 (l.drop 0); rw [List.drop_zero]; rfl), rfl⟩
  case round =>
    obtain ⟨k, hk, rfl, HE, rfl⟩ := hrel
    by_cases hlt : k < n
    · obtain ⟨t, ht⟩ : ∃ t, l[k]? = some t := ⟨_, List.getElem?_eq_getElem (by rw [HN.out]; exact hlt)⟩
      obtain ⟨b, o, av, rfl, hb, c0, _, _, _, _, _⟩ := HR.out.at ht
      by_cases hq : t.name = s
      · have HF : Hid (atN l s = k) := HE.out.trans (by rw [atG_at ht, if_pos hq])
        have hq2 := eq_list hq
        clear ht
        go_wp2
        go_ret
        exact ⟨by rw [HF.out]; rfl, rfl⟩
      · have HF : Hid (atN l s = atG s (k + 1) (l.drop (k + 1))) := HE.out.trans (by rw [atG_at ht, if_neg hq])
        have hq2 := qab hq
        clear ht
        go_wp2
        go_roundw
        case rel => exact ⟨k + 1, by omega, by go_num, HF, trivial⟩
        case measure => simp [intOf]; omega
    · have HF : Hid (atN l s = -1) := HE.out.trans (atG_end (by rw [HN.out]; omega))
      go_wp2
      go_ret
      exact ⟨by rw [HF.out]; rfl, rfl⟩
end Go.Proofs.YtpjpheicldegkaaGreatDoor

namespace Go.Proofs.YtpjpheicldegkaaGreatDoor
open Go Go.RowKit

theorem one_list : (⟨#[111, 110, 101]⟩ : ByteArray).toList = [111, 110, 101] := (ByteArray.toList_eq _).trans rfl
theorem two_list : (⟨#[116, 119, 111]⟩ : ByteArray).toList = [116, 119, 111] := (ByteArray.toList_eq _).trans rfl
theorem wide_list : (⟨#[119, 105, 100, 101]⟩ : ByteArray).toList = [119, 105, 100, 101] := (ByteArray.toList_eq _).trans rfl
def poolN (s : ByteArray) : Int := if s = ⟨#[111, 110, 101]⟩ then 1 else if s = ⟨#[116, 119, 111]⟩ then 2 else if s = ⟨#[119, 105, 100, 101]⟩ then 4 else 0
set_option maxHeartbeats 400000 in
theorem qcd (s : ByteArray) (w : World) : Calls Tryz.prog 124 #[.string s] w fun e w' => e = .returned (.int .i64 (poolN s)) ∧ w' = w := by
  unfold poolN
  by_cases h1 : s = ⟨#[111, 110, 101]⟩
  · rw [if_pos h1]
    subst h1
    go_enter Tryz.func124, Tryz.ntmps124
    go_wp2
    go_ret
    exact ⟨rfl, rfl⟩
  · rw [if_neg h1]
    have q1 : (s.toList == [111, 110, 101]) = false := by rw [← one_list]; exact qab h1
    clear h1
    by_cases h2 : s = ⟨#[116, 119, 111]⟩
    · rw [if_pos h2]
      subst h2
      go_enter Tryz.func124, Tryz.ntmps124
      go_wp2
      go_ret
      exact ⟨rfl, rfl⟩
    · rw [if_neg h2]
      have q2 : (s.toList == [116, 119, 111]) = false := by rw [← two_list]; exact qab h2
      clear h2
      by_cases h3 : s = ⟨#[119, 105, 100, 101]⟩
      · rw [if_pos h3]
        subst h3
        go_enter Tryz.func124, Tryz.ntmps124
        go_wp2
        go_ret
        exact ⟨rfl, rfl⟩
      · rw [if_neg h3]
        have q3 : (s.toList == [119, 105, 100, 101]) = false := by rw [← wide_list]; exact qab h3
        clear h3
        go_enter Tryz.func124, Tryz.ntmps124
        go_wp2
        go_ret
        exact ⟨rfl, rfl⟩

def qrb (s : ByteArray) : Nat → List ByteArray × Nat
  | 0 => ([], 0)
  | i + 1 => if (s.data[i]?.map (fun b => b.toNat)) = some 10 then ((qrb s i).1 ++ [s.extract (qrb s i).2 i], i + 1) else qrb s i
def qxc (s : ByteArray) : List ByteArray := if (qrb s s.size).2 < s.size then (qrb s s.size).1 ++ [s.extract (qrb s s.size).2 s.size] else (qrb s s.size).1
theorem linesN_bd (s : ByteArray) : ∀ i, (qrb s i).2 ≤ i ∧ (qrb s i).1.length ≤ i
  | 0 => ⟨Nat.le_refl _, Nat.le_refl _⟩
  | i + 1 => by
    obtain ⟨h1, h2⟩ := linesN_bd s i
    unfold qrb
    split
    · exact ⟨Nat.le_refl _, by simp; omega⟩
    · exact ⟨by omega, by omega⟩
set_option maxRecDepth 10000 in
set_option maxHeartbeats 1000000 in
theorem l12Lines_any (s : ByteArray) (w : World) (hs : s.size ≤ 1048576) :
    Calls Tryz.prog 110 #[.string s] w fun e w' => ∃ v, e = .returned v ∧ ownsS w' w.heap.size 9 v (qxc s) ∧ Below w.heap.size w w' := by
  go_enter Tryz.func110, Tryz.ntmps110
  go_wp2
  go_loopw [3, 4, 5] (fun out bg i wr => ∃ (k b : Nat) (l : List ByteArray), k ≤ s.size ∧ i = .int .i64 k ∧ bg = .int .i64 b ∧ b ≤ k ∧ l.length ≤ k ∧ Hid (qrb s k = (l, b)) ∧ ownsS wr w.heap.size 9 out l ∧ Below w.heap.size w wr) (fun _ _ i _ => s.size - (intOf i).toNat)
  case atStart => exact ⟨0, 0, [], Nat.zero_le _, rfl, rfl, Nat.le_refl _, Nat.le_refl _, rfl, qmd _ _ _ _ _ (Nat.le_refl _) (by decide) rfl, (Below.refl _ _).alloc (Nat.le_refl _) _⟩
  case round =>
    obtain ⟨k, b, l, hk, rfl, rfl, hb, hl, HE, hown, hbel⟩ := hrel
    have hsz := hbel.size
    by_cases hlt : k < s.size
    · have hcut : ∀ wx, (Instr.slice 9 (.string s) (some (.int .i64 (b : Int))) (some (.int .i64 (k : Int))) none).run Tryz.prog wx = .ok (.string (s.extract b k)) wx := fun wx => by
        have := run_slice_string (P := Tryz.prog) wx 9 s .i64 .i64 (b : Int) (k : Int) Tryz.underlying9 (by omega) (by omega) (by omega)
        rw [Int.toNat_natCast, Int.toNat_natCast] at this
        exact this
      by_cases hby : s[k].toNat = 10
      · have HN : Hid (qrb s (k + 1) = (l ++ [s.extract b k], k + 1)) := by
          show qrb s (k + 1) = _
          rw [qrb, if_pos (by rw [byte_is hlt, hby]), HE.out]
        go_wp2_with (at_builtin; refine wpList_append_text _ w rfl (.tmp 17) (.tmp 22) 103 rfl w.heap.size 9 Tryz.underlying103 info9 _ l rfl (hown.alloc _) (hbel.alloc hsz _) ⟨wr.heap.size, 0, none⟩ 1 (s.extract b k) rfl ?c1 ?c2 ?c3 ?_)
        case c1 => simp
        case c2 => omega
        case c3 => simp; omega
        intro v' w1 hown1 hbel1
        clear hown hbel
        go_wp2
        go_roundw
        case rel => exact ⟨k + 1, k + 1, _, by omega, by go_num, by go_num, Nat.le_refl _, by simp; omega, HN, hown1, hbel1⟩
        case measure => simp [intOf]; omega
      · have HN : Hid (qrb s (k + 1) = (l, b)) := by
          show qrb s (k + 1) = _
          rw [qrb, if_neg, HE.out]
          intro h
          rw [byte_is hlt] at h
          exact hby (Option.some.inj h)
        have hby2 : ((s[k].toNat : Int) == (10 : Int)) = false := beq_eq_false_iff_ne.2 (by omega)
        have hby3 : (s[k].toNat == 10) = false := by simpa using hby
        go_wp2
        go_roundw
        case rel => exact ⟨k + 1, b, l, by omega, by go_num, rfl, by omega, by omega, HN, hown, hbel⟩
        case measure => simp [intOf]; omega
    · have hkn : k = s.size := by omega
      subst hkn
      by_cases hbs : b < s.size
      · have HF : Hid (qxc s = l ++ [s.extract b s.size]) := by show qxc s = _; unfold qxc; rw [HE.out, if_pos hbs]
        have hcut : ∀ wx, (Instr.slice 9 (.string s) (some (.int .i64 (b : Int))) none none).run Tryz.prog wx = .ok (.string (s.extract b s.size)) wx := fun wx => by
          rw [run_slice_string_from_if (P := Tryz.prog) wx 9 s .i64 b Tryz.underlying9]
          have : (b : Int) ≤ s.size := by omega
          simp [this]
        go_wp2_with (at_builtin; refine wpList_append_text _ w rfl (.tmp 30) (.tmp 34) 103 rfl w.heap.size 9 Tryz.underlying103 info9 _ l rfl (hown.alloc _) (hbel.alloc hsz _) ⟨wr.heap.size, 0, none⟩ 1 (s.extract b s.size) rfl ?c1 ?c2 ?c3 ?_)
        case c1 => simp
        case c2 => omega
        case c3 => simp; omega
        intro v' w1 hown1 hbel1
        go_wp2
        go_ret
        exact ⟨_, rfl, by rw [HF.out]; exact hown1, hbel1⟩
      · have HF : Hid (qxc s = l) := by show qxc s = _; unfold qxc; rw [HE.out, if_neg hbs]
        go_wp2
        go_ret
        exact ⟨_, rfl, by rw [HF.out]; exact hown, hbel⟩
end Go.Proofs.YtpjpheicldegkaaGreatDoor

namespace Go.Proofs.YtpjpheicldegkaaGreatDoor
open Go Go.RowKit

section
variable {P : Program} {ops : Array Oper} {md : Region.Mode} {C : World → Prop} {Q : Exit → Act → World → Prop}
theorem nil_yields {o : Oper} {x : Operand} {v : Value} {p : Addr} {a : Act} (ho : o.op = .nilCheck x) (hx : a.eval x = .pointer (some p)) (hy : YieldsIn P ops C o v a) : YieldsIf P ops C o v a := by
  rcases hy with ⟨hw, hq⟩ | h2
  · refine .inl ⟨hw, fun w hC => ?_⟩
    have h3 := hq w hC
    unfold Oper.quietAt at h3
    have hr : (execOp a.eval o).run P w = .ok (.value (.pointer (some p))) w := by
      unfold execOp
      rw [ho]
      simp only [hx]
      rfl
    rw [hr] at h3 ⊢
    simp only [Oper.quietUpon] at h3
    rw [h3.2]
  · exact .inr h2

def yieldB (o : Oper) : Bool := valueOp o.op || (match o.op with
  | .nilCheck _ => true
  | _ => false)
def takesL : List Nat → Array Bool → Array Bool
  | [], listed => listed
  | k :: ts, listed => takesL ts (listed.setIfInBounds k true)
def takesB (md : Region.Mode) (ops : Array Oper) : List Nat → Array Bool → Bool
  | [], _ => true
  | k :: ts, listed => (Region.ready md ops listed).contains k && Region.free md ops listed k && ((ops[k]?).map yieldB).getD false && takesB md ops ts (listed.setIfInBounds k true)
def wpTakes (P : Program) (ops : Array Oper) (C : World → Prop) (K : Act → Prop) : List Nat → Act → Prop
  | [], a => K a
  | k :: ts, a => (∀ o, ops[k]? = some o → ∀ x, o.op = .nilCheck x → ∃ p, a.eval x = .pointer (some p)) ∧ qOp P ops C k (wpTakes P ops C K ts) a
theorem wpAnyU_takes {R : Act → World → Prop} {L : Array Bool} {m : Nat} {w : World} (hw : C w) (hs : Region.noSelect ops = true) (hQ : ∀ c a d v w, Q (.panic c) (Act.put a d v) w → Q (.panic c) a w) (hL : ∀ j ∈ Region.ready md ops L, j = m) (hwt : qfe md ops m = true) (fuel : Nat) :
    ∀ (ts : List Nat) (listed : Array Bool) (a : Act), (∀ k ∈ ts, k < m) → takesB md ops ts listed = true → wpTakes P ops C (fun a' => qhb P md ops Q C L R fuel (takesL ts listed) a' w) ts a → qhb P md ops Q C L R (fuel + ts.length) listed a w
  | [], _, _, _, _, h => h
  | k :: ts, listed, a, hk, hB, h => by
    simp only [takesB, Bool.and_eq_true] at hB
    obtain ⟨⟨⟨hr, hf⟩, hv⟩, hB'⟩ := hB
    cases h0 : ops[k]? with
    | none => rw [h0] at hv; cases hv
    | some o =>
      rw [h0] at hv
      simp only [Option.map_some, Option.getD_some] at hv
      obtain ⟨v, hy, hK⟩ := yieldsIn_of_qOp h0 h.2
      have hyf : YieldsIf P ops C o v a := by
        unfold yieldB at hv
        cases hvo : valueOp o.op with
        | true => exact yieldsIf_of_in hvo hy
        | false =>
          rw [hvo, Bool.false_or] at hv
          split at hv
          · rename_i x hx
            obtain ⟨p, hp⟩ := h.1 o h0 x hx
            exact nil_yields hx hp hy
          · cases hv
      have ih := wpAnyU_takes hw hs hQ hL hwt fuel ts (listed.setIfInBounds k true) (a.put o.dst v) (fun j hj => hk j (List.mem_cons_of_mem _ hj)) hB' hK
      refine wpAnyU_first h0 (Region.noSelect_spec hs) (fun c a w => hQ c a _ _ w) hL (fun om hom => ?_) (fuel + ts.length) listed a w (Region.free_spec h0 hf) (by simpa using hr) hyf hw ih
      unfold qfe at hwt
      rw [List.all_eq_true] at hwt
      have := hwt k (List.mem_range.2 (hk k (List.mem_cons_self ..)))
      rw [hom] at this
      simp only [Array.any_eq_true', Bool.and_eq_true, beq_iff_eq] at this
      obtain ⟨e, he, hb, heq⟩ := this
      exact ⟨e, he, hb, heq⟩
theorem wpAnyU_one {R : Act → World → Prop} {L listed : Array Bool} {fuel i : Nat} {o : Oper} {a : Act} {w : World} (hr : Region.ready md ops listed = [i]) (ho : ops[i]? = some o) (hg : o.guard = none)
    (h : ∀ K : Act → World → Prop, Hid (∀ a' w', C w' → qhb P md ops Q C L R fuel (listed.setIfInBounds i true) a' w' → K a' w') → wpList P ops (Exit.then K Q) [o] a w) : qhb P md ops Q C L R (fuel + 1) listed a w := by
  refine ⟨by rw [hr]; simp, fun j hj => ?_⟩
  rw [hr] at hj
  simp only [List.mem_singleton] at hj
  subst hj
  have h1 := h (fun a' w' => C w' ∧ qhb P md ops Q C L R fuel (listed.setIfInBounds j true) a' w') (fun a' w' h1 h2 => ⟨h1, h2⟩)
  have hw : Region.wanted o (yielded ops a.tmps) = true := by simp [Region.wanted, hg]
  unfold wpOp
  simp only [ho]
  unfold wpList at h1
  rw [if_pos hw] at h1 ⊢
  exact h1
theorem wpAnyU_two {R : Act → World → Prop} {L listed : Array Bool} {fuel i j : Nat} {o p : Oper} {a : Act} {w : World} (hr : Region.ready md ops listed = [i, j]) (ho : ops[i]? = some o) (hp : ops[j]? = some p) (hg : o.guard = none) (hgp : p.guard = none)
    (h : ∀ K : Act → World → Prop, Hid (∀ a' w', C w' → qhb P md ops Q C L R fuel (listed.setIfInBounds i true) a' w' → K a' w') → wpList P ops (Exit.then K Q) [o] a w)
    (h' : ∀ K : Act → World → Prop, Hid (∀ a' w', C w' → qhb P md ops Q C L R fuel (listed.setIfInBounds j true) a' w' → K a' w') → wpList P ops (Exit.then K Q) [p] a w) : qhb P md ops Q C L R (fuel + 1) listed a w := by
  refine ⟨by rw [hr]; simp, fun k hk => ?_⟩
  rw [hr] at hk
  simp only [List.mem_cons, List.not_mem_nil, or_false] at hk
  rcases hk with hk | hk
  · subst hk
    have h1 := h (fun a' w' => C w' ∧ qhb P md ops Q C L R fuel (listed.setIfInBounds k true) a' w') (fun a' w' h1 h2 => ⟨h1, h2⟩)
    have hw : Region.wanted o (yielded ops a.tmps) = true := by simp [Region.wanted, hg]
    unfold wpOp
    simp only [ho]
    unfold wpList at h1
    rw [if_pos hw] at h1 ⊢
    exact h1
  · subst hk
    have h1 := h' (fun a' w' => C w' ∧ qhb P md ops Q C L R fuel (listed.setIfInBounds k true) a' w') (fun a' w' h1 h2 => ⟨h1, h2⟩)
    have hw : Region.wanted p (yielded ops a.tmps) = true := by simp [Region.wanted, hgp]
    unfold wpOp
    simp only [hp]
    unfold wpList at h1
    rw [if_pos hw] at h1 ⊢
    exact h1
def pickB (ops : Array Oper) (ts : List Nat) (m : Nat) : Bool :=
  let L := (Array.range ops.size).map fun i => decide (i < m)
  Region.noSelect ops && (Region.ready .any ops L).all (· == m) && qfe .any ops m && takesB .any ops ts (Array.replicate ops.size false) && forcedB .any ops (ops.size - m) m L && ts.all (fun k => decide (k < m))
theorem qha {id : Nat} {a : Act} {w : World} {l : List Oper} (C : World → Prop) (ts : List Nat) (m fuel : Nat) (hm : P.follows .mixedOrders = true) (hml : m ≤ l.length) (hf : fuel + ts.length = m) (hB : pickB l.toArray ts m = true) (hQ : ∀ c a d v w, Q (.panic c) (Act.put a d v) w → Q (.panic c) a w) (hC : C w.drew)
    (h : wpTakes P l.toArray C (fun a' => qhb P .any l.toArray Q C ((Array.range l.toArray.size).map fun i => decide (i < m)) (fun a'' w'' => wpList P l.toArray Q (l.drop m) a'' w'') fuel (takesL ts (Array.replicate l.toArray.size false)) a' w.drew) ts a) : (Code.region id l.toArray true).wp P Q a w := by
  simp only [pickB, Bool.and_eq_true] at hB
  obtain ⟨⟨⟨⟨⟨h1, h2⟩, h3⟩, h4⟩, h5⟩, h6⟩ := hB
  refine wp_region_any hm ?_
  have hdrop : (l.drop m).length = l.length - m := by simp
  have hT := wpAnyU_takes (P := P) (Q := Q) (C := C) (md := .any) hC h1 hQ (fun j hj => by
    rw [List.all_eq_true] at h2
    simpa using h2 j hj) h3 fuel ts (Array.replicate l.toArray.size false) a (fun k hk => by
      rw [List.all_eq_true] at h6
      simpa using h6 k hk) h4 h
  have := wpAny_of_U (Q := Q) (f := (l.drop m).length) (fun a' w' hR => wpAny_forced (md := .any) (l.drop m) m _ a' w' (fun j hj => by simp) (by rw [hdrop]; simpa using h5) hR) _ _ a _ hT
  have e : (l.drop m).length + (fuel + ts.length) = l.toArray.size := by simp; omega
  rw [e] at this
  exact this
end
end Go.Proofs.YtpjpheicldegkaaGreatDoor

namespace Go.Proofs.YtpjpheicldegkaaGreatDoor
open Go Go.RowKit

theorem qic {n : Nat} (hn : n ≤ 1000000) : (varI n).length ≤ 3 := by
  by_cases h1 : 127 < n
  · rw [qsb h1]
    by_cases h2 : 127 < n / 128
    · rw [qsb h2, qcb (show ¬ 127 < n / 128 / 128 by omega)]
      simp
    · rw [qcb h2]; simp
  · rw [qcb h1]; simp
def okX (i t k : Int) (d : ByteArray) : Bool := decide (1 ≤ i) && decide (i ≤ 1000000) && okE t k d
def rawE (p q : ByteArray) (k : Int) (d : ByteArray) : ByteArray := (⟨#[69]⟩ : ByteArray) ++ p ++ q ++ bstr [k] ++ d
def textE (i t k : Int) (d : ByteArray) : ByteArray := rawE (bstr (varI i.toNat)) (bstr (varI t.toNat)) k d
def textX (i t k : Int) (d : ByteArray) : ByteArray := if okX i t k d then textE i t k d else ByteArray.empty
def valX (i t k : Int) (d : ByteArray) : Value := .tuple #[.string (textX i t k d), .bool (okX i t k d)]
theorem valX_no {i t k : Int} {d : ByteArray} (h : okX i t k d = false) : valX i t k d = .tuple #[.string ByteArray.empty, .bool false] := by simp [valX, textX, h]
theorem valX_yes {i t k : Int} {d : ByteArray} (h : okX i t k d = true) : valX i t k d = .tuple #[.string (textE i t k d), .bool true] := by simp [valX, textX, h]
theorem kindOk_out {k : Int} {d : ByteArray} (h : kindOk k d = true) : (k = 1 ∨ k = 2 ∨ k = 3) ∧ d.size ≤ 640 := by
  unfold kindOk at h
  split at h
  · rename_i h1
    refine ⟨.inl h1, ?_⟩
    have e : d.toList = [] := by simpa using h
    have : d.size = 0 := by
      rw [ByteArray.toList_eq] at e
      have := congrArg List.length e
      simpa using this
    omega
  · split at h
    · rename_i h1
      refine ⟨.inr (.inl h1), ?_⟩
      have := okC_len h
      rw [qjc] at this
      omega
    · split at h
      · rename_i h1
        exact ⟨.inr (.inr h1), by have := of_decide_eq_true h; omega⟩
      · cases h
theorem okX_out {i t k : Int} {d : ByteArray} (h : okX i t k d = true) : 1 ≤ i ∧ i ≤ 1000000 ∧ 0 ≤ t ∧ t ≤ 100000 ∧ (k = 1 ∨ k = 2 ∨ k = 3) ∧ d.size ≤ 640 ∧ okE t k d = true := by
  unfold okX at h
  simp only [Bool.and_eq_true, decide_eq_true_eq] at h
  have h2 := h.2
  unfold okE at h2
  simp only [Bool.and_eq_true, decide_eq_true_eq] at h2
  obtain ⟨h3, h4⟩ := kindOk_out h2.2
  exact ⟨h.1.1, h.1.2, h2.1.1, h2.1.2, h3, h4, h.2⟩
section
variable {p q d : ByteArray} {k : Int} (hp : p.size ≤ 3) (hq : q.size ≤ 3) (hd : d.size ≤ 640)
include hp in
theorem add1 (wx : World) : (Op.stringOp .add ⟨#[69]⟩ p).run Tryz.prog wx = .ok (.string ((⟨#[69]⟩ : ByteArray) ++ p)) wx :=
  run_string_add_sum wx _ _ (by have : (⟨#[69]⟩ : ByteArray).size = 1 := rfl; omega)
include hp hq in
theorem add2 (wx : World) : (Op.stringOp .add ((⟨#[69]⟩ : ByteArray) ++ p) q).run Tryz.prog wx = .ok (.string ((⟨#[69]⟩ : ByteArray) ++ p ++ q)) wx :=
  run_string_add_sum wx _ _ (by have : (⟨#[69]⟩ : ByteArray).size = 1 := rfl; rw [ByteArray.size_append]; omega)
include hp hq in
theorem add3 (wx : World) : (Op.stringOp .add ((⟨#[69]⟩ : ByteArray) ++ p ++ q) (bstr [k])).run Tryz.prog wx = .ok (.string ((⟨#[69]⟩ : ByteArray) ++ p ++ q ++ bstr [k])) wx :=
  run_string_add_sum wx _ _ (by have : (⟨#[69]⟩ : ByteArray).size = 1 := rfl; rw [ByteArray.size_append, ByteArray.size_append, qra]; simp; omega)
include hp hq hd in
theorem add4 (wx : World) : (Op.stringOp .add ((⟨#[69]⟩ : ByteArray) ++ p ++ q ++ bstr [k]) d).run Tryz.prog wx = .ok (.string (rawE p q k d)) wx :=
  run_string_add_sum wx _ _ (by have : (⟨#[69]⟩ : ByteArray).size = 1 := rfl; rw [ByteArray.size_append, ByteArray.size_append, ByteArray.size_append, qra]; simp; omega)
end

theorem kind_1 (d : ByteArray) (w : World) : Calls Tryz.prog 160 #[.string d] w fun e w' => e = .returned (.int .u8 1) ∧ w' = w := by
  go_enter Tryz.func160, Tryz.ntmps160
  go_wp2
  go_ret
  exact ⟨rfl, rfl⟩
theorem kind_2 (d : ByteArray) (w : World) : Calls Tryz.prog 161 #[.string d] w fun e w' => e = .returned (.int .u8 2) ∧ w' = w := by
  go_enter Tryz.func161, Tryz.ntmps161
  go_wp2
  go_ret
  exact ⟨rfl, rfl⟩
theorem kind_3 (d : ByteArray) (w : World) : Calls Tryz.prog 162 #[.string d] w fun e w' => e = .returned (.int .u8 3) ∧ w' = w := by
  go_enter Tryz.func162, Tryz.ntmps162
  go_wp2
  go_ret
  exact ⟨rfl, rfl⟩
set_option maxHeartbeats 1000000 in
theorem entryText_1 (i t : Nat) (d : ByteArray) (w : World) (h1 : 1 ≤ i) (h2 : i ≤ 1000000) (h3 : t ≤ 100000) (hd : d.size ≤ 640) (hk : okE t 1 d = true) :
    Calls Tryz.prog 49 #[.int .i64 i, .agg #[.int .i64 t, .int .i64 1, .string d]] w fun e w' => e = .returned (.tuple #[.string (rawE (bstr (varI i)) (bstr (varI t)) 1 d), .bool true]) ∧ Below w.heap.size w w' := by
  have k1 : ¬ (i : Int) < 1 := by omega
  have k2 : ¬ 1000000 < (i : Int) := by omega
  have hs1 : (bstr (varI i)).size ≤ 3 := by rw [qra]; exact qic h2
  have hs2 : (bstr (varI t)).size ≤ 3 := by rw [qra]; exact qic (by omega)
  have H0 : Hid (∀ w, Calls Tryz.prog 75 #[.agg #[.int .i64 t, .int .i64 1, .string d]] w fun e w' => e = .returned (.bool true) ∧ Below w.heap.size w w') := by
    intro w; rw [← hk]; exact qzc t 1 d w (by unfold maxLen; omega)
  have H1 : Hid (∀ w, Calls Tryz.prog 47 #[.int .i64 i] w fun e w' => e = .returned (.tuple #[.string (bstr (varI i)), .bool true]) ∧ Below w.heap.size w w') := fun w => qdd i w (by omega)
  have H2 : Hid (∀ w, Calls Tryz.prog 47 #[.int .i64 t] w fun e w' => e = .returned (.tuple #[.string (bstr (varI t)), .bool true]) ∧ Below w.heap.size w w') := fun w => qdd t w (by omega)
  generalize bstr (varI i) = p at *
  generalize bstr (varI t) = q at *
  have a1 := add1 hs1
  have a2 := add2 hs1 hs2
  have a3 := add3 (k := 1) hs1 hs2
  have a4 := add4 (k := 1) hs1 hs2 hd
  clear hk hs1 hs2
  go_enter Tryz.func49, Tryz.ntmps49
  go_wp2_with fail
  refine (H0.out _).mono ?_
  rintro e w1 ⟨rfl, hb1⟩
  have B1 := qma hb1
  have c1 : w1.cell? ⟨w.heap.size, 0, none⟩ = some (.int .i64 t) := (hb1.cell (by simp)).trans (by simp [go_sem])
  have c2 : w1.cell? ⟨w.heap.size, 1, none⟩ = some (.int .i64 1) := (hb1.cell (by simp)).trans (by simp [go_sem])
  have c3 : w1.cell? ⟨w.heap.size, 2, none⟩ = some (.string d) := (hb1.cell (by simp)).trans (by simp [go_sem])
  clear hb1
  go_wp2_with fail
  refine (H1.out _).mono ?_
  rintro e w2 ⟨rfl, hb2⟩
  have B2 := Below.on B1 hb2
  have d1 := qia hb2 c1
  have d2 := qia hb2 c2
  have d3 := qia hb2 c3
  clear hb2 B1 c1 c2 c3
  go_wp2_with fail
  refine (H2.out _).mono ?_
  rintro e w3 ⟨rfl, hb3⟩
  have B3 := Below.on B2 hb3
  have e1 := qia hb3 d1
  have e2 := qia hb3 d2
  have e3 := qia hb3 d3
  clear hb3 B2 d1 d2 d3
  go_wp2_with fail
  refine (qee t 1 d _).mono ?_
  rintro e w4 ⟨rfl, hb4⟩
  have B4 := Below.on B3 hb4
  have g3 := qia hb4 e3
  clear hb4 B3 e1 e2 e3
  rw [show contV 1 d = .iface 143 (.string d) from rfl]
  have hlt : w.heap.size < w4.heap.size := World.block_lt_of_cell? w4 _ g3
  have hcv := qcc w4 1
  go_wp2_with fail
  refine (kind_1 d _).mono ?_
  rintro e w5 ⟨rfl, hw⟩
  have hw2 := hw.symm
  subst hw2
  clear hw
  go_wp2
  go_ret2
  exact ⟨rfl, ba B4 _⟩
set_option maxHeartbeats 1000000 in
theorem entryText_2 (i t : Nat) (d : ByteArray) (w : World) (h1 : 1 ≤ i) (h2 : i ≤ 1000000) (h3 : t ≤ 100000) (hd : d.size ≤ 640) (hk : okE t 2 d = true) :
    Calls Tryz.prog 49 #[.int .i64 i, .agg #[.int .i64 t, .int .i64 2, .string d]] w fun e w' => e = .returned (.tuple #[.string (rawE (bstr (varI i)) (bstr (varI t)) 2 d), .bool true]) ∧ Below w.heap.size w w' := by
  have k1 : ¬ (i : Int) < 1 := by omega
  have k2 : ¬ 1000000 < (i : Int) := by omega
  have hs1 : (bstr (varI i)).size ≤ 3 := by rw [qra]; exact qic h2
  have hs2 : (bstr (varI t)).size ≤ 3 := by rw [qra]; exact qic (by omega)
  have H0 : Hid (∀ w, Calls Tryz.prog 75 #[.agg #[.int .i64 t, .int .i64 2, .string d]] w fun e w' => e = .returned (.bool true) ∧ Below w.heap.size w w') := by
    intro w; rw [← hk]; exact qzc t 2 d w (by unfold maxLen; omega)
  have H1 : Hid (∀ w, Calls Tryz.prog 47 #[.int .i64 i] w fun e w' => e = .returned (.tuple #[.string (bstr (varI i)), .bool true]) ∧ Below w.heap.size w w') := fun w => qdd i w (by omega)
  have H2 : Hid (∀ w, Calls Tryz.prog 47 #[.int .i64 t] w fun e w' => e = .returned (.tuple #[.string (bstr (varI t)), .bool true]) ∧ Below w.heap.size w w') := fun w => qdd t w (by omega)
  generalize bstr (varI i) = p at *
  generalize bstr (varI t) = q at *
  have a1 := add1 hs1
  have a2 := add2 hs1 hs2
  have a3 := add3 (k := 2) hs1 hs2
  have a4 := add4 (k := 2) hs1 hs2 hd
  clear hk hs1 hs2
  go_enter Tryz.func49, Tryz.ntmps49
  go_wp2_with fail
  refine (H0.out _).mono ?_
  rintro e w1 ⟨rfl, hb1⟩
  have B1 := qma hb1
  have c1 : w1.cell? ⟨w.heap.size, 0, none⟩ = some (.int .i64 t) := (hb1.cell (by simp)).trans (by simp [go_sem])
  have c2 : w1.cell? ⟨w.heap.size, 1, none⟩ = some (.int .i64 2) := (hb1.cell (by simp)).trans (by simp [go_sem])
  have c3 : w1.cell? ⟨w.heap.size, 2, none⟩ = some (.string d) := (hb1.cell (by simp)).trans (by simp [go_sem])
  clear hb1
  go_wp2_with fail
  refine (H1.out _).mono ?_
  rintro e w2 ⟨rfl, hb2⟩
  have B2 := Below.on B1 hb2
  have d1 := qia hb2 c1
  have d2 := qia hb2 c2
  have d3 := qia hb2 c3
  clear hb2 B1 c1 c2 c3
  go_wp2_with fail
  refine (H2.out _).mono ?_
  rintro e w3 ⟨rfl, hb3⟩
  have B3 := Below.on B2 hb3
  have e1 := qia hb3 d1
  have e2 := qia hb3 d2
  have e3 := qia hb3 d3
  clear hb3 B2 d1 d2 d3
  go_wp2_with fail
  refine (qee t 2 d _).mono ?_
  rintro e w4 ⟨rfl, hb4⟩
  have B4 := Below.on B3 hb4
  have g3 := qia hb4 e3
  clear hb4 B3 e1 e2 e3
  rw [show contV 2 d = .iface 144 (.string d) from rfl]
  have hlt : w.heap.size < w4.heap.size := World.block_lt_of_cell? w4 _ g3
  have hcv := qcc w4 2
  go_wp2_with fail
  refine (kind_2 d _).mono ?_
  rintro e w5 ⟨rfl, hw⟩
  have hw2 := hw.symm
  subst hw2
  clear hw
  go_wp2
  go_ret2
  exact ⟨rfl, ba B4 _⟩
set_option maxHeartbeats 1000000 in
theorem entryText_3 (i t : Nat) (d : ByteArray) (w : World) (h1 : 1 ≤ i) (h2 : i ≤ 1000000) (h3 : t ≤ 100000) (hd : d.size ≤ 640) (hk : okE t 3 d = true) :
    Calls Tryz.prog 49 #[.int .i64 i, .agg #[.int .i64 t, .int .i64 3, .string d]] w fun e w' => e = .returned (.tuple #[.string (rawE (bstr (varI i)) (bstr (varI t)) 3 d), .bool true]) ∧ Below w.heap.size w w' := by
  have k1 : ¬ (i : Int) < 1 := by omega
  have k2 : ¬ 1000000 < (i : Int) := by omega
  have hs1 : (bstr (varI i)).size ≤ 3 := by rw [qra]; exact qic h2
  have hs2 : (bstr (varI t)).size ≤ 3 := by rw [qra]; exact qic (by omega)
  have H0 : Hid (∀ w, Calls Tryz.prog 75 #[.agg #[.int .i64 t, .int .i64 3, .string d]] w fun e w' => e = .returned (.bool true) ∧ Below w.heap.size w w') := by
    intro w; rw [← hk]; exact qzc t 3 d w (by unfold maxLen; omega)
  have H1 : Hid (∀ w, Calls Tryz.prog 47 #[.int .i64 i] w fun e w' => e = .returned (.tuple #[.string (bstr (varI i)), .bool true]) ∧ Below w.heap.size w w') := fun w => qdd i w (by omega)
  have H2 : Hid (∀ w, Calls Tryz.prog 47 #[.int .i64 t] w fun e w' => e = .returned (.tuple #[.string (bstr (varI t)), .bool true]) ∧ Below w.heap.size w w') := fun w => qdd t w (by omega)
  generalize bstr (varI i) = p at *
  generalize bstr (varI t) = q at *
  have a1 := add1 hs1
  have a2 := add2 hs1 hs2
  have a3 := add3 (k := 3) hs1 hs2
  have a4 := add4 (k := 3) hs1 hs2 hd
  clear hk hs1 hs2
  go_enter Tryz.func49, Tryz.ntmps49
  go_wp2_with fail
  refine (H0.out _).mono ?_
  rintro e w1 ⟨rfl, hb1⟩
  have B1 := qma hb1
  have c1 : w1.cell? ⟨w.heap.size, 0, none⟩ = some (.int .i64 t) := (hb1.cell (by simp)).trans (by simp [go_sem])
  have c2 : w1.cell? ⟨w.heap.size, 1, none⟩ = some (.int .i64 3) := (hb1.cell (by simp)).trans (by simp [go_sem])
  have c3 : w1.cell? ⟨w.heap.size, 2, none⟩ = some (.string d) := (hb1.cell (by simp)).trans (by simp [go_sem])
  clear hb1
  go_wp2_with fail
  refine (H1.out _).mono ?_
  rintro e w2 ⟨rfl, hb2⟩
  have B2 := Below.on B1 hb2
  have d1 := qia hb2 c1
  have d2 := qia hb2 c2
  have d3 := qia hb2 c3
  clear hb2 B1 c1 c2 c3
  go_wp2_with fail
  refine (H2.out _).mono ?_
  rintro e w3 ⟨rfl, hb3⟩
  have B3 := Below.on B2 hb3
  have e1 := qia hb3 d1
  have e2 := qia hb3 d2
  have e3 := qia hb3 d3
  clear hb3 B2 d1 d2 d3
  go_wp2_with fail
  refine (qee t 3 d _).mono ?_
  rintro e w4 ⟨rfl, hb4⟩
  have B4 := Below.on B3 hb4
  have g3 := qia hb4 e3
  clear hb4 B3 e1 e2 e3
  rw [show contV 3 d = .iface 145 (.string d) from rfl]
  have hlt : w.heap.size < w4.heap.size := World.block_lt_of_cell? w4 _ g3
  have hcv := qcc w4 3
  go_wp2_with fail
  refine (kind_3 d _).mono ?_
  rintro e w5 ⟨rfl, hw⟩
  have hw2 := hw.symm
  subst hw2
  clear hw
  go_wp2
  go_ret2
  exact ⟨rfl, ba B4 _⟩

set_option maxHeartbeats 1000000 in
theorem entryText_any (i t k : Int) (d : ByteArray) (w : World) (hd : d.size ≤ maxLen) :
    Calls Tryz.prog 49 #[.int .i64 i, .agg #[.int .i64 t, .int .i64 k, .string d]] w fun e w' => e = .returned (valX i t k d) ∧ Below w.heap.size w w' := by
  cases hx : okX i t k d with
  | true =>
    rw [valX_yes hx]
    obtain ⟨h1, h2, h3, h4, h5, h6, h7⟩ := okX_out hx
    obtain ⟨a, rfl⟩ := Int.eq_ofNat_of_zero_le (show 0 ≤ i by omega)
    obtain ⟨b, rfl⟩ := Int.eq_ofNat_of_zero_le h3
    rcases h5 with rfl | rfl | rfl
    · exact entryText_1 a b d w (by omega) (by omega) (by omega) h6 h7
    · exact entryText_2 a b d w (by omega) (by omega) (by omega) h6 h7
    · exact entryText_3 a b d w (by omega) (by omega) (by omega) h6 h7
  | false =>
    rw [valX_no hx]
    by_cases k1 : i < 1
    · clear hx
      go_enter Tryz.func49, Tryz.ntmps49
      go_wp2
      go_ret2
      exact ⟨rfl, ba (Below.refl _ _) _⟩
    · by_cases k2 : 1000000 < i
      · clear hx
        go_enter Tryz.func49, Tryz.ntmps49
        go_wp2
        go_ret2
        exact ⟨rfl, ba (Below.refl _ _) _⟩
      · have he : okE t k d = false := by
          unfold okX at hx
          rw [decide_eq_true (show 1 ≤ i by omega), decide_eq_true (show i ≤ 1000000 by omega)] at hx
          simpa using hx
        have H0 : Hid (∀ w, Calls Tryz.prog 75 #[.agg #[.int .i64 t, .int .i64 k, .string d]] w fun e w' => e = .returned (.bool false) ∧ Below w.heap.size w w') := by
          intro w; rw [← he]; exact qzc t k d w hd
        clear hx he
        go_enter Tryz.func49, Tryz.ntmps49
        go_wp2_with (go_at_call 75; refine (H0.out _).mono ?_; rintro e w1 ⟨rfl, hb1⟩)
        go_ret2
        exact ⟨rfl, qma hb1⟩
end Go.Proofs.YtpjpheicldegkaaGreatDoor

namespace Go.Proofs.YtpjpheicldegkaaGreatDoor
open Go Go.RowKit

set_option maxHeartbeats 1000000 in
theorem specEntryText_bad (i t k : Int) (d : ByteArray) (w : World) (hd : d.size ≤ maxLen) (hx : okX i t k d = false) :
    Calls Tryz.prog 64 #[.int .i64 i, .agg #[.int .i64 t, .int .i64 k, .string d]] w fun e w' => e = .returned (.tuple #[.string ByteArray.empty, .bool false]) ∧ Below w.heap.size w w' := by
  have H0 := fun w => qhd t k d w hd
  cases he : okE t k d with
  | false =>
    rw [he] at H0
    have H0 : Hid (∀ w, Calls Tryz.prog 25 #[.agg #[.int .i64 t, .int .i64 k, .string d]] w fun e w' => e = .returned (.bool false) ∧ Below w.heap.size w w') := H0
    clear he hx
    go_enter Tryz.func64, Tryz.ntmps64
    go_wp2_with (go_at_call 25; refine (H0.out _).mono ?_; rintro e w1 ⟨rfl, hb1⟩)
    go_ret2
    exact ⟨rfl, qma hb1⟩
  | true =>
    rw [he] at H0
    have H0 : Hid (∀ w, Calls Tryz.prog 25 #[.agg #[.int .i64 t, .int .i64 k, .string d]] w fun e w' => e = .returned (.bool true) ∧ Below w.heap.size w w') := H0
    have hv : (decide ((1 : Int) ≤ i) && decide (i ≤ 1000000)) = false := by
      unfold okX at hx
      rw [he] at hx
      simpa using hx
    clear he hx
    go_enter Tryz.func64, Tryz.ntmps64
    go_wp2_with (first | (go_at_call 25; refine (H0.out _).mono ?_; rintro e w1 ⟨rfl, hb1⟩) | (go_at_call 24; refine (qub _ _ _ _).mono ?_; rintro e w2 ⟨rfl, hw⟩; have hw2 := hw.symm; subst hw2; rw [hv]))
    go_ret2
    exact ⟨rfl, qma hb1⟩
end Go.Proofs.YtpjpheicldegkaaGreatDoor

namespace Go.Proofs.YtpjpheicldegkaaGreatDoor
open Go Go.RowKit

theorem qea {P : Program} {l : List Oper} {C : World → Prop} {K : Act → Prop} {k : Nat} {ts : List Nat} {a : Act} {o : Oper} (ho : l[k]? = some o) (hn : ∀ x, o.op = .nilCheck x → ∃ p, a.eval x = .pointer (some p)) (h : wpQuiet P l.toArray C (wpTakes P l.toArray C K ts) [o] a) : wpTakes P l.toArray C K (k :: ts) a := by
  refine ⟨fun o' ho' => ?_, ?_⟩
  · have : o' = o := Option.some.inj (ho'.symm.trans (by simpa using ho))
    subst this
    exact hn
  · have ho2 : l.toArray[k]? = some o := by simpa using ho
    unfold qOp
    simp only [ho2]
    exact h
theorem qda {P : Program} {ops : Array Oper} {C : World → Prop} {K : Act → Prop} {a : Act} (h : K a) : wpTakes P ops C K [] a := h
theorem qfa {P : Program} {l : List Oper} {Q : Exit → Act → World → Prop} {C : World → Prop} {R : Act → World → Prop} {L listed : Array Bool} {fuel i : Nat} {o : Oper} {a : Act} {w : World} (hr : Region.ready .any l.toArray listed = [i]) (ho : l[i]? = some o) (hg : o.guard = none)
    (h : ∀ K : Act → World → Prop, Hid (∀ a' w', C w' → qhb P .any l.toArray Q C L R fuel (listed.setIfInBounds i true) a' w' → K a' w') → wpList P l.toArray (Exit.then K Q) [o] a w) : qhb P .any l.toArray Q C L R (fuel + 1) listed a w := wpAnyU_one hr (by simpa using ho) hg h
theorem qoa {P : Program} {ops : Array Oper} {md : Region.Mode} {Q : Exit → Act → World → Prop} {C : World → Prop} {R : Act → World → Prop} {L listed : Array Bool} {a : Act} {w : World} (hl : listed = L) (h : R a w) : qhb P md ops Q C L R 0 listed a w := ⟨hl, h⟩
end Go.Proofs.YtpjpheicldegkaaGreatDoor
