/-
  The text of a snapshot, as the specification writes it: the walks. Numbers marked one by one, and looked at again: the walks; the law on a conf that is read from its text. Arguments that are rows of records, opened. Over any program. Numbers that came in as an argument, opened. Snapshots: the law's helpers on them (sizes, copies, held against each other, marked): the walks. What is read of a snapshot's text: plain facts.
-/
import Derived.Test.YtingfgbcinlflaaGreatDoorMZ1
import Derived.Test.YtingfgbcinlflaaGreatDoorRcs
import Derived.Test.YtingfgbcinlflaaGreatDoorRec
import Derived.Deep.Slices
import Derived.Deep.Strs
import Derived.ProofKit
import Derived.OpenShut
import Derived.Test.YtingfgbcinlflaaGreatDoorRi
import Derived.Test.YtingfgbcinlflaaGreatDoorRea
namespace Go.Proofs.YtingfgbcinlflaaGreatDoor
open Go Go.RowKit

set_option maxHeartbeats 400000 in
theorem l05Short_any (s : ByteArray) (w : World) (hs : s.size ≤ 1048576) :
    Calls Tryz.prog 62 #[.string s] w fun e w' => e = .returned (.string (shT s)) ∧ Below w.heap.size w w' := by
  have hadd : ∀ wx, (Op.stringOp .add (bstr (varI s.size)) s).run Tryz.prog wx = .ok (.string (shT s)) wx := fun wx => run_string_add_sum wx _ s (by
    have hl := (varI_len5 (n := s.size) (by omega)).2
    have hb := bstr_size (varI s.size)
    omega)
  go_enter Tryz.func62, Tryz.ntmps62
  go_wp2_with (go_at_call 61; refine (l01Var_any _ _ (by omega)).mono ?_; rintro e w1 ⟨rfl, hb1⟩)
  go_ret
  exact ⟨rfl, hb1⟩

set_option maxRecDepth 10000 in
set_option maxHeartbeats 2000000 in
theorem specSnapText_no (i t : Int) (ao : Option Addr) (n cap : Nat) (l : List Int) (u b : ByteArray) (k p q : Bool) (w : World) (hr : Reads w (.slice ao n cap) l) (hn : l.length ≤ 1048577) (hb : b.size ≤ 1048576)
    (HT : Hid (textV l = .tuple #[.string u, .bool k]))
    (CI : Hid (∀ w, Calls Tryz.prog 38 #[.int .i64 i, .int .i64 0, .int .i64 1000000] w fun e w' => e = .returned (.bool p) ∧ w' = w))
    (CT : Hid (∀ w, Calls Tryz.prog 38 #[.int .i64 t, .int .i64 0, .int .i64 100000] w fun e w' => e = .returned (.bool q) ∧ w' = w))
    (hz : k = false ∨ p = false ∨ q = false ∨ 20000 < b.size) :
    Calls Tryz.prog 45 #[.agg #[.int .i64 i, .int .i64 t, .slice ao n cap, .string b]] w fun e w' => e = .returned (.tuple #[.string ByteArray.empty, .bool false]) ∧ Below w.heap.size w w' := by
  have HR : Hid (Reads w (.slice ao n cap) l) := hr
  have HL : Hid (l.length ≤ 1048577) := hn
  clear hr hn
  go_enter Tryz.func45, Tryz.ntmps45
  go_wp2_with fail
  refine Calls.mono (specConfText_any (HR.out.below (ba (Below.refl _ _) _)) HL.out) ?_
  rintro e w1 ⟨rfl, hb1⟩
  obtain ⟨c0, c1, c2, c3⟩ := sb_cells (blk_on hb1)
  have B1 := below_new hb1
  clear hb1
  rw [HT.out]
  cases k with
  | false =>
    clear hz
    go_wp2
    go_ret2
    exact ⟨rfl, B1⟩
  | true =>
    cases p with
    | false =>
      clear hz
      go_wp2_with (first | (go_at_call 38; with_reducible refine Calls.mono (CI.out _) ?_; rintro e w' ⟨rfl, hw⟩; have hw2 := hw.symm; subst hw2; clear hw) | (go_at_call 38; with_reducible refine Calls.mono (CT.out _) ?_; rintro e w' ⟨rfl, hw⟩; have hw2 := hw.symm; subst hw2; clear hw))
      go_ret2
      exact ⟨rfl, B1⟩
    | true =>
      cases q with
      | false =>
        clear hz
        go_wp2_with (first | (go_at_call 38; with_reducible refine Calls.mono (CI.out _) ?_; rintro e w' ⟨rfl, hw⟩; have hw2 := hw.symm; subst hw2; clear hw) | (go_at_call 38; with_reducible refine Calls.mono (CT.out _) ?_; rintro e w' ⟨rfl, hw⟩; have hw2 := hw.symm; subst hw2; clear hw))
        go_ret2
        exact ⟨rfl, B1⟩
      | true =>
        have hz2 : 20000 < b.size := by simpa using hz
        clear hz
        go_wp2_with (first | (go_at_call 38; with_reducible refine Calls.mono (CI.out _) ?_; rintro e w' ⟨rfl, hw⟩; have hw2 := hw.symm; subst hw2; clear hw) | (go_at_call 38; with_reducible refine Calls.mono (CT.out _) ?_; rintro e w' ⟨rfl, hw⟩; have hw2 := hw.symm; subst hw2; clear hw))
        go_ret2
        exact ⟨rfl, B1⟩

set_option maxRecDepth 10000 in
set_option maxHeartbeats 2000000 in
theorem specSnapText_go (I T : Nat) (ao : Option Addr) (n cap : Nat) (l : List Int) (b : ByteArray) (w : World) (hr : Reads w (.slice ao n cap) l) (hn : l.length ≤ 1048577) (hb : b.size ≤ 20000) (hI : I ≤ 1000000) (hT : T ≤ 100000)
    (hk : okC l = true) (hsz : (snT I T l b).size ≤ 20024) :
    Calls Tryz.prog 45 #[.agg #[.int .i64 I, .int .i64 T, .slice ao n cap, .string b]] w fun e w' => e = .returned (if (snT I T l b).size + 4 ≤ 20000 then .tuple #[.string (sealT (snT I T l b)), .bool true] else .tuple #[.string ByteArray.empty, .bool false]) ∧ Below w.heap.size w w' := by
  obtain ⟨z1, z2, z3, z4⟩ := snT_size (i := I) (t := T) (l := l) (b := b) (by omega) (by omega) (okC_len hk) hb
  have h0 : ∀ wx, (Op.stringOp .add (bstr (varI I)) (bstr (varI T))).run Tryz.prog wx = .ok (.string (bstr (varI I) ++ bstr (varI T))) wx := fun wx => by
    rw [run_string_add_sum wx _ _ (by omega)]
  have h1 : ∀ wx, (Op.stringOp .add (bstr (varI I) ++ bstr (varI T)) (shT (bstr l))).run Tryz.prog wx = .ok (.string (bstr (varI I) ++ bstr (varI T) ++ shT (bstr l))) wx := fun wx => by
    rw [run_string_add_sum wx _ _ (by rw [ByteArray.size_append]; omega)]
  have h2 : ∀ wx, (Op.stringOp .add (bstr (varI I) ++ bstr (varI T) ++ shT (bstr l)) (shT b)).run Tryz.prog wx = .ok (.string (snT I T l b)) wx := fun wx => by
    rw [run_string_add_sum wx _ _ (by rw [ByteArray.size_append, ByteArray.size_append]; omega)]
    rfl
  clear z1 z2 z3 z4
  have HT : Hid (textV l = .tuple #[.string (bstr l), .bool true]) := textV_yes hk
  have HR : Hid (Reads w (.slice ao n cap) l) := hr
  have HL : Hid (l.length ≤ 1048577) := hn
  have HC : Hid ((bstr l).size ≤ 1048576) := by show (bstr l).size ≤ _; rw [bstr_size]; have := okC_len hk; omega
  clear hr hn hk
  obtain ⟨RR, HRR⟩ : ∃ RR, Hid ((if (snT I T l b).size + 4 ≤ 20000 then Value.tuple #[.string (sealT (snT I T l b)), .bool true] else .tuple #[.string ByteArray.empty, .bool false]) = RR) := ⟨_, rfl⟩
  rw [HRR.out]
  obtain ⟨x, hx⟩ : ∃ x, snT I T l b = x := ⟨_, rfl⟩
  rw [hx] at h2 HRR hsz
  clear hx
  go_enter Tryz.func45, Tryz.ntmps45
  go_wp2_with fail
  refine Calls.mono (specConfText_any (HR.out.below (ba (Below.refl _ _) _)) HL.out) ?_
  rintro e w1 ⟨rfl, hb1⟩
  obtain ⟨c0, c1, c2, c3⟩ := sb_cells (blk_on hb1)
  have B1 := below_new hb1
  clear hb1
  rw [HT.out]
  have q0 := Wd.cell c0
  have q1 := Wd.cell c1
  have q3 := Wd.cell c3
  go_wp2_with (go_at_call 38; refine (l01In_yes _ _ _ _ (by omega) (by omega)).mono ?_; rintro e w' ⟨rfl, hw⟩; have hw2 := hw.symm; subst hw2; clear hw)
  refine wp_region_wd (by kernel_rfl) (by kernel_rfl) ?_
  repeat (go_big_quiet_step ((first | (go_at_call 61; refine calls_wd (v := .string (bstr (varI I))) ?_; with_reducible exact l01Var_any I _ (by omega)) | (go_at_call 61; refine calls_wd (v := .string (bstr (varI T))) ?_; with_reducible exact l01Var_any T _ (by omega)) | (go_at_call 62; refine calls_wd (v := .string (shT (bstr l))) ?_; with_reducible exact l05Short_any (bstr l) _ HC.out) | (go_at_call 62; refine calls_wd (v := .string (shT b)) ?_; with_reducible exact l05Short_any b _ (by omega)))))
  refine wpQuiet_nil ?_
  rintro _ ⟨v, rfl⟩
  have B2 := B1.trans (v.ok.mono B1.size)
  generalize v.at' = w2 at B2 ⊢
  clear q0 q1 q3 c0 c1 c2 c3 h0 h1 h2 B1
  by_cases h4 : x.size + 4 ≤ 20000
  · have HE := HRR.out
    rw [if_pos h4] at HE
    have HE : Hid (Value.tuple #[.string (sealT x), .bool true] = RR) := HE
    have CS : Hid (∀ w, Calls Tryz.prog 63 #[.string x] w fun e w' => e = .returned (.tuple #[.string (sealT x), .bool true]) ∧ Below w.heap.size w w') := fun w => specSealed_ok x w (by omega)
    have hx1 : ¬ 20000 < (x.size : Int) + 4 := by omega
    have hx2 : (x.size : Int) ≤ 20024 := by omega
    clear h4 hsz HRR
    generalize sealT x = r at HE CS
    go_wp2_with fail
    refine Calls.mono (CS.out _) ?_
    rintro e w3 ⟨rfl, hb3⟩
    go_wp2
    go_ret2
    exact ⟨by rw [← HE.out]; rfl, Below.on B2 hb3⟩
  · have HE := HRR.out
    rw [if_neg h4] at HE
    have HE : Hid (Value.tuple #[.string ByteArray.empty, .bool false] = RR) := HE
    have hx1 : 20000 < (x.size : Int) + 4 := by omega
    have hx2 : (x.size : Int) ≤ 20024 := by omega
    clear h4 hsz HRR
    go_wp2
    go_ret2
    exact ⟨by rw [← HE.out]; rfl, B2⟩

/-- The specification's SnapText. -/
theorem specSnapText_any {i t : Int} {v : Value} {l : List Int} {b : ByteArray} {w : World} (hr : Reads w v l) (hn : l.length ≤ 1048577) (hb : b.size ≤ 1048576) :
    Calls Tryz.prog 45 #[.agg #[.int .i64 i, .int .i64 t, v, .string b]] w fun e w' => e = .returned (textSV i t l b) ∧ Below w.heap.size w w' := by
  obtain ⟨ao, cap, rfl, _⟩ := id hr
  have HT : Hid (textV l = .tuple #[.string (textC l), .bool (okC l)]) := rfl
  have CI : Hid (∀ w, Calls Tryz.prog 38 #[.int .i64 i, .int .i64 0, .int .i64 1000000] w fun e w' => e = .returned (.bool (idxB i)) ∧ w' = w) := fun w => in_any i 0 1000000 w
  have CT : Hid (∀ w, Calls Tryz.prog 38 #[.int .i64 t, .int .i64 0, .int .i64 100000] w fun e w' => e = .returned (.bool (trmB t)) ∧ w' = w) := fun w => in_any t 0 100000 w
  by_cases hz : okC l = false ∨ idxB i = false ∨ trmB t = false ∨ 20000 < b.size
  · rw [textSV_no (okS_no (by rcases hz with h | h | h | h <;> simp [h]))]
    exact specSnapText_no i t ao _ cap l _ b _ _ _ w hr hn hb HT CI CT hz
  · have hk : okC l = true := by cases h : okC l <;> simp_all
    have hid : idxB i = true := by cases h : idxB i <;> simp_all
    have htr : trmB t = true := by cases h : trmB t <;> simp_all
    have h20 : b.size ≤ 20000 := by
      rcases Nat.lt_or_ge 20000 b.size with h | h
      · exact absurd (.inr (.inr (.inr h))) hz
      · exact h
    obtain ⟨I, rfl⟩ := Int.eq_ofNat_of_zero_le (idxB_out hid).1
    obtain ⟨T, rfl⟩ := Int.eq_ofNat_of_zero_le (trmB_out htr).1
    have a1 := (idxB_out hid).2
    have a2 := (trmB_out htr).2
    obtain ⟨z1, z2, z3, z4⟩ := snT_size (i := I) (t := T) (l := l) (b := b) (by omega) (by omega) (okC_len hk) h20
    have esz : (snT I T l b).size ≤ 20024 := by
      unfold snT
      rw [ByteArray.size_append, ByteArray.size_append, ByteArray.size_append]
      omega
    refine (specSnapText_go I T ao _ cap l b w hr hn h20 (by omega) (by omega) hk esz).mono ?_
    rintro e w' ⟨rfl, hb'⟩
    refine ⟨?_, hb'⟩
    by_cases h4 : (snT I T l b).size + 4 ≤ 20000
    · rw [if_pos h4, textSV_yes (okS_in hk hid htr h20 (by simpa using h4))]
      rfl
    · rw [if_neg h4, textSV_no (okS_no (.inr (.inr (.inr (.inr (by simp only [Int.toNat_natCast]; omega))))))]
end Go.Proofs.YtingfgbcinlflaaGreatDoor

namespace Go.Proofs.YtingfgbcinlflaaGreatDoor
open Go Go.RowKit

end Go.Proofs.YtingfgbcinlflaaGreatDoor

namespace Go.Proofs.YtingfgbcinlflaaGreatDoor
open Go Go.RowKit Go.ChangeShapes Go.WideShapes

theorem len1 {α : Type} {l : List α} (h : l.length = 1) : ∃ a, l = [a] := by
  match l, h with
  | [a], _ => exact ⟨a, rfl⟩
theorem len3 {α : Type} {l : List α} (h : l.length = 3) : ∃ a b c, l = [a, b, c] := by
  match l, h with
  | [a, b, c], _ => exact ⟨a, b, c, rfl⟩
theorem len4 {α : Type} {l : List α} (h : l.length = 4) : ∃ a b c d, l = [a, b, c, d] := by
  match l, h with
  | [a, b, c, d], _ => exact ⟨a, b, c, d, rfl⟩
theorem arr1 {α : Type} {l : Array α} (h : l.toList.length = 1) : ∃ a, l = #[a] := by
  obtain ⟨l⟩ := l
  obtain ⟨a, rfl⟩ := len1 h
  exact ⟨a, rfl⟩
theorem arr4 {α : Type} {l : Array α} (h : l.toList.length = 4) : ∃ a b c d, l = #[a, b, c, d] := by
  obtain ⟨l⟩ := l
  obtain ⟨a, b, c, d, rfl⟩ := len4 h
  exact ⟨a, b, c, d, rfl⟩

section
variable {α : Type} [Rec α] [Inhabited α] {H : Type} {enc : TypeId × Value → H} {P : Program} {w : World} {held : Bool}

/-- A slice of records that came in: the records that it reads as. -/
theorem open_rows {t e : TypeId} {fuel : Nat} {a : Option Addr} {len cap : Nat} {x : DataW H × List MemPlace} (G : α → Prop) (ht : P.underlying t = some (.slice e)) (hc : P.cellsOf e = Rec.width α)
    (each : ∀ n cs y, DataW.trod enc P w 0 (fun _ => true) held n e cs = some y → ∃ r : α, cs = Rec.cells r ∧ G r)
    (h : DataW.trod enc P w 0 (fun _ => true) held fuel t [.slice a len cap] = some x) : ∃ l : List α, Reads w (.slice a len cap) l ∧ (∀ r ∈ l, G r) ∧ len ≤ maxLen := by
  rcases Deep.open_slice ht h with ⟨hcs, _⟩ | ⟨b, len', cap', m, n, D, Pl, hcs, _, hl, hm, hmm, _, hx⟩
  · simp only [List.cons.injEq, Value.slice.injEq, and_true] at hcs
    obtain ⟨rfl, rfl, rfl⟩ := hcs
    exact ⟨[], reads_none w none 0, fun r hr => by simp at hr, Nat.zero_le _⟩
  · simp only [List.cons.injEq, Value.slice.injEq, and_true] at hcs
    obtain ⟨rfl, rfl, rfl⟩ := hcs
    simp only [if_true] at hmm
    subst hmm
    have hex : ∀ i, i < len → ∃ r : α, G r ∧ ∀ j u, (Rec.cells r)[j]? = some u → w.cell? (b.add (i * Rec.width α + j)) = some u := by
      intro i hi
      obtain ⟨cs', h1, h2⟩ := hx i (by omega)
      obtain ⟨r, rfl, hG⟩ := each _ _ _ h2
      rw [hc] at h1
      obtain ⟨_, hlen, hcell⟩ := World.cells?_some h1
      refine ⟨r, hG, fun j u hu => ?_⟩
      have hj := (List.getElem?_eq_some_iff.1 hu).1
      have := hcell j (by rw [← Rec.len r]; exact hj)
      rw [Deep.add_add] at this
      rw [this, hu]
    obtain ⟨f, hf⟩ := Deep.choose_lt hex
    refine ⟨(List.range len).map f, ⟨some b, _, by simp; rfl, fun hne => ?_⟩, ?_, by omega⟩
    · have hpos : 0 < len := by
        rcases Nat.eq_zero_or_pos len with h0 | h0
        · subst h0; simp at hne
        · exact h0
      have hw : 0 < Rec.width α := Rec.pos
      obtain ⟨u, hu⟩ : ∃ u, (Rec.cells (f 0))[0]? = some u := ⟨_, List.getElem?_eq_getElem (by rw [Rec.len]; exact hw)⟩
      have h0 := (hf 0 hpos).2 0 u hu
      obtain ⟨bb, oo, sp⟩ := b
      have hsp : sp = none := by
        simp only [Nat.zero_mul, Nat.add_zero, Addr.add, if_true, World.cell?] at h0
        cases sp with
        | none => rfl
        | some s => split at h0 <;> simp at h0
      subst hsp
      have hlt : bb < w.heap.size := by
        have := World.block_lt_of_cell? w _ h0
        simpa [Addr.add] using this
      refine ⟨bb, oo, rfl, hlt, fun i r hr j u hu => ?_⟩
      rw [List.getElem?_map] at hr
      by_cases hi : i < len
      · rw [List.getElem?_range hi] at hr
        simp only [Option.map_some, Option.some.injEq] at hr
        subst hr
        have := (hf i hi).2 j u hu
        have hadd : (⟨bb, oo, none⟩ : Addr).add (i * Rec.width α + j) = ⟨bb, oo + (i * Rec.width α + j), none⟩ := by unfold Addr.add; split <;> simp_all
        rw [hadd, ← Nat.add_assoc] at this
        exact this
      · rw [List.getElem?_eq_none (by simp; omega)] at hr
        simp at hr
    · intro r hr
      obtain ⟨i, hi, rfl⟩ := List.mem_map.1 hr
      exact (hf i (List.mem_range.1 hi)).1
end
end Go.Proofs.YtingfgbcinlflaaGreatDoor

namespace Go.Proofs.YtingfgbcinlflaaGreatDoor
open Go Go.RowKit Go.ChangeShapes Go.WideShapes

theorem cells3' : Tryz.prog.cellsOf 3 = 1 := by kernel_rfl
theorem open_intS {H : Type} {enc : TypeId × Value → H} {W : World} {v : Value} {d : DataW H} {p : List MemPlace} (hv : ∃ a len cap, v = .slice a len cap) (h : DataW.Trod enc Tryz.prog W 0 (fun _ => true) true 38 v d p) :
    ∃ a len cap, ∃ l : List Int, v = .slice a len cap ∧ Reads W (.slice a len cap) l ∧ True ∧ len ≤ 9223372036854775807 := by
  obtain ⟨a, len, cap, rfl⟩ := hv
  obtain ⟨fuel, hf⟩ := h
  obtain ⟨l, hr, _, hm⟩ := open_rows (fun _ : Int => True) Tryz.underlying38 cells3' (fun n cs y h => by
    obtain ⟨k, rfl, _, _⟩ := DataW.trod_int Tryz.underlying3 h
    exact ⟨k, rfl, trivial⟩) hf
  exact ⟨a, len, cap, l, rfl, hr, trivial, hm⟩
end Go.Proofs.YtingfgbcinlflaaGreatDoor

namespace Go.Proofs.YtingfgbcinlflaaGreatDoor
open Go Go.RowKit

/-- The block of a record of four cells that is wholly there. -/
theorem cells4_new {w w' : World} {a b c d : Value} {t : TypeId} (hb : Below (w.alloc (.cells #[a, b, c, d] t)).heap.size (w.alloc (.cells #[a, b, c, d] t)) w') :
    w'.cell? ⟨w.heap.size, 0, none⟩ = some a ∧ w'.cell? ⟨w.heap.size, 1, none⟩ = some b ∧ w'.cell? ⟨w.heap.size, 2, none⟩ = some c ∧ w'.cell? ⟨w.heap.size, 3, none⟩ = some d := sb_cells (blk_on hb)

theorem ret_snap {fn : Func} {p : Tmp} {w : World} {g : Nat} {a b c d : Value} {tmps : Array Value} (h : fn.results = #[.cell p 40]) (hp : tmps.getD p undef = .pointer (some ⟨g, 0, none⟩)) (h0 : w.cell? ⟨g, 0, none⟩ = some a) (h1 : w.cell? ⟨g, 1, none⟩ = some b) (h2 : w.cell? ⟨g, 2, none⟩ = some c) (h3 : w.cell? ⟨g, 3, none⟩ = some d) :
    (results fn tmps).run Tryz.prog w = .ok (.agg #[a, b, c, d]) w := by
  have hp' : tmps[p]?.getD undef = .pointer (some ⟨g, 0, none⟩) := by simpa using hp
  simp [results, h, hp', h0, h1, h2, h3, asAddr, go_sem]

end Go.Proofs.YtingfgbcinlflaaGreatDoor

namespace Go.Proofs.YtingfgbcinlflaaGreatDoor
open Go Go.RowKit

/-- A number that is read stands there as it is written. -/
theorem rvGo_text (s : ByteArray) (a : Nat) : ∀ (f i k n X Y : Nat) (p : List Nat), bytesAt s a p → p.length = k → a + k = i → (∀ b ∈ p, 128 ≤ b ∧ b < 256) → n = valN p → rvGo s f i k n = ((X : Int), (Y : Int), true) → ∃ q, bytesAt s a q ∧ a + q.length = Y ∧ varI X = ints q
  | 0, _, _, _, _, _, _, _, _, _, _, _, h => by simp [rvGo] at h
  | f + 1, i, k, n, X, Y, p, hp, hk, hi, hb, hn, h => by
    rw [rvGo] at h
    split at h
    · rename_i hlt
      subst hi
      have hq : bytesAt s a (p ++ [s[a + k].toNat]) := by
        have := bytesAt_snoc hp (by omega)
        simpa [hk] using this
      split at h
      · rename_i h128
        split at h
        · simp at h
        · rename_i hx
          simp only [Prod.mk.injEq, and_true] at h
          refine ⟨p ++ [s[a + k].toNat], hq, by simp; omega, ?_⟩
          have hv : X = valN (p ++ [s[a + k].toNat]) := by
            rw [valN_snoc, hk, ← hn]
            omega
          rw [hv]
          refine varI_valN p _ hb h128 ?_
          by_cases hpe : p = []
          · exact .inl hpe
          · refine .inr fun h0 => hx (.inr ⟨h0, ?_⟩)
            have : p.length ≠ 0 := fun e => hpe (List.length_eq_zero_iff.1 e)
            omega
      · rename_i h128
        refine rvGo_text s a f (a + k + 1) (k + 1) _ X Y (p ++ [s[a + k].toNat]) hq (by simp; omega) (by omega) ?_ ?_ h
        · intro b hbm
          rcases List.mem_append.1 hbm with h1 | h1
          · exact hb b h1
          · simp at h1
            subst h1
            exact ⟨by omega, UInt8.toNat_lt _⟩
        · rw [valN_snoc, hk, ← hn]
    · simp at h
theorem rv_text {s : ByteArray} {a X Y : Nat} (h : rv s a = ((X : Int), (Y : Int), true)) : s.extract a Y = bstr (varI X) ∧ Y = a + (varI X).length := by
  by_cases ha : a ≤ s.size
  · rw [rv_in_eq ha] at h
    obtain ⟨q, h1, h2, h3⟩ := rvGo_text s a 5 a 0 0 X Y [] ⟨by simpa using ha, fun j _ hj => absurd hj (by simp)⟩ rfl rfl (fun b hb => absurd hb (by simp)) rfl h
    refine ⟨by rw [← h2, extract_bytesAt h1, h3], ?_⟩
    rw [h3, ← h2]
    simp [ints]
  · rw [rv_bad_eq (.inr (by omega))] at h
    simp at h

/-- What is under the seal. -/
def inS (s : ByteArray) : ByteArray × Bool := if 4 ≤ s.size ∧ s.size ≤ 20004 ∧ lastT s = tail4 (headT s) then (headT s, false) else (ByteArray.empty, true)
theorem inS_yes {s : ByteArray} (h0 : 4 ≤ s.size) (h1 : s.size ≤ 20004) (h : lastT s = tail4 (headT s)) : inS s = (headT s, false) := by unfold inS; rw [if_pos ⟨h0, h1, h⟩]
theorem inS_no {s : ByteArray} (h : ¬ (4 ≤ s.size ∧ s.size ≤ 20004 ∧ lastT s = tail4 (headT s))) : inS s = (ByteArray.empty, true) := by unfold inS; rw [if_neg h]
theorem inS_size (s : ByteArray) : (inS s).1.size ≤ 20000 := by
  unfold inS
  split
  · rename_i h
    show (headT s).size ≤ 20000
    rw [headT_size]
    omega
  · exact Nat.zero_le _
/-- All that is read. -/
structure Rsd where
  i : Int
  t : Int
  l : List Int
  b : ByteArray
  z : Bool
def zeroS : Rsd := ⟨0, 0, [], ByteArray.empty, false⟩
def rsF (s : ByteArray) (i t : Nat) (c d : ByteArray) (bad : Bool) : Rsd := if bad = false ∧ okS i t (confT c) d = true ∧ textS i t (confT c) d = s then ⟨i, t, confT c, d, true⟩ else zeroS
/-- The steps of the cursor, one behind the other. -/
structure Steps (x : ByteArray) (b0 : Bool) (i t n m : Nat) (c d : ByteArray) (a1 a2 a3 a4 a5 a6 : Nat) (b1 b2 b3 b4 b5 b6 : Bool) : Prop where
  s1 : varS x 0 b0 = (i, a1, b1)
  s2 : varS x a1 b1 = (t, a2, b2)
  s3 : varS x a2 b2 = (n, a3, b3)
  s4 : takeS x a3 b3 n = (c, a4, b4)
  s5 : varS x a4 b4 = (m, a5, b5)
  s6 : takeS x a5 b5 m = (d, a6, b6)
def rsP (s : ByteArray) : Rsd :=
  let x := (inS s).1
  let p1 := varS x 0 (inS s).2
  let p2 := varS x p1.2.1 p1.2.2
  let p3 := varS x p2.2.1 p2.2.2
  let p4 := takeS x p3.2.1 p3.2.2 p3.1
  let p5 := varS x p4.2.1 p4.2.2
  let p6 := takeS x p5.2.1 p5.2.2 p5.1
  rsF s p1.1 p2.1 p4.1 p6.1 p6.2.2
theorem rsP_steps {s : ByteArray} {i t n m : Nat} {c d : ByteArray} {a1 a2 a3 a4 a5 a6 : Nat} {b1 b2 b3 b4 b5 b6 : Bool} (h : Steps (inS s).1 (inS s).2 i t n m c d a1 a2 a3 a4 a5 a6 b1 b2 b3 b4 b5 b6) : rsP s = rsF s i t c d b6 := by
  unfold rsP
  dsimp only
  rw [h.s1]; dsimp only
  rw [h.s2]; dsimp only
  rw [h.s3]; dsimp only
  rw [h.s4]; dsimp only
  rw [h.s5]; dsimp only
  rw [h.s6]
theorem steps_all (x : ByteArray) (b0 : Bool) : ∃ (i t n m : Nat) (c d : ByteArray) (a1 a2 a3 a4 a5 a6 : Nat) (b1 b2 b3 b4 b5 b6 : Bool), Steps x b0 i t n m c d a1 a2 a3 a4 a5 a6 b1 b2 b3 b4 b5 b6 :=
  ⟨_, _, _, _, _, _, _, _, _, _, _, _, _, _, _, _, _, _, rfl, rfl, rfl, rfl, rfl, rfl⟩
theorem takeS_bad {s t : ByteArray} {a a' n : Nat} {b : Bool} (h : takeS s a true n = (t, a', b)) : b = true := by
  rw [takeS_no1] at h
  simp only [Prod.mk.injEq] at h
  exact h.2.2.symm
theorem varS_stays {s : ByteArray} {a x a' : Nat} {b : Bool} (h : varS s a true = (x, a', b)) : b = true := by
  rw [varS_bad] at h
  simp only [Prod.mk.injEq] at h
  exact h.2.2.symm
theorem rsF_bad {s : ByteArray} {i t : Nat} {c d : ByteArray} : rsF s i t c d true = zeroS := by unfold rsF; rw [if_neg (fun h => by cases h.1)]
theorem rsF_none {s : ByteArray} {i t : Nat} {c d : ByteArray} {b : Bool} (h : okS i t (confT c) d = false) : rsF s i t c d b = zeroS := by
  unfold rsF
  rw [if_neg]
  rintro ⟨-, h2, -⟩
  rw [h] at h2
  cases h2
theorem textS_size {i t : Int} {l : List Int} {b : ByteArray} (h : okS i t l b = true) : (textS i t l b).size = (snT i.toNat t.toNat l b).size + 4 := by
  unfold textS
  rw [h, if_pos rfl]
  unfold sealT
  rw [ByteArray.size_append, tail4_size]
theorem rsF_long {s : ByteArray} {i t : Nat} {c d : ByteArray} {b : Bool} (h : 20000 < s.size) : rsF s i t c d b = zeroS := by
  unfold rsF
  rw [if_neg]
  rintro ⟨-, h2, h3⟩
  have h4 := textS_size h2
  rw [h3] at h4
  have h5 := (okS_out h2).2.2.2.2
  omega
namespace Steps
variable {x : ByteArray} {b0 : Bool} {i t n m : Nat} {c d : ByteArray} {a1 a2 a3 a4 a5 a6 : Nat} {b1 b2 b3 b4 b5 b6 : Bool}
theorem up5 (h : Steps x b0 i t n m c d a1 a2 a3 a4 a5 a6 b1 b2 b3 b4 b5 b6) (hb : b5 = true) : b6 = true := by subst hb; exact takeS_bad h.s6
theorem up4 (h : Steps x b0 i t n m c d a1 a2 a3 a4 a5 a6 b1 b2 b3 b4 b5 b6) (hb : b4 = true) : b6 = true := h.up5 (by subst hb; exact varS_stays h.s5)
theorem up3 (h : Steps x b0 i t n m c d a1 a2 a3 a4 a5 a6 b1 b2 b3 b4 b5 b6) (hb : b3 = true) : b6 = true := h.up4 (by subst hb; exact takeS_bad h.s4)
theorem up2 (h : Steps x b0 i t n m c d a1 a2 a3 a4 a5 a6 b1 b2 b3 b4 b5 b6) (hb : b2 = true) : b6 = true := h.up3 (by subst hb; exact varS_stays h.s3)
theorem up1 (h : Steps x b0 i t n m c d a1 a2 a3 a4 a5 a6 b1 b2 b3 b4 b5 b6) (hb : b1 = true) : b6 = true := h.up2 (by subst hb; exact varS_stays h.s2)
theorem up0 (h : Steps x b0 i t n m c d a1 a2 a3 a4 a5 a6 b1 b2 b3 b4 b5 b6) (hb : b0 = true) : b6 = true := h.up1 (by subst hb; exact varS_stays h.s1)
/-- Where all is read, it stands there as it is written. -/
theorem whole (h : Steps x b0 i t n m c d a1 a2 a3 a4 a5 a6 b1 b2 b3 b4 b5 false) : x.extract 0 a6 = bstr (varI i) ++ bstr (varI t) ++ shT c ++ shT d ∧ a6 ≤ x.size ∧ (bstr (varI i) ++ bstr (varI t) ++ shT c ++ shT d).size = a6 := by
  obtain ⟨rfl, h6a, h6b, h6c⟩ := takeS_ok h.s6
  obtain ⟨rfl, h5⟩ := varS_ok h.s5
  obtain ⟨rfl, h4a, h4b, h4c⟩ := takeS_ok h.s4
  obtain ⟨rfl, h3⟩ := varS_ok h.s3
  obtain ⟨rfl, h2⟩ := varS_ok h.s2
  obtain ⟨rfl, h1⟩ := varS_ok h.s1
  have h1' : rv x (0 : Nat) = ((i : Int), (a1 : Int), true) := h1
  obtain ⟨e1, l1⟩ := rv_text h1'
  obtain ⟨e2, l2⟩ := rv_text h2
  obtain ⟨e3, l3⟩ := rv_text h3
  obtain ⟨e5, l5⟩ := rv_text h5
  have z4 : c.size = n := by rw [h4b, ByteArray.size_extract]; omega
  have z6 : d.size = m := by rw [h6b, ByteArray.size_extract]; omega
  have j : ∀ (p q r : Nat), p ≤ q → q ≤ r → x.extract p q ++ x.extract q r = x.extract p r := fun p q r h1 h2 => by
    rw [ByteArray.extract_append_extract]
    congr 1 <;> omega
  refine ⟨?_, by omega, ?_⟩
  · unfold shT
    rw [z4, z6, ← e1, ← e2, ← e3, ← e5, h4b, h6b, ← h4c, ← h6c, j 0 a1 a2 (by omega) (by omega), j a2 a3 a4 (by omega) (by omega), j a4 a5 a6 (by omega) (by omega), j 0 a2 a4 (by omega) (by omega), j 0 a4 a6 (by omega) (by omega)]
  · unfold shT
    simp only [ByteArray.size_append, bstr_size]
    rw [z4, z6]
    omega
end Steps
theorem okT_bstr {c : ByteArray} (h : okT c = true) : bstr (confT c) = c := by
  rw [confT_yes h]
  apply ByteArray.ext
  unfold bstr bytesI
  rw [ByteArray.toList_eq]
  have e : ((fun n : Int => UInt8.ofNat n.toNat) ∘ fun b : UInt8 => (b.toNat : Int)) = id := by funext b; simp
  simp [e]
theorem okC_conf {c : ByteArray} (h : okT c = true) : okC (confT c) = true := by rw [confT_yes h]; exact h
/-- All is read, and nothing stands behind it. -/
theorem rsF_yes {s : ByteArray} {i t n m : Nat} {c d : ByteArray} {a1 a2 a3 a4 a5 a6 : Nat} {b1 b2 b3 b4 b5 : Bool} (h : Steps (headT s) false i t n m c d a1 a2 a3 a4 a5 a6 b1 b2 b3 b4 b5 false)
    (h0 : 4 ≤ s.size) (h20 : s.size ≤ 20000) (hl : lastT s = tail4 (headT s)) (hi : i ≤ 1000000) (ht : t ≤ 100000) (hk : okT c = true) (ha : a6 = (headT s).size) : rsF s i t c d false = ⟨i, t, confT c, d, true⟩ := by
  obtain ⟨w1, w2, w3⟩ := h.whole
  have e0 : (headT s).extract 0 a6 = headT s := by rw [ha]; exact ByteArray.extract_zero_size
  have hd : d.size ≤ 20000 := by
    obtain ⟨_, h6a, h6b, _⟩ := takeS_ok h.s6
    rw [h6b, ByteArray.size_extract]
    have := headT_size s
    omega
  have e1 : snT i t (confT c) d = headT s := by
    unfold snT
    rw [okT_bstr hk, ← w1, e0]
  have hok : okS i t (confT c) d = true := okS_in (okC_conf hk) (idxB_in (by omega) (by omega)) (by unfold trmB; rw [decide_eq_true (show 0 ≤ (t : Int) by omega), decide_eq_true (show (t : Int) ≤ 100000 by omega)]; rfl) hd (by
    simp only [Int.toNat_natCast]
    rw [e1, headT_size]
    omega)
  have htx : textS i t (confT c) d = s := by
    unfold textS
    rw [hok, if_pos rfl]
    simp only [Int.toNat_natCast]
    rw [e1]
    exact (sealT_iff s).2 hl
  unfold rsF
  rw [if_pos ⟨rfl, hok, htx⟩]
/-- Something stands behind it. -/
theorem rsF_behind {s : ByteArray} {i t n m : Nat} {c d : ByteArray} {a1 a2 a3 a4 a5 a6 : Nat} {b1 b2 b3 b4 b5 : Bool} (h : Steps (headT s) false i t n m c d a1 a2 a3 a4 a5 a6 b1 b2 b3 b4 b5 false)
    (hk : okT c = true) (ha : a6 ≠ (headT s).size) : rsF s i t c d false = zeroS := by
  unfold rsF
  rw [if_neg]
  rintro ⟨-, h2, h3⟩
  obtain ⟨w1, w2, w3⟩ := h.whole
  have h4 := textS_size h2
  rw [h3] at h4
  simp only [Int.toNat_natCast] at h4
  have e1 : (snT i t (confT c) d).size = a6 := by
    unfold snT
    rw [okT_bstr hk, w3]
  have := headT_size s
  omega
theorem rsF_conf {s : ByteArray} {i t : Nat} {c d : ByteArray} {b : Bool} (hk : okT c = false) : rsF s i t c d b = zeroS := rsF_none (okS_no (.inl (by rw [confT_no hk]; rfl)))
theorem rsF_index {s : ByteArray} {i t : Nat} {c d : ByteArray} {b : Bool} (h : 1000000 < i) : rsF s i t c d b = zeroS := rsF_none (okS_no (.inr (.inl (idxB_no (.inr (by omega))))))
theorem rsF_term {s : ByteArray} {i t : Nat} {c d : ByteArray} {b : Bool} (h : 100000 < t) : rsF s i t c d b = zeroS := rsF_none (okS_no (.inr (.inr (.inl (by unfold trmB; rw [decide_eq_false (show ¬ (t : Int) ≤ 100000 by omega), Bool.and_false])))))
theorem varS_rv {s : ByteArray} {a x a' : Nat} (h : varS s a false = (x, a', true)) : (rv s a).2.2 = false := by
  unfold varS at h
  split at h
  · simp at h
  · rename_i hc
    cases hr : (rv s a).2.2 with
    | false => rfl
    | true => exact absurd ⟨rfl, hr⟩ hc
theorem takeS_far {s t : ByteArray} {a a' n : Nat} (h : takeS s a false n = (t, a', true)) : s.size < a + n := by
  unfold takeS at h
  split at h
  · simp at h
  · rename_i hc
    exact Nat.lt_of_not_le fun h => hc ⟨rfl, h⟩
end Go.Proofs.YtingfgbcinlflaaGreatDoor
