/-
  The last index and term of a log, whether it has an index, and the term of one, on both sides: the walks. The term of an index of a log, on both sides: the walks. What is behind an index of a log: the walk. Journals: frames put behind one another, as the program does it: the walks. Journals: the frames of their entries, and their text, as the program makes them: the walks.
-/
import Derived.Test.YtgpojfkdcdgloaaGreatDoorG1
import Derived.Test.YtgpojfkdcdgloaaGreatDoorGn
import Derived.Test.YtgpojfkdcdgloaaGreatDoorG2
import Derived.Test.YtgpojfkdcdgloaaGreatDoorG3
import Derived.Test.YtgpojfkdcdgloaaGreatDoorG4
import Derived.Lib.AppendStr
namespace Go.Proofs.YtgpojfkdcdgloaaGreatDoor
open Go Go.RowKit

def lastI (s : Int) (l : List En) : Int := if l.length = 0 then s else wrap64 (s + l.length)
def lastT (t : Int) (l : List En) : Int := (l.getLast?.map En.term).getD t
theorem lastT_at {t : Int} {l : List En} {k : Nat} {f : En} (h : l.length = k + 1) (hf : l[k]? = some f) : lastT t l = f.term := by
  unfold lastT
  rw [List.getLast?_eq_getElem?, h, Nat.add_sub_cancel, hf]
  rfl

set_option maxRecDepth 10000 in
set_option maxHeartbeats 1000000 in
theorem logLast_try (s t : Int) (ao : Option Addr) (n c : Nat) (l : List En) (w : World) (hr : Reads w (.slice ao n c) l) (hn : n ≤ 1048577) :
    Calls Tryz.prog 117 #[.agg #[.int .i64 s, .int .i64 t, .slice ao n c]] w fun e w' => e = .returned (.tuple #[.int .i64 (lastI s l), .int .i64 (lastT t l)]) ∧ Below w.heap.size w w' := by
  have hN := hr.len
  have HR : Hid (Reads w (.slice ao n c) l) := hr
  clear hr
  cases n with
  | zero =>
    have hl : l = [] := List.eq_nil_of_length_eq_zero hN.symm
    subst hl
    clear hN
    show Calls Tryz.prog 117 _ w fun e w' => e = .returned (.tuple #[.int .i64 s, .int .i64 t]) ∧ Below w.heap.size w w'
    go_enter Tryz.func117, Tryz.ntmps117
    go_wp2
    go_quiet (fail)
    go_wp2
    go_ret2
    exact ⟨rfl, bdrewN (ba (Below.refl _ _) _) _⟩
  | succ k =>
    obtain ⟨f, hf⟩ : ∃ f, l[k]? = some f := ⟨_, List.getElem?_eq_getElem (by omega)⟩
    have HI : Hid (lastI s l = wrap64 (s + (k + 1 : Nat))) := by show lastI s l = _; unfold lastI; rw [if_neg (by omega), ← hN]
    have HT : Hid (lastT t l = f.term) := lastT_at hN.symm hf
    rw [HI.out, HT.out]
    obtain ⟨b, o, rfl, hb, c0, c1, c2⟩ := en_at HR.out hf
    clear hf hN c1 c2
    have d0 : (w.alloc (.cells #[.int .i64 s, .int .i64 t, .slice (some ⟨b, o, none⟩) (k + 1) c] 28)).cell? ⟨b, o + k * 3, none⟩ = some (.int .i64 f.term) := cell_up (ba (Below.refl _ _) _) c0
    have e1 : ((k + 1 : Nat) : Int) - 1 = (k : Int) := by omega
    go_enter Tryz.func117, Tryz.ntmps117
    go_wp2
    go_quiet (fail)
    go_wp2
    go_ret2
    exact ⟨rfl, bdrewN (ba (Below.refl _ _) _) _⟩
theorem logLast_any {s t : Int} {w : World} {v : Value} {l : List En} (hr : Reads w v l) (hn : l.length ≤ 1048577) :
    Calls Tryz.prog 117 #[.agg #[.int .i64 s, .int .i64 t, v]] w fun e w' => e = .returned (.tuple #[.int .i64 (lastI s l), .int .i64 (lastT t l)]) ∧ Below w.heap.size w w' := by
  obtain ⟨ao, c, rfl, _⟩ := id hr
  exact logLast_try s t ao _ c l w hr hn
set_option maxHeartbeats 400000 in
theorem l06Last_any (s t : Int) (ao : Option Addr) (n c : Nat) (w : World) (h0 : 0 ≤ s) (h1 : s ≤ 1000000) (hn : n ≤ 60) :
    Calls Tryz.prog 83 #[.agg #[.int .i64 s, .int .i64 t, .slice ao n c]] w fun e w' => e = .returned (.int .i64 (s + n)) ∧ Below w.heap.size w w' := by
  go_enter Tryz.func83, Tryz.ntmps83
  go_wp2
  go_ret
  exact ⟨rfl, ba (Below.refl _ _) _⟩

/-- A log has an index. -/
def hasL (s : Int) (n : Nat) (i : Int) : Bool := decide (s ≤ i) && decide (i ≤ s + n)
end Go.Proofs.YtgpojfkdcdgloaaGreatDoor

namespace Go.Proofs.YtgpojfkdcdgloaaGreatDoor
open Go Go.RowKit

/-- The term of an index. -/
def termL (s t : Int) (l : List En) (i : Int) : Int := if i = s then t else if hasL s l.length i then ((l[(i - s - 1).toNat]?).map En.term).getD (-1) else -1
theorem termL_start (s t : Int) (l : List En) : termL s t l s = t := by simp [termL]
theorem termL_out {s t i : Int} {l : List En} (h : hasL s l.length i = false) : termL s t l i = -1 := by
  have : ¬ i = s := by rintro rfl; simp [hasL] at h; omega
  simp [termL, h, this]
theorem termL_in {s t : Int} {l : List En} {k : Nat} {f : En} (h : l[k]? = some f) : termL s t l (s + k + 1) = f.term := by
  have hk : k < l.length := (List.getElem?_eq_some_iff.1 h).1
  have e : (s + (k : Int) + 1 - s - 1).toNat = k := by omega
  have h1 : hasL s l.length (s + k + 1) = true := by unfold hasL; simp; omega
  unfold termL
  rw [if_neg (by omega), if_pos h1, e, h]
  rfl
theorem has_cases {s i : Int} {l : List En} (h : hasL s l.length i = true) (hne : i ≠ s) : ∃ (k : Nat) (f : En), l[k]? = some f ∧ i = s + (k : Int) + 1 := by
  simp only [hasL, Bool.and_eq_true, decide_eq_true_eq] at h
  exact ⟨(i - s - 1).toNat, _, List.getElem?_eq_getElem (by omega), by omega⟩

end Go.Proofs.YtgpojfkdcdgloaaGreatDoor

namespace Go.Proofs.YtgpojfkdcdgloaaGreatDoor
open Go Go.RowKit

theorem Reads.drop {α : Type} [Rec α] {w : World} {ao : Option Addr} {n cap : Nat} {l : List α} (h : Reads w (.slice ao n cap) l) (k : Nat) (cap' : Nat) : Reads w (.slice (ao.map fun x => x.add (k * Rec.width α)) (n - k) cap') (l.drop k) := by
  have hn := h.len
  refine ⟨_, cap', by rw [List.length_drop, hn], fun hne => ?_⟩
  obtain ⟨ao', cap', e, h⟩ := h
  simp only [Value.slice.injEq] at e
  obtain ⟨rfl, _, rfl⟩ := e
  obtain ⟨b, o, rfl, hlt, hc⟩ := h (by rintro rfl; simp at hne)
  have hadd : (⟨b, o, none⟩ : Addr).add (k * Rec.width α) = ⟨b, o + k * Rec.width α, none⟩ := by unfold Addr.add; split <;> simp_all
  refine ⟨b, o + k * Rec.width α, by rw [Option.map_some, hadd], hlt, fun i x hx j u hu => ?_⟩
  rw [List.getElem?_drop] at hx
  have := hc _ x hx j u hu
  rw [Nat.add_mul, ← Nat.add_assoc] at this
  exact this

set_option maxHeartbeats 400000 in
theorem behind_try (s t : Int) (ao : Option Addr) (n c k : Nat) (l : List En) (w : World) (hr : Reads w (.slice ao n c) l) (hn : n ≤ 60) (hk : k ≤ n) (hc : n ≤ c) :
    Calls Tryz.prog 123 #[.agg #[.int .i64 s, .int .i64 t, .slice ao n c], .int .i64 (s + k)] w fun e w' => ∃ v, e = .returned v ∧ Reads w' v (l.drop k) ∧ Below w.heap.size w w' := by
  have HN : Hid (n = l.length) := hr.len
  have HR : Hid (Reads w (.slice ao n c) l) := hr
  clear hr
  have e1 : s + (k : Int) - s = (k : Int) := by omega
  go_enter Tryz.func123, Tryz.ntmps123
  by_cases hkn : n = k
  · subst hkn
    go_wp2
    go_ret
    refine ⟨_, rfl, ?_, ba (Below.refl _ _) _⟩
    rw [List.drop_eq_nil_of_le (by have := HN.out; omega)]
    exact reads_none _ _ _
  · go_wp2
    go_ret
    exact ⟨_, rfl, (HR.out.alloc _).drop k _, ba (Below.refl _ _) _⟩
theorem behind_any {s t i : Int} {w : World} {v : Value} {l : List En} {B : Nat} (ho : ownsR w B 110 v l) (hn : l.length ≤ 60) (hi : hasL s l.length i = true) :
    Calls Tryz.prog 123 #[.agg #[.int .i64 s, .int .i64 t, v], .int .i64 i] w fun e w' => ∃ v, e = .returned v ∧ Reads w' v (l.drop (i - s).toNat) ∧ Below w.heap.size w w' := by
  obtain ⟨ao, c, rfl, hc⟩ := ho.cap
  simp only [hasL, Bool.and_eq_true, decide_eq_true_eq] at hi
  have e : i = s + ((i - s).toNat : Int) := by omega
  have := behind_try s t ao _ c (i - s).toNat l w ho.reads hn (by omega) hc
  rw [← e] at this
  exact this
/-- What is behind an index, as a value. -/
def behV (ao : Option Addr) (n k : Nat) : Value := if n = k then .slice ao 0 0 else .slice (ao.map fun x => x.add (k * 3)) (n - k) (n - k)
theorem behV_reads {w : World} {ao : Option Addr} {n c k : Nat} {l : List En} (hr : Reads w (.slice ao n c) l) : Reads w (behV ao n k) (l.drop k) := by
  unfold behV
  split
  · rw [List.drop_eq_nil_of_le (by rw [← hr.len]; omega)]; exact reads_none _ _ _
  · exact hr.drop k _
set_option maxHeartbeats 400000 in
theorem behind_val (s t : Int) (ao : Option Addr) (n c k : Nat) (w : World) (hn : n ≤ 60) (hk : k ≤ n) (hc : n ≤ c) :
    Calls Tryz.prog 123 #[.agg #[.int .i64 s, .int .i64 t, .slice ao n c], .int .i64 (s + k)] w fun e w' => e = .returned (behV ao n k) ∧ Below w.heap.size w w' := by
  have e1 : s + (k : Int) - s = (k : Int) := by omega
  by_cases hkn : n = k
  · subst hkn
    have HB : Hid (behV ao n n = .slice ao 0 0) := by show behV ao n n = _; simp [behV]
    rw [HB.out]
    go_enter Tryz.func123, Tryz.ntmps123
    go_wp2
    go_ret
    exact ⟨rfl, ba (Below.refl _ _) _⟩
  · have HB : Hid (behV ao n k = .slice (ao.map fun x => x.add (k * 3)) (n - k) (n - k)) := by show behV ao n k = _; simp [behV, hkn]
    rw [HB.out]
    go_enter Tryz.func123, Tryz.ntmps123
    go_wp2
    go_ret
    exact ⟨rfl, ba (Below.refl _ _) _⟩
theorem behind_start {s t : Int} {ao : Option Addr} {n c : Nat} {l : List En} {W : World} (hr : Reads W (.slice ao n c) l) (hn : n ≤ 60) (hc : n ≤ c) :
    ∃ bo d, Reads W (.slice bo l.length d) l ∧ ∀ w, Calls Tryz.prog 123 #[.agg #[.int .i64 s, .int .i64 t, .slice ao n c], .int .i64 s] w fun e w' => e = .returned (.slice bo l.length d) ∧ Below w.heap.size w w' := by
  have h := behV_reads (k := 0) hr
  rw [List.drop_zero] at h
  obtain ⟨bo, d, hv, hx⟩ := id h
  rw [hv] at h
  refine ⟨bo, d, h, fun w => ?_⟩
  have := behind_val s t ao n c 0 w hn (Nat.zero_le _) hc
  rw [hv, Int.natCast_zero, Int.add_zero] at this
  exact this
end Go.Proofs.YtgpojfkdcdgloaaGreatDoor

namespace Go.Proofs.YtgpojfkdcdgloaaGreatDoor
open Go Go.RowKit

theorem varI_len9 {n : Nat} (hn : n ≤ 1000000000) : 1 ≤ (varI n).length ∧ (varI n).length ≤ 5 := by
  by_cases h1 : 127 < n
  · rw [varI_more h1]
    by_cases h2 : 127 < n / 128
    · rw [varI_more h2]
      by_cases h3 : 127 < n / 128 / 128
      · rw [varI_more h3]
        by_cases h4 : 127 < n / 128 / 128 / 128
        · rw [varI_more h4]
          rw [varI_last (show ¬ 127 < n / 128 / 128 / 128 / 128 by omega)]
          simp
        · rw [varI_last h4]; simp
      · rw [varI_last h3]; simp
    · rw [varI_last h2]; simp
  · rw [varI_last h1]; simp

/-- The record of a mark and two numbers. -/
def pairT (m : UInt8) (a b : Nat) : ByteArray := (⟨#[m]⟩ : ByteArray) ++ bstr (varI a) ++ bstr (varI b)
theorem pairT_size {m : UInt8} {a b : Nat} (ha : a ≤ 1000000000) (hb : b ≤ 1000000000) : 3 ≤ (pairT m a b).size ∧ (pairT m a b).size ≤ 11 := by
  have := varI_len9 ha
  have := varI_len9 hb
  unfold pairT
  rw [ByteArray.size_append, ByteArray.size_append, bstr_size', bstr_size', show (⟨#[m]⟩ : ByteArray).size = 1 from rfl]
  omega
theorem run_pair1 (m : UInt8) {a : Nat} (ha : a ≤ 1000000000) (wx : World) : (Op.stringOp .add ⟨#[m]⟩ (bstr (varI a))).run Tryz.prog wx = .ok (.string ((⟨#[m]⟩ : ByteArray) ++ bstr (varI a))) wx := by
  have := varI_len9 ha
  rw [run_string_add_sum wx _ _ (by rw [bstr_size', show (⟨#[m]⟩ : ByteArray).size = 1 from rfl]; omega)]
theorem run_pair2 (m : UInt8) {a b : Nat} (ha : a ≤ 1000000000) (hb : b ≤ 1000000000) (wx : World) : (Op.stringOp .add ((⟨#[m]⟩ : ByteArray) ++ bstr (varI a)) (bstr (varI b))).run Tryz.prog wx = .ok (.string (pairT m a b)) wx := by
  have := varI_len9 ha
  have := varI_len9 hb
  rw [run_string_add_sum wx _ _ (by rw [ByteArray.size_append, bstr_size', bstr_size', show (⟨#[m]⟩ : ByteArray).size = 1 from rfl]; omega)]
  rfl

set_option maxRecDepth 10000 in
set_option maxHeartbeats 1000000 in
theorem pairText_ok (m : UInt8) (a b : Nat) (w : World) (ha : a ≤ 1000000000) (hb : b ≤ 1000000000) :
    Calls Tryz.prog 104 #[.string ⟨#[m]⟩, .int .i64 a, .int .i64 b] w fun e w' => e = .returned (.tuple #[.string (pairT m a b), .bool true]) ∧ Below w.heap.size w w' := by
  have h1 := run_pair1 m ha
  have h2 := run_pair2 m ha hb
  have CA : Hid (∀ w, Calls Tryz.prog 122 #[.int .i64 a] w fun e w' => e = .returned (.tuple #[.string (bstr (varI a)), .bool true]) ∧ Below w.heap.size w w') := fun w => varText_ok a w ha
  have CB : Hid (∀ w, Calls Tryz.prog 122 #[.int .i64 b] w fun e w' => e = .returned (.tuple #[.string (bstr (varI b)), .bool true]) ∧ Below w.heap.size w w') := fun w => varText_ok b w hb
  go_enter Tryz.func104, Tryz.ntmps104
  go_wp2_with fail
  refine Calls.mono (CA.out _) ?_
  rintro e w1 ⟨rfl, hb1⟩
  go_wp2_with fail
  refine Calls.mono (CB.out _) ?_
  rintro e w2 ⟨rfl, hb2⟩
  go_wp2
  go_ret2
  exact ⟨rfl, Below.on hb1 hb2⟩

/-- A row of bytes of the call's own that holds this text. -/
def ownsX (w : World) (B : Nat) (v : Value) (t : ByteArray) : Prop := w.ownsRow B 5 1 v t.size (Lib.strCells t)
theorem strCells_append (a b : ByteArray) : Lib.strCells (a ++ b) = Lib.strCells a ++ Lib.strCells b := by
  simp [Lib.strCells, ByteArray.data_append]
theorem ownsX.all {w w' : World} {B : Nat} {v : Value} {t : ByteArray} (h : ownsX w B v t) (hb : Below w.heap.size w w') : ownsX w' B v t :=
  World.ownsRow.kept h (grown_of_below hb none) (by
    cases hv : v.ownBlock with
    | none => exact .inl rfl
    | some k => exact .inr (by simp))
theorem ownsX.slice {w : World} {B : Nat} {v : Value} {t : ByteArray} (h : ownsX w B v t) : ∃ a c, v = .slice a t.size c ∧ t.size ≤ c := by
  obtain ⟨h1, h2⟩ := h
  rcases h2 with ⟨rfl, hn⟩ | ⟨g, cap, cur, rfl, _, _, hc, _⟩
  · exact ⟨none, 0, by rw [hn], by omega⟩
  · exact ⟨_, _, rfl, hc⟩
theorem ownsX_nil (w : World) (B : Nat) : ownsX w B (.slice none 0 0) ByteArray.empty := World.ownsRow_nil w B 5 _
theorem run_own_text {w : World} {B : Nat} {v : Value} {t : ByteArray} (h : ownsX w B v t) : (convert 100 9 v).run Tryz.prog w = .ok (.string t) w := by
  have e : t = bstr (t.data.toList.map fun b => (b.toNat : Int)) := by
    unfold bstr
    apply ByteArray.ext
    rw [List.map_map]
    have : ((fun n : Int => UInt8.ofNat n.toNat) ∘ fun b : UInt8 => (b.toNat : Int)) = id := by funext b; simp
    rw [this, List.map_id]
  have h2 : ownsB w B 5 v (t.data.toList.map fun b => (b.toNat : Int)) := by
    unfold ownsB
    unfold ownsX Lib.strCells at h
    simp only [List.length_map, List.map_map] at h ⊢
    exact h
  have := run_own_string 100 9 h2 Tryz.underlying100 Tryz.underlying5 Tryz.underlying9
  rw [← e] at this
  exact this

/-- What lies in a row of frames that is being made: its text, and that nothing went wrong. -/
def Ft (W : World) (g : Nat) (t : ByteArray) : Prop := ∃ v, W.heap[g]? = some (.cells #[v, .nilIface] 161) ∧ ownsX W g v t
theorem Ft.lt {W : World} {g : Nat} {t : ByteArray} (h : Ft W g t) : g < W.heap.size := by
  obtain ⟨v, h, _⟩ := h
  exact (Array.getElem?_eq_some_iff.1 h).1
theorem Ft.up {W W' : World} {g : Nat} {t : ByteArray} (h : Ft W g t) (hb : Below W.heap.size W W') : Ft W' g t := by
  have hl := h.lt
  obtain ⟨v, h1, h2⟩ := h
  exact ⟨v, (hb.block _ hl).trans h1, h2.all hb⟩
theorem Ft.new (W : World) : Ft (W.alloc (.cells #[.slice none 0 0, .nilIface] 161)) W.heap.size ByteArray.empty :=
  ⟨_, (by show (W.heap.push _)[W.heap.size]? = _; simp), ownsX_nil _ _⟩
theorem ft_cells {w : World} {g : Nat} {a b : Value} {t : TypeId} (h : w.heap[g]? = some (.cells #[a, b] t)) :
    w.cell? ⟨g, 0, none⟩ = some a ∧ w.cell? ⟨g, 1, none⟩ = some b ∧ w.frozen? ⟨g, 0, none⟩ = false ∧ w.frozen? ⟨g, 1, none⟩ = false := by
  refine ⟨?_, ?_, ?_, ?_⟩ <;> simp [World.cell?, World.frozen?, h]
theorem ft_set0 {w : World} {g : Nat} {a b : Value} {t : TypeId} (h : w.heap[g]? = some (.cells #[a, b] t)) (u : Value) :
    (w.setCell ⟨g, 0, none⟩ u).heap[g]? = some (.cells #[u, b] t) := by
  show (w.heap.modify g _)[g]? = _
  rw [Array.getElem?_modify]; simp [h]
theorem row_type {w : World} {B g : Nat} {e t : TypeId} {v : Value} {n : Nat} {xs : List Value} {cs : Array Value} (ho : w.ownsRow B e 1 v n xs) (h : w.heap[g]? = some (.cells cs t)) (hne : e ≠ t) : some g ≠ v.ownBlock := by
  intro he
  obtain ⟨_, h2⟩ := ho
  rcases h2 with ⟨rfl, _⟩ | ⟨g', cap, cur, rfl, _, hg, _⟩
  · simp [Value.ownBlock] at he
  · simp only [Value.ownBlock, Option.some.injEq] at he
    subst he
    rw [h] at hg
    simp only [Option.some.injEq, Obj.cells.injEq] at hg
    exact hne hg.2.1.symm

set_option maxRecDepth 10000 in
set_option maxHeartbeats 2000000 in
theorem put_ok (g : Nat) (t r : ByteArray) (w : World) (ht : TableIs w) (hf : Ft w g t) (h1 : 1 ≤ r.size) (h2 : r.size ≤ 9000) (h3 : t.size ≤ 100000000) :
    Calls Tryz.prog 103 #[.pointer (some ⟨g, 0, none⟩), .string r, .bool true] w fun e w' => e = .returned (.tuple #[]) ∧ Ft w' g (t ++ frameT r) ∧ Below g w w' := by
  obtain ⟨i0, hi, hz0, hz1, hz2⟩ := info_parts info5
  have hfs : (frameT r).size ≤ 9010 := by
    have := headF_size (t := r) (by omega)
    unfold frameT
    rw [ByteArray.size_append]; omega
  go_enter Tryz.func103, Tryz.ntmps103
  go_wp2_with fail
  refine Calls.mono (frame_ok r _ h1 h2 ht) ?_
  rintro e w1 ⟨rfl, hb1⟩
  have hl := hf.lt
  obtain ⟨v, hc, ho⟩ := hf.up hb1
  obtain ⟨a, c, rfl, hac⟩ := ho.slice
  obtain ⟨c0, c1, f0, f1⟩ := ft_cells hc
  have HO : Hid (ownsX w1 g (.slice a t.size c) t) := ho
  have HC : Hid (w1.heap[g]? = some (.cells #[.slice a t.size c, .nilIface] 161)) := hc
  have HL : Hid (g < w1.heap.size) := Nat.lt_of_lt_of_le hl hb1.size
  clear ho hc
  go_wp2_with (at_builtin; refine Lib.wpList_append_own_string _ rfl (.tmp 28) (.tmp 29) 100 9 rfl g 5 i0 Tryz.underlying100 Tryz.underlying9 hi hz0 hz1 hz2 _ _ _ rfl HO.out (frameT r) rfl ?c1 ?c2 (Nat.le_of_lt HL.out) ?_)
  case c1 => unfold maxLen; omega
  case c2 => omega
  intro v' w2 ho2 hg2 _
  have ho3 : ownsX w2 g v' (t ++ frameT r) := by
    unfold ownsX
    rw [strCells_append, ByteArray.size_append]; exact ho2
  have hne := row_type HO.out HC.out (by decide)
  have hc2 : w2.heap[g]? = some (.cells #[.slice a t.size c, .nilIface] 161) := (hg2.block g HL.out hne).trans HC.out
  obtain ⟨a2, k2, rfl, _⟩ := ho3.slice
  obtain ⟨d0, d1, e0, e1⟩ := ft_cells hc2
  have HF : Hid (Ft (w2.setCell ⟨g, 0, none⟩ (.slice a2 (t ++ frameT r).size k2)) g (t ++ frameT r)) :=
    ⟨_, ft_set0 hc2 _, World.ownsRow.kept ho3 (grown_set _ _ _ _) (.inr (row_type ho3 hc2 (by decide)).symm)⟩
  have HB : Hid (Below g w (w2.setCell ⟨g, 0, none⟩ (.slice a2 (t ++ frameT r).size k2))) :=
    Below.setCell (Below.grown (hb1.mono (Nat.le_of_lt hl)) hg2 (Nat.le_of_lt HL.out) (fun k hk => (World.ownsRow.lt HO.out k hk).1)) (Nat.le_refl _) _
  clear ho2 ho3 hc2 hne hg2
  rw [ByteArray.size_append] at HF HB
  go_wp2
  go_end0
  exact ⟨rfl, HF.out, HB.out⟩

theorem frameT_le {r : ByteArray} (h : r.size ≤ 9000) : (frameT r).size ≤ r.size + 7 := by
  have := headF_size (t := r) (by omega)
  unfold frameT
  rw [ByteArray.size_append]; omega

set_option maxRecDepth 10000 in
set_option maxHeartbeats 2000000 in
theorem putHead_ok (g : Nat) (t : ByteArray) (n s st : Int) (hd vt : Nat) (x : Value) (w : World) (ht : TableIs w) (hf : Ft w g t) (h1 : hd ≤ 100000) (h2 : vt ≤ 4) (h3 : t.size ≤ 100000000) :
    Calls Tryz.prog 105 #[.pointer (some ⟨g, 0, none⟩), jV n hd vt s st x] w fun e w' => e = .returned (.tuple #[]) ∧ Ft w' g (t ++ frameT (pairT 72 hd vt)) ∧ Below g w w' := by
  have hps := pairT_size (m := 72) (a := hd) (b := vt) (by omega) (by omega)
  have HL : Hid (g < w.heap.size) := hf.lt
  go_enter Tryz.func105, Tryz.ntmps105
  go_wp2_with fail
  refine Calls.mono (pairText_ok 72 hd vt _ (by omega) (by omega)) ?_
  rintro e w1 ⟨rfl, hb1⟩
  have hb2 := below_new hb1
  go_wp2_with fail
  refine Calls.mono (put_ok g t _ _ (ht.below hb2) (hf.up hb2) (by omega) (by omega) h3) ?_
  rintro e w2 ⟨rfl, hf2, hb3⟩
  go_wp2
  go_end0
  exact ⟨rfl, hf2, (hb2.mono (Nat.le_of_lt HL.out)).trans hb3⟩

/-- Frames of entries, from an index on. -/
def entsT (i : Int) : List En → ByteArray
  | [] => ByteArray.empty
  | e :: l => frameT (textE i e.term e.kind e.data) ++ entsT (i + 1) l
theorem entsT_snoc (e : En) : ∀ (l : List En) (i : Int), entsT i (l ++ [e]) = entsT i l ++ frameT (textE (i + l.length) e.term e.kind e.data)
  | [], i => by simp [entsT]
  | f :: l, i => by
    show frameT _ ++ entsT (i + 1) (l ++ [e]) = _
    rw [entsT_snoc e l (i + 1)]
    show _ = frameT _ ++ entsT (i + 1) l ++ _
    rw [ByteArray.append_assoc]
    congr 4
    simp; omega
theorem textE_size {i t k : Int} {d : ByteArray} (h : okX i t k d = true) : 1 ≤ (textE i t k d).size ∧ (textE i t k d).size ≤ 700 := by
  obtain ⟨h1, h2, h3, h4, h5, h6, _⟩ := okX_out h
  have a1 := varI_len3 (n := i.toNat) (by omega)
  have a2 := varI_len3 (n := t.toNat) (by omega)
  unfold textE rawE
  rw [ByteArray.size_append, ByteArray.size_append, ByteArray.size_append, ByteArray.size_append, bstr_size', bstr_size', bstr_size', show (⟨#[69]⟩ : ByteArray).size = 1 from rfl]
  simp; omega
theorem entsT_size : ∀ (l : List En) (i : Int), (∀ (j : Nat) (e : En), l[j]? = some e → okX (i + j) e.term e.kind e.data = true) → (entsT i l).size ≤ 710 * l.length
  | [], i, _ => by simp [entsT]
  | f :: l, i, h => by
    have h0 := h 0 f rfl
    rw [Int.natCast_zero, Int.add_zero] at h0
    have hz := textE_size h0
    have hq := frameT_le (r := textE i f.term f.kind f.data) (by omega)
    have := entsT_size l (i + 1) (fun j e hj => by
      have := h (j + 1) e (by simpa using hj)
      rw [show i + ((j + 1 : Nat) : Int) = i + 1 + (j : Int) by omega] at this
      exact this)
    show (frameT _ ++ entsT (i + 1) l).size ≤ _
    rw [ByteArray.size_append, List.length_cons]
    omega
/-- Every entry of a right log, with its index, is to be written. -/
theorem rises_ok : ∀ (l : List En) (t : Int), rises t l = true → ∀ (j : Nat) (e : En), l[j]? = some e → okE e.term e.kind e.data = true
  | [], _, _, j, e, h => by simp at h
  | f :: l, t, hr, 0, e, h => by
    have := rises_at (l := f :: l) (k := 0) (a := t) (x := f) rfl
    rw [List.drop_zero, hr] at this
    simp at h
    subst h
    have h2 := this.symm
    simp only [Bool.and_eq_true] at h2
    exact h2.1.1
  | f :: l, t, hr, j + 1, e, h => by
    have := rises_at (l := f :: l) (k := 0) (a := t) (x := f) rfl
    rw [List.drop_zero, hr] at this
    have h2 := this.symm
    simp only [Bool.and_eq_true] at h2
    exact rises_ok l f.term (by simpa using h2.2) j e (by simpa using h)
theorem okL_okX {s t : Int} {l : List En} (h : okL s t l = true) (j : Nat) (e : En) (hj : l[j]? = some e) : okX (s + 1 + j) e.term e.kind e.data = true := by
  obtain ⟨h0, h1, h2, h3, h4, h5, h6⟩ := okL_all h
  have hl : j < l.length := (List.getElem?_eq_some_iff.1 hj).1
  unfold okX
  rw [rises_ok l t h6 j e hj, decide_eq_true (show 1 ≤ s + 1 + (j : Int) by omega), decide_eq_true (show s + 1 + (j : Int) ≤ 1000000 by omega)]
  rfl

end Go.Proofs.YtgpojfkdcdgloaaGreatDoor

namespace Go.Proofs.YtgpojfkdcdgloaaGreatDoor
open Go Go.RowKit

theorem take_next {l : List En} {j : Nat} {e : En} (h : l[j]? = some e) : l.take (j + 1) = l.take j ++ [e] := by
  have hl := (List.getElem?_eq_some_iff.1 h).1
  rw [List.take_succ_eq_append_getElem hl]
  congr 2
  exact (List.getElem?_eq_some_iff.1 h).2

set_option maxRecDepth 10000 in
set_option maxHeartbeats 4000000 in
theorem putEntries_ok (g : Nat) (t : ByteArray) (s st : Int) (ao : Option Addr) (n c : Nat) (l : List En) (W0 w : World) (ht : TableIs W0) (hf : Ft w g t) (hok : okL s st l = true) (hr : Reads W0 (.slice ao n c) l) (hb0 : Below W0.heap.size W0 w) (hg : W0.heap.size ≤ g) (hc : n ≤ c) (h3 : t.size ≤ 1000000) :
    Calls Tryz.prog 106 #[.pointer (some ⟨g, 0, none⟩), .agg #[.int .i64 s, .int .i64 st, .slice ao n c], .int .i64 s] w fun e w' => e = .returned (.tuple #[]) ∧ Ft w' g (t ++ entsT (s + 1) l) ∧ Below g w w' := by
  obtain ⟨k0, k1, k2, k3, k4, k5, -⟩ := okL_all hok
  have HN : Hid (n = l.length) := hr.len
  have HL : Hid (g < w.heap.size) := hf.lt
  have HT : Hid (TableIs W0) := ht
  have HOK : Hid (∀ (j : Nat) (e : En), l[j]? = some e → okX (s + 1 + j) e.term e.kind e.data = true) := fun j e h => okL_okX hok j e h
  obtain ⟨bo, d, hr2, hcall⟩ := behind_start (s := s) (t := st) hr (by have := HN.out; omega) hc
  have HR : Hid (Reads W0 (.slice bo l.length d) l) := hr2
  have HC : Hid (∀ w, Calls Tryz.prog 123 #[.agg #[.int .i64 s, .int .i64 st, .slice ao n c], .int .i64 s] w fun e w' => e = .returned (.slice bo l.length d) ∧ Below w.heap.size w w') := hcall
  obtain ⟨m, HM⟩ : ∃ m, Hid (l.length = m) := ⟨_, rfl⟩
  rw [HM.out] at HR HC k4 k5
  clear hr hr2 hcall ht hok
  go_enter Tryz.func106, Tryz.ntmps106
  go_wp2_with fail
  refine Calls.mono (HC.out _) ?_
  rintro e w1 ⟨rfl, hb1⟩
  have hb2 := below_new hb1
  have F1 := hf.up hb2
  go_wp2
  go_loopw [12] (fun i wr => ∃ j : Nat, i = .int .i64 j ∧ j ≤ m ∧ Ft wr g (t ++ entsT (s + 1) (l.take j)) ∧ Below g w wr) (fun i _ => m - (intOf i).toNat)
  case atStart =>
    refine ⟨0, rfl, Nat.zero_le _, ?_, hb2.mono (Nat.le_of_lt HL.out)⟩
    rw [List.take_zero]
    show Ft w1 g (t ++ ByteArray.empty)
    rw [ByteArray.append_empty]; exact F1
  case round =>
    obtain ⟨j, rfl, hj, hfj, hbj⟩ := hrel
    have hzj : (t ++ entsT (s + 1) (l.take j)).size ≤ 2000000 := by
      rw [ByteArray.size_append]
      have := entsT_size (l.take j) (s + 1) (fun i e hi => HOK.out i e (by
        rw [List.getElem?_take] at hi
        split at hi
        · exact hi
        · simp at hi))
      rw [List.length_take] at this
      have : min j l.length ≤ 60 := by omega
      omega
    by_cases hlt : j < m
    · obtain ⟨f, hfe⟩ : ∃ f, l[j]? = some f := ⟨_, List.getElem?_eq_getElem (by rw [HM.out]; exact hlt)⟩
      have HX : Hid (okX (s + 1 + j) f.term f.kind f.data = true) := HOK.out j f hfe
      have HZ := textE_size HX.out
      have HS : Hid (t ++ entsT (s + 1) (l.take (j + 1)) = (t ++ entsT (s + 1) (l.take j)) ++ frameT (textE (s + 1 + j) f.term f.kind f.data)) := by
        show _ = _
        rw [take_next hfe, entsT_snoc, ← ByteArray.append_assoc, List.length_take, show min j l.length = j by rw [HM.out]; omega]
      have HD : Hid (f.data.size ≤ maxLen) := by
        obtain ⟨_, _, _, _, _, h6, _⟩ := okX_out HX.out
        show _ ≤ maxLen
        unfold maxLen; omega
      have hW : Below W0.heap.size W0 wr := hb0.trans (hbj.mono hg)
      obtain ⟨b, o, rfl, hb, c0, c1, c2⟩ := en_at (HR.out.below hW) hfe
      have HE : Hid (∀ w, Calls Tryz.prog 116 #[.int .i64 (s + 1 + j), .agg #[.int .i64 f.term, .int .i64 f.kind, .string f.data]] w fun e w' => e = .returned (.tuple #[.string (textE (s + 1 + j) f.term f.kind f.data), .bool true]) ∧ Below w.heap.size w w') := fun w => by
        rw [← valX_yes HX.out]; exact entryText_any _ _ _ _ w HD.out
      clear hfe
      go_wp2_with fail
      refine Calls.mono (HE.out _) ?_
      rintro e w2 ⟨rfl, hb3⟩
      have hb4 := below_new hb3
      have F2 := hfj.up hb4
      have hwr : g < wr.heap.size := hfj.lt
      have HB4 : Hid (Below g w w2) := hbj.trans (hb4.mono (Nat.le_of_lt hwr))
      have T2 : TableIs w2 := HT.out.below (hb0.trans (HB4.out.mono hg))
      go_wp2_with fail
      refine Calls.mono (put_ok g _ _ _ T2 F2 HZ.1 (by omega) (by omega)) ?_
      rintro e w3 ⟨rfl, hf3, hb5⟩
      rw [← HS.out] at hf3
      go_wp2
      go_roundw
      case rel => exact ⟨j + 1, by go_num, by omega, hf3, HB4.out.trans hb5⟩
      case measure => simp [intOf]; omega
    · have hjm : j = m := by omega
      subst hjm
      rw [List.take_of_length_le (by rw [HM.out]; exact Nat.le_refl _)] at hfj
      go_wp2
      go_end0
      exact ⟨rfl, hfj, hbj⟩

/-- The text of a journal, whatever its length. -/
def jRaw (t v s st : Int) (l : List En) : ByteArray := frameT (pairT 66 s.toNat st.toNat) ++ frameT (pairT 72 t.toNat v.toNat) ++ entsT (s + 1) l
def jtB (n t v s st : Int) (l : List En) : Bool := jokB n t v s st l && decide ((jRaw t v s st l).size ≤ 20000)
def jtX (n t v s st : Int) (l : List En) : ByteArray := if jtB n t v s st l then jRaw t v s st l else ByteArray.empty
theorem jtB_no {n t v s st : Int} {l : List En} (h : jokB n t v s st l = false) : jtB n t v s st l = false := by unfold jtB; rw [h]; rfl
theorem jtB_long {n t v s st : Int} {l : List En} (h : 20000 < (jRaw t v s st l).size) : jtB n t v s st l = false := by
  unfold jtB; rw [decide_eq_false (by omega), Bool.and_false]
theorem jtB_yes {n t v s st : Int} {l : List En} (h : jokB n t v s st l = true) (h2 : (jRaw t v s st l).size ≤ 20000) : jtB n t v s st l = true := by
  unfold jtB; rw [h, decide_eq_true h2]; rfl
theorem jok_all {n t v s st : Int} {l : List En} (h : jokB n t v s st l = true) : (0 ≤ n ∧ n ≤ 999) ∧ (0 ≤ t ∧ t ≤ 100000 ∧ 0 ≤ v ∧ v ≤ 4) ∧ okL s st l = true := by
  unfold jokB at h
  simp only [Bool.and_eq_true] at h
  exact ⟨numB_out h.1.1, hdB_out h.1.2, h.2⟩
/-- What is wrong, as a value. -/
abbrev faultV (c : Int) : Value := .iface 89 (.agg #[.int .i64 c])

set_option maxRecDepth 10000 in
set_option maxHeartbeats 2000000 in
theorem journalText1_no (n t v s st : Int) (ao : Option Addr) (k c : Nat) (l : List En) (w : World) (hp : PowIs w) (hr : Reads w (.slice ao k c) l) (hk : k ≤ 1048577) (hz : SizedE l) (hj : jokB n t v s st l = false) :
    Calls Tryz.prog 79 #[jV n t v s st (.slice ao k c)] w fun e w' => e = .returned (.tuple #[.string ByteArray.empty, faultV 1]) ∧ Below w.heap.size w w' := by
  have HR : Hid (Reads w (.slice ao k c) l) := hr
  have HZ : Hid (SizedE l) := hz
  have HJ : Hid (jokB n t v s st l = false) := hj
  clear hr hz hj
  go_enter Tryz.func79, Tryz.ntmps79
  go_wp2_with fail
  refine Calls.mono (journalOk_try n t v s st ao k c l _ (hp.below (ba (Below.refl _ _) _)) (HR.out.alloc _) hk HZ.out) ?_
  rw [HJ.out]
  rintro e w1 ⟨rfl, hb1⟩
  go_wp2
  go_ret2
  exact ⟨rfl, below_new hb1⟩

end Go.Proofs.YtgpojfkdcdgloaaGreatDoor
