/-
  Journals: frames put behind one another, as the program does it: the walks. Journals: the frames of their entries, and their text, as the program makes them: the walks. Journals: the text of a right one, as the program makes it: the walk. Journals: their text, on both sides: the walks. Journals: the frames of their entries, as the model makes them: the walk. The law on the text of a journal: the walk.
-/
import Derived.Test.YtijmaplejpnggaaDoorJk
import Derived.Test.YtijmaplejpnggaaDoorFr
import Derived.Test.YtijmaplejpnggaaDoorEt
import Derived.Test.YtijmaplejpnggaaDoorK2
import Derived.Lib.AppendStr
import Derived.Deep.QuietTactic
import Derived.BigQuiet
import Derived.Test.YtijmaplejpnggaaDoorK1
import Derived.Test.YtijmaplejpnggaaDoorEs
import Derived.Deep.RegionHeld3
import Derived.Laws.IdiomStrings
namespace Go.Proofs.YtijmaplejpnggaaDoor
open Go Go.RowKit

theorem varI_len9 {n : Nat} (hn : n ≤ 1000000000) : 1 ≤ (varI n).length ∧ (varI n).length ≤ 5 := by
  by_cases h1 : 127 < n
  · rw [varI_more h1]
    by_cases h2 : 127 < n / 128
    · rw [varI_more h2]
      by_cases h3 : 127 < n / 128 / 128
      · rw [varI_more h3]
        by_cases h4 : 127 < n / 128 / 128 / 128
        · rw [varI_more h4]
          rw [varI_last (show ¬ 127 < n / 128 / 128 / 128 / 128 by omega)]
          simp
        · rw [varI_last h4]; simp
      · rw [varI_last h3]; simp
    · rw [varI_last h2]; simp
  · rw [varI_last h1]; simp

/-- The record of a mark and two numbers. -/
def pairT (m : UInt8) (a b : Nat) : ByteArray := (⟨#[m]⟩ : ByteArray) ++ bstr (varI a) ++ bstr (varI b)
theorem pairT_size {m : UInt8} {a b : Nat} (ha : a ≤ 1000000000) (hb : b ≤ 1000000000) : 3 ≤ (pairT m a b).size ∧ (pairT m a b).size ≤ 11 := by
  have := varI_len9 ha
  have := varI_len9 hb
  unfold pairT
  rw [ByteArray.size_append, ByteArray.size_append, bstr_size', bstr_size', show (⟨#[m]⟩ : ByteArray).size = 1 from rfl]
  omega
theorem run_pair1 (m : UInt8) {a : Nat} (ha : a ≤ 1000000000) (wx : World) : (Op.stringOp .add ⟨#[m]⟩ (bstr (varI a))).run Tryd.prog wx = .ok (.string ((⟨#[m]⟩ : ByteArray) ++ bstr (varI a))) wx := by
  have := varI_len9 ha
  rw [run_string_add_sum wx _ _ (by rw [bstr_size', show (⟨#[m]⟩ : ByteArray).size = 1 from rfl]; omega)]
theorem run_pair2 (m : UInt8) {a b : Nat} (ha : a ≤ 1000000000) (hb : b ≤ 1000000000) (wx : World) : (Op.stringOp .add ((⟨#[m]⟩ : ByteArray) ++ bstr (varI a)) (bstr (varI b))).run Tryd.prog wx = .ok (.string (pairT m a b)) wx := by
  have := varI_len9 ha
  have := varI_len9 hb
  rw [run_string_add_sum wx _ _ (by rw [ByteArray.size_append, bstr_size', bstr_size', show (⟨#[m]⟩ : ByteArray).size = 1 from rfl]; omega)]
  rfl

set_option maxRecDepth 10000 in
set_option maxHeartbeats 1000000 in
theorem pairText_ok (m : UInt8) (a b : Nat) (w : World) (ha : a ≤ 1000000000) (hb : b ≤ 1000000000) :
    Calls Tryd.prog 67 #[.string ⟨#[m]⟩, .int .i64 a, .int .i64 b] w fun e w' => e = .returned (.tuple #[.string (pairT m a b), .bool true]) ∧ Below w.heap.size w w' := by
  have h1 := run_pair1 m ha
  have h2 := run_pair2 m ha hb
  have CA : Hid (∀ w, Calls Tryd.prog 33 #[.int .i64 a] w fun e w' => e = .returned (.tuple #[.string (bstr (varI a)), .bool true]) ∧ Below w.heap.size w w') := fun w => varText_ok a w ha
  have CB : Hid (∀ w, Calls Tryd.prog 33 #[.int .i64 b] w fun e w' => e = .returned (.tuple #[.string (bstr (varI b)), .bool true]) ∧ Below w.heap.size w w') := fun w => varText_ok b w hb
  go_enter Tryd.func67, Tryd.ntmps67
  go_wp2_with fail
  refine Calls.mono (CA.out _) ?_
  rintro e w1 ⟨rfl, hb1⟩
  go_wp2_with fail
  refine Calls.mono (CB.out _) ?_
  rintro e w2 ⟨rfl, hb2⟩
  go_wp2
  go_ret2
  exact ⟨rfl, Below.on hb1 hb2⟩

/-- A row of bytes of the call's own that holds this text. -/
def ownsX (w : World) (B : Nat) (v : Value) (t : ByteArray) : Prop := w.ownsRow B 5 1 v t.size (Lib.strCells t)
theorem strCells_append (a b : ByteArray) : Lib.strCells (a ++ b) = Lib.strCells a ++ Lib.strCells b := by
  simp [Lib.strCells, ByteArray.data_append]
theorem ownsX.all {w w' : World} {B : Nat} {v : Value} {t : ByteArray} (h : ownsX w B v t) (hb : Below w.heap.size w w') : ownsX w' B v t :=
  World.ownsRow.kept h (grown_of_below hb none) (by
    cases hv : v.ownBlock with
    | none => exact .inl rfl
    | some k => exact .inr (by simp))
theorem ownsX.slice {w : World} {B : Nat} {v : Value} {t : ByteArray} (h : ownsX w B v t) : ∃ a c, v = .slice a t.size c ∧ t.size ≤ c := by
  obtain ⟨h1, h2⟩ := h
  rcases h2 with ⟨rfl, hn⟩ | ⟨g, cap, cur, rfl, _, _, hc, _⟩
  · exact ⟨none, 0, by rw [hn], by omega⟩
  · exact ⟨_, _, rfl, hc⟩
theorem ownsX_nil (w : World) (B : Nat) : ownsX w B (.slice none 0 0) ByteArray.empty := World.ownsRow_nil w B 5 _
theorem run_own_text {w : World} {B : Nat} {v : Value} {t : ByteArray} (h : ownsX w B v t) : (convert 22 9 v).run Tryd.prog w = .ok (.string t) w := by
  have e : t = bstr (t.data.toList.map fun b => (b.toNat : Int)) := by
    unfold bstr
    apply ByteArray.ext
    rw [List.map_map]
    have : ((fun n : Int => UInt8.ofNat n.toNat) ∘ fun b : UInt8 => (b.toNat : Int)) = id := by funext b; simp
    rw [this, List.map_id]
  have h2 : ownsB w B 5 v (t.data.toList.map fun b => (b.toNat : Int)) := by
    unfold ownsB
    unfold ownsX Lib.strCells at h
    simp only [List.length_map, List.map_map] at h ⊢
    exact h
  have := run_own_string 22 9 h2 Tryd.underlying22 Tryd.underlying5 Tryd.underlying9
  rw [← e] at this
  exact this

/-- What lies in a row of frames that is being made: its text, and that nothing went wrong. -/
def Ft (W : World) (g : Nat) (t : ByteArray) : Prop := ∃ v, W.heap[g]? = some (.cells #[v, .nilIface] 101) ∧ ownsX W g v t
theorem Ft.lt {W : World} {g : Nat} {t : ByteArray} (h : Ft W g t) : g < W.heap.size := by
  obtain ⟨v, h, _⟩ := h
  exact (Array.getElem?_eq_some_iff.1 h).1
theorem Ft.up {W W' : World} {g : Nat} {t : ByteArray} (h : Ft W g t) (hb : Below W.heap.size W W') : Ft W' g t := by
  have hl := h.lt
  obtain ⟨v, h1, h2⟩ := h
  exact ⟨v, (hb.block _ hl).trans h1, h2.all hb⟩
theorem Ft.new (W : World) : Ft (W.alloc (.cells #[.slice none 0 0, .nilIface] 101)) W.heap.size ByteArray.empty :=
  ⟨_, (by show (W.heap.push _)[W.heap.size]? = _; simp), ownsX_nil _ _⟩
theorem ft_cells {w : World} {g : Nat} {a b : Value} {t : TypeId} (h : w.heap[g]? = some (.cells #[a, b] t)) :
    w.cell? ⟨g, 0, none⟩ = some a ∧ w.cell? ⟨g, 1, none⟩ = some b ∧ w.frozen? ⟨g, 0, none⟩ = false ∧ w.frozen? ⟨g, 1, none⟩ = false := by
  refine ⟨?_, ?_, ?_, ?_⟩ <;> simp [World.cell?, World.frozen?, h]
theorem ft_set0 {w : World} {g : Nat} {a b : Value} {t : TypeId} (h : w.heap[g]? = some (.cells #[a, b] t)) (u : Value) :
    (w.setCell ⟨g, 0, none⟩ u).heap[g]? = some (.cells #[u, b] t) := by
  show (w.heap.modify g _)[g]? = _
  rw [Array.getElem?_modify]; simp [h]
theorem row_type {w : World} {B g : Nat} {e t : TypeId} {v : Value} {n : Nat} {xs : List Value} {cs : Array Value} (ho : w.ownsRow B e 1 v n xs) (h : w.heap[g]? = some (.cells cs t)) (hne : e ≠ t) : some g ≠ v.ownBlock := by
  intro he
  obtain ⟨_, h2⟩ := ho
  rcases h2 with ⟨rfl, _⟩ | ⟨g', cap, cur, rfl, _, hg, _⟩
  · simp [Value.ownBlock] at he
  · simp only [Value.ownBlock, Option.some.injEq] at he
    subst he
    rw [h] at hg
    simp only [Option.some.injEq, Obj.cells.injEq] at hg
    exact hne hg.2.1.symm

set_option maxRecDepth 10000 in
set_option maxHeartbeats 2000000 in
theorem put_ok (g : Nat) (t r : ByteArray) (w : World) (ht : TableIs w) (hf : Ft w g t) (h1 : 1 ≤ r.size) (h2 : r.size ≤ 9000) (h3 : t.size ≤ 100000000) :
    Calls Tryd.prog 66 #[.pointer (some ⟨g, 0, none⟩), .string r, .bool true] w fun e w' => e = .returned (.tuple #[]) ∧ Ft w' g (t ++ frameT r) ∧ Below g w w' := by
  obtain ⟨i0, hi, hz0, hz1, hz2⟩ := info_parts info5
  have hfs : (frameT r).size ≤ 9010 := by
    have := headF_size (t := r) (by omega)
    unfold frameT
    rw [ByteArray.size_append]; omega
  go_enter Tryd.func66, Tryd.ntmps66
  go_wp2_with fail
  refine Calls.mono (frame_ok r _ h1 h2 ht) ?_
  rintro e w1 ⟨rfl, hb1⟩
  have hl := hf.lt
  obtain ⟨v, hc, ho⟩ := hf.up hb1
  obtain ⟨a, c, rfl, hac⟩ := ho.slice
  obtain ⟨c0, c1, f0, f1⟩ := ft_cells hc
  have HO : Hid (ownsX w1 g (.slice a t.size c) t) := ho
  have HC : Hid (w1.heap[g]? = some (.cells #[.slice a t.size c, .nilIface] 101)) := hc
  have HL : Hid (g < w1.heap.size) := Nat.lt_of_lt_of_le hl hb1.size
  clear ho hc
  go_wp2_with (at_builtin; refine Lib.wpList_append_own_string _ rfl (.tmp 28) (.tmp 29) 22 9 rfl g 5 i0 Tryd.underlying22 Tryd.underlying9 hi hz0 hz1 hz2 _ _ _ rfl HO.out (frameT r) rfl ?c1 ?c2 (Nat.le_of_lt HL.out) ?_)
  case c1 => unfold maxLen; omega
  case c2 => omega
  intro v' w2 ho2 hg2 _
  have ho3 : ownsX w2 g v' (t ++ frameT r) := by
    unfold ownsX
    rw [strCells_append, ByteArray.size_append]; exact ho2
  have hne := row_type HO.out HC.out (by decide)
  have hc2 : w2.heap[g]? = some (.cells #[.slice a t.size c, .nilIface] 101) := (hg2.block g HL.out hne).trans HC.out
  obtain ⟨a2, k2, rfl, _⟩ := ho3.slice
  obtain ⟨d0, d1, e0, e1⟩ := ft_cells hc2
  have HF : Hid (Ft (w2.setCell ⟨g, 0, none⟩ (.slice a2 (t ++ frameT r).size k2)) g (t ++ frameT r)) :=
    ⟨_, ft_set0 hc2 _, World.ownsRow.kept ho3 (grown_set _ _ _ _) (.inr (row_type ho3 hc2 (by decide)).symm)⟩
  have HB : Hid (Below g w (w2.setCell ⟨g, 0, none⟩ (.slice a2 (t ++ frameT r).size k2))) :=
    Below.setCell (Below.grown (hb1.mono (Nat.le_of_lt hl)) hg2 (Nat.le_of_lt HL.out) (fun k hk => (World.ownsRow.lt HO.out k hk).1)) (Nat.le_refl _) _
  clear ho2 ho3 hc2 hne hg2
  rw [ByteArray.size_append] at HF HB
  go_wp2
  go_end0
  exact ⟨rfl, HF.out, HB.out⟩

theorem frameT_le {r : ByteArray} (h : r.size ≤ 9000) : (frameT r).size ≤ r.size + 7 := by
  have := headF_size (t := r) (by omega)
  unfold frameT
  rw [ByteArray.size_append]; omega

set_option maxRecDepth 10000 in
set_option maxHeartbeats 2000000 in
theorem putHead_ok (g : Nat) (t : ByteArray) (n s st : Int) (hd vt : Nat) (x : Value) (w : World) (ht : TableIs w) (hf : Ft w g t) (h1 : hd ≤ 100000) (h2 : vt ≤ 4) (h3 : t.size ≤ 100000000) :
    Calls Tryd.prog 68 #[.pointer (some ⟨g, 0, none⟩), jV n hd vt s st x] w fun e w' => e = .returned (.tuple #[]) ∧ Ft w' g (t ++ frameT (pairT 72 hd vt)) ∧ Below g w w' := by
  have hps := pairT_size (m := 72) (a := hd) (b := vt) (by omega) (by omega)
  have HL : Hid (g < w.heap.size) := hf.lt
  go_enter Tryd.func68, Tryd.ntmps68
  go_wp2_with fail
  refine Calls.mono (pairText_ok 72 hd vt _ (by omega) (by omega)) ?_
  rintro e w1 ⟨rfl, hb1⟩
  have hb2 := below_new hb1
  go_wp2_with fail
  refine Calls.mono (put_ok g t _ _ (ht.below hb2) (hf.up hb2) (by omega) (by omega) h3) ?_
  rintro e w2 ⟨rfl, hf2, hb3⟩
  go_wp2
  go_end0
  exact ⟨rfl, hf2, (hb2.mono (Nat.le_of_lt HL.out)).trans hb3⟩

/-- Frames of entries, from an index on. -/
def entsT (i : Int) : List En → ByteArray
  | [] => ByteArray.empty
  | e :: l => frameT (textE i e.term e.kind e.data) ++ entsT (i + 1) l
theorem entsT_snoc (e : En) : ∀ (l : List En) (i : Int), entsT i (l ++ [e]) = entsT i l ++ frameT (textE (i + l.length) e.term e.kind e.data)
  | [], i => by simp [entsT]
  | f :: l, i => by
    show frameT _ ++ entsT (i + 1) (l ++ [e]) = _
    rw [entsT_snoc e l (i + 1)]
    show _ = frameT _ ++ entsT (i + 1) l ++ _
    rw [ByteArray.append_assoc]
    congr 4
    simp; omega
theorem textE_size {i t k : Int} {d : ByteArray} (h : okX i t k d = true) : 1 ≤ (textE i t k d).size ∧ (textE i t k d).size ≤ 700 := by
  obtain ⟨h1, h2, h3, h4, h5, h6, _⟩ := okX_out h
  have a1 := varI_len3 (n := i.toNat) (by omega)
  have a2 := varI_len3 (n := t.toNat) (by omega)
  unfold textE rawE
  rw [ByteArray.size_append, ByteArray.size_append, ByteArray.size_append, ByteArray.size_append, bstr_size', bstr_size', bstr_size', show (⟨#[69]⟩ : ByteArray).size = 1 from rfl]
  simp; omega
theorem entsT_size : ∀ (l : List En) (i : Int), (∀ (j : Nat) (e : En), l[j]? = some e → okX (i + j) e.term e.kind e.data = true) → (entsT i l).size ≤ 710 * l.length
  | [], i, _ => by simp [entsT]
  | f :: l, i, h => by
    have h0 := h 0 f rfl
    rw [Int.natCast_zero, Int.add_zero] at h0
    have hz := textE_size h0
    have hq := frameT_le (r := textE i f.term f.kind f.data) (by omega)
    have := entsT_size l (i + 1) (fun j e hj => by
      have := h (j + 1) e (by simpa using hj)
      rw [show i + ((j + 1 : Nat) : Int) = i + 1 + (j : Int) by omega] at this
      exact this)
    show (frameT _ ++ entsT (i + 1) l).size ≤ _
    rw [ByteArray.size_append, List.length_cons]
    omega
/-- Every entry of a right log, with its index, is to be written. -/
theorem rises_ok : ∀ (l : List En) (t : Int), rises t l = true → ∀ (j : Nat) (e : En), l[j]? = some e → okE e.term e.kind e.data = true
  | [], _, _, j, e, h => by simp at h
  | f :: l, t, hr, 0, e, h => by
    have := rises_at (l := f :: l) (k := 0) (a := t) (x := f) rfl
    rw [List.drop_zero, hr] at this
    simp at h
    subst h
    have h2 := this.symm
    simp only [Bool.and_eq_true] at h2
    exact h2.1.1
  | f :: l, t, hr, j + 1, e, h => by
    have := rises_at (l := f :: l) (k := 0) (a := t) (x := f) rfl
    rw [List.drop_zero, hr] at this
    have h2 := this.symm
    simp only [Bool.and_eq_true] at h2
    exact rises_ok l f.term (by simpa using h2.2) j e (by simpa using h)
theorem okL_okX {s t : Int} {l : List En} (h : okL s t l = true) (j : Nat) (e : En) (hj : l[j]? = some e) : okX (s + 1 + j) e.term e.kind e.data = true := by
  obtain ⟨h0, h1, h2, h3, h4, h5, h6⟩ := okL_all h
  have hl : j < l.length := (List.getElem?_eq_some_iff.1 hj).1
  unfold okX
  rw [rises_ok l t h6 j e hj, decide_eq_true (show 1 ≤ s + 1 + (j : Int) by omega), decide_eq_true (show s + 1 + (j : Int) ≤ 1000000 by omega)]
  rfl

end Go.Proofs.YtijmaplejpnggaaDoor

namespace Go.Proofs.YtijmaplejpnggaaDoor
open Go Go.RowKit

theorem take_next {l : List En} {j : Nat} {e : En} (h : l[j]? = some e) : l.take (j + 1) = l.take j ++ [e] := by
  have hl := (List.getElem?_eq_some_iff.1 h).1
  rw [List.take_succ_eq_append_getElem hl]
  congr 2
  exact (List.getElem?_eq_some_iff.1 h).2

set_option maxRecDepth 10000 in
set_option maxHeartbeats 4000000 in
theorem putEntries_ok (g : Nat) (t : ByteArray) (s st : Int) (ao : Option Addr) (n c : Nat) (l : List En) (W0 w : World) (ht : TableIs W0) (hf : Ft w g t) (hok : okL s st l = true) (hr : Reads W0 (.slice ao n c) l) (hb0 : Below W0.heap.size W0 w) (hg : W0.heap.size ≤ g) (hc : n ≤ c) (h3 : t.size ≤ 1000000) :
    Calls Tryd.prog 69 #[.pointer (some ⟨g, 0, none⟩), .agg #[.int .i64 s, .int .i64 st, .slice ao n c], .int .i64 s] w fun e w' => e = .returned (.tuple #[]) ∧ Ft w' g (t ++ entsT (s + 1) l) ∧ Below g w w' := by
  obtain ⟨k0, k1, k2, k3, k4, k5, -⟩ := okL_all hok
  have HN : Hid (n = l.length) := hr.len
  have HL : Hid (g < w.heap.size) := hf.lt
  have HT : Hid (TableIs W0) := ht
  have HOK : Hid (∀ (j : Nat) (e : En), l[j]? = some e → okX (s + 1 + j) e.term e.kind e.data = true) := fun j e h => okL_okX hok j e h
  obtain ⟨bo, d, hr2, hcall⟩ := behind_start (s := s) (t := st) hr (by have := HN.out; omega) hc
  have HR : Hid (Reads W0 (.slice bo l.length d) l) := hr2
  have HC : Hid (∀ w, Calls Tryd.prog 81 #[.agg #[.int .i64 s, .int .i64 st, .slice ao n c], .int .i64 s] w fun e w' => e = .returned (.slice bo l.length d) ∧ Below w.heap.size w w') := hcall
  obtain ⟨m, HM⟩ : ∃ m, Hid (l.length = m) := ⟨_, rfl⟩
  rw [HM.out] at HR HC k4 k5
  clear hr hr2 hcall ht hok
  go_enter Tryd.func69, Tryd.ntmps69
  go_wp2_with fail
  refine Calls.mono (HC.out _) ?_
  rintro e w1 ⟨rfl, hb1⟩
  have hb2 := below_new hb1
  have F1 := hf.up hb2
  go_wp2
  go_loopw [12] (fun i wr => ∃ j : Nat, i = .int .i64 j ∧ j ≤ m ∧ Ft wr g (t ++ entsT (s + 1) (l.take j)) ∧ Below g w wr) (fun i _ => m - (intOf i).toNat)
  case atStart =>
    refine ⟨0, rfl, Nat.zero_le _, ?_, hb2.mono (Nat.le_of_lt HL.out)⟩
    rw [List.take_zero]
    show Ft w1 g (t ++ ByteArray.empty)
    rw [ByteArray.append_empty]; exact F1
  case round =>
    obtain ⟨j, rfl, hj, hfj, hbj⟩ := hrel
    have hzj : (t ++ entsT (s + 1) (l.take j)).size ≤ 2000000 := by
      rw [ByteArray.size_append]
      have := entsT_size (l.take j) (s + 1) (fun i e hi => HOK.out i e (by
        rw [List.getElem?_take] at hi
        split at hi
        · exact hi
        · simp at hi))
      rw [List.length_take] at this
      have : min j l.length ≤ 60 := by omega
      omega
    by_cases hlt : j < m
    · obtain ⟨f, hfe⟩ : ∃ f, l[j]? = some f := ⟨_, List.getElem?_eq_getElem (by rw [HM.out]; exact hlt)⟩
      have HX : Hid (okX (s + 1 + j) f.term f.kind f.data = true) := HOK.out j f hfe
      have HZ := textE_size HX.out
      have HS : Hid (t ++ entsT (s + 1) (l.take (j + 1)) = (t ++ entsT (s + 1) (l.take j)) ++ frameT (textE (s + 1 + j) f.term f.kind f.data)) := by
        show _ = _
        rw [take_next hfe, entsT_snoc, ← ByteArray.append_assoc, List.length_take, show min j l.length = j by rw [HM.out]; omega]
      have HD : Hid (f.data.size ≤ maxLen) := by
        obtain ⟨_, _, _, _, _, h6, _⟩ := okX_out HX.out
        show _ ≤ maxLen
        unfold maxLen; omega
      have hW : Below W0.heap.size W0 wr := hb0.trans (hbj.mono hg)
      obtain ⟨b, o, rfl, hb, c0, c1, c2⟩ := en_at (HR.out.below hW) hfe
      have HE : Hid (∀ w, Calls Tryd.prog 82 #[.int .i64 (s + 1 + j), .agg #[.int .i64 f.term, .int .i64 f.kind, .string f.data]] w fun e w' => e = .returned (.tuple #[.string (textE (s + 1 + j) f.term f.kind f.data), .bool true]) ∧ Below w.heap.size w w') := fun w => by
        rw [← valX_yes HX.out]; exact entryText_any _ _ _ _ w HD.out
      clear hfe
      go_wp2_with fail
      refine Calls.mono (HE.out _) ?_
      rintro e w2 ⟨rfl, hb3⟩
      have hb4 := below_new hb3
      have F2 := hfj.up hb4
      have hwr : g < wr.heap.size := hfj.lt
      have HB4 : Hid (Below g w w2) := hbj.trans (hb4.mono (Nat.le_of_lt hwr))
      have T2 : TableIs w2 := HT.out.below (hb0.trans (HB4.out.mono hg))
      go_wp2_with fail
      refine Calls.mono (put_ok g _ _ _ T2 F2 HZ.1 (by omega) (by omega)) ?_
      rintro e w3 ⟨rfl, hf3, hb5⟩
      rw [← HS.out] at hf3
      go_wp2
      go_roundw
      case rel => exact ⟨j + 1, by go_num, by omega, hf3, HB4.out.trans hb5⟩
      case measure => simp [intOf]; omega
    · have hjm : j = m := by omega
      subst hjm
      rw [List.take_of_length_le (by rw [HM.out]; exact Nat.le_refl _)] at hfj
      go_wp2
      go_end0
      exact ⟨rfl, hfj, hbj⟩

/-- The text of a journal, whatever its length. -/
def jRaw (t v s st : Int) (l : List En) : ByteArray := frameT (pairT 66 s.toNat st.toNat) ++ frameT (pairT 72 t.toNat v.toNat) ++ entsT (s + 1) l
def jtB (n t v s st : Int) (l : List En) : Bool := jokB n t v s st l && decide ((jRaw t v s st l).size ≤ 20000)
def jtX (n t v s st : Int) (l : List En) : ByteArray := if jtB n t v s st l then jRaw t v s st l else ByteArray.empty
theorem jtB_no {n t v s st : Int} {l : List En} (h : jokB n t v s st l = false) : jtB n t v s st l = false := by unfold jtB; rw [h]; rfl
theorem jtB_long {n t v s st : Int} {l : List En} (h : 20000 < (jRaw t v s st l).size) : jtB n t v s st l = false := by
  unfold jtB; rw [decide_eq_false (by omega), Bool.and_false]
theorem jtB_yes {n t v s st : Int} {l : List En} (h : jokB n t v s st l = true) (h2 : (jRaw t v s st l).size ≤ 20000) : jtB n t v s st l = true := by
  unfold jtB; rw [h, decide_eq_true h2]; rfl
theorem jok_all {n t v s st : Int} {l : List En} (h : jokB n t v s st l = true) : (0 ≤ n ∧ n ≤ 999) ∧ (0 ≤ t ∧ t ≤ 100000 ∧ 0 ≤ v ∧ v ≤ 4) ∧ okL s st l = true := by
  unfold jokB at h
  simp only [Bool.and_eq_true] at h
  exact ⟨numB_out h.1.1, hdB_out h.1.2, h.2⟩
/-- What is wrong, as a value. -/
abbrev faultV (c : Int) : Value := .iface 99 (.agg #[.int .i64 c])

set_option maxRecDepth 10000 in
set_option maxHeartbeats 2000000 in
theorem journalText1_no (n t v s st : Int) (ao : Option Addr) (k c : Nat) (l : List En) (w : World) (hp : PowIs w) (hr : Reads w (.slice ao k c) l) (hk : k ≤ 1048577) (hz : SizedE l) (hj : jokB n t v s st l = false) :
    Calls Tryd.prog 52 #[jV n t v s st (.slice ao k c)] w fun e w' => e = .returned (.tuple #[.string ByteArray.empty, faultV 1]) ∧ Below w.heap.size w w' := by
  have HR : Hid (Reads w (.slice ao k c) l) := hr
  have HZ : Hid (SizedE l) := hz
  have HJ : Hid (jokB n t v s st l = false) := hj
  clear hr hz hj
  go_enter Tryd.func52, Tryd.ntmps52
  go_wp2_with fail
  refine Calls.mono (journalOk_try n t v s st ao k c l _ (hp.below (ba (Below.refl _ _) _)) (HR.out.alloc _) hk HZ.out) ?_
  rw [HJ.out]
  rintro e w1 ⟨rfl, hb1⟩
  go_wp2
  go_ret2
  exact ⟨rfl, below_new hb1⟩

end Go.Proofs.YtijmaplejpnggaaDoor

namespace Go.Proofs.YtijmaplejpnggaaDoor
open Go Go.RowKit

/-- The box of a journal. -/
structure Jb (W : World) (b : Nat) (n t v s st : Int) (x : Value) : Prop where
  c0 : W.cell? ⟨b, 0, none⟩ = some (.int .i64 n)
  c1 : W.cell? ⟨b, 1, none⟩ = some (.int .i64 t)
  c2 : W.cell? ⟨b, 2, none⟩ = some (.int .i64 v)
  c3 : W.cell? ⟨b, 3, none⟩ = some (.int .i64 s)
  c4 : W.cell? ⟨b, 4, none⟩ = some (.int .i64 st)
  c5 : W.cell? ⟨b, 5, none⟩ = some x
theorem Jb.belowB {B b : Nat} {W W' : World} {n t v s st : Int} {x : Value} (h : Jb W b n t v s st x) (hb : Below B W W') (hB : b < B) : Jb W' b n t v s st x :=
  ⟨(hb.cell (p := ⟨b, 0, none⟩) hB).trans h.c0, (hb.cell (p := ⟨b, 1, none⟩) hB).trans h.c1, (hb.cell (p := ⟨b, 2, none⟩) hB).trans h.c2, (hb.cell (p := ⟨b, 3, none⟩) hB).trans h.c3, (hb.cell (p := ⟨b, 4, none⟩) hB).trans h.c4, (hb.cell (p := ⟨b, 5, none⟩) hB).trans h.c5⟩
theorem Jb.lt {b : Nat} {W : World} {n t v s st : Int} {x : Value} (h : Jb W b n t v s st x) : b < W.heap.size := World.block_lt_of_cell? W _ h.c0
theorem Jb.up {b : Nat} {W W' : World} {n t v s st : Int} {x : Value} (h : Jb W b n t v s st x) (hb : Below W.heap.size W W') : Jb W' b n t v s st x := h.belowB hb h.lt
theorem Jb.new (w : World) (n t v s st : Int) (x : Value) (T : TypeId) : Jb (w.alloc (.cells #[.int .i64 n, .int .i64 t, .int .i64 v, .int .i64 s, .int .i64 st, x] T)) w.heap.size n t v s st x := by
  refine ⟨?_, ?_, ?_, ?_, ?_, ?_⟩ <;> simp [go_sem]

set_option maxRecDepth 10000 in
set_option maxHeartbeats 4000000 in
theorem journalText1_ok (n : Int) (t v s st : Nat) (ao : Option Addr) (k c : Nat) (l : List En) (w : World) (hp : PowIs w) (ht : TableIs w) (hr : Reads w (.slice ao k c) l) (hc : k ≤ c) (hk : k ≤ 1048577) (hz : SizedE l) (hj : jokB n t v s st l = true) :
    Calls Tryd.prog 52 #[jV n t v s st (.slice ao k c)] w fun e w' => e = .returned (if (jRaw t v s st l).size ≤ 20000 then .tuple #[.string (jRaw t v s st l), .nilIface] else .tuple #[.string ByteArray.empty, faultV 6]) ∧ Below w.heap.size w w' := by
  have HR : Hid (Reads w (.slice ao k c) l) := hr
  have HZ : Hid (SizedE l) := hz
  have HJ : Hid (jokB n t v s st l = true) := hj
  have HT : Hid (TableIs w) := ht
  obtain ⟨-, ⟨-, b1, -, b2⟩, hok⟩ := jok_all hj
  obtain ⟨-, b3, -, b4, -, -, -⟩ := okL_all hok
  have HOK : Hid (okL s st l = true) := hok
  have HW : Hid (jRaw t v s st l = ByteArray.empty ++ frameT (pairT 66 s st) ++ frameT (pairT 72 t v) ++ entsT ((s : Int) + 1) l) := by
    show _ = _
    unfold jRaw
    rw [ByteArray.empty_append]
    simp only [Int.toNat_natCast]
  obtain ⟨R, HRW⟩ : ∃ R, Hid (jRaw t v s st l = R) := ⟨_, rfl⟩
  rw [HRW.out]
  obtain ⟨ans, HA⟩ : ∃ ans : Value, Hid ((if R.size ≤ 20000 then Value.tuple #[.string R, .nilIface] else Value.tuple #[.string ByteArray.empty, faultV 6]) = ans) := ⟨_, rfl⟩
  rw [HA.out]
  have hps := pairT_size (m := 66) (a := s) (b := st) (by omega) (by omega)
  have hps2 := pairT_size (m := 72) (a := t) (b := v) (by omega) (by omega)
  have hz1 := frameT_le (r := pairT 66 s st) (by omega)
  have hz2 := frameT_le (r := pairT 72 t v) (by omega)
  clear hr hz hj hok ht
  go_enter Tryd.func52, Tryd.ntmps52
  go_wp2_with fail
  refine Calls.mono (journalOk_try n t v s st ao k c l _ (hp.below (ba (Below.refl _ _) _)) (HR.out.alloc _) hk HZ.out) ?_
  rw [HJ.out]
  rintro e w1 ⟨rfl, hb1⟩
  have J1 : Jb w1 w.heap.size n t v s st (.slice ao k c) := (Jb.new w n t v s st (.slice ao k c) _).up hb1
  have B1 := below_new hb1
  have q3 := J1.c3
  have q4 := J1.c4
  have hg : w.heap.size < w1.heap.size := J1.lt
  clear hb1
  go_wp2_with fail
  have F1 := Ft.new w1
  have J2 := J1.up (ba (Below.refl _ w1) (.cells #[.slice none 0 0, .nilIface] 101))
  have B2 := ba B1 (.cells #[.slice none 0 0, .nilIface] 101)
  obtain ⟨WA, hWA⟩ : ∃ WA, w1.alloc (.cells #[.slice none 0 0, .nilIface] 101) = WA := ⟨_, rfl⟩
  rw [hWA] at F1 J2 B2 ⊢
  obtain ⟨g, HG⟩ : ∃ g, Hid (w1.heap.size = g) := ⟨_, rfl⟩
  rw [HG.out] at F1 hg ⊢
  clear hWA q3 q4 J1 B1
  refine Calls.mono (pairText_ok 66 s st _ (by omega) (by omega)) ?_
  rintro e w2 ⟨rfl, hb2⟩
  have F2 := F1.up hb2
  have J3 := J2.up hb2
  have B3 := Below.on B2 hb2
  clear hb2 F1 J2 B2
  go_wp2_with fail
  refine Calls.mono (put_ok g _ _ _ (HT.out.below B3) F2 (by omega) (by omega) (by show 0 ≤ _; omega)) ?_
  rintro e w3 ⟨rfl, F3, hb3⟩
  have J4 := J3.belowB hb3 hg
  have B4 := B3.trans (hb3.mono (Nat.le_of_lt hg))
  clear hb3 F2 J3 B3
  have q0 := J4.c0
  have q1 := J4.c1
  have q2 := J4.c2
  have q3 := J4.c3
  have q4 := J4.c4
  have q5 := J4.c5
  go_wp2_with fail
  refine Calls.mono (putHead_ok g _ _ _ _ t v _ _ (HT.out.below B4) F3 (by omega) (by omega) (by rw [ByteArray.empty_append]; omega)) ?_
  rintro e w4 ⟨rfl, F4, hb4⟩
  have J5 := J4.belowB hb4 hg
  have B5 := B4.trans (hb4.mono (Nat.le_of_lt hg))
  clear hb4 F3 J4 B4 q0 q1 q2 q3 q4 q5
  have q3 := J5.c3
  have q4 := J5.c4
  have q5 := J5.c5
  go_wp2_with fail
  refine Calls.mono (putEntries_ok g _ s st ao k c l w _ HT.out F4 HOK.out HR.out B5 (Nat.le_of_lt hg) hc (by rw [ByteArray.empty_append, ByteArray.size_append]; omega)) ?_
  rintro e w5 ⟨rfl, F5, hb5⟩
  have B6 := B5.trans (hb5.mono (Nat.le_of_lt hg))
  rw [← HW.out, HRW.out] at F5
  clear hb5 F4 J5 B5 q3 q4 q5
  obtain ⟨x, hx, hox⟩ := F5
  obtain ⟨a, d, rfl, _⟩ := hox.slice
  obtain ⟨c0, c1, f0, f1⟩ := ft_cells hx
  by_cases hlen : R.size ≤ 20000
  · have ha : ans = .tuple #[.string R, .nilIface] := by rw [← HA.out, if_pos hlen]
    subst ha
    go_wp2
    have hcx : ∀ x : Wd w5, (convert 22 9 (.slice a R.size d)).run Tryd.prog x.at' = .ok (.string R) x.at' := fun x => run_own_text (hox.all x.ok)
    have k0 := Wd.cell c0
    have k1 := Wd.cell c1
    refine wp_region_wd (by kernel_rfl) (by kernel_rfl) ?_
    repeat (go_big_quiet_step (fail))
    refine wpQuiet_nil ?_
    rintro _ ⟨x1, rfl⟩
    go_wp2
    go_ret2
    exact ⟨rfl, Below.on B6 x1.ok⟩
  · have ha : ans = .tuple #[.string ByteArray.empty, faultV 6] := by rw [← HA.out, if_neg hlen]
    subst ha
    have hl2 : (20000 : Int) < (R.size : Int) := by omega
    go_wp2
    go_ret2
    exact ⟨rfl, B6⟩
end Go.Proofs.YtijmaplejpnggaaDoor

namespace Go.Proofs.YtijmaplejpnggaaDoor
open Go Go.RowKit

set_option maxRecDepth 10000 in
set_option maxHeartbeats 2000000 in
theorem journalText_any (n t v s st : Int) (ao : Option Addr) (k c : Nat) (l : List En) (w : World) (hp : PowIs w) (ht : TableIs w) (hr : Reads w (.slice ao k c) l) (hc : k ≤ c) (hk : l.length ≤ 1048577) (hz : SizedE l) :
    Calls Tryd.prog 26 #[jV n t v s st (.slice ao k c)] w fun e w' => e = .returned (.tuple #[.string (jtX n t v s st l), .bool (jtB n t v s st l)]) ∧ Below w.heap.size w w' := by
  rw [← hr.len] at hk
  have HR : Hid (Reads w (.slice ao k c) l) := hr
  have HZ : Hid (SizedE l) := hz
  have HP : Hid (PowIs w) := hp
  have HT : Hid (TableIs w) := ht
  clear hr hz hp ht
  cases hj : jokB n t v s st l with
  | false =>
    have HJ : Hid (jokB n t v s st l = false) := hj
    have e1 := jtB_no hj
    have HX : Hid (jtX n t v s st l = ByteArray.empty) := by show _ = _; unfold jtX; rw [e1]; rfl
    rw [e1, HX.out]
    clear hj e1
    go_enter Tryd.func26, Tryd.ntmps26
    go_wp2_with fail
    refine Calls.mono (journalText1_no n t v s st ao k c l _ (HP.out.below (ba (Below.refl _ _) _)) (HR.out.alloc _) hk HZ.out HJ.out) ?_
    rintro e w1 ⟨rfl, hb1⟩
    go_wp2
    go_ret2
    exact ⟨rfl, below_new hb1⟩
  | true =>
    obtain ⟨-, ⟨b1, b2, b3, b4⟩, hok⟩ := jok_all hj
    obtain ⟨b5, b6, b7, b8, -, -, -⟩ := okL_all hok
    obtain ⟨t', rfl⟩ := Int.eq_ofNat_of_zero_le b1
    obtain ⟨v', rfl⟩ := Int.eq_ofNat_of_zero_le b3
    obtain ⟨s', rfl⟩ := Int.eq_ofNat_of_zero_le b5
    obtain ⟨st', rfl⟩ := Int.eq_ofNat_of_zero_le b7
    have HJ : Hid (jokB n t' v' s' st' l = true) := hj
    by_cases hlen : (jRaw t' v' s' st' l).size ≤ 20000
    · have e1 := jtB_yes hj hlen
      have HX : Hid (jtX n t' v' s' st' l = jRaw t' v' s' st' l) := by show _ = _; unfold jtX; rw [e1]; rfl
      have HC : Hid (∀ W, PowIs W → TableIs W → Reads W (.slice ao k c) l → Calls Tryd.prog 52 #[jV n t' v' s' st' (.slice ao k c)] W fun e w' => e = .returned (.tuple #[.string (jRaw t' v' s' st' l), .nilIface]) ∧ Below W.heap.size W w') := fun W h1 h2 h3 => by
        have := journalText1_ok n t' v' s' st' ao k c l W h1 h2 h3 hc hk HZ.out HJ.out
        rw [if_pos hlen] at this
        exact this
      rw [e1, HX.out]
      clear hj e1 hok hlen
      generalize jRaw t' v' s' st' l = R at *
      go_enter Tryd.func26, Tryd.ntmps26
      go_wp2_with fail
      refine Calls.mono (HC.out _ (HP.out.below (ba (Below.refl _ _) _)) (HT.out.below (ba (Below.refl _ _) _)) (HR.out.alloc _)) ?_
      rintro e w1 ⟨rfl, hb1⟩
      go_wp2
      go_ret2
      exact ⟨rfl, below_new hb1⟩
    · have e1 := jtB_long (n := n) (show 20000 < (jRaw t' v' s' st' l).size by omega)
      have HX : Hid (jtX n t' v' s' st' l = ByteArray.empty) := by show _ = _; unfold jtX; rw [e1]; rfl
      have HC : Hid (∀ W, PowIs W → TableIs W → Reads W (.slice ao k c) l → Calls Tryd.prog 52 #[jV n t' v' s' st' (.slice ao k c)] W fun e w' => e = .returned (.tuple #[.string ByteArray.empty, faultV 6]) ∧ Below W.heap.size W w') := fun W h1 h2 h3 => by
        have := journalText1_ok n t' v' s' st' ao k c l W h1 h2 h3 hc hk HZ.out HJ.out
        rw [if_neg hlen] at this
        exact this
      rw [e1, HX.out]
      clear hj e1 hok hlen
      go_enter Tryd.func26, Tryd.ntmps26
      go_wp2_with fail
      refine Calls.mono (HC.out _ (HP.out.below (ba (Below.refl _ _) _)) (HT.out.below (ba (Below.refl _ _) _)) (HR.out.alloc _)) ?_
      rintro e w1 ⟨rfl, hb1⟩
      go_wp2
      go_ret2
      exact ⟨rfl, below_new hb1⟩

set_option maxRecDepth 10000 in
set_option maxHeartbeats 2000000 in
theorem l07Hard_any (t v : Nat) (w : World) (h1 : t ≤ 1000000000) (h2 : v ≤ 1000000000) :
    Calls Tryd.prog 50 #[.int .i64 t, .int .i64 v] w fun e w' => e = .returned (.string (frameT (pairT 72 t v))) ∧ Below w.heap.size w w' := by
  have a1 := run_pair1 72 h1
  have a2 := run_pair2 72 h1 h2
  have hps := pairT_size (m := 72) h1 h2
  have CA : Hid (∀ w, Calls Tryd.prog 49 #[.int .i64 t] w fun e w' => e = .returned (.string (bstr (varI t))) ∧ Below w.heap.size w w') := fun w => l01Var_any t w h1
  have CB : Hid (∀ w, Calls Tryd.prog 49 #[.int .i64 v] w fun e w' => e = .returned (.string (bstr (varI v))) ∧ Below w.heap.size w w') := fun w => l01Var_any v w h2
  go_enter Tryd.func50, Tryd.ntmps50
  go_wp2_with fail
  refine Calls.mono (CA.out _) ?_
  rintro e w1 ⟨rfl, hb1⟩
  go_wp2_with fail
  refine Calls.mono (CB.out _) ?_
  rintro e w2 ⟨rfl, hb2⟩
  go_wp2_with fail
  refine Calls.mono (specFrame_ok _ _ (by omega) (by omega)) ?_
  rintro e w3 ⟨rfl, hb3⟩
  go_wp2
  go_ret
  exact ⟨rfl, Below.on (Below.on hb1 hb2) hb3⟩

end Go.Proofs.YtijmaplejpnggaaDoor

namespace Go.Proofs.YtijmaplejpnggaaDoor
open Go Go.RowKit

/-- The bytes of a text, made anew. -/
theorem run_bytesX (t : ByteArray) (w : World) : ∃ (w' : World) (cap : Nat), (convert 9 22 (.string t)).run Tryd.prog w = .ok (.slice (some ⟨w.heap.size, 0, none⟩) t.size cap) w' ∧ Below w.heap.size w w' ∧ w.heap.size < w'.heap.size ∧
    (∀ j u, (Lib.strCells t)[j]? = some u → w'.cell? ((⟨w.heap.size, 0, none⟩ : Addr).add j) = some u) := by
  refine ⟨_, _, run_bytes_of_string w 9 22 5 t Tryd.underlying9 Tryd.underlying22 Tryd.underlying5, ((Below.refl w.heap.size w).drew).alloc (Nat.le_refl _) _, ?_, ?_⟩
  · show w.heap.size < (w.heap.push _).size
    simp
  · intro j u hu
    have hj : j < t.data.size := by
      have := (List.getElem?_eq_some_iff.1 hu).1
      simpa [Lib.strCells] using this
    have hu2 : u = .int .u8 t.data[j].toNat := by
      have := (List.getElem?_eq_some_iff.1 hu).2
      simp [Lib.strCells] at this
      exact this.symm
    subst hu2
    have ha : (⟨w.heap.size, 0, none⟩ : Addr).add j = ⟨w.heap.size, j, none⟩ := by unfold Addr.add; split <;> simp_all
    rw [ha, show w.heap.size = w.drew.heap.size from rfl, World.cell?_alloc_mark]
    exact bytesRow_at t _ j hj

set_option maxRecDepth 10000 in
set_option maxHeartbeats 4000000 in
theorem l07Frames_any (s st : Int) (ao : Option Addr) (n c : Nat) (l : List En) (w : World) (hok : okL s st l = true) (hr : Reads w (.slice ao n c) l) :
    Calls Tryd.prog 51 #[.agg #[.int .i64 s, .int .i64 st, .slice ao n c], .int .i64 0] w fun e w' => e = .returned (.string (entsT (s + 1) l)) ∧ Below w.heap.size w w' := by
  obtain ⟨i0, hi, hz0, hz1, hz2⟩ := info_parts info5
  obtain ⟨k0, k1, k2, k3, k4, k5, -⟩ := okL_all hok
  have HN : Hid (n = l.length) := hr.len
  have HR : Hid (Reads w (.slice ao n c) l) := hr
  have HOK : Hid (∀ (j : Nat) (e : En), l[j]? = some e → okX (s + 1 + j) e.term e.kind e.data = true) := fun j e h => okL_okX hok j e h
  rw [← HN.out] at k4 k5
  clear hr hok
  go_enter Tryd.func51, Tryd.ntmps51
  go_wp2
  obtain ⟨W1, hW1⟩ : ∃ W1, w.alloc (.cells #[.int .i64 s, .int .i64 st, .slice ao n c] 46) = W1 := ⟨_, rfl⟩
  have z1 : W1.heap.size = w.heap.size + 1 := by rw [← hW1]; simp
  have BW : Below w.heap.size w W1 := by rw [← hW1]; exact ba (Below.refl _ _) _
  have x0 : W1.cell? ⟨w.heap.size, 0, none⟩ = some (.int .i64 s) := by rw [← hW1]; simp [go_sem]
  have x2 : W1.cell? ⟨w.heap.size, 2, none⟩ = some (.slice ao n c) := by rw [← hW1]; simp [go_sem]
  rw [hW1]
  clear hW1
  go_loopw [5, 6] (fun o i wr => ∃ j : Nat, i = .int .i64 j ∧ j ≤ n ∧ ownsX wr W1.heap.size o (entsT (s + 1) (l.take j)) ∧ Below W1.heap.size W1 wr) (fun _ i _ => n - (intOf i).toNat)
  case atStart =>
    refine ⟨0, rfl, Nat.zero_le _, ?_, (Below.refl _ _).alloc (Nat.le_refl _) _⟩
    rw [List.take_zero]
    have := ownsB_made W1 W1.heap.size 0 5 #[] (Nat.le_refl _) (by decide) rfl
    rw [z1] at this ⊢
    exact this
  case round =>
    obtain ⟨j, rfl, hj, hown, hbel⟩ := hrel
    have q0 := (hbel.cell (p := ⟨w.heap.size, 0, none⟩) (by rw [z1]; exact Nat.lt_succ_self _)).trans x0
    have q2 := (hbel.cell (p := ⟨w.heap.size, 2, none⟩) (by rw [z1]; exact Nat.lt_succ_self _)).trans x2
    have hW : Below w.heap.size w wr := BW.trans (hbel.mono (by omega))
    obtain ⟨a, d, rfl, had⟩ := hown.slice
    have HO : Hid (ownsX wr W1.heap.size (.slice a (entsT (s + 1) (l.take j)).size d) (entsT (s + 1) (l.take j))) := hown
    have hzj : (entsT (s + 1) (l.take j)).size ≤ 1000000 := by
      have := entsT_size (l.take j) (s + 1) (fun i e hi => HOK.out i e (by
        rw [List.getElem?_take] at hi
        split at hi
        · exact hi
        · simp at hi))
      rw [List.length_take] at this
      have : min j l.length ≤ 60 := by omega
      omega
    clear hown
    by_cases hlt : j < n
    · obtain ⟨f, hfe⟩ : ∃ f, l[j]? = some f := ⟨_, List.getElem?_eq_getElem (by rw [← HN.out]; exact hlt)⟩
      have HX : Hid (okX (s + 1 + j) f.term f.kind f.data = true) := HOK.out j f hfe
      have HZ := textE_size HX.out
      have hfz := frameT_le (r := textE (s + 1 + j) f.term f.kind f.data) (by omega)
      have HS : Hid (entsT (s + 1) (l.take (j + 1)) = entsT (s + 1) (l.take j) ++ frameT (textE (s + 1 + j) f.term f.kind f.data)) := by
        show _ = _
        rw [take_next hfe, entsT_snoc, List.length_take, show min j l.length = j by rw [← HN.out]; omega]
      have HD : Hid (f.data.size ≤ maxLen) := by
        obtain ⟨_, _, _, _, _, h6, _⟩ := okX_out HX.out
        show _ ≤ maxLen
        unfold maxLen; omega
      obtain ⟨b, o, rfl, hb, c0, c1, c2⟩ := en_at (HR.out.below hW) hfe
      have HE : Hid (∀ w, Calls Tryd.prog 65 #[.int .i64 (s + 1 + j), .agg #[.int .i64 f.term, .int .i64 f.kind, .string f.data]] w fun e w' => e = .returned (.tuple #[.string (textE (s + 1 + j) f.term f.kind f.data), .bool true]) ∧ Below w.heap.size w w') := fun w => by
        rw [← valX_yes HX.out]; exact specEntryText_any _ _ _ _ w HD.out
      clear hfe
      obtain ⟨TX, HTX⟩ : ∃ TX, Hid (textE (s + 1 + j) f.term f.kind f.data = TX) := ⟨_, rfl⟩
      obtain ⟨TE, HTE⟩ : ∃ TE, Hid (entsT (s + 1) (l.take j) = TE) := ⟨_, rfl⟩
      rw [HTX.out] at HE HZ hfz HS
      rw [HTE.out] at HO hzj HS
      have e0 := Wd.cell q0
      have e2 := Wd.cell q2
      have d0 := Wd.cell c0
      have d1 := Wd.cell c1
      have d2 := Wd.cell c2
      rw [HTE.out]
      go_wp2
      refine wp_region_wd (by kernel_rfl) (by kernel_rfl) ?_
      repeat (go_big_quiet_step ((go_at_call 65; refine calls_wd (v := .tuple #[.string TX, .bool true]) ?_; exact HE.out _)))
      refine wpQuiet_nil ?_
      rintro _ ⟨y1, rfl⟩
      have HO1 : Hid (ownsX y1.at' W1.heap.size (.slice a TE.size d) TE) := HO.out.all y1.ok
      have HB1 : Hid (Below W1.heap.size W1 y1.at') := hbel.trans (y1.ok.mono hbel.size)
      obtain ⟨w2, hw2⟩ : ∃ w2, y1.at' = w2 := ⟨_, rfl⟩
      rw [hw2] at HO1 HB1 ⊢
      clear hw2 q0 q2 c0 c1 c2 e0 e2 d0 d1 d2 y1
      go_wp2_with fail
      refine Calls.mono (specFrame_ok TX _ (by omega) (by omega)) ?_
      rintro e w3 ⟨rfl, hb3⟩
      have HO2 : Hid (ownsX w3 W1.heap.size (.slice a TE.size d) TE) := HO1.out.all hb3
      have HB2 : Hid (Below W1.heap.size W1 w3) := HB1.out.trans (hb3.mono HB1.out.size)
      clear hb3
      go_wp2_with fail
      obtain ⟨w4, cap4, hcv, hb4, hlt4, hcell⟩ := run_bytesX (frameT TX) w3
      rw [hcv]
      clear hcv
      have HO3 : Hid (ownsX w4 W1.heap.size (.slice a TE.size d) TE) := HO2.out.all hb4
      have HB3 : Hid (Below W1.heap.size W1 w4) := HB2.out.trans (hb4.mono HB2.out.size)
      have HCL : Hid (∀ j u, (Lib.strCells (frameT TX))[j]? = some u → w4.cell? ((⟨w3.heap.size, 0, none⟩ : Addr).add j) = some u) := hcell
      clear hcell
      go_wp2_with (at_builtin; refine wpList_append_own _ rfl (.tmp 39) (.tmp 41) 22 rfl W1.heap.size 5 i0 (.int .u8 0) 1 1 Tryd.underlying22 hi hz0 hz1 hz2 rfl (by decide) _ _ _ rfl HO3.out _ (frameT TX).size _ (Lib.strCells (frameT TX)) rfl (by rw [Lib.strCells_length, Nat.mul_one]) HCL.out (Lib.strCells_oneCell _) ?c1 ?c2 HB3.out.size ?_)
      case c1 => unfold maxLen; omega
      case c2 => omega
      intro v' w5 ho5 hg5 _
      have ho6 : ownsX w5 W1.heap.size v' (TE ++ frameT TX) := by
        unfold ownsX
        rw [strCells_append, ByteArray.size_append, z1]; exact ho5
      have hb6 : Below W1.heap.size W1 w5 := HB3.out.grown hg5 HB3.out.size (fun k hk => (World.ownsRow.lt HO3.out k hk).1)
      rw [← HS.out] at ho6
      clear ho5 hg5
      go_wp2
      go_roundw
      case rel => exact ⟨j + 1, by go_num, by omega, ho6, hb6⟩
      case measure => simp [intOf]; omega
    · have hjn : j = n := by omega
      subst hjn
      rw [List.take_of_length_le (by rw [← HN.out]; exact Nat.le_refl _)] at HO ⊢
      have hcv := run_own_text HO.out
      go_wp2
      go_ret
      exact ⟨rfl, hW⟩

set_option maxRecDepth 10000 in
set_option maxHeartbeats 4000000 in
theorem specJournalText_try (n t v s st : Int) (ao : Option Addr) (k c : Nat) (l : List En) (w : World) (hr : Reads w (.slice ao k c) l) (hk : l.length ≤ 1048577) (hz : SizedE l) :
    Calls Tryd.prog 25 #[jV n t v s st (.slice ao k c)] w fun e w' => e = .returned (.tuple #[.string (jtX n t v s st l), .bool (jtB n t v s st l)]) ∧ Below w.heap.size w w' := by
  have HR : Hid (Reads w (.slice ao k c) l) := hr
  have HZ : Hid (SizedE l) := hz
  clear hr hz
  cases hj : jokB n t v s st l with
  | false =>
    have HJ : Hid (jokB n t v s st l = false) := hj
    have e1 := jtB_no hj
    have HX : Hid (jtX n t v s st l = ByteArray.empty) := by show _ = _; unfold jtX; rw [e1]; rfl
    rw [e1, HX.out]
    clear hj e1
    go_enter Tryd.func25, Tryd.ntmps25
    go_wp2_with fail
    refine Calls.mono (specJournalOk_any (HR.out.alloc _) hk HZ.out) ?_
    rw [HJ.out]
    rintro e w1 ⟨rfl, hb1⟩
    go_wp2
    go_ret2
    exact ⟨rfl, below_new hb1⟩
  | true =>
    obtain ⟨-, ⟨b1, b2, b3, b4⟩, hok⟩ := jok_all hj
    obtain ⟨b5, b6, b7, b8, b9, -, -⟩ := okL_all hok
    obtain ⟨t', rfl⟩ := Int.eq_ofNat_of_zero_le b1
    obtain ⟨v', rfl⟩ := Int.eq_ofNat_of_zero_le b3
    obtain ⟨s', rfl⟩ := Int.eq_ofNat_of_zero_le b5
    obtain ⟨st', rfl⟩ := Int.eq_ofNat_of_zero_le b7
    have HJ : Hid (jokB n t' v' s' st' l = true) := hj
    have HOK : Hid (okL s' st' l = true) := hok
    have HW : Hid (jRaw t' v' s' st' l = frameT (pairT 66 s' st') ++ frameT (pairT 72 t' v') ++ entsT ((s' : Int) + 1) l) := by
      show _ = _
      unfold jRaw
      simp only [Int.toNat_natCast]
    have hz3 := entsT_size l ((s' : Int) + 1) (fun j e h => okL_okX hok j e h)
    have hps := pairT_size (m := 66) (a := s') (b := st') (by omega) (by omega)
    have hps2 := pairT_size (m := 72) (a := t') (b := v') (by omega) (by omega)
    have hz1 := frameT_le (r := pairT 66 s' st') (by omega)
    have hz2 := frameT_le (r := pairT 72 t' v') (by omega)
    have a1 := run_pair1 66 (a := s') (by omega)
    have a2 := run_pair2 66 (a := s') (b := st') (by omega) (by omega)
    have CA : Hid (∀ w, Calls Tryd.prog 49 #[.int .i64 s'] w fun e w' => e = .returned (.string (bstr (varI s'))) ∧ Below w.heap.size w w') := fun w => l01Var_any s' w (by omega)
    have CB : Hid (∀ w, Calls Tryd.prog 49 #[.int .i64 st'] w fun e w' => e = .returned (.string (bstr (varI st'))) ∧ Below w.heap.size w w') := fun w => l01Var_any st' w (by omega)
    have CF : Hid (∀ w, Calls Tryd.prog 38 #[.string (pairT 66 s' st')] w fun e w' => e = .returned (.tuple #[.string (frameT (pairT 66 s' st')), .bool true]) ∧ Below w.heap.size w w') := fun w => specFrame_ok _ w (by omega) (by omega)
    have CH : Hid (∀ w, Calls Tryd.prog 50 #[.int .i64 t', .int .i64 v'] w fun e w' => e = .returned (.string (frameT (pairT 72 t' v'))) ∧ Below w.heap.size w w') := fun w => l07Hard_any t' v' w (by omega) (by omega)
    have CE : Hid (∀ W, Reads W (.slice ao k c) l → Calls Tryd.prog 51 #[.agg #[.int .i64 s', .int .i64 st', .slice ao k c], .int .i64 0] W fun e w' => e = .returned (.string (entsT ((s' : Int) + 1) l)) ∧ Below W.heap.size W w') := fun W h => l07Frames_any s' st' ao k c l W HOK.out h
    obtain ⟨q, HQ⟩ : ∃ q, Hid (jtB n t' v' s' st' l = q) := ⟨_, rfl⟩
    obtain ⟨tx, HTX⟩ : ∃ q, Hid (jtX n t' v' s' st' l = q) := ⟨_, rfl⟩
    rw [HQ.out, HTX.out]
    obtain ⟨P1, HP1⟩ : ∃ q, Hid (frameT (pairT 66 s' st') = q) := ⟨_, rfl⟩
    obtain ⟨P2, HP2⟩ : ∃ q, Hid (frameT (pairT 72 t' v') = q) := ⟨_, rfl⟩
    obtain ⟨P3, HP3⟩ : ∃ q, Hid (entsT ((s' : Int) + 1) l = q) := ⟨_, rfl⟩
    rw [HP1.out] at hz1 CF HW
    rw [HP2.out] at hz2 CH HW
    rw [HP3.out] at hz3 CE HW
    have a3 : ∀ wx, (Op.stringOp .add P1 P2).run Tryd.prog wx = .ok (.string (P1 ++ P2)) wx := fun wx => by
      rw [run_string_add_sum wx _ _ (by omega)]
    have a4 : ∀ wx, (Op.stringOp .add (P1 ++ P2) P3).run Tryd.prog wx = .ok (.string (P1 ++ P2 ++ P3)) wx := fun wx => by
      rw [run_string_add_sum wx _ _ (by rw [ByteArray.size_append]; omega)]
    have hz4 : (P1 ++ P2 ++ P3).size ≤ 1000000 := by rw [ByteArray.size_append, ByteArray.size_append]; omega
    obtain ⟨P4, HP4⟩ : ∃ q, Hid (P1 ++ P2 ++ P3 = q) := ⟨_, rfl⟩
    rw [HP4.out] at a4 hz4 HW
    clear hj hok
    go_enter Tryd.func25, Tryd.ntmps25
    go_wp2_with fail
    refine Calls.mono (specJournalOk_any (HR.out.alloc _) hk HZ.out) ?_
    rw [HJ.out]
    rintro e w1 ⟨rfl, hb1⟩
    have J1 : Jb w1 w.heap.size n t' v' s' st' (.slice ao k c) := (Jb.new w n t' v' s' st' (.slice ao k c) _).up hb1
    have B1 := below_new hb1
    clear hb1
    have d3 := Wd.cell J1.c3
    have d4 := Wd.cell J1.c4
    go_wp2
    refine wp_region_wd (by kernel_rfl) (by kernel_rfl) ?_
    repeat (go_big_quiet_step ((first | (go_at_call 49; refine calls_wd (v := .string (bstr (varI s'))) ?_; with_reducible exact CA.out _) | (go_at_call 49; refine calls_wd (v := .string (bstr (varI st'))) ?_; with_reducible exact CB.out _) | (go_at_call 38; refine calls_wd (v := .tuple #[.string P1, .bool true]) ?_; exact CF.out _))))
    refine wpQuiet_nil ?_
    rintro _ ⟨y1, rfl⟩
    have J2 := J1.up y1.ok
    have B2 := Below.on B1 y1.ok
    obtain ⟨w2, hw2⟩ : ∃ w2, y1.at' = w2 := ⟨_, rfl⟩
    rw [hw2] at J2 B2 ⊢
    clear hw2 y1 d3 d4 J1 B1
    have d1 := Wd.cell J2.c1
    have d2 := Wd.cell J2.c2
    have d3 := Wd.cell J2.c3
    have d4 := Wd.cell J2.c4
    have d5 := Wd.cell J2.c5
    have CE2 : Hid (∀ x : Wd w2, Calls Tryd.prog 51 #[.agg #[.int .i64 s', .int .i64 st', .slice ao k c], .int .i64 0] x.at' fun e w' => e = .returned (.string P3) ∧ Below x.at'.heap.size x.at' w') := fun x => CE.out _ (HR.out.below (Below.on B2 x.ok))
    go_wp2
    refine wp_region_wd (by kernel_rfl) (by kernel_rfl) ?_
    repeat (go_big_quiet_step ((first | (go_at_call 50; refine calls_wd (v := .string P2) ?_; exact CH.out _) | (go_at_call 51; refine calls_wd (v := .string P3) ?_; exact CE2.out _))))
    refine wpQuiet_nil ?_
    rintro _ ⟨y2, rfl⟩
    have B3 := Below.on B2 y2.ok
    by_cases hlen : P4.size ≤ 20000
    · have e1 : jtB n t' v' s' st' l = true := jtB_yes HJ.out (by rw [HW.out]; exact hlen)
      have hq : q = true := HQ.out.symm.trans e1
      have hx : tx = P4 := by rw [← HTX.out]; unfold jtX; rw [e1, ← HW.out]; rfl
      subst hq hx
      clear e1
      go_wp2
      go_ret2
      exact ⟨rfl, B3⟩
    · have e1 : jtB n t' v' s' st' l = false := jtB_long (by rw [HW.out]; omega)
      have hq : q = false := HQ.out.symm.trans e1
      have hx : tx = ByteArray.empty := by rw [← HTX.out]; unfold jtX; rw [e1]; rfl
      subst hq hx
      have hl2 : (20000 : Int) < (P4.size : Int) := by omega
      clear e1
      go_wp2
      go_ret2
      exact ⟨rfl, B3⟩
theorem specJournalText_any {n t v s st : Int} {w : World} {x : Value} {l : List En} (hr : Reads w x l) (hk : l.length ≤ 1048577) (hz : SizedE l) :
    Calls Tryd.prog 25 #[jV n t v s st x] w fun e w' => e = .returned (.tuple #[.string (jtX n t v s st l), .bool (jtB n t v s st l)]) ∧ Below w.heap.size w w' := by
  obtain ⟨ao, c, rfl, _⟩ := id hr
  exact specJournalText_try n t v s st ao _ c l w hr hk hz
end Go.Proofs.YtijmaplejpnggaaDoor

namespace Go.Proofs.YtijmaplejpnggaaDoor
open Go Go.RowKit

set_option maxRecDepth 10000 in
set_option maxHeartbeats 4000000 in
theorem law_JournalText (n t v s st : Int) (ao : Option Addr) (k cap : Nat) (l : List En) (w : World) (hr : Reads w (.slice ao k cap) l) (hs : SmallEn l) (hn : k ≤ 9223372036854775807) (hp : PowIs w) (ht : TableIs w) :
    Calls Tryd.prog 7 #[jV n t v s st (.slice ao k cap)] w fun e w' => e = .returned (.bool true) ∧ Below w.heap.size w w' := by
  have HR : Hid (Reads w (.slice ao k cap) l) := hr
  have HN : Hid (k = l.length) := hr.len
  have HS : Hid (SmallEn l) := hs
  clear hr hs
  have HP : Hid (PowIs w) := hp
  have HT : Hid (TableIs w) := ht
  clear hp ht
  obtain ⟨q, HQ⟩ : ∃ q, Hid (jtB n t v s st l = q) := ⟨_, rfl⟩
  obtain ⟨tx, HX⟩ : ∃ q, Hid (jtX n t v s st l = q) := ⟨_, rfl⟩
  go_enter Tryd.func7, Tryd.ntmps7
  go_wp2_with fail
  refine (szJournal_any n t v s st _ l _ _ (HR.out.alloc _) HS.out (by decide) (by decide) (by rw [← HN.out]; exact hn)).mono ?_
  rintro e w0 ⟨r, rfl, hr, hb0⟩
  obtain ⟨c_a0_0, c_a1_0, c_a2_0, c_a3_0, c_a4_0, c_a5_0⟩ := cells6_new hb0
  have B0 := below_new hb0
  clear hb0
  rcases hr with rfl | ⟨hr0, hr1⟩
  · go_wp2
    go_ret
    exact ⟨rfl, B0⟩
  · have HL : Hid (l.length ≤ 1048576) := by show l.length ≤ 1048576; omega
    have HZ : Hid (SizedE l) := fun f hf => by have := sizeEn_mem hf; omega
    clear hr1
    have CS : Hid (∀ (W : World) (B : Nat) (x : Value), ownsR W B 94 x l → Calls Tryd.prog 25 #[jV n t v s st x] W fun e w' => e = .returned (.tuple #[.string tx, .bool q]) ∧ Below W.heap.size W w') := fun W B x ho => by
      rw [← HQ.out, ← HX.out]; exact specJournalText_any ho.reads (Nat.le_trans HL.out (by decide)) HZ.out
    have CI : Hid (∀ (W : World) (B : Nat) (x : Value), ownsR W B 94 x l → PowIs W → TableIs W → Calls Tryd.prog 26 #[jV n t v s st x] W fun e w' => e = .returned (.tuple #[.string tx, .bool q]) ∧ Below W.heap.size W w') := fun W B x ho h1 h2 => by
      obtain ⟨a, c, rfl, hc⟩ := ho.cap
      rw [← HQ.out, ← HX.out]; exact journalText_any n t v s st a _ c l W h1 h2 ho.reads hc (Nat.le_trans HL.out (by decide)) HZ.out
    go_wp2_with fail
    refine (toJournal_any n t v s st _ l _ (HR.out.below B0) HL.out).mono ?_
    rintro e w1 ⟨v1, rfl, ho1, hb1⟩
    obtain ⟨a1, n1, d1, rfl⟩ := ho1.slice3
    have ac_a_d := cell_apart c_a0_0 ho1
    have c_a0_1 := cell_up hb1 c_a0_0
    have c_a1_1 := cell_up hb1 c_a1_0
    have c_a2_1 := cell_up hb1 c_a2_0
    have c_a3_1 := cell_up hb1 c_a3_0
    have c_a4_1 := cell_up hb1 c_a4_0
    have c_a5_1 := cell_up hb1 c_a5_0
    have B1 : Below w.heap.size w w1 := B0.trans (hb1.mono B0.size)
    have O_d_1 : Hid (ownsR w1 w.heap.size 94 (.slice a1 n1 d1) (l)) := ho1.mono B0.size
    clear c_a0_0 c_a1_0 c_a2_0 c_a3_0 c_a4_0 c_a5_0 B0 hb1 ho1
    go_wp2_with fail
    refine (CS.out _ _ _ O_d_1.out).mono ?_
    rintro e w2 ⟨rfl, hb2⟩
    have c_a0_2 := cell_up hb2 c_a0_1
    have c_a1_2 := cell_up hb2 c_a1_1
    have c_a2_2 := cell_up hb2 c_a2_1
    have c_a3_2 := cell_up hb2 c_a3_1
    have c_a4_2 := cell_up hb2 c_a4_1
    have c_a5_2 := cell_up hb2 c_a5_1
    have O_d_2 : Hid (ownsR w2 w.heap.size 94 (.slice a1 n1 d1) (l)) := O_d_1.out.all hb2
    have B2 : Below w.heap.size w w2 := B1.trans (hb2.mono B1.size)
    clear c_a0_1 c_a1_1 c_a2_1 c_a3_1 c_a4_1 c_a5_1 O_d_1 B1 hb2
    go_wp2_with fail
    refine (toJournal_any n t v s st _ l _ (HR.out.below B2) HL.out).mono ?_
    rintro e w3 ⟨v3, rfl, ho3, hb3⟩
    obtain ⟨a3, n3, d3, rfl⟩ := ho3.slice3
    have ac_a_x := cell_apart c_a0_2 ho3
    have c_a0_3 := cell_up hb3 c_a0_2
    have c_a1_3 := cell_up hb3 c_a1_2
    have c_a2_3 := cell_up hb3 c_a2_2
    have c_a3_3 := cell_up hb3 c_a3_2
    have c_a4_3 := cell_up hb3 c_a4_2
    have c_a5_3 := cell_up hb3 c_a5_2
    have B3 : Below w.heap.size w w3 := B2.trans (hb3.mono B2.size)
    have O_x_3 : Hid (ownsR w3 w.heap.size 94 (.slice a3 n3 d3) (l)) := ho3.mono B2.size
    clear c_a0_2 c_a1_2 c_a2_2 c_a3_2 c_a4_2 c_a5_2 B2 hb3 ho3
    have sz_a : w.heap.size < w3.heap.size := World.block_lt_of_cell? _ _ c_a0_3
    go_wp2_with fail
    refine (CI.out _ _ _ (O_x_3.out.alloc _) ((HP.out.below B3).below (ba (Below.refl _ _) _)) ((HT.out.below B3).below (ba (Below.refl _ _) _))).mono ?_
    rintro e w4 ⟨rfl, hb4⟩
    obtain ⟨c_x0_4, c_x1_4, c_x2_4, c_x3_4, c_x4_4, c_x5_4⟩ := cells6_new hb4
    have ac_x_x := cell_apart_new O_x_3.out
    have hb4 := below_new hb4
    have c_a0_4 := cell_up hb4 c_a0_3
    have c_a1_4 := cell_up hb4 c_a1_3
    have c_a2_4 := cell_up hb4 c_a2_3
    have c_a3_4 := cell_up hb4 c_a3_3
    have c_a4_4 := cell_up hb4 c_a4_3
    have c_a5_4 := cell_up hb4 c_a5_3
    have O_x_4 : Hid (ownsR w4 w.heap.size 94 (.slice a3 n3 d3) (l)) := O_x_3.out.all hb4
    have B4 : Below w.heap.size w w4 := B3.trans (hb4.mono B3.size)
    clear c_a0_3 c_a1_3 c_a2_3 c_a3_3 c_a4_3 c_a5_3 sz_a O_x_3 B3 hb4
    have K_x0 := Below.cellOf (B := w4.heap.size) (W := w4) (p := ⟨w3.heap.size, 0, none⟩) (v := .int .i64 n) (World.block_lt_of_cell? _ _ c_x0_4) c_x0_4
    have K_x1 := Below.cellOf (B := w4.heap.size) (W := w4) (p := ⟨w3.heap.size, 1, none⟩) (v := .int .i64 t) (World.block_lt_of_cell? _ _ c_x1_4) c_x1_4
    have K_x2 := Below.cellOf (B := w4.heap.size) (W := w4) (p := ⟨w3.heap.size, 2, none⟩) (v := .int .i64 v) (World.block_lt_of_cell? _ _ c_x2_4) c_x2_4
    have K_x3 := Below.cellOf (B := w4.heap.size) (W := w4) (p := ⟨w3.heap.size, 3, none⟩) (v := .int .i64 s) (World.block_lt_of_cell? _ _ c_x3_4) c_x3_4
    have K_x4 := Below.cellOf (B := w4.heap.size) (W := w4) (p := ⟨w3.heap.size, 4, none⟩) (v := .int .i64 st) (World.block_lt_of_cell? _ _ c_x4_4) c_x4_4
    have K_x5 := Below.cellOf (B := w4.heap.size) (W := w4) (p := ⟨w3.heap.size, 5, none⟩) (v := .slice a3 n3 d3) (World.block_lt_of_cell? _ _ c_x5_4) c_x5_4
    have K_a0 := Below.cellOf (B := w4.heap.size) (W := w4) (p := ⟨w.heap.size, 0, none⟩) (v := .int .i64 n) (World.block_lt_of_cell? _ _ c_a0_4) c_a0_4
    have K_a1 := Below.cellOf (B := w4.heap.size) (W := w4) (p := ⟨w.heap.size, 1, none⟩) (v := .int .i64 t) (World.block_lt_of_cell? _ _ c_a1_4) c_a1_4
    have K_a2 := Below.cellOf (B := w4.heap.size) (W := w4) (p := ⟨w.heap.size, 2, none⟩) (v := .int .i64 v) (World.block_lt_of_cell? _ _ c_a2_4) c_a2_4
    have K_a3 := Below.cellOf (B := w4.heap.size) (W := w4) (p := ⟨w.heap.size, 3, none⟩) (v := .int .i64 s) (World.block_lt_of_cell? _ _ c_a3_4) c_a3_4
    have K_a4 := Below.cellOf (B := w4.heap.size) (W := w4) (p := ⟨w.heap.size, 4, none⟩) (v := .int .i64 st) (World.block_lt_of_cell? _ _ c_a4_4) c_a4_4
    have K_a5 := Below.cellOf (B := w4.heap.size) (W := w4) (p := ⟨w.heap.size, 5, none⟩) (v := .slice ao k cap) (World.block_lt_of_cell? _ _ c_a5_4) c_a5_4
    go_wp2_with fail
    go_region_held3 (fun w' => Below w4.heap.size w4 w') ((first | exact (Below.refl _ _).drew | exact hS5 | exact hS6)) ((first | (go_at_call 22; refine (toJournal_any n t v s st _ l _ (HR.out.below (Below.on B4 (by assumption))) HL.out).mono ?_; rintro e w5 ⟨v5, rfl, ho5, hb5⟩; obtain ⟨a5, n5, d5, rfl⟩ := ho5.slice3; have hS5 := keep_on (B := w4.heap.size) (W := w4) hb5 (by assumption) (Nat.le_refl _)) | (go_at_call 24; refine (eqJournal_any n t v s st _ _ l _ ((ownsR.reads O_x_4.out).below hS5) ho5.reads (Nat.le_trans HL.out (by decide))).mono ?_; rintro e w6 ⟨rfl, hb6⟩; have hS6 := keep_on (B := w4.heap.size) (W := w4) hb6 hS5 (Nat.le_refl _))))
    clear ho5 hb5 hb6 hS5 K_x0 K_x1 K_x2 K_x3 K_x4 K_x5 K_a0 K_a1 K_a2 K_a3 K_a4 K_a5
    have c_a0_6 := cell_up hS6 c_a0_4
    have c_a1_6 := cell_up hS6 c_a1_4
    have c_a2_6 := cell_up hS6 c_a2_4
    have c_a3_6 := cell_up hS6 c_a3_4
    have c_a4_6 := cell_up hS6 c_a4_4
    have c_a5_6 := cell_up hS6 c_a5_4
    have c_x0_6 := cell_up hS6 c_x0_4
    have c_x1_6 := cell_up hS6 c_x1_4
    have c_x2_6 := cell_up hS6 c_x2_4
    have c_x3_6 := cell_up hS6 c_x3_4
    have c_x4_6 := cell_up hS6 c_x4_4
    have c_x5_6 := cell_up hS6 c_x5_4
    have O_x_6 : Hid (ownsR w6 w.heap.size 94 (.slice a3 n3 d3) (l)) := O_x_4.out.all hS6
    have B6 : Below w.heap.size w w6 := B4.trans (hS6.mono B4.size)
    clear c_a0_4 c_a1_4 c_a2_4 c_a3_4 c_a4_4 c_a5_4 c_x0_4 c_x1_4 c_x2_4 c_x3_4 c_x4_4 c_x5_4 O_x_4 B4 hS6
    go_wp2
    go_ret
    exact ⟨rfl, B6⟩
end Go.Proofs.YtijmaplejpnggaaDoor
