/-
  Bytes that are written one piece behind the other: the writer's methods. A message in bytes: the plain facts. A message in bytes, as the specification writes it: the walks. A message in bytes, as the specification writes it: both cases. A message in bytes, as the program writes it: the walks.
-/
import Derived.Test.YtgjamikmjknlfaaDoorME1
import Derived.Test.YtgjamikmjknlfaaDoorCmt
import Derived.Test.YtgjamikmjknlfaaDoorME2
import Derived.Test.YtgjamikmjknlfaaDoorPt
import Derived.Test.YtgjamikmjknlfaaDoorMgs
import Derived.Test.YtgjamikmjknlfaaDoorEs
import Derived.Test.YtgjamikmjknlfaaDoorCt
namespace Go.Proofs.YtgjamikmjknlfaaDoor
open Go Go.RowKit
set_option linter.unusedVariables false

/-- A writer of the call's own that holds a text. -/
def Wb (b : Nat) (s : ByteArray) (w : World) : Prop := LibA.IsBuffer 57 (fun _ => none) 5 b b 0 (Lib.byteCells s.data.toList) w
theorem Wb.lt {b : Nat} {s : ByteArray} {w : World} (h : Wb b s w) : b < w.heap.size := LibA.IsBuffer.lt h
theorem Wb.up {b : Nat} {s : ByteArray} {w w' : World} (h : Wb b s w) (hb : Below w.heap.size w w') : Wb b s w' := LibA.IsBuffer.old h hb
theorem Wb.new (w : World) : Wb w.heap.size ByteArray.empty (w.alloc (.cells #[.slice none 0 0, .int .i64 0, .int .i8 0] 57)) :=
  LibA.zero_isBuffer (lr := 0) (Nat.le_refl _) (LibA.three_whole (by show (w.heap.push _)[w.heap.size]? = _; rw [Array.getElem?_push, if_pos rfl]))
/-- All but the writer, and rows of bytes, is as it was. -/
structure Wk (b : Nat) (w w' : World) : Prop where
  below : Below b w w'
  kept : Lib.OthersKept 5 (some b) w w'
theorem Wk.refl (b : Nat) (w : World) : Wk b w w := ⟨Below.refl _ _, Lib.OthersKept.refl _ _ _⟩
theorem Wk.trans {b : Nat} {a c d : World} (h : Wk b a c) (k : Wk b c d) : Wk b a d := ⟨⟨k.below.os.trans h.below.os, k.below.tape.trans h.below.tape, k.below.output.trans h.below.output, Nat.le_trans h.below.size k.below.size, fun q hq => (k.below.block q hq).trans (h.below.block q hq)⟩, h.kept.trans k.kept⟩
theorem Wk.of_below {b : Nat} {w w' : World} (hb : Below w.heap.size w w') (hl : b ≤ w.heap.size) : Wk b w w' :=
  ⟨⟨hb.os, hb.tape, hb.output, hb.size, fun q hq => hb.block q (by omega)⟩, fun k o h _ _ => (hb.block k (Array.getElem?_eq_some_iff.1 h).1).trans h⟩
theorem Wk.row {b g : Nat} {w w' : World} {cs : Array Value} {e : TypeId} {fz : Nat × Nat} (h : Wk b w w') (hg : w.heap[g]? = some (.cells cs e fz)) (hgb : g ≠ b) (he : e ≠ 5) : w'.heap[g]? = some (.cells cs e fz) :=
  h.kept g _ hg (by simpa using hgb) fun c fz' q => by injection q with _ q2; exact he q2
theorem bytes_snoc (s t : ByteArray) : Lib.byteCells s.data.toList ++ Lib.byteCells t.data.toList = Lib.byteCells (s ++ t).data.toList := by
  rw [← Lib.byteCells_append]
  congr 1
theorem bytes_len (s : ByteArray) : (Lib.byteCells s.data.toList).length = s.size := by
  rw [Lib.byteCells_length]
  rfl
theorem writeText_any (b : Nat) (s t : ByteArray) (w : World) (h : Wb b s w) (hl : s.size + t.size ≤ 140737488355328) :
    Calls Tryd.prog 57 #[.pointer (some ⟨b, 0, none⟩), .string t] w fun e w' => e = .returned (.tuple #[.int .i64 t.size, .nilIface]) ∧ Wb b (s ++ t) w' ∧ Wk b w w' := by
  refine (Tryd.Buffer_WriteString_at 57 (fun _ => none) b b 0 _ t w h (Nat.le_of_lt h.lt) (Lib.byteCells_one _) (by rw [bytes_len]; exact hl)).mono ?_
  rintro e w' ⟨rfl, h1, h2, h3⟩
  refine ⟨rfl, ?_, h2, h3⟩
  rw [bytes_snoc] at h1
  exact h1
theorem bstr_one (c : Int) (h0 : 0 ≤ c) (h1 : c ≤ 255) : (bstr [c]).data.toList = [c.toNat.toUInt8] := by
  unfold bstr
  simp
theorem writeByte_any (b : Nat) (s : ByteArray) (c : Int) (w : World) (h : Wb b s w) (h0 : 0 ≤ c) (h1 : c ≤ 255) (hl : s.size + 1 ≤ 140737488355328) :
    Calls Tryd.prog 55 #[.pointer (some ⟨b, 0, none⟩), .int .u8 c] w fun e w' => e = .returned .nilIface ∧ Wb b (s ++ bstr [c]) w' ∧ Wk b w w' := by
  refine (Tryd.Buffer_WriteByte_at 57 (fun _ => none) b b 0 _ c w h (Nat.le_of_lt h.lt) (Lib.byteCells_one _) (by rw [bytes_len]; exact hl)).mono ?_
  rintro e w' ⟨rfl, h1', h2, h3⟩
  refine ⟨rfl, ?_, h2, h3⟩
  have e2 : Lib.byteCells (bstr [c]).data.toList = [.int .u8 c] := by
    rw [bstr_one c h0 h1]
    simp only [Lib.byteCells, List.map_cons, List.map_nil]
    congr 2
    have : c.toNat < 256 := by omega
    simp [Nat.toUInt8]
    omega
  rw [← e2, bytes_snoc] at h1'
  exact h1'
/-- Numbers, one behind the other. -/
def numS : List Int → ByteArray
  | [] => ByteArray.empty
  | n :: l => bstr (varI n.toNat) ++ numS l
theorem numS_snoc : ∀ (l : List Int) (n : Int), numS (l ++ [n]) = numS l ++ bstr (varI n.toNat)
  | [], n => by simp [numS]
  | m :: l, n => by simp [numS, numS_snoc l n, ByteArray.append_assoc]
theorem numS_take {l : List Int} {k : Nat} {n : Int} (h : l[k]? = some n) : numS (l.take (k + 1)) = numS (l.take k) ++ bstr (varI n.toNat) := by
  rw [List.take_add_one, h]
  exact numS_snoc _ _
theorem numS_size : ∀ (l : List Int), (∀ n ∈ l, n ≤ 1000000000) → (numS l).size ≤ l.length * 1000000001
  | [], _ => Nat.zero_le _
  | n :: l, h => by
    have h1 := numS_size l fun m hm => h m (List.mem_cons_of_mem _ hm)
    have h2 := var_size n.toNat
    have h3 := h n List.mem_cons_self
    simp only [numS, ByteArray.size_append, List.length_cons]
    omega
set_option maxRecDepth 10000 in
set_option maxHeartbeats 2000000 in
theorem numbers_any (b g m : Nat) (ns : List Int) (fz : Nat × Nat) (s : ByteArray) (w : World) (h : Wb b s w) (hg : w.heap[g]? = some (.cells (ns.map fun n => Value.int .i64 n).toArray 3 fz)) (hgb : g ≠ b) (hn : ∀ n ∈ ns, 0 ≤ n ∧ n ≤ 1000000000) (hm : ns.length = m) (hm8 : m ≤ 8) (hs : s.size ≤ 100000000000000) :
    Calls Tryd.prog 26 #[.pointer (some ⟨b, 0, none⟩), .slice (some ⟨g, 0, none⟩) m m] w fun e w' => e = .returned (.tuple #[]) ∧ Wb b (s ++ numS ns) w' ∧ Wk b w w' := by
  have HN : Hid (∀ n ∈ ns, 0 ≤ n ∧ n ≤ 1000000000) := hn
  have HM : Hid (ns.length = m) := hm
  have HG : Hid (w.heap[g]? = some (.cells (ns.map fun n => Value.int .i64 n).toArray 3 fz)) := hg
  have HB : Hid (Wb b s w) := h
  have hbl := h.lt
  clear h hn hm hg
  go_enter Tryd.func26, Tryd.ntmps26
  go_wp2
  go_loopw [10] (fun i wr => ∃ k : Nat, k ≤ m ∧ i = .int .i64 k ∧ Hid (Wb b (s ++ numS (ns.take k)) wr) ∧ Hid (Wk b w wr)) (fun i _ => m - (intOf i).toNat)
  case atStart => exact ⟨0, Nat.zero_le _, rfl, (by show Wb _ _ _; simpa [numS] using HB.out), Wk.refl _ _⟩
  case round =>
    obtain ⟨k, hk, rfl, HW, HK⟩ := hrel
    by_cases hlt : k < m
    · obtain ⟨n, hn⟩ : ∃ n, ns[k]? = some n := ⟨_, List.getElem?_eq_getElem (by rw [HM.out]; exact hlt)⟩
      have hn2 := HN.out n (List.mem_of_getElem? hn)
      have hgr := HK.out.row HG.out hgb (by decide)
      have c0 : wr.cell? ⟨g, k, none⟩ = some (.int .i64 n) := by simp [World.cell?, hgr, hn]
      have hglt : g < wr.heap.size := (Array.getElem?_eq_some_iff.1 hgr).1
      have HT : Hid (numS (ns.take (k + 1)) = numS (ns.take k) ++ bstr (varI n.toNat)) := numS_take hn
      have HZ : Hid ((s ++ numS (ns.take k)).size + (bstr (varI n.toNat)).size ≤ 140737488355328) := by
        have h1 := numS_size (ns.take k) fun x hx => (HN.out x (List.mem_of_mem_take hx)).2
        have h2 := var_size n.toNat
        have h3 : (ns.take k).length ≤ 8 := by simp; omega
        show _ ≤ _
        rw [ByteArray.size_append]
        omega
      obtain ⟨T, HTT⟩ : ∃ T : ByteArray, Hid (bstr (varI n.toNat) = T) := ⟨_, rfl⟩
      have HV : Hid (∀ W, Calls Tryd.prog 56 #[.int .i64 n] W fun e w' => e = .returned (.tuple #[.string T, .bool true]) ∧ Below W.heap.size W w') := fun W => by
        have := varText_ok n.toNat W (by omega)
        rw [HTT.out, show ((n.toNat : Nat) : Int) = n by omega] at this
        exact this
      clear hn hgr
      go_wp2_with fail
      refine (HV.out _).mono ?_
      rintro e w1 ⟨rfl, hb1⟩
      have HW1 : Hid (Wb b (s ++ numS (ns.take k)) w1) := HW.out.up hb1
      have HK1 : Hid (Wk b w w1) := HK.out.trans (Wk.of_below hb1 (Nat.le_of_lt HW.out.lt))
      clear c0 hb1
      go_wp2_with fail
      refine (writeText_any b _ T _ HW1.out (by rw [← HTT.out]; exact HZ.out)).mono ?_
      rintro e w2 ⟨rfl, h2, k2⟩
      have HW2 : Hid (Wb b (s ++ numS (ns.take (k + 1))) w2) := by
        show Wb _ _ _
        rw [HT.out, HTT.out, ← ByteArray.append_assoc]
        exact h2
      have HK2 : Hid (Wk b w w2) := HK1.out.trans k2
      clear h2 k2
      go_wp2
      go_roundw
      case rel => exact ⟨k + 1, by omega, by go_num, HW2, HK2⟩
      case measure => simp [intOf]; omega
    · have he : ns.take k = ns := List.take_of_length_le (by rw [HM.out]; omega)
      go_wp2
      refine bodyPost_end (results_none rfl _ _ _) rfl ?_
      refine ⟨rfl, ?_, HK.out⟩
      have := HW.out
      rw [he] at this
      exact this
/-- Texts behind their lengths, one behind the other. -/
def shoS : List ByteArray → ByteArray
  | [] => ByteArray.empty
  | n :: l => shortS n ++ shoS l
theorem shoS_snoc : ∀ (l : List ByteArray) (n : ByteArray), shoS (l ++ [n]) = shoS l ++ shortS n
  | [], n => by simp [shoS]
  | m :: l, n => by simp [shoS, shoS_snoc l n, ByteArray.append_assoc]
theorem shoS_take {l : List ByteArray} {k : Nat} {n : ByteArray} (h : l[k]? = some n) : shoS (l.take (k + 1)) = shoS (l.take k) ++ shortS n := by
  rw [List.take_add_one, h]
  exact shoS_snoc _ _
theorem short_size' (s : ByteArray) : (shortS s).size ≤ 2 * s.size + 1 := by
  unfold shortS
  rw [ByteArray.size_append]
  have := var_size s.size
  omega
theorem shoS_size : ∀ (l : List ByteArray), (∀ n ∈ l, n.size ≤ 20000) → (shoS l).size ≤ l.length * 40001
  | [], _ => Nat.zero_le _
  | n :: l, h => by
    have h1 := shoS_size l fun m hm => h m (List.mem_cons_of_mem _ hm)
    have h2 := short_size' n
    have h3 := h n List.mem_cons_self
    simp only [shoS, ByteArray.size_append, List.length_cons]
    omega
set_option maxRecDepth 10000 in
set_option maxHeartbeats 2000000 in
theorem shorts_any (b g m : Nat) (ns : List ByteArray) (fz : Nat × Nat) (s : ByteArray) (w : World) (h : Wb b s w) (hg : w.heap[g]? = some (.cells (ns.map fun n => Value.string n).toArray 9 fz)) (hgb : g ≠ b) (hn : ∀ n ∈ ns, n.size ≤ 20000) (hm : ns.length = m) (hm8 : m ≤ 8) (hs : s.size ≤ 100000000000000) :
    Calls Tryd.prog 30 #[.pointer (some ⟨b, 0, none⟩), .slice (some ⟨g, 0, none⟩) m m] w fun e w' => e = .returned (.tuple #[]) ∧ Wb b (s ++ shoS ns) w' ∧ Wk b w w' := by
  have HN : Hid (∀ n ∈ ns, n.size ≤ 20000) := hn
  have HM : Hid (ns.length = m) := hm
  have HG : Hid (w.heap[g]? = some (.cells (ns.map fun n => Value.string n).toArray 9 fz)) := hg
  have HB : Hid (Wb b s w) := h
  have hbl := h.lt
  clear h hn hm hg
  go_enter Tryd.func30, Tryd.ntmps30
  go_wp2
  go_loopw [10] (fun i wr => ∃ k : Nat, k ≤ m ∧ i = .int .i64 k ∧ Hid (Wb b (s ++ shoS (ns.take k)) wr) ∧ Hid (Wk b w wr)) (fun i _ => m - (intOf i).toNat)
  case atStart => exact ⟨0, Nat.zero_le _, rfl, (by show Wb _ _ _; simpa [shoS] using HB.out), Wk.refl _ _⟩
  case round =>
    obtain ⟨k, hk, rfl, HW, HK⟩ := hrel
    by_cases hlt : k < m
    · obtain ⟨n, hn⟩ : ∃ n, ns[k]? = some n := ⟨_, List.getElem?_eq_getElem (by rw [HM.out]; exact hlt)⟩
      have hn2 := HN.out n (List.mem_of_getElem? hn)
      have hgr := HK.out.row HG.out hgb (by decide)
      have c0 : wr.cell? ⟨g, k, none⟩ = some (.string n) := by simp [World.cell?, hgr, hn]
      have hglt : g < wr.heap.size := (Array.getElem?_eq_some_iff.1 hgr).1
      have HT : Hid (shoS (ns.take (k + 1)) = shoS (ns.take k) ++ shortS n) := shoS_take hn
      have HZ : Hid ((s ++ shoS (ns.take k)).size + (shortS n).size ≤ 140737488355328) := by
        have h1 := shoS_size (ns.take k) fun x hx => HN.out x (List.mem_of_mem_take hx)
        have h2 := short_size' n
        have h3 : (ns.take k).length ≤ 8 := by simp; omega
        show _ ≤ _
        rw [ByteArray.size_append]
        omega
      obtain ⟨T, HTT⟩ : ∃ T : ByteArray, Hid (shortS n = T) := ⟨_, rfl⟩
      have HV : Hid (∀ W, Calls Tryd.prog 60 #[.string n] W fun e w' => e = .returned (.tuple #[.string T, .bool true]) ∧ Below W.heap.size W w') := fun W => by
        have := short_ok n W hn2
        rw [show bstr (varI n.size) ++ n = T from HTT.out] at this
        exact this
      clear hn hgr
      go_wp2_with fail
      refine (HV.out _).mono ?_
      rintro e w1 ⟨rfl, hb1⟩
      have HW1 : Hid (Wb b (s ++ shoS (ns.take k)) w1) := HW.out.up hb1
      have HK1 : Hid (Wk b w w1) := HK.out.trans (Wk.of_below hb1 (Nat.le_of_lt HW.out.lt))
      clear c0 hb1
      go_wp2_with fail
      refine (writeText_any b _ T _ HW1.out (by rw [← HTT.out]; exact HZ.out)).mono ?_
      rintro e w2 ⟨rfl, h2, k2⟩
      have HW2 : Hid (Wb b (s ++ shoS (ns.take (k + 1))) w2) := by
        show Wb _ _ _
        rw [HT.out, HTT.out, ← ByteArray.append_assoc]
        exact h2
      have HK2 : Hid (Wk b w w2) := HK1.out.trans k2
      clear h2 k2
      go_wp2
      go_roundw
      case rel => exact ⟨k + 1, by omega, by go_num, HW2, HK2⟩
      case measure => simp [intOf]; omega
    · have he : ns.take k = ns := List.take_of_length_le (by rw [HM.out]; omega)
      go_wp2
      refine bodyPost_end (results_none rfl _ _ _) rfl ?_
      refine ⟨rfl, ?_, HK.out⟩
      have := HW.out
      rw [he] at this
      exact this
set_option maxHeartbeats 1000000 in
theorem oneByte_any (b : Nat) (s : ByteArray) (n : Int) (w : World) (h : Wb b s w) (h0 : 0 ≤ n) (h1 : n ≤ 255) (hs : s.size ≤ 100000000000000) :
    Calls Tryd.prog 25 #[.pointer (some ⟨b, 0, none⟩), .int .i64 n] w fun e w' => e = .returned (.tuple #[]) ∧ Wb b (s ++ bstr [n]) w' ∧ Wk b w w' := by
  have HB : Hid (Wb b s w) := h
  have hbl := h.lt
  have hw : IntKind.u8.wrap n = n := by simp [IntKind.wrap, IntKind.bits, IntKind.signed]; omega
  clear h
  go_enter Tryd.func25, Tryd.ntmps25
  go_wp2_with fail
  refine (writeByte_any b s n w HB.out h0 h1 (by omega)).mono ?_
  rintro e w1 ⟨rfl, h2, k2⟩
  go_wp2
  refine bodyPost_end (results_none rfl _ _ _) rfl ?_
  exact ⟨rfl, h2, k2⟩
set_option maxHeartbeats 1000000 in
theorem flagW_any (b : Nat) (s : ByteArray) (f : Bool) (w : World) (h : Wb b s w) (hs : s.size ≤ 100000000000000) :
    Calls Tryd.prog 27 #[.pointer (some ⟨b, 0, none⟩), .bool f] w fun e w' => e = .returned (.tuple #[]) ∧ Wb b (s ++ flagS f) w' ∧ Wk b w w' := by
  have HB : Hid (Wb b s w) := h
  clear h
  cases f with
  | false =>
    go_enter Tryd.func27, Tryd.ntmps27
    go_wp2_with fail
    refine (oneByte_any b s 0 w HB.out (by decide) (by decide) hs).mono ?_
    rintro e w1 ⟨rfl, h2, k2⟩
    go_wp2
    refine bodyPost_end (results_none rfl _ _ _) rfl ?_
    exact ⟨rfl, h2, k2⟩
  | true =>
    go_enter Tryd.func27, Tryd.ntmps27
    go_wp2_with fail
    refine (oneByte_any b s 1 w HB.out (by decide) (by decide) hs).mono ?_
    rintro e w1 ⟨rfl, h2, k2⟩
    go_wp2
    refine bodyPost_end (results_none rfl _ _ _) rfl ?_
    exact ⟨rfl, h2, k2⟩
end Go.Proofs.YtgjamikmjknlfaaDoor

namespace Go.Proofs.YtgjamikmjknlfaaDoor
open Go Go.RowKit

/-- An entry's own text. -/
def tx8 (f : En) : ByteArray := textX 1 f.term f.kind f.data
/-- A message in bytes. -/
def encS (kd fr up tm ix lt cm : Int) (ok : Bool) (da : ByteArray) (la : Bool) (es : List En) (cs : List Int) : ByteArray := bstr [kd, fr, up] ++ bstr (varI tm.toNat) ++ bstr (varI ix.toNat) ++ bstr (varI lt.toNat) ++ bstr (varI cm.toNat) ++ flagS ok ++ flagS la ++ bstr (varI es.length) ++ shoS (es.map tx8) ++ shortS (textC cs) ++ shortS da
def encV (kd fr up tm ix lt cm : Int) (ok : Bool) (da : ByteArray) (la : Bool) (es : List En) (cs : List Int) : Value := if okM kd fr up tm ix lt cm da la es cs then .tuple #[.string (encS kd fr up tm ix lt cm ok da la es cs), .bool true] else .tuple #[.string ⟨#[]⟩, .bool false]
theorem bstr_three (a b c : Int) : bstr [a, b, c] = bstr [a] ++ bstr [b] ++ bstr [c] := by
  rw [← bstr_cons a [b, c], ← bstr_cons b [c], ByteArray.append_assoc]
theorem tx8_size (f : En) (_ : f.data.size ≤ 1048576) : (tx8 f).size ≤ 700 := by
  unfold tx8 textX
  cases h : okX 1 f.term f.kind f.data with
  | false => exact Nat.zero_le _
  | true =>
    obtain ⟨h1, h2, h3, h4, h5, h6, h7⟩ := okX_out h
    have e1 : (⟨#[69]⟩ : ByteArray).size = 1 := rfl
    have e2 := varI_len3 (n := (1 : Int).toNat) (by decide)
    have e3 := varI_len3 (n := f.term.toNat) (by omega)
    show (textE 1 f.term f.kind f.data).size ≤ 700
    unfold textE rawE
    simp only [ByteArray.size_append, bstr_size', List.length_cons, List.length_nil]
    omega
theorem textC_size (cs : List Int) : (textC cs).size ≤ 4 := by
  unfold textC
  cases h : okC cs with
  | false => exact Nat.zero_le _
  | true =>
    show (bstr cs).size ≤ 4
    rw [bstr_size']
    exact okC_len h
theorem okM_fine {kd fr up tm ix lt cm : Int} {da : ByteArray} {la : Bool} {es : List En} {cs : List Int} (h : okM kd fr up tm ix lt cm da la es cs = true) : 1 ≤ kd ∧ kd ≤ 6 ∧ 1 ≤ fr ∧ fr ≤ 4 ∧ 1 ≤ up ∧ up ≤ 4 ∧ 0 ≤ tm ∧ tm ≤ 100000 ∧ 0 ≤ lt ∧ lt ≤ 100000 ∧ 0 ≤ ix ∧ ix ≤ 1000000 ∧ 0 ≤ cm ∧ cm ≤ 1000000 ∧ es.length ≤ 4 ∧ da.size ≤ 60 := by
  have h2 := h
  rw [okM_eq] at h2
  unfold okMs sendS tailM headM wiB at h2
  simp only [Bool.and_eq_true, decide_eq_true_eq] at h2
  obtain ⟨⟨⟨a1, a2⟩, ⟨b1, b2⟩, ⟨c1, c2⟩, _, ⟨d1, d2⟩, ⟨e1, e2⟩, ⟨f1, f2⟩, g1, g2⟩, ⟨l1, _⟩, t⟩ := h2
  refine ⟨a1, a2, b1, b2, c1, c2, d1, d2, e1, e2, f1, f2, g1, g2, l1, ?_⟩
  split at t
  · unfold chunkM at t
    simp only [Bool.and_eq_true, decide_eq_true_eq] at t
    exact t.2
  · unfold noneC at t
    simp only [Bool.and_eq_true, decide_eq_true_eq] at t
    have h3 := bytesI_length da
    unfold bytesI at h3
    rw [t.2.1] at h3
    simp at h3
    omega
end Go.Proofs.YtgjamikmjknlfaaDoor

namespace Go.Proofs.YtgjamikmjknlfaaDoor
open Go Go.RowKit

theorem conv3_at {w : World} {X : Nat} {x y z : Int} (h : w.heap[X]? = some (.cells #[.int .u8 x, .int .u8 y, .int .u8 z] 5)) : (convert 42 9 (.slice (some ⟨X, 0, none⟩) 3 3)).run Tryd.prog w = .ok (.string (bstr [x, y, z])) w :=
  run_own_string (P := Tryd.prog) (B := 0) (e := 5) 42 9 (show ownsB w 0 5 (.slice (some ⟨X, 0, none⟩) 3 3) [x, y, z] from
    ⟨rfl, .inr ⟨X, 3, #[.int .u8 x, .int .u8 y, .int .u8 z], rfl, Nat.zero_le _, h, Nat.le_refl _, by unfold maxLen; omega, rfl, rfl⟩⟩) Tryd.underlying42 Tryd.underlying5 Tryd.underlying9

theorem l05ShortM_any (s : ByteArray) (w : World) (hs : s.size ≤ 1048576) :
    Calls Tryd.prog 20 #[.string s] w fun e w' => e = .returned (.string (shortS s)) ∧ Below w.heap.size w w' := by
  have hadd : ∀ wx, (Op.stringOp .add (bstr (varI s.size)) s).run Tryd.prog wx = .ok (.string (shortS s)) wx := fun wx => run_string_add_sum wx _ s (by
    have hl := var_size s.size
    omega)
  go_enter Tryd.func20, Tryd.ntmps20
  go_wp2_with (go_at_call 17; refine (l01Var_any _ _ (by omega)).mono ?_; rintro e w1 ⟨rfl, hb1⟩)
  go_ret
  exact ⟨rfl, hb1⟩

set_option maxRecDepth 10000 in
set_option maxHeartbeats 20000000 in
theorem specEncode_go (kd fr up tm ix lt cm : Int) (ok : Bool) (da : ByteArray) (la : Bool) (ao bo : Option Addr) (n cap m cbp : Nat) (es : List En) (tc : ByteArray) (qc : Bool) (s0 v1 v2 v3 v4 f1 f2 v5 s1 s2 s3 s4 s5 s6 s7 : ByteArray) (w : World)
    (HE : Hid (Reads w (.slice ao n cap) es)) (HZ : Hid (SizedE es)) (Hn : Hid (n ≤ 4)) (H7 : Hid (s7.size ≤ 10000000000)) (Htc : Hid (tc.size ≤ 4)) (Hda : Hid (da.size ≤ 60)) (HCT : Hid (∀ W, Below w.heap.size w W → Calls Tryd.prog 21 #[.slice bo m cbp] W fun e w' => e = .returned (.tuple #[.string tc, .bool qc]) ∧ Below W.heap.size W w'))
    (hq : Hid (∀ W, Below w.heap.size w W → Calls Tryd.prog 16 #[.agg #[.int .i64 kd, .int .i64 fr, .int .i64 up, .int .i64 tm, .int .i64 ix, .int .i64 lt, .int .i64 cm, .bool ok, (.slice ao n cap), (.slice bo m cbp), .string da, .bool la]] W fun e w' => e = .returned (.bool true) ∧ Below W.heap.size W w')) (hu0 : IntKind.u8.wrap kd = kd) (hu1 : IntKind.u8.wrap fr = fr) (hu2 : IntKind.u8.wrap up = up)
    (V1 : Hid (∀ W, Calls Tryd.prog 17 #[.int .i64 tm] W fun e w' => e = .returned (.string v1) ∧ Below W.heap.size W w'))
    (V2 : Hid (∀ W, Calls Tryd.prog 17 #[.int .i64 ix] W fun e w' => e = .returned (.string v2) ∧ Below W.heap.size W w'))
    (V3 : Hid (∀ W, Calls Tryd.prog 17 #[.int .i64 lt] W fun e w' => e = .returned (.string v3) ∧ Below W.heap.size W w'))
    (V4 : Hid (∀ W, Calls Tryd.prog 17 #[.int .i64 cm] W fun e w' => e = .returned (.string v4) ∧ Below W.heap.size W w'))
    (V5 : Hid (∀ W, Calls Tryd.prog 17 #[.int .i64 (n : Int)] W fun e w' => e = .returned (.string v5) ∧ Below W.heap.size W w'))
    (F1 : Hid (∀ W, Calls Tryd.prog 18 #[.bool ok] W fun e w' => e = .returned (.string f1) ∧ Below W.heap.size W w'))
    (F2 : Hid (∀ W, Calls Tryd.prog 18 #[.bool la] W fun e w' => e = .returned (.string f2) ∧ Below W.heap.size W w'))
    (CV : Hid (∀ (w : World) (X : Nat), w.heap[X]? = some (.cells #[.int .u8 kd, .int .u8 fr, .int .u8 up] 5) → (convert 42 9 (.slice (some ⟨X, 0, none⟩) 3 3)).run Tryd.prog w = .ok (.string s0) w))
    (a1 : ∀ wx, (Op.stringOp .add s0 v1).run Tryd.prog wx = .ok (.string s1) wx) (a2 : ∀ wx, (Op.stringOp .add s1 v2).run Tryd.prog wx = .ok (.string s2) wx) (a3 : ∀ wx, (Op.stringOp .add s2 v3).run Tryd.prog wx = .ok (.string s3) wx) (a4 : ∀ wx, (Op.stringOp .add s3 v4).run Tryd.prog wx = .ok (.string s4) wx) (a5 : ∀ wx, (Op.stringOp .add s4 f1).run Tryd.prog wx = .ok (.string s5) wx) (a6 : ∀ wx, (Op.stringOp .add s5 f2).run Tryd.prog wx = .ok (.string s6) wx) (a7 : ∀ wx, (Op.stringOp .add s6 v5).run Tryd.prog wx = .ok (.string s7) wx) :
    Calls Tryd.prog 6 #[.agg #[.int .i64 kd, .int .i64 fr, .int .i64 up, .int .i64 tm, .int .i64 ix, .int .i64 lt, .int .i64 cm, .bool ok, (.slice ao n cap), (.slice bo m cbp), .string da, .bool la]] w fun e w' => e = .returned (.tuple #[.string (s7 ++ shoS (es.map tx8) ++ shortS tc ++ shortS da), .bool true]) ∧ Below w.heap.size w w' := by
  go_enter Tryd.func6, Tryd.ntmps6
  go_wp2_with (go_at_call 16; refine (hq.out _ (ba (Below.refl _ _) _)).mono ?_; rintro e w1 ⟨rfl, hb1⟩)
  have B1 := below_new hb1
  have K1 := (Kc12.new 31 w (.int .i64 kd) (.int .i64 fr) (.int .i64 up) (.int .i64 tm) (.int .i64 ix) (.int .i64 lt) (.int .i64 cm) (.bool ok) (.slice ao n cap) (.slice bo m cbp) (.string da) (.bool la)).up hb1
  have hlt : w.heap.size < w1.heap.size := K1.lt
  clear hb1
  have k0 := Wd.cell K1.c0
  have k1 := Wd.cell K1.c1
  have k2 := Wd.cell K1.c2
  have k3 := Wd.cell K1.c3
  have k4 := Wd.cell K1.c4
  have k5 := Wd.cell K1.c5
  have k6 := Wd.cell K1.c6
  have k7 := Wd.cell K1.c7
  have k8 := Wd.cell K1.c8
  have k9 := Wd.cell K1.c9
  have k10 := Wd.cell K1.c10
  have k11 := Wd.cell K1.c11
  refine Code.wp_mono (Q := fun e a' w' => e = .normal ∧ ∃ X : Nat, a' = (⟨#[.agg #[.int .i64 kd, .int .i64 fr, .int .i64 up, .int .i64 tm, .int .i64 ix, .int .i64 lt, .int .i64 cm, .bool ok, (.slice ao n cap), (.slice bo m cbp), .string da, .bool la], .pointer (some ⟨w.heap.size, 0, none⟩), .string { data := #[] }, .bool false, .string s7, undef, undef, undef, undef, undef, .agg #[.int .i64 kd, .int .i64 fr, .int .i64 up, .int .i64 tm, .int .i64 ix, .int .i64 lt, .int .i64 cm, .bool ok, (.slice ao n cap), (.slice bo m cbp), .string da, .bool la], .bool true, .bool false, .pointer (some ⟨w.heap.size, 0, none⟩), .int .i64 kd, .int .u8 kd, .pointer (some ⟨w.heap.size, 1, none⟩), .int .i64 fr, .int .u8 fr, .pointer (some ⟨w.heap.size, 2, none⟩), .int .i64 up, .int .u8 up, .slice (some ⟨X, 0, none⟩) 3 3, .string s0, .pointer (some ⟨w.heap.size, 3, none⟩), .int .i64 tm, .string v1, .string s1, .pointer (some ⟨w.heap.size, 4, none⟩), .int .i64 ix, .string v2, .string s2, .pointer (some ⟨w.heap.size, 5, none⟩), .int .i64 lt, .string v3, .string s3, .pointer (some ⟨w.heap.size, 6, none⟩), .int .i64 cm, .string v4, .string s4, .pointer (some ⟨w.heap.size, 7, none⟩), .bool ok, .string f1, .string s5, .pointer (some ⟨w.heap.size, 11, none⟩), .bool la, .string f2, .string s6, .pointer (some ⟨w.heap.size, 8, none⟩), .slice ao n cap, .int .i64 (n : Int), .string v5, .string s7, undef, undef, undef, undef, undef, undef, undef, undef, undef, undef, undef, undef, undef, undef, undef, undef, undef, undef, undef, undef, undef, undef, undef, undef, undef, undef, undef, undef, undef, undef, undef, undef, undef, undef], []⟩ : Act) ∧ Below w1.heap.size w1 w') ?_ ?_
  · rintro e a' w' ⟨rfl, X, rfl, hbx⟩
    have k9' := k9
    clear k0 k1 k2 k3 k4 k5 k6 k7 k9 k11 a1 a2 a3 a4 a5 a6 a7 V1 V2 V3 V4 V5 F1 F2 CV hu0 hu1 hu2 hq K1
    have hn4 : n ≤ 4 := Hn.out
    go_wp2
    go_loopw [4, 5] (fun x i wr => ∃ k : Nat, k ≤ n ∧ i = .int .i64 k ∧ x = .string (s7 ++ shoS ((es.map tx8).take k)) ∧ Hid (Below w1.heap.size w1 wr)) (fun _ i _ => n - (intOf i).toNat)
    case atStart => exact ⟨0, Nat.zero_le _, rfl, by simp [shoS], hbx⟩
    case round =>
      obtain ⟨k, hk, rfl, rfl, HB⟩ := hrel
      have c8 : wr.cell? ⟨w.heap.size, 8, none⟩ = some (.slice ao n cap) := k8 ⟨wr, HB.out⟩
      have c9 : wr.cell? ⟨w.heap.size, 9, none⟩ = some (.slice bo m cbp) := k9' ⟨wr, HB.out⟩
      have HLE : Hid (es.length = n) := HE.out.len.symm
      have HBW : Hid (Below w.heap.size w wr) := B1.trans (HB.out.mono B1.size)
      by_cases hlt : k < n
      · obtain ⟨f, hf⟩ : ∃ f, es[k]? = some f := ⟨_, List.getElem?_eq_getElem (by rw [HLE.out]; exact hlt)⟩
        have HM : Hid (f.data.size ≤ maxLen) := by have := HZ.out f (List.mem_of_getElem? hf); show _ ≤ maxLen; unfold maxLen; omega
        obtain ⟨g, o, rfl, hg, e0, e1, e2⟩ := en_at (HE.out.below HBW.out) hf
        have hfm : (es.map tx8)[k]? = some (tx8 f) := by rw [List.getElem?_map, hf]; rfl
        have HT : Hid (shoS ((es.map tx8).take (k + 1)) = shoS ((es.map tx8).take k) ++ shortS (tx8 f)) := shoS_take hfm
        have HSZ : Hid ((s7 ++ shoS ((es.map tx8).take k)).size ≤ 20000000000 ∧ (tx8 f).size ≤ 20000) := by
          have h1 := shoS_size ((es.map tx8).take k) fun x hx => by
            obtain ⟨y, hy, rfl⟩ := List.mem_map.1 (List.mem_of_mem_take hx)
            have := tx8_size y (HZ.out y hy); omega
          have h2 : ((es.map tx8).take k).length ≤ 4 := by have := Hn.out; rw [List.length_take]; omega
          have h3 := tx8_size f (HZ.out f (List.mem_of_getElem? hf))
          have h4 := H7.out
          refine ⟨?_, by omega⟩
          rw [ByteArray.size_append]
          omega
        have HET : Hid (∀ W, Calls Tryd.prog 19 #[.int .i64 1, .agg #[.int .i64 f.term, .int .i64 f.kind, .string f.data]] W fun e w' => e = .returned (.tuple #[.string (tx8 f), .bool (okX 1 f.term f.kind f.data)]) ∧ Below W.heap.size W w') := fun W => specEntryText_any 1 f.term f.kind f.data W HM.out
        obtain ⟨T, HTT⟩ : ∃ T : ByteArray, Hid (tx8 f = T) := ⟨_, rfl⟩
        obtain ⟨q, HQ⟩ : ∃ q, Hid (okX 1 f.term f.kind f.data = q) := ⟨_, rfl⟩
        rw [HTT.out, HQ.out] at HET
        rw [HTT.out] at HT HSZ
        have HSH : Hid (∀ W, Calls Tryd.prog 20 #[.string T] W fun e w' => e = .returned (.string (shortS T)) ∧ Below W.heap.size W w') := fun W => l05ShortM_any T W (by have := HSZ.out; omega)
        have hadd : ∀ wx, (Op.stringOp .add (s7 ++ shoS ((es.map tx8).take k)) (shortS T)).run Tryd.prog wx = .ok (.string (s7 ++ shoS ((es.map tx8).take (k + 1)))) wx := fun wx => by
          rw [HT.out, ← ByteArray.append_assoc]
          exact run_string_add_sum wx _ _ (by have h1 := HSZ.out; have h2 := short_size' T; omega)
        clear hf hfm HT
        go_wp2_with fail
        refine (HET.out _).mono ?_
        rintro e w3 ⟨rfl, hb3⟩
        have HB3 : Hid (Below w1.heap.size w1 w3) := Below.on HB.out hb3
        clear e0 e1 e2 c8 c9 hb3 HB HBW HET
        go_wp2_with fail
        refine (HSH.out _).mono ?_
        rintro e w4 ⟨rfl, hb4⟩
        have HB4 : Hid (Below w1.heap.size w1 w4) := Below.on HB3.out hb4
        clear hb4 HB3 HSH
        go_wp2
        go_roundw
        case rel => exact ⟨k + 1, by omega, by go_num, rfl, HB4⟩
        case measure => simp [intOf]; omega
      · have hkn : k = n := by omega
        subst hkn
        have he : (es.map tx8).take k = es.map tx8 := List.take_of_length_le (by rw [List.length_map, HLE.out]; omega)
        rw [he]
        have HSZ : Hid ((s7 ++ shoS (es.map tx8)).size ≤ 20000000000) := by
          have h1 := shoS_size (es.map tx8) fun x hx => by
            obtain ⟨y, hy, rfl⟩ := List.mem_map.1 hx
            have := tx8_size y (HZ.out y hy); omega
          have h2 : (es.map tx8).length ≤ 4 := by have := Hn.out; rw [List.length_map, HLE.out]; omega
          have h4 := H7.out
          show _ ≤ _
          rw [ByteArray.size_append]
          omega
        obtain ⟨P0, HP0⟩ : ∃ P, Hid (s7 ++ shoS (es.map tx8) = P) := ⟨_, rfl⟩
        rw [HP0.out] at HSZ ⊢
        obtain ⟨P1, HP1⟩ : ∃ P, Hid (P0 ++ shortS tc = P) := ⟨_, rfl⟩
        have hadd1 : ∀ wx, (Op.stringOp .add P0 (shortS tc)).run Tryd.prog wx = .ok (.string P1) wx := fun wx => by
          rw [← HP1.out]
          exact run_string_add_sum wx _ _ (by have h1 := HSZ.out; have h2 := short_size' tc; have h3 := Htc.out; omega)
        have HSZ1 : Hid (P1.size ≤ 30000000000) := by
          have h1 := HSZ.out; have h2 := short_size' tc; have h3 := Htc.out
          show _ ≤ _
          rw [← HP1.out, ByteArray.size_append]; omega
        obtain ⟨P2, HP2⟩ : ∃ P, Hid (P1 ++ shortS da = P) := ⟨_, rfl⟩
        have hadd2 : ∀ wx, (Op.stringOp .add P1 (shortS da)).run Tryd.prog wx = .ok (.string P2) wx := fun wx => by
          rw [← HP2.out]
          exact run_string_add_sum wx _ _ (by have h1 := HSZ1.out; have h2 := short_size' da; have h3 := Hda.out; omega)
        have HRES : Hid (s7 ++ shoS (es.map tx8) ++ shortS tc ++ shortS da = P2) := by show _ = _; rw [HP0.out, HP1.out, HP2.out]
        have HS1 : Hid (∀ W, Calls Tryd.prog 20 #[.string tc] W fun e w' => e = .returned (.string (shortS tc)) ∧ Below W.heap.size W w') := fun W => l05ShortM_any tc W (by have := Htc.out; omega)
        have HS2 : Hid (∀ W, Calls Tryd.prog 20 #[.string da] W fun e w' => e = .returned (.string (shortS da)) ∧ Below W.heap.size W w') := fun W => l05ShortM_any da W (by have := Hda.out; omega)
        clear he
        go_wp2_with fail
        refine (HCT.out _ HBW.out).mono ?_
        rintro e w5 ⟨rfl, hb5⟩
        have HB5 : Hid (Below w1.heap.size w1 w5) := Below.on HB.out hb5
        have d10 : w5.cell? ⟨w.heap.size, 10, none⟩ = some (.string da) := k10 ⟨w5, HB5.out⟩
        have q10 := Wd.cell d10
        clear c8 c9 hb5 HB HBW HCT
        go_wp2
        refine wp_region_wd (by kernel_rfl) (by kernel_rfl) ?_
        repeat (go_big_quiet_step ((go_at_call 20; first | (refine calls_wd (v := .string (shortS tc)) ?_; with_reducible exact HS1.out _) | (refine calls_wd (v := .string (shortS da)) ?_; with_reducible exact HS2.out _))))
        refine wpQuiet_nil ?_
        rintro _ ⟨x1, rfl⟩
        go_wp2
        go_ret2
        exact ⟨by rw [HRES.out]; rfl, (B1.trans (HB5.out.mono B1.size)).trans (x1.ok.mono (B1.trans (HB5.out.mono B1.size)).size)⟩

  refine wp_region_pick (fun w' => ∃ x : Wd w1, w' = x.at') [0, 1, 2, 3, 4, 5, 6, 7, 8, 11, 12, 15, 16, 19, 20, 23, 24, 27, 28, 31, 32, 35, 36] 40 17 (by kernel_rfl) (by decide) (by decide) (by kernel_rfl) (fun _ _ _ _ _ h => by cases h.1) ⟨⟨w1.drew, (Below.refl _ _).drew⟩, rfl⟩ ?_
  (repeat (refine wpTakes_l rfl (by first | (intro x h; cases h; done) | (intro x h; cases h; exact ⟨_, rfl⟩)) ?_; go_big_quiet_step (fail); refine wpQuiet_nil ?_)); refine takes_nil ?_
  obtain ⟨y, hy⟩ : ∃ y, w1.drew = y := ⟨_, rfl⟩
  have D : Below w1.heap.size w1 y := by rw [← hy]; exact (Below.refl _ _).drew
  rw [hy]
  clear hy
  refine any_first (fuel := 16) 37 40 (.int .i64 (n : Int)) rfl (by kernel_rfl) (fun _ _ _ _ _ h => by cases h.1) ⟨⟨y, D⟩, rfl⟩ rfl (fun w _ => by simp [go_sem]) ?_
  dsimp only [Act.put, List.setIfInBounds_toArray, List.set_cons_zero, List.set_cons_succ]
  refine pk_two (fuel := 15) (i := 9) (j := 13) (by kernel_rfl) rfl rfl rfl rfl ?_ ?_
  · skip
    intro K hK
    go_wp2
    obtain ⟨V, hV⟩ : ∃ V, y.alloc (.cells #[.int .u8 kd, .int .u8 fr, .int .u8 up] 5) = V := ⟨_, rfl⟩
    have HX0 : V.heap[y.heap.size]? = some (.cells #[.int .u8 kd, .int .u8 fr, .int .u8 up] 5) := by rw [← hV]; show (y.heap.push _)[y.heap.size]? = _; simp
    have BV : Below w1.heap.size w1 V := by rw [← hV]; exact Below.alloc D (Below.size D) _
    rw [hV]
    obtain ⟨X, hX⟩ : ∃ X, y.heap.size = X := ⟨_, rfl⟩
    have HX : Hid (V.heap[X]? = some (.cells #[.int .u8 kd, .int .u8 fr, .int .u8 up] 5)) := by rw [← hX]; exact HX0
    rw [hX]
    clear HX0 hX hV
    refine hK.out _ _ ⟨⟨V, BV⟩, rfl⟩ ?_
    clear hK K
    haveI : Nonempty (Wx w1 X (.cells #[.int .u8 kd, .int .u8 fr, .int .u8 up] 5)) := ⟨⟨V, BV, HX.out⟩⟩
    refine wpAnyU_strong (C' := fun w' => ∃ x : Wx w1 X (.cells #[.int .u8 kd, .int .u8 fr, .int .u8 up] 5), w' = x.at') (fun w' h => by obtain ⟨x, rfl⟩ := h; exact ⟨⟨x.at', x.ok⟩, rfl⟩) _ _ _ _ ?_
    have hcv : ∀ x : Wx w1 X (.cells #[.int .u8 kd, .int .u8 fr, .int .u8 up] 5), (convert 42 9 (.slice (some ⟨X, 0, none⟩) 3 3)).run Tryd.prog x.at' = .ok (.string s0) x.at' := fun x => CV.out _ _ x.blk
    obtain ⟨S, hS⟩ : ∃ S : Wx w1 X (.cells #[.int .u8 kd, .int .u8 fr, .int .u8 up] 5), S.at' = V := ⟨⟨V, BV, HX.out⟩, rfl⟩
    rw [← hS]
    clear hS BV HX
    refine pk_takes [10] 40 14 ⟨S, rfl⟩ (by kernel_rfl) (fun _ _ _ _ _ h => by cases h.1) ?_
    (repeat (refine wpTakes_l rfl (by first | (intro x h; cases h; done) | (intro x h; cases h; exact ⟨_, rfl⟩)) ?_; go_big_quiet_step (fail); refine wpQuiet_nil ?_)); refine takes_nil ?_
    refine any_one (fuel := 13) (i := 13) (by kernel_rfl) rfl rfl ?_
    intro K hK
    go_wp2_with fail
    refine (V1.out _).mono ?_
    rintro e y ⟨rfl, hby⟩
    obtain ⟨S0, hS0⟩ : ∃ S' : Wx w1 X (.cells #[.int .u8 kd, .int .u8 fr, .int .u8 up] 5), S'.at' = y := ⟨S.up hby, rfl⟩
    clear hby
    subst hS0
    go_wp2
    refine hK.out _ _ ⟨S0, rfl⟩ ?_
    clear hK K
    refine pk_takes [14] 40 12 ⟨S0, rfl⟩ (by kernel_rfl) (fun _ _ _ _ _ h => by cases h.1) ?_
    (repeat (refine wpTakes_l rfl (by first | (intro x h; cases h; done) | (intro x h; cases h; exact ⟨_, rfl⟩)) ?_; go_big_quiet_step (fail); refine wpQuiet_nil ?_)); refine takes_nil ?_
    refine any_one (fuel := 11) (i := 17) (by kernel_rfl) rfl rfl ?_
    intro K hK
    go_wp2_with fail
    refine (V2.out _).mono ?_
    rintro e y ⟨rfl, hby⟩
    obtain ⟨S1, hS1⟩ : ∃ S' : Wx w1 X (.cells #[.int .u8 kd, .int .u8 fr, .int .u8 up] 5), S'.at' = y := ⟨S0.up hby, rfl⟩
    clear hby
    subst hS1
    go_wp2
    refine hK.out _ _ ⟨S1, rfl⟩ ?_
    clear hK K
    refine pk_takes [18] 40 10 ⟨S1, rfl⟩ (by kernel_rfl) (fun _ _ _ _ _ h => by cases h.1) ?_
    (repeat (refine wpTakes_l rfl (by first | (intro x h; cases h; done) | (intro x h; cases h; exact ⟨_, rfl⟩)) ?_; go_big_quiet_step (fail); refine wpQuiet_nil ?_)); refine takes_nil ?_
    refine any_one (fuel := 9) (i := 21) (by kernel_rfl) rfl rfl ?_
    intro K hK
    go_wp2_with fail
    refine (V3.out _).mono ?_
    rintro e y ⟨rfl, hby⟩
    obtain ⟨S2, hS2⟩ : ∃ S' : Wx w1 X (.cells #[.int .u8 kd, .int .u8 fr, .int .u8 up] 5), S'.at' = y := ⟨S1.up hby, rfl⟩
    clear hby
    subst hS2
    go_wp2
    refine hK.out _ _ ⟨S2, rfl⟩ ?_
    clear hK K
    refine pk_takes [22] 40 8 ⟨S2, rfl⟩ (by kernel_rfl) (fun _ _ _ _ _ h => by cases h.1) ?_
    (repeat (refine wpTakes_l rfl (by first | (intro x h; cases h; done) | (intro x h; cases h; exact ⟨_, rfl⟩)) ?_; go_big_quiet_step (fail); refine wpQuiet_nil ?_)); refine takes_nil ?_
    refine any_one (fuel := 7) (i := 25) (by kernel_rfl) rfl rfl ?_
    intro K hK
    go_wp2_with fail
    refine (V4.out _).mono ?_
    rintro e y ⟨rfl, hby⟩
    obtain ⟨S3, hS3⟩ : ∃ S' : Wx w1 X (.cells #[.int .u8 kd, .int .u8 fr, .int .u8 up] 5), S'.at' = y := ⟨S2.up hby, rfl⟩
    clear hby
    subst hS3
    go_wp2
    refine hK.out _ _ ⟨S3, rfl⟩ ?_
    clear hK K
    refine pk_takes [26] 40 6 ⟨S3, rfl⟩ (by kernel_rfl) (fun _ _ _ _ _ h => by cases h.1) ?_
    (repeat (refine wpTakes_l rfl (by first | (intro x h; cases h; done) | (intro x h; cases h; exact ⟨_, rfl⟩)) ?_; go_big_quiet_step (fail); refine wpQuiet_nil ?_)); refine takes_nil ?_
    refine any_one (fuel := 5) (i := 29) (by kernel_rfl) rfl rfl ?_
    intro K hK
    go_wp2_with fail
    refine (F1.out _).mono ?_
    rintro e y ⟨rfl, hby⟩
    obtain ⟨S4, hS4⟩ : ∃ S' : Wx w1 X (.cells #[.int .u8 kd, .int .u8 fr, .int .u8 up] 5), S'.at' = y := ⟨S3.up hby, rfl⟩
    clear hby
    subst hS4
    go_wp2
    refine hK.out _ _ ⟨S4, rfl⟩ ?_
    clear hK K
    refine pk_takes [30] 40 4 ⟨S4, rfl⟩ (by kernel_rfl) (fun _ _ _ _ _ h => by cases h.1) ?_
    (repeat (refine wpTakes_l rfl (by first | (intro x h; cases h; done) | (intro x h; cases h; exact ⟨_, rfl⟩)) ?_; go_big_quiet_step (fail); refine wpQuiet_nil ?_)); refine takes_nil ?_
    refine any_one (fuel := 3) (i := 33) (by kernel_rfl) rfl rfl ?_
    intro K hK
    go_wp2_with fail
    refine (F2.out _).mono ?_
    rintro e y ⟨rfl, hby⟩
    obtain ⟨S5, hS5⟩ : ∃ S' : Wx w1 X (.cells #[.int .u8 kd, .int .u8 fr, .int .u8 up] 5), S'.at' = y := ⟨S4.up hby, rfl⟩
    clear hby
    subst hS5
    go_wp2
    refine hK.out _ _ ⟨S5, rfl⟩ ?_
    clear hK K
    refine pk_takes [34] 40 2 ⟨S5, rfl⟩ (by kernel_rfl) (fun _ _ _ _ _ h => by cases h.1) ?_
    (repeat (refine wpTakes_l rfl (by first | (intro x h; cases h; done) | (intro x h; cases h; exact ⟨_, rfl⟩)) ?_; go_big_quiet_step (fail); refine wpQuiet_nil ?_)); refine takes_nil ?_
    refine any_one (fuel := 1) (i := 38) (by kernel_rfl) rfl rfl ?_
    intro K hK
    go_wp2_with fail
    refine (V5.out _).mono ?_
    rintro e y ⟨rfl, hby⟩
    obtain ⟨S6, hS6⟩ : ∃ S' : Wx w1 X (.cells #[.int .u8 kd, .int .u8 fr, .int .u8 up] 5), S'.at' = y := ⟨S5.up hby, rfl⟩
    clear hby
    subst hS6
    go_wp2
    refine hK.out _ _ ⟨S6, rfl⟩ ?_
    clear hK K
    refine pk_takes [39] 40 0 ⟨S6, rfl⟩ (by kernel_rfl) (fun _ _ _ _ _ h => by cases h.1) ?_
    (repeat (refine wpTakes_l rfl (by first | (intro x h; cases h; done) | (intro x h; cases h; exact ⟨_, rfl⟩)) ?_; go_big_quiet_step (fail); refine wpQuiet_nil ?_)); refine takes_nil ?_
    refine any_done (by kernel_rfl) ?_
    go_wp2
    first | exact S6.ok | exact ⟨rfl, X, rfl, S6.ok⟩
  intro K hK
  go_wp2_with fail
  refine (V1.out _).mono ?_
  rintro e y0 ⟨rfl, hby⟩
  have D0 : Below w1.heap.size w1 y0 := Below.on D hby
  clear hby
  go_wp2
  refine hK.out _ _ ⟨⟨y0, D0⟩, rfl⟩ ?_
  clear hK K
  refine pk_two (fuel := 14) (i := 9) (j := 17) (by kernel_rfl) rfl rfl rfl rfl ?_ ?_
  · skip
    intro K hK
    go_wp2
    obtain ⟨V, hV⟩ : ∃ V, y0.alloc (.cells #[.int .u8 kd, .int .u8 fr, .int .u8 up] 5) = V := ⟨_, rfl⟩
    have HX0 : V.heap[y0.heap.size]? = some (.cells #[.int .u8 kd, .int .u8 fr, .int .u8 up] 5) := by rw [← hV]; show (y0.heap.push _)[y0.heap.size]? = _; simp
    have BV : Below w1.heap.size w1 V := by rw [← hV]; exact Below.alloc D0 (Below.size D0) _
    rw [hV]
    obtain ⟨X, hX⟩ : ∃ X, y0.heap.size = X := ⟨_, rfl⟩
    have HX : Hid (V.heap[X]? = some (.cells #[.int .u8 kd, .int .u8 fr, .int .u8 up] 5)) := by rw [← hX]; exact HX0
    rw [hX]
    clear HX0 hX hV
    refine hK.out _ _ ⟨⟨V, BV⟩, rfl⟩ ?_
    clear hK K
    haveI : Nonempty (Wx w1 X (.cells #[.int .u8 kd, .int .u8 fr, .int .u8 up] 5)) := ⟨⟨V, BV, HX.out⟩⟩
    refine wpAnyU_strong (C' := fun w' => ∃ x : Wx w1 X (.cells #[.int .u8 kd, .int .u8 fr, .int .u8 up] 5), w' = x.at') (fun w' h => by obtain ⟨x, rfl⟩ := h; exact ⟨⟨x.at', x.ok⟩, rfl⟩) _ _ _ _ ?_
    have hcv : ∀ x : Wx w1 X (.cells #[.int .u8 kd, .int .u8 fr, .int .u8 up] 5), (convert 42 9 (.slice (some ⟨X, 0, none⟩) 3 3)).run Tryd.prog x.at' = .ok (.string s0) x.at' := fun x => CV.out _ _ x.blk
    obtain ⟨S, hS⟩ : ∃ S : Wx w1 X (.cells #[.int .u8 kd, .int .u8 fr, .int .u8 up] 5), S.at' = V := ⟨⟨V, BV, HX.out⟩, rfl⟩
    rw [← hS]
    clear hS BV HX
    refine pk_takes [10, 14] 40 12 ⟨S, rfl⟩ (by kernel_rfl) (fun _ _ _ _ _ h => by cases h.1) ?_
    (repeat (refine wpTakes_l rfl (by first | (intro x h; cases h; done) | (intro x h; cases h; exact ⟨_, rfl⟩)) ?_; go_big_quiet_step (fail); refine wpQuiet_nil ?_)); refine takes_nil ?_
    refine any_one (fuel := 11) (i := 17) (by kernel_rfl) rfl rfl ?_
    intro K hK
    go_wp2_with fail
    refine (V2.out _).mono ?_
    rintro e y ⟨rfl, hby⟩
    obtain ⟨S1, hS1⟩ : ∃ S' : Wx w1 X (.cells #[.int .u8 kd, .int .u8 fr, .int .u8 up] 5), S'.at' = y := ⟨S.up hby, rfl⟩
    clear hby
    subst hS1
    go_wp2
    refine hK.out _ _ ⟨S1, rfl⟩ ?_
    clear hK K
    refine pk_takes [18] 40 10 ⟨S1, rfl⟩ (by kernel_rfl) (fun _ _ _ _ _ h => by cases h.1) ?_
    (repeat (refine wpTakes_l rfl (by first | (intro x h; cases h; done) | (intro x h; cases h; exact ⟨_, rfl⟩)) ?_; go_big_quiet_step (fail); refine wpQuiet_nil ?_)); refine takes_nil ?_
    refine any_one (fuel := 9) (i := 21) (by kernel_rfl) rfl rfl ?_
    intro K hK
    go_wp2_with fail
    refine (V3.out _).mono ?_
    rintro e y ⟨rfl, hby⟩
    obtain ⟨S2, hS2⟩ : ∃ S' : Wx w1 X (.cells #[.int .u8 kd, .int .u8 fr, .int .u8 up] 5), S'.at' = y := ⟨S1.up hby, rfl⟩
    clear hby
    subst hS2
    go_wp2
    refine hK.out _ _ ⟨S2, rfl⟩ ?_
    clear hK K
    refine pk_takes [22] 40 8 ⟨S2, rfl⟩ (by kernel_rfl) (fun _ _ _ _ _ h => by cases h.1) ?_
    (repeat (refine wpTakes_l rfl (by first | (intro x h; cases h; done) | (intro x h; cases h; exact ⟨_, rfl⟩)) ?_; go_big_quiet_step (fail); refine wpQuiet_nil ?_)); refine takes_nil ?_
    refine any_one (fuel := 7) (i := 25) (by kernel_rfl) rfl rfl ?_
    intro K hK
    go_wp2_with fail
    refine (V4.out _).mono ?_
    rintro e y ⟨rfl, hby⟩
    obtain ⟨S3, hS3⟩ : ∃ S' : Wx w1 X (.cells #[.int .u8 kd, .int .u8 fr, .int .u8 up] 5), S'.at' = y := ⟨S2.up hby, rfl⟩
    clear hby
    subst hS3
    go_wp2
    refine hK.out _ _ ⟨S3, rfl⟩ ?_
    clear hK K
    refine pk_takes [26] 40 6 ⟨S3, rfl⟩ (by kernel_rfl) (fun _ _ _ _ _ h => by cases h.1) ?_
    (repeat (refine wpTakes_l rfl (by first | (intro x h; cases h; done) | (intro x h; cases h; exact ⟨_, rfl⟩)) ?_; go_big_quiet_step (fail); refine wpQuiet_nil ?_)); refine takes_nil ?_
    refine any_one (fuel := 5) (i := 29) (by kernel_rfl) rfl rfl ?_
    intro K hK
    go_wp2_with fail
    refine (F1.out _).mono ?_
    rintro e y ⟨rfl, hby⟩
    obtain ⟨S4, hS4⟩ : ∃ S' : Wx w1 X (.cells #[.int .u8 kd, .int .u8 fr, .int .u8 up] 5), S'.at' = y := ⟨S3.up hby, rfl⟩
    clear hby
    subst hS4
    go_wp2
    refine hK.out _ _ ⟨S4, rfl⟩ ?_
    clear hK K
    refine pk_takes [30] 40 4 ⟨S4, rfl⟩ (by kernel_rfl) (fun _ _ _ _ _ h => by cases h.1) ?_
    (repeat (refine wpTakes_l rfl (by first | (intro x h; cases h; done) | (intro x h; cases h; exact ⟨_, rfl⟩)) ?_; go_big_quiet_step (fail); refine wpQuiet_nil ?_)); refine takes_nil ?_
    refine any_one (fuel := 3) (i := 33) (by kernel_rfl) rfl rfl ?_
    intro K hK
    go_wp2_with fail
    refine (F2.out _).mono ?_
    rintro e y ⟨rfl, hby⟩
    obtain ⟨S5, hS5⟩ : ∃ S' : Wx w1 X (.cells #[.int .u8 kd, .int .u8 fr, .int .u8 up] 5), S'.at' = y := ⟨S4.up hby, rfl⟩
    clear hby
    subst hS5
    go_wp2
    refine hK.out _ _ ⟨S5, rfl⟩ ?_
    clear hK K
    refine pk_takes [34] 40 2 ⟨S5, rfl⟩ (by kernel_rfl) (fun _ _ _ _ _ h => by cases h.1) ?_
    (repeat (refine wpTakes_l rfl (by first | (intro x h; cases h; done) | (intro x h; cases h; exact ⟨_, rfl⟩)) ?_; go_big_quiet_step (fail); refine wpQuiet_nil ?_)); refine takes_nil ?_
    refine any_one (fuel := 1) (i := 38) (by kernel_rfl) rfl rfl ?_
    intro K hK
    go_wp2_with fail
    refine (V5.out _).mono ?_
    rintro e y ⟨rfl, hby⟩
    obtain ⟨S6, hS6⟩ : ∃ S' : Wx w1 X (.cells #[.int .u8 kd, .int .u8 fr, .int .u8 up] 5), S'.at' = y := ⟨S5.up hby, rfl⟩
    clear hby
    subst hS6
    go_wp2
    refine hK.out _ _ ⟨S6, rfl⟩ ?_
    clear hK K
    refine pk_takes [39] 40 0 ⟨S6, rfl⟩ (by kernel_rfl) (fun _ _ _ _ _ h => by cases h.1) ?_
    (repeat (refine wpTakes_l rfl (by first | (intro x h; cases h; done) | (intro x h; cases h; exact ⟨_, rfl⟩)) ?_; go_big_quiet_step (fail); refine wpQuiet_nil ?_)); refine takes_nil ?_
    refine any_done (by kernel_rfl) ?_
    go_wp2
    first | exact S6.ok | exact ⟨rfl, X, rfl, S6.ok⟩
  intro K hK
  go_wp2_with fail
  refine (V2.out _).mono ?_
  rintro e y1 ⟨rfl, hby⟩
  have D1 : Below w1.heap.size w1 y1 := Below.on D0 hby
  clear hby
  go_wp2
  refine hK.out _ _ ⟨⟨y1, D1⟩, rfl⟩ ?_
  clear hK K
  refine pk_two (fuel := 13) (i := 9) (j := 21) (by kernel_rfl) rfl rfl rfl rfl ?_ ?_
  · skip
    intro K hK
    go_wp2
    obtain ⟨V, hV⟩ : ∃ V, y1.alloc (.cells #[.int .u8 kd, .int .u8 fr, .int .u8 up] 5) = V := ⟨_, rfl⟩
    have HX0 : V.heap[y1.heap.size]? = some (.cells #[.int .u8 kd, .int .u8 fr, .int .u8 up] 5) := by rw [← hV]; show (y1.heap.push _)[y1.heap.size]? = _; simp
    have BV : Below w1.heap.size w1 V := by rw [← hV]; exact Below.alloc D1 (Below.size D1) _
    rw [hV]
    obtain ⟨X, hX⟩ : ∃ X, y1.heap.size = X := ⟨_, rfl⟩
    have HX : Hid (V.heap[X]? = some (.cells #[.int .u8 kd, .int .u8 fr, .int .u8 up] 5)) := by rw [← hX]; exact HX0
    rw [hX]
    clear HX0 hX hV
    refine hK.out _ _ ⟨⟨V, BV⟩, rfl⟩ ?_
    clear hK K
    haveI : Nonempty (Wx w1 X (.cells #[.int .u8 kd, .int .u8 fr, .int .u8 up] 5)) := ⟨⟨V, BV, HX.out⟩⟩
    refine wpAnyU_strong (C' := fun w' => ∃ x : Wx w1 X (.cells #[.int .u8 kd, .int .u8 fr, .int .u8 up] 5), w' = x.at') (fun w' h => by obtain ⟨x, rfl⟩ := h; exact ⟨⟨x.at', x.ok⟩, rfl⟩) _ _ _ _ ?_
    have hcv : ∀ x : Wx w1 X (.cells #[.int .u8 kd, .int .u8 fr, .int .u8 up] 5), (convert 42 9 (.slice (some ⟨X, 0, none⟩) 3 3)).run Tryd.prog x.at' = .ok (.string s0) x.at' := fun x => CV.out _ _ x.blk
    obtain ⟨S, hS⟩ : ∃ S : Wx w1 X (.cells #[.int .u8 kd, .int .u8 fr, .int .u8 up] 5), S.at' = V := ⟨⟨V, BV, HX.out⟩, rfl⟩
    rw [← hS]
    clear hS BV HX
    refine pk_takes [10, 14, 18] 40 10 ⟨S, rfl⟩ (by kernel_rfl) (fun _ _ _ _ _ h => by cases h.1) ?_
    (repeat (refine wpTakes_l rfl (by first | (intro x h; cases h; done) | (intro x h; cases h; exact ⟨_, rfl⟩)) ?_; go_big_quiet_step (fail); refine wpQuiet_nil ?_)); refine takes_nil ?_
    refine any_one (fuel := 9) (i := 21) (by kernel_rfl) rfl rfl ?_
    intro K hK
    go_wp2_with fail
    refine (V3.out _).mono ?_
    rintro e y ⟨rfl, hby⟩
    obtain ⟨S2, hS2⟩ : ∃ S' : Wx w1 X (.cells #[.int .u8 kd, .int .u8 fr, .int .u8 up] 5), S'.at' = y := ⟨S.up hby, rfl⟩
    clear hby
    subst hS2
    go_wp2
    refine hK.out _ _ ⟨S2, rfl⟩ ?_
    clear hK K
    refine pk_takes [22] 40 8 ⟨S2, rfl⟩ (by kernel_rfl) (fun _ _ _ _ _ h => by cases h.1) ?_
    (repeat (refine wpTakes_l rfl (by first | (intro x h; cases h; done) | (intro x h; cases h; exact ⟨_, rfl⟩)) ?_; go_big_quiet_step (fail); refine wpQuiet_nil ?_)); refine takes_nil ?_
    refine any_one (fuel := 7) (i := 25) (by kernel_rfl) rfl rfl ?_
    intro K hK
    go_wp2_with fail
    refine (V4.out _).mono ?_
    rintro e y ⟨rfl, hby⟩
    obtain ⟨S3, hS3⟩ : ∃ S' : Wx w1 X (.cells #[.int .u8 kd, .int .u8 fr, .int .u8 up] 5), S'.at' = y := ⟨S2.up hby, rfl⟩
    clear hby
    subst hS3
    go_wp2
    refine hK.out _ _ ⟨S3, rfl⟩ ?_
    clear hK K
    refine pk_takes [26] 40 6 ⟨S3, rfl⟩ (by kernel_rfl) (fun _ _ _ _ _ h => by cases h.1) ?_
    (repeat (refine wpTakes_l rfl (by first | (intro x h; cases h; done) | (intro x h; cases h; exact ⟨_, rfl⟩)) ?_; go_big_quiet_step (fail); refine wpQuiet_nil ?_)); refine takes_nil ?_
    refine any_one (fuel := 5) (i := 29) (by kernel_rfl) rfl rfl ?_
    intro K hK
    go_wp2_with fail
    refine (F1.out _).mono ?_
    rintro e y ⟨rfl, hby⟩
    obtain ⟨S4, hS4⟩ : ∃ S' : Wx w1 X (.cells #[.int .u8 kd, .int .u8 fr, .int .u8 up] 5), S'.at' = y := ⟨S3.up hby, rfl⟩
    clear hby
    subst hS4
    go_wp2
    refine hK.out _ _ ⟨S4, rfl⟩ ?_
    clear hK K
    refine pk_takes [30] 40 4 ⟨S4, rfl⟩ (by kernel_rfl) (fun _ _ _ _ _ h => by cases h.1) ?_
    (repeat (refine wpTakes_l rfl (by first | (intro x h; cases h; done) | (intro x h; cases h; exact ⟨_, rfl⟩)) ?_; go_big_quiet_step (fail); refine wpQuiet_nil ?_)); refine takes_nil ?_
    refine any_one (fuel := 3) (i := 33) (by kernel_rfl) rfl rfl ?_
    intro K hK
    go_wp2_with fail
    refine (F2.out _).mono ?_
    rintro e y ⟨rfl, hby⟩
    obtain ⟨S5, hS5⟩ : ∃ S' : Wx w1 X (.cells #[.int .u8 kd, .int .u8 fr, .int .u8 up] 5), S'.at' = y := ⟨S4.up hby, rfl⟩
    clear hby
    subst hS5
    go_wp2
    refine hK.out _ _ ⟨S5, rfl⟩ ?_
    clear hK K
    refine pk_takes [34] 40 2 ⟨S5, rfl⟩ (by kernel_rfl) (fun _ _ _ _ _ h => by cases h.1) ?_
    (repeat (refine wpTakes_l rfl (by first | (intro x h; cases h; done) | (intro x h; cases h; exact ⟨_, rfl⟩)) ?_; go_big_quiet_step (fail); refine wpQuiet_nil ?_)); refine takes_nil ?_
    refine any_one (fuel := 1) (i := 38) (by kernel_rfl) rfl rfl ?_
    intro K hK
    go_wp2_with fail
    refine (V5.out _).mono ?_
    rintro e y ⟨rfl, hby⟩
    obtain ⟨S6, hS6⟩ : ∃ S' : Wx w1 X (.cells #[.int .u8 kd, .int .u8 fr, .int .u8 up] 5), S'.at' = y := ⟨S5.up hby, rfl⟩
    clear hby
    subst hS6
    go_wp2
    refine hK.out _ _ ⟨S6, rfl⟩ ?_
    clear hK K
    refine pk_takes [39] 40 0 ⟨S6, rfl⟩ (by kernel_rfl) (fun _ _ _ _ _ h => by cases h.1) ?_
    (repeat (refine wpTakes_l rfl (by first | (intro x h; cases h; done) | (intro x h; cases h; exact ⟨_, rfl⟩)) ?_; go_big_quiet_step (fail); refine wpQuiet_nil ?_)); refine takes_nil ?_
    refine any_done (by kernel_rfl) ?_
    go_wp2
    first | exact S6.ok | exact ⟨rfl, X, rfl, S6.ok⟩
  intro K hK
  go_wp2_with fail
  refine (V3.out _).mono ?_
  rintro e y2 ⟨rfl, hby⟩
  have D2 : Below w1.heap.size w1 y2 := Below.on D1 hby
  clear hby
  go_wp2
  refine hK.out _ _ ⟨⟨y2, D2⟩, rfl⟩ ?_
  clear hK K
  refine pk_two (fuel := 12) (i := 9) (j := 25) (by kernel_rfl) rfl rfl rfl rfl ?_ ?_
  · skip
    intro K hK
    go_wp2
    obtain ⟨V, hV⟩ : ∃ V, y2.alloc (.cells #[.int .u8 kd, .int .u8 fr, .int .u8 up] 5) = V := ⟨_, rfl⟩
    have HX0 : V.heap[y2.heap.size]? = some (.cells #[.int .u8 kd, .int .u8 fr, .int .u8 up] 5) := by rw [← hV]; show (y2.heap.push _)[y2.heap.size]? = _; simp
    have BV : Below w1.heap.size w1 V := by rw [← hV]; exact Below.alloc D2 (Below.size D2) _
    rw [hV]
    obtain ⟨X, hX⟩ : ∃ X, y2.heap.size = X := ⟨_, rfl⟩
    have HX : Hid (V.heap[X]? = some (.cells #[.int .u8 kd, .int .u8 fr, .int .u8 up] 5)) := by rw [← hX]; exact HX0
    rw [hX]
    clear HX0 hX hV
    refine hK.out _ _ ⟨⟨V, BV⟩, rfl⟩ ?_
    clear hK K
    haveI : Nonempty (Wx w1 X (.cells #[.int .u8 kd, .int .u8 fr, .int .u8 up] 5)) := ⟨⟨V, BV, HX.out⟩⟩
    refine wpAnyU_strong (C' := fun w' => ∃ x : Wx w1 X (.cells #[.int .u8 kd, .int .u8 fr, .int .u8 up] 5), w' = x.at') (fun w' h => by obtain ⟨x, rfl⟩ := h; exact ⟨⟨x.at', x.ok⟩, rfl⟩) _ _ _ _ ?_
    have hcv : ∀ x : Wx w1 X (.cells #[.int .u8 kd, .int .u8 fr, .int .u8 up] 5), (convert 42 9 (.slice (some ⟨X, 0, none⟩) 3 3)).run Tryd.prog x.at' = .ok (.string s0) x.at' := fun x => CV.out _ _ x.blk
    obtain ⟨S, hS⟩ : ∃ S : Wx w1 X (.cells #[.int .u8 kd, .int .u8 fr, .int .u8 up] 5), S.at' = V := ⟨⟨V, BV, HX.out⟩, rfl⟩
    rw [← hS]
    clear hS BV HX
    refine pk_takes [10, 14, 18, 22] 40 8 ⟨S, rfl⟩ (by kernel_rfl) (fun _ _ _ _ _ h => by cases h.1) ?_
    (repeat (refine wpTakes_l rfl (by first | (intro x h; cases h; done) | (intro x h; cases h; exact ⟨_, rfl⟩)) ?_; go_big_quiet_step (fail); refine wpQuiet_nil ?_)); refine takes_nil ?_
    refine any_one (fuel := 7) (i := 25) (by kernel_rfl) rfl rfl ?_
    intro K hK
    go_wp2_with fail
    refine (V4.out _).mono ?_
    rintro e y ⟨rfl, hby⟩
    obtain ⟨S3, hS3⟩ : ∃ S' : Wx w1 X (.cells #[.int .u8 kd, .int .u8 fr, .int .u8 up] 5), S'.at' = y := ⟨S.up hby, rfl⟩
    clear hby
    subst hS3
    go_wp2
    refine hK.out _ _ ⟨S3, rfl⟩ ?_
    clear hK K
    refine pk_takes [26] 40 6 ⟨S3, rfl⟩ (by kernel_rfl) (fun _ _ _ _ _ h => by cases h.1) ?_
    (repeat (refine wpTakes_l rfl (by first | (intro x h; cases h; done) | (intro x h; cases h; exact ⟨_, rfl⟩)) ?_; go_big_quiet_step (fail); refine wpQuiet_nil ?_)); refine takes_nil ?_
    refine any_one (fuel := 5) (i := 29) (by kernel_rfl) rfl rfl ?_
    intro K hK
    go_wp2_with fail
    refine (F1.out _).mono ?_
    rintro e y ⟨rfl, hby⟩
    obtain ⟨S4, hS4⟩ : ∃ S' : Wx w1 X (.cells #[.int .u8 kd, .int .u8 fr, .int .u8 up] 5), S'.at' = y := ⟨S3.up hby, rfl⟩
    clear hby
    subst hS4
    go_wp2
    refine hK.out _ _ ⟨S4, rfl⟩ ?_
    clear hK K
    refine pk_takes [30] 40 4 ⟨S4, rfl⟩ (by kernel_rfl) (fun _ _ _ _ _ h => by cases h.1) ?_
    (repeat (refine wpTakes_l rfl (by first | (intro x h; cases h; done) | (intro x h; cases h; exact ⟨_, rfl⟩)) ?_; go_big_quiet_step (fail); refine wpQuiet_nil ?_)); refine takes_nil ?_
    refine any_one (fuel := 3) (i := 33) (by kernel_rfl) rfl rfl ?_
    intro K hK
    go_wp2_with fail
    refine (F2.out _).mono ?_
    rintro e y ⟨rfl, hby⟩
    obtain ⟨S5, hS5⟩ : ∃ S' : Wx w1 X (.cells #[.int .u8 kd, .int .u8 fr, .int .u8 up] 5), S'.at' = y := ⟨S4.up hby, rfl⟩
    clear hby
    subst hS5
    go_wp2
    refine hK.out _ _ ⟨S5, rfl⟩ ?_
    clear hK K
    refine pk_takes [34] 40 2 ⟨S5, rfl⟩ (by kernel_rfl) (fun _ _ _ _ _ h => by cases h.1) ?_
    (repeat (refine wpTakes_l rfl (by first | (intro x h; cases h; done) | (intro x h; cases h; exact ⟨_, rfl⟩)) ?_; go_big_quiet_step (fail); refine wpQuiet_nil ?_)); refine takes_nil ?_
    refine any_one (fuel := 1) (i := 38) (by kernel_rfl) rfl rfl ?_
    intro K hK
    go_wp2_with fail
    refine (V5.out _).mono ?_
    rintro e y ⟨rfl, hby⟩
    obtain ⟨S6, hS6⟩ : ∃ S' : Wx w1 X (.cells #[.int .u8 kd, .int .u8 fr, .int .u8 up] 5), S'.at' = y := ⟨S5.up hby, rfl⟩
    clear hby
    subst hS6
    go_wp2
    refine hK.out _ _ ⟨S6, rfl⟩ ?_
    clear hK K
    refine pk_takes [39] 40 0 ⟨S6, rfl⟩ (by kernel_rfl) (fun _ _ _ _ _ h => by cases h.1) ?_
    (repeat (refine wpTakes_l rfl (by first | (intro x h; cases h; done) | (intro x h; cases h; exact ⟨_, rfl⟩)) ?_; go_big_quiet_step (fail); refine wpQuiet_nil ?_)); refine takes_nil ?_
    refine any_done (by kernel_rfl) ?_
    go_wp2
    first | exact S6.ok | exact ⟨rfl, X, rfl, S6.ok⟩
  intro K hK
  go_wp2_with fail
  refine (V4.out _).mono ?_
  rintro e y3 ⟨rfl, hby⟩
  have D3 : Below w1.heap.size w1 y3 := Below.on D2 hby
  clear hby
  go_wp2
  refine hK.out _ _ ⟨⟨y3, D3⟩, rfl⟩ ?_
  clear hK K
  refine pk_two (fuel := 11) (i := 9) (j := 29) (by kernel_rfl) rfl rfl rfl rfl ?_ ?_
  · skip
    intro K hK
    go_wp2
    obtain ⟨V, hV⟩ : ∃ V, y3.alloc (.cells #[.int .u8 kd, .int .u8 fr, .int .u8 up] 5) = V := ⟨_, rfl⟩
    have HX0 : V.heap[y3.heap.size]? = some (.cells #[.int .u8 kd, .int .u8 fr, .int .u8 up] 5) := by rw [← hV]; show (y3.heap.push _)[y3.heap.size]? = _; simp
    have BV : Below w1.heap.size w1 V := by rw [← hV]; exact Below.alloc D3 (Below.size D3) _
    rw [hV]
    obtain ⟨X, hX⟩ : ∃ X, y3.heap.size = X := ⟨_, rfl⟩
    have HX : Hid (V.heap[X]? = some (.cells #[.int .u8 kd, .int .u8 fr, .int .u8 up] 5)) := by rw [← hX]; exact HX0
    rw [hX]
    clear HX0 hX hV
    refine hK.out _ _ ⟨⟨V, BV⟩, rfl⟩ ?_
    clear hK K
    haveI : Nonempty (Wx w1 X (.cells #[.int .u8 kd, .int .u8 fr, .int .u8 up] 5)) := ⟨⟨V, BV, HX.out⟩⟩
    refine wpAnyU_strong (C' := fun w' => ∃ x : Wx w1 X (.cells #[.int .u8 kd, .int .u8 fr, .int .u8 up] 5), w' = x.at') (fun w' h => by obtain ⟨x, rfl⟩ := h; exact ⟨⟨x.at', x.ok⟩, rfl⟩) _ _ _ _ ?_
    have hcv : ∀ x : Wx w1 X (.cells #[.int .u8 kd, .int .u8 fr, .int .u8 up] 5), (convert 42 9 (.slice (some ⟨X, 0, none⟩) 3 3)).run Tryd.prog x.at' = .ok (.string s0) x.at' := fun x => CV.out _ _ x.blk
    obtain ⟨S, hS⟩ : ∃ S : Wx w1 X (.cells #[.int .u8 kd, .int .u8 fr, .int .u8 up] 5), S.at' = V := ⟨⟨V, BV, HX.out⟩, rfl⟩
    rw [← hS]
    clear hS BV HX
    refine pk_takes [10, 14, 18, 22, 26] 40 6 ⟨S, rfl⟩ (by kernel_rfl) (fun _ _ _ _ _ h => by cases h.1) ?_
    (repeat (refine wpTakes_l rfl (by first | (intro x h; cases h; done) | (intro x h; cases h; exact ⟨_, rfl⟩)) ?_; go_big_quiet_step (fail); refine wpQuiet_nil ?_)); refine takes_nil ?_
    refine any_one (fuel := 5) (i := 29) (by kernel_rfl) rfl rfl ?_
    intro K hK
    go_wp2_with fail
    refine (F1.out _).mono ?_
    rintro e y ⟨rfl, hby⟩
    obtain ⟨S4, hS4⟩ : ∃ S' : Wx w1 X (.cells #[.int .u8 kd, .int .u8 fr, .int .u8 up] 5), S'.at' = y := ⟨S.up hby, rfl⟩
    clear hby
    subst hS4
    go_wp2
    refine hK.out _ _ ⟨S4, rfl⟩ ?_
    clear hK K
    refine pk_takes [30] 40 4 ⟨S4, rfl⟩ (by kernel_rfl) (fun _ _ _ _ _ h => by cases h.1) ?_
    (repeat (refine wpTakes_l rfl (by first | (intro x h; cases h; done) | (intro x h; cases h; exact ⟨_, rfl⟩)) ?_; go_big_quiet_step (fail); refine wpQuiet_nil ?_)); refine takes_nil ?_
    refine any_one (fuel := 3) (i := 33) (by kernel_rfl) rfl rfl ?_
    intro K hK
    go_wp2_with fail
    refine (F2.out _).mono ?_
    rintro e y ⟨rfl, hby⟩
    obtain ⟨S5, hS5⟩ : ∃ S' : Wx w1 X (.cells #[.int .u8 kd, .int .u8 fr, .int .u8 up] 5), S'.at' = y := ⟨S4.up hby, rfl⟩
    clear hby
    subst hS5
    go_wp2
    refine hK.out _ _ ⟨S5, rfl⟩ ?_
    clear hK K
    refine pk_takes [34] 40 2 ⟨S5, rfl⟩ (by kernel_rfl) (fun _ _ _ _ _ h => by cases h.1) ?_
    (repeat (refine wpTakes_l rfl (by first | (intro x h; cases h; done) | (intro x h; cases h; exact ⟨_, rfl⟩)) ?_; go_big_quiet_step (fail); refine wpQuiet_nil ?_)); refine takes_nil ?_
    refine any_one (fuel := 1) (i := 38) (by kernel_rfl) rfl rfl ?_
    intro K hK
    go_wp2_with fail
    refine (V5.out _).mono ?_
    rintro e y ⟨rfl, hby⟩
    obtain ⟨S6, hS6⟩ : ∃ S' : Wx w1 X (.cells #[.int .u8 kd, .int .u8 fr, .int .u8 up] 5), S'.at' = y := ⟨S5.up hby, rfl⟩
    clear hby
    subst hS6
    go_wp2
    refine hK.out _ _ ⟨S6, rfl⟩ ?_
    clear hK K
    refine pk_takes [39] 40 0 ⟨S6, rfl⟩ (by kernel_rfl) (fun _ _ _ _ _ h => by cases h.1) ?_
    (repeat (refine wpTakes_l rfl (by first | (intro x h; cases h; done) | (intro x h; cases h; exact ⟨_, rfl⟩)) ?_; go_big_quiet_step (fail); refine wpQuiet_nil ?_)); refine takes_nil ?_
    refine any_done (by kernel_rfl) ?_
    go_wp2
    first | exact S6.ok | exact ⟨rfl, X, rfl, S6.ok⟩
  intro K hK
  go_wp2_with fail
  refine (F1.out _).mono ?_
  rintro e y4 ⟨rfl, hby⟩
  have D4 : Below w1.heap.size w1 y4 := Below.on D3 hby
  clear hby
  go_wp2
  refine hK.out _ _ ⟨⟨y4, D4⟩, rfl⟩ ?_
  clear hK K
  refine pk_two (fuel := 10) (i := 9) (j := 33) (by kernel_rfl) rfl rfl rfl rfl ?_ ?_
  · skip
    intro K hK
    go_wp2
    obtain ⟨V, hV⟩ : ∃ V, y4.alloc (.cells #[.int .u8 kd, .int .u8 fr, .int .u8 up] 5) = V := ⟨_, rfl⟩
    have HX0 : V.heap[y4.heap.size]? = some (.cells #[.int .u8 kd, .int .u8 fr, .int .u8 up] 5) := by rw [← hV]; show (y4.heap.push _)[y4.heap.size]? = _; simp
    have BV : Below w1.heap.size w1 V := by rw [← hV]; exact Below.alloc D4 (Below.size D4) _
    rw [hV]
    obtain ⟨X, hX⟩ : ∃ X, y4.heap.size = X := ⟨_, rfl⟩
    have HX : Hid (V.heap[X]? = some (.cells #[.int .u8 kd, .int .u8 fr, .int .u8 up] 5)) := by rw [← hX]; exact HX0
    rw [hX]
    clear HX0 hX hV
    refine hK.out _ _ ⟨⟨V, BV⟩, rfl⟩ ?_
    clear hK K
    haveI : Nonempty (Wx w1 X (.cells #[.int .u8 kd, .int .u8 fr, .int .u8 up] 5)) := ⟨⟨V, BV, HX.out⟩⟩
    refine wpAnyU_strong (C' := fun w' => ∃ x : Wx w1 X (.cells #[.int .u8 kd, .int .u8 fr, .int .u8 up] 5), w' = x.at') (fun w' h => by obtain ⟨x, rfl⟩ := h; exact ⟨⟨x.at', x.ok⟩, rfl⟩) _ _ _ _ ?_
    have hcv : ∀ x : Wx w1 X (.cells #[.int .u8 kd, .int .u8 fr, .int .u8 up] 5), (convert 42 9 (.slice (some ⟨X, 0, none⟩) 3 3)).run Tryd.prog x.at' = .ok (.string s0) x.at' := fun x => CV.out _ _ x.blk
    obtain ⟨S, hS⟩ : ∃ S : Wx w1 X (.cells #[.int .u8 kd, .int .u8 fr, .int .u8 up] 5), S.at' = V := ⟨⟨V, BV, HX.out⟩, rfl⟩
    rw [← hS]
    clear hS BV HX
    refine pk_takes [10, 14, 18, 22, 26, 30] 40 4 ⟨S, rfl⟩ (by kernel_rfl) (fun _ _ _ _ _ h => by cases h.1) ?_
    (repeat (refine wpTakes_l rfl (by first | (intro x h; cases h; done) | (intro x h; cases h; exact ⟨_, rfl⟩)) ?_; go_big_quiet_step (fail); refine wpQuiet_nil ?_)); refine takes_nil ?_
    refine any_one (fuel := 3) (i := 33) (by kernel_rfl) rfl rfl ?_
    intro K hK
    go_wp2_with fail
    refine (F2.out _).mono ?_
    rintro e y ⟨rfl, hby⟩
    obtain ⟨S5, hS5⟩ : ∃ S' : Wx w1 X (.cells #[.int .u8 kd, .int .u8 fr, .int .u8 up] 5), S'.at' = y := ⟨S.up hby, rfl⟩
    clear hby
    subst hS5
    go_wp2
    refine hK.out _ _ ⟨S5, rfl⟩ ?_
    clear hK K
    refine pk_takes [34] 40 2 ⟨S5, rfl⟩ (by kernel_rfl) (fun _ _ _ _ _ h => by cases h.1) ?_
    (repeat (refine wpTakes_l rfl (by first | (intro x h; cases h; done) | (intro x h; cases h; exact ⟨_, rfl⟩)) ?_; go_big_quiet_step (fail); refine wpQuiet_nil ?_)); refine takes_nil ?_
    refine any_one (fuel := 1) (i := 38) (by kernel_rfl) rfl rfl ?_
    intro K hK
    go_wp2_with fail
    refine (V5.out _).mono ?_
    rintro e y ⟨rfl, hby⟩
    obtain ⟨S6, hS6⟩ : ∃ S' : Wx w1 X (.cells #[.int .u8 kd, .int .u8 fr, .int .u8 up] 5), S'.at' = y := ⟨S5.up hby, rfl⟩
    clear hby
    subst hS6
    go_wp2
    refine hK.out _ _ ⟨S6, rfl⟩ ?_
    clear hK K
    refine pk_takes [39] 40 0 ⟨S6, rfl⟩ (by kernel_rfl) (fun _ _ _ _ _ h => by cases h.1) ?_
    (repeat (refine wpTakes_l rfl (by first | (intro x h; cases h; done) | (intro x h; cases h; exact ⟨_, rfl⟩)) ?_; go_big_quiet_step (fail); refine wpQuiet_nil ?_)); refine takes_nil ?_
    refine any_done (by kernel_rfl) ?_
    go_wp2
    first | exact S6.ok | exact ⟨rfl, X, rfl, S6.ok⟩
  intro K hK
  go_wp2_with fail
  refine (F2.out _).mono ?_
  rintro e y5 ⟨rfl, hby⟩
  have D5 : Below w1.heap.size w1 y5 := Below.on D4 hby
  clear hby
  go_wp2
  refine hK.out _ _ ⟨⟨y5, D5⟩, rfl⟩ ?_
  clear hK K
  refine pk_two (fuel := 9) (i := 9) (j := 38) (by kernel_rfl) rfl rfl rfl rfl ?_ ?_
  · skip
    intro K hK
    go_wp2
    obtain ⟨V, hV⟩ : ∃ V, y5.alloc (.cells #[.int .u8 kd, .int .u8 fr, .int .u8 up] 5) = V := ⟨_, rfl⟩
    have HX0 : V.heap[y5.heap.size]? = some (.cells #[.int .u8 kd, .int .u8 fr, .int .u8 up] 5) := by rw [← hV]; show (y5.heap.push _)[y5.heap.size]? = _; simp
    have BV : Below w1.heap.size w1 V := by rw [← hV]; exact Below.alloc D5 (Below.size D5) _
    rw [hV]
    obtain ⟨X, hX⟩ : ∃ X, y5.heap.size = X := ⟨_, rfl⟩
    have HX : Hid (V.heap[X]? = some (.cells #[.int .u8 kd, .int .u8 fr, .int .u8 up] 5)) := by rw [← hX]; exact HX0
    rw [hX]
    clear HX0 hX hV
    refine hK.out _ _ ⟨⟨V, BV⟩, rfl⟩ ?_
    clear hK K
    haveI : Nonempty (Wx w1 X (.cells #[.int .u8 kd, .int .u8 fr, .int .u8 up] 5)) := ⟨⟨V, BV, HX.out⟩⟩
    refine wpAnyU_strong (C' := fun w' => ∃ x : Wx w1 X (.cells #[.int .u8 kd, .int .u8 fr, .int .u8 up] 5), w' = x.at') (fun w' h => by obtain ⟨x, rfl⟩ := h; exact ⟨⟨x.at', x.ok⟩, rfl⟩) _ _ _ _ ?_
    have hcv : ∀ x : Wx w1 X (.cells #[.int .u8 kd, .int .u8 fr, .int .u8 up] 5), (convert 42 9 (.slice (some ⟨X, 0, none⟩) 3 3)).run Tryd.prog x.at' = .ok (.string s0) x.at' := fun x => CV.out _ _ x.blk
    obtain ⟨S, hS⟩ : ∃ S : Wx w1 X (.cells #[.int .u8 kd, .int .u8 fr, .int .u8 up] 5), S.at' = V := ⟨⟨V, BV, HX.out⟩, rfl⟩
    rw [← hS]
    clear hS BV HX
    refine pk_takes [10, 14, 18, 22, 26, 30, 34] 40 2 ⟨S, rfl⟩ (by kernel_rfl) (fun _ _ _ _ _ h => by cases h.1) ?_
    (repeat (refine wpTakes_l rfl (by first | (intro x h; cases h; done) | (intro x h; cases h; exact ⟨_, rfl⟩)) ?_; go_big_quiet_step (fail); refine wpQuiet_nil ?_)); refine takes_nil ?_
    refine any_one (fuel := 1) (i := 38) (by kernel_rfl) rfl rfl ?_
    intro K hK
    go_wp2_with fail
    refine (V5.out _).mono ?_
    rintro e y ⟨rfl, hby⟩
    obtain ⟨S6, hS6⟩ : ∃ S' : Wx w1 X (.cells #[.int .u8 kd, .int .u8 fr, .int .u8 up] 5), S'.at' = y := ⟨S.up hby, rfl⟩
    clear hby
    subst hS6
    go_wp2
    refine hK.out _ _ ⟨S6, rfl⟩ ?_
    clear hK K
    refine pk_takes [39] 40 0 ⟨S6, rfl⟩ (by kernel_rfl) (fun _ _ _ _ _ h => by cases h.1) ?_
    (repeat (refine wpTakes_l rfl (by first | (intro x h; cases h; done) | (intro x h; cases h; exact ⟨_, rfl⟩)) ?_; go_big_quiet_step (fail); refine wpQuiet_nil ?_)); refine takes_nil ?_
    refine any_done (by kernel_rfl) ?_
    go_wp2
    first | exact S6.ok | exact ⟨rfl, X, rfl, S6.ok⟩
  intro K hK
  go_wp2_with fail
  refine (V5.out _).mono ?_
  rintro e y6 ⟨rfl, hby⟩
  have D6 : Below w1.heap.size w1 y6 := Below.on D5 hby
  clear hby
  go_wp2
  refine hK.out _ _ ⟨⟨y6, D6⟩, rfl⟩ ?_
  clear hK K
  refine any_one (fuel := 8) (i := 9) (by kernel_rfl) rfl rfl ?_
  intro K hK
  go_wp2
  obtain ⟨V, hV⟩ : ∃ V, y6.alloc (.cells #[.int .u8 kd, .int .u8 fr, .int .u8 up] 5) = V := ⟨_, rfl⟩
  have HX0 : V.heap[y6.heap.size]? = some (.cells #[.int .u8 kd, .int .u8 fr, .int .u8 up] 5) := by rw [← hV]; show (y6.heap.push _)[y6.heap.size]? = _; simp
  have BV : Below w1.heap.size w1 V := by rw [← hV]; exact Below.alloc D6 (Below.size D6) _
  rw [hV]
  obtain ⟨X, hX⟩ : ∃ X, y6.heap.size = X := ⟨_, rfl⟩
  have HX : Hid (V.heap[X]? = some (.cells #[.int .u8 kd, .int .u8 fr, .int .u8 up] 5)) := by rw [← hX]; exact HX0
  rw [hX]
  clear HX0 hX hV
  refine hK.out _ _ ⟨⟨V, BV⟩, rfl⟩ ?_
  clear hK K
  haveI : Nonempty (Wx w1 X (.cells #[.int .u8 kd, .int .u8 fr, .int .u8 up] 5)) := ⟨⟨V, BV, HX.out⟩⟩
  refine wpAnyU_strong (C' := fun w' => ∃ x : Wx w1 X (.cells #[.int .u8 kd, .int .u8 fr, .int .u8 up] 5), w' = x.at') (fun w' h => by obtain ⟨x, rfl⟩ := h; exact ⟨⟨x.at', x.ok⟩, rfl⟩) _ _ _ _ ?_
  have hcv : ∀ x : Wx w1 X (.cells #[.int .u8 kd, .int .u8 fr, .int .u8 up] 5), (convert 42 9 (.slice (some ⟨X, 0, none⟩) 3 3)).run Tryd.prog x.at' = .ok (.string s0) x.at' := fun x => CV.out _ _ x.blk
  obtain ⟨S, hS⟩ : ∃ S : Wx w1 X (.cells #[.int .u8 kd, .int .u8 fr, .int .u8 up] 5), S.at' = V := ⟨⟨V, BV, HX.out⟩, rfl⟩
  rw [← hS]
  clear hS BV HX
  refine pk_takes [10, 14, 18, 22, 26, 30, 34, 39] 40 0 ⟨S, rfl⟩ (by kernel_rfl) (fun _ _ _ _ _ h => by cases h.1) ?_
  (repeat (refine wpTakes_l rfl (by first | (intro x h; cases h; done) | (intro x h; cases h; exact ⟨_, rfl⟩)) ?_; go_big_quiet_step (fail); refine wpQuiet_nil ?_)); refine takes_nil ?_
  refine any_done (by kernel_rfl) ?_
  go_wp2
  first | exact S.ok | exact ⟨rfl, X, rfl, S.ok⟩
end Go.Proofs.YtgjamikmjknlfaaDoor

namespace Go.Proofs.YtgjamikmjknlfaaDoor
open Go Go.RowKit

set_option maxHeartbeats 400000 in
theorem l18Flag_any (f : Bool) (w : World) : Calls Tryd.prog 18 #[.bool f] w fun e w' => e = .returned (.string (flagS f)) ∧ Below w.heap.size w w' := by
  cases f with
  | false =>
    go_enter Tryd.func18, Tryd.ntmps18
    go_wp2
    go_ret
    exact ⟨rfl, Below.refl _ _⟩
  | true =>
    go_enter Tryd.func18, Tryd.ntmps18
    go_wp2
    go_ret
    exact ⟨rfl, Below.refl _ _⟩
set_option maxRecDepth 10000 in
set_option maxHeartbeats 4000000 in
theorem specEncode_no (kd fr up tm ix lt cm : Int) (ok : Bool) (da : ByteArray) (la : Bool) (ao bo : Option Addr) (n cap m cbp : Nat) (w : World)
    (hq : Hid (∀ W, Below w.heap.size w W → Calls Tryd.prog 16 #[.agg #[.int .i64 kd, .int .i64 fr, .int .i64 up, .int .i64 tm, .int .i64 ix, .int .i64 lt, .int .i64 cm, .bool ok, .slice ao n cap, .slice bo m cbp, .string da, .bool la]] W fun e w' => e = .returned (.bool false) ∧ Below W.heap.size W w')) :
    Calls Tryd.prog 6 #[.agg #[.int .i64 kd, .int .i64 fr, .int .i64 up, .int .i64 tm, .int .i64 ix, .int .i64 lt, .int .i64 cm, .bool ok, .slice ao n cap, .slice bo m cbp, .string da, .bool la]] w fun e w' => e = .returned (.tuple #[.string ⟨#[]⟩, .bool false]) ∧ Below w.heap.size w w' := by
  go_enter Tryd.func6, Tryd.ntmps6
  go_wp2_with (go_at_call 16; refine (hq.out _ (ba (Below.refl _ _) _)).mono ?_; rintro e w1 ⟨rfl, hb1⟩)
  go_ret2
  exact ⟨rfl, below_new hb1⟩
set_option maxHeartbeats 4000000 in
theorem specEncode_any (kd fr up tm ix lt cm : Int) (ok : Bool) (da : ByteArray) (la : Bool) (e c : Value) (es : List En) (cs : List Int) (w : World) (he : Reads w e es) (hc : Reads w c cs) (hn : es.length ≤ 1048577) (hm : cs.length ≤ 1048577) (hz : SizedE es) :
    Calls Tryd.prog 6 #[.agg #[.int .i64 kd, .int .i64 fr, .int .i64 up, .int .i64 tm, .int .i64 ix, .int .i64 lt, .int .i64 cm, .bool ok, e, c, .string da, .bool la]] w fun e' w' => e' = .returned (encV kd fr up tm ix lt cm ok da la es cs) ∧ Below w.heap.size w w' := by
  obtain ⟨ao, cap, rfl, _⟩ := id he
  obtain ⟨bo, cbp, rfl, _⟩ := id hc
  cases hq : okM kd fr up tm ix lt cm da la es cs with
  | false =>
    have HX : encV kd fr up tm ix lt cm ok da la es cs = .tuple #[.string ⟨#[]⟩, .bool false] := by unfold encV; rw [hq]; rfl
    rw [HX]
    refine specEncode_no kd fr up tm ix lt cm ok da la ao bo _ cap _ cbp w (fun W hb => ?_)
    have := specMessageOk_any kd fr up tm ix lt cm ok da la _ _ es cs W (he.below hb) (hc.below hb) hn hm hz
    rwa [hq] at this
  | true =>
    have HX : encV kd fr up tm ix lt cm ok da la es cs = .tuple #[.string (encS kd fr up tm ix lt cm ok da la es cs), .bool true] := by unfold encV; rw [hq]; rfl
    rw [HX]
    obtain ⟨a1, a2, b1, b2, c1, c2, d1, d2, l1, l2, i1, i2, m1, m2, n1, z1⟩ := okM_fine hq
    have y0 : (bstr [kd, fr, up]).size = 3 := by rw [bstr_size']; rfl
    have y1 := var_size tm.toNat
    have y2 := var_size ix.toNat
    have y3 := var_size lt.toNat
    have y4 := var_size cm.toNat
    have y5 : (flagS ok).size = 1 := by cases ok <;> rfl
    have y6 : (flagS la).size = 1 := by cases la <;> rfl
    have y7 := var_size es.length
    refine specEncode_go kd fr up tm ix lt cm ok da la ao bo _ cap _ cbp es (textC cs) (okC cs) (bstr [kd, fr, up]) (bstr (varI tm.toNat)) (bstr (varI ix.toNat)) (bstr (varI lt.toNat)) (bstr (varI cm.toNat)) (flagS ok) (flagS la) (bstr (varI es.length)) ((bstr [kd, fr, up]) ++ (bstr (varI tm.toNat))) (((bstr [kd, fr, up]) ++ (bstr (varI tm.toNat))) ++ (bstr (varI ix.toNat))) ((((bstr [kd, fr, up]) ++ (bstr (varI tm.toNat))) ++ (bstr (varI ix.toNat))) ++ (bstr (varI lt.toNat))) (((((bstr [kd, fr, up]) ++ (bstr (varI tm.toNat))) ++ (bstr (varI ix.toNat))) ++ (bstr (varI lt.toNat))) ++ (bstr (varI cm.toNat))) ((((((bstr [kd, fr, up]) ++ (bstr (varI tm.toNat))) ++ (bstr (varI ix.toNat))) ++ (bstr (varI lt.toNat))) ++ (bstr (varI cm.toNat))) ++ (flagS ok)) (((((((bstr [kd, fr, up]) ++ (bstr (varI tm.toNat))) ++ (bstr (varI ix.toNat))) ++ (bstr (varI lt.toNat))) ++ (bstr (varI cm.toNat))) ++ (flagS ok)) ++ (flagS la)) ((((((((bstr [kd, fr, up]) ++ (bstr (varI tm.toNat))) ++ (bstr (varI ix.toNat))) ++ (bstr (varI lt.toNat))) ++ (bstr (varI cm.toNat))) ++ (flagS ok)) ++ (flagS la)) ++ (bstr (varI es.length))) w he hz n1 (by show _ ≤ _; (try simp only [ByteArray.size_append]); omega) (textC_size cs) z1 (fun W hb => specConfText_any (hc.below hb) hm) (fun W hb => ?_) (by go_arith) (by go_arith) (by go_arith) (fun W => by have := l01Var_any tm.toNat W (by omega); rwa [Int.toNat_of_nonneg d1] at this) (fun W => by have := l01Var_any ix.toNat W (by omega); rwa [Int.toNat_of_nonneg i1] at this) (fun W => by have := l01Var_any lt.toNat W (by omega); rwa [Int.toNat_of_nonneg l1] at this) (fun W => by have := l01Var_any cm.toNat W (by omega); rwa [Int.toNat_of_nonneg m1] at this) (fun W => l01Var_any es.length W (by omega)) (fun W => l18Flag_any ok W) (fun W => l18Flag_any la W) (fun w X h => conv3_at h) (fun wx => run_string_add_sum wx _ _ (by show _ ≤ _; (try simp only [ByteArray.size_append]); omega)) (fun wx => run_string_add_sum wx _ _ (by show _ ≤ _; (try simp only [ByteArray.size_append]); omega)) (fun wx => run_string_add_sum wx _ _ (by show _ ≤ _; (try simp only [ByteArray.size_append]); omega)) (fun wx => run_string_add_sum wx _ _ (by show _ ≤ _; (try simp only [ByteArray.size_append]); omega)) (fun wx => run_string_add_sum wx _ _ (by show _ ≤ _; (try simp only [ByteArray.size_append]); omega)) (fun wx => run_string_add_sum wx _ _ (by show _ ≤ _; (try simp only [ByteArray.size_append]); omega)) (fun wx => run_string_add_sum wx _ _ (by show _ ≤ _; (try simp only [ByteArray.size_append]); omega))
    have := specMessageOk_any kd fr up tm ix lt cm ok da la _ _ es cs W (he.below hb) (hc.below hb) hn hm hz
    rwa [hq] at this
end Go.Proofs.YtgjamikmjknlfaaDoor

namespace Go.Proofs.YtgjamikmjknlfaaDoor
open Go Go.RowKit

theorem wrString_any (b : Nat) (s : ByteArray) (w : World) (h : Wb b s w) : Calls Tryd.prog 31 #[.pointer (some ⟨b, 0, none⟩)] w fun e w' => e = .returned (.string s) ∧ Wk b w w' := by
  refine (Tryd.Buffer_String_at 57 (fun _ => none) b b 0 s.data.toList w h).mono ?_
  rintro e w' ⟨rfl, n, rfl⟩
  refine ⟨by simp, ⟨rfl, rfl, rfl, Nat.le_refl _, fun _ _ => rfl⟩, fun _ _ h _ _ => h⟩
theorem heap_pushM (W : World) (o : Obj) : (W.alloc o).heap[W.heap.size]? = some o := by show (W.heap.push _)[W.heap.size]? = _; rw [Array.getElem?_push, if_pos rfl]
theorem below_lowM {B b : Nat} {v w W : World} (h : Below B v w) (k : Below b w W) (hb : B ≤ b) : Below B v W := ⟨k.os.trans h.os, k.tape.trans h.tape, k.output.trans h.output, Nat.le_trans h.size k.size, fun q hq => (k.block q (by omega)).trans (h.block q hq)⟩

set_option maxRecDepth 10000 in
set_option maxHeartbeats 4000000 in
theorem entriesW_any (b : Nat) (ao : Option Addr) (n cap : Nat) (es : List En) (s : ByteArray) (w : World) (h : Wb b s w) (hr : ∀ W, Wk b w W → Reads W (.slice ao n cap) es) (hn : n ≤ 4) (hz : SizedE es) (hs : s.size ≤ 10000000000000) :
    Calls Tryd.prog 28 #[.pointer (some ⟨b, 0, none⟩), .slice ao n cap] w fun e w' => e = .returned (.tuple #[]) ∧ Wb b (s ++ numS [(n : Int)] ++ shoS (es.map tx8)) w' ∧ Wk b w w' := by
  have HL : Hid (es.length = n) := (hr w (Wk.refl b w)).len.symm
  have HR : Hid (∀ W, Wk b w W → Reads W (.slice ao n cap) es) := hr
  have HZ : Hid (SizedE es) := hz
  have HB : Hid (Wb b s w) := h
  have hbl := h.lt
  clear h hr hz
  obtain ⟨w1, HV1⟩ : ∃ W, Hid (w.alloc (.cells #[.int .i64 (n : Int)] 3) = W) := ⟨_, rfl⟩
  have G1 : Hid (w1.heap[w.heap.size]? = some (.cells #[.int .i64 (n : Int)] 3)) := by rw [← HV1.out]; exact heap_pushM _ _
  have Z1 : Hid (Wb b s w1) := by rw [← HV1.out]; exact HB.out.up (ba (Below.refl _ _) _)
  have K1 : Hid (Wk b w w1) := by rw [← HV1.out]; exact Wk.of_below (ba (Below.refl _ _) _) (Nat.le_of_lt hbl)
  have hN : Hid ((numS [(n : Int)]).size ≤ 1 * 1000000001) := numS_size [(n : Int)] (by intro x hx; simp only [List.mem_cons, List.not_mem_nil, or_false] at hx; subst hx; omega)
  go_enter Tryd.func28, Tryd.ntmps28
  go_wp2_with fail
  rw [HV1.out]
  refine (numbers_any b w.heap.size 1 [(n : Int)] (0, 0) _ _ Z1.out G1.out (by omega) (by intro x hx; simp only [List.mem_cons, List.not_mem_nil, or_false] at hx; subst hx; omega) rfl (by decide) (by omega)).mono ?_
  rintro e w2 ⟨rfl, h2, k2⟩
  have HB2 : Hid (Wb b (s ++ numS [(n : Int)]) w2) := h2
  have HK2 : Hid (Wk b w w2) := K1.out.trans k2
  clear h2 k2 G1 Z1 K1 HV1 HB
  go_wp2
  go_loopw [15] (fun i wr => ∃ k : Nat, k ≤ n ∧ i = .int .i64 k ∧ Hid (Wb b (s ++ numS [(n : Int)] ++ shoS ((es.map tx8).take k)) wr) ∧ Hid (Wk b w wr)) (fun i _ => n - (intOf i).toNat)
  case atStart => exact ⟨0, Nat.zero_le _, rfl, (by show Wb _ _ _; simpa [shoS] using HB2.out), HK2⟩
  case round =>
    obtain ⟨k, hk, rfl, HW, HK⟩ := hrel
    by_cases hlt : k < n
    · obtain ⟨f, hf⟩ : ∃ f, es[k]? = some f := ⟨_, List.getElem?_eq_getElem (by rw [HL.out]; exact hlt)⟩
      have HM : Hid (f.data.size ≤ maxLen) := by have := HZ.out f (List.mem_of_getElem? hf); show _ ≤ maxLen; unfold maxLen; omega
      obtain ⟨g, o, rfl, hg, c0, c1, c2⟩ := en_at (HR.out wr HK.out) hf
      have hfm : (es.map tx8)[k]? = some (tx8 f) := by rw [List.getElem?_map, hf]; rfl
      have HT : Hid (shoS ((es.map tx8).take (k + 1)) = shoS ((es.map tx8).take k) ++ shortS (tx8 f)) := shoS_take hfm
      have HS : Hid ((s ++ numS [(n : Int)] ++ shoS ((es.map tx8).take k)).size ≤ 100000000000000 ∧ (tx8 f).size ≤ 20000) := by
        have h1 := shoS_size ((es.map tx8).take k) fun x hx => by
          obtain ⟨y, hy, rfl⟩ := List.mem_map.1 (List.mem_of_mem_take hx)
          have := tx8_size y (HZ.out y hy); omega
        have h2 : ((es.map tx8).take k).length ≤ 4 := by rw [List.length_take]; omega
        have h3 := tx8_size f (HZ.out f (List.mem_of_getElem? hf))
        have h4 := hN.out
        refine ⟨?_, by omega⟩
        rw [ByteArray.size_append, ByteArray.size_append]
        omega
      have HE : Hid (∀ W, Calls Tryd.prog 58 #[.int .i64 1, .agg #[.int .i64 f.term, .int .i64 f.kind, .string f.data]] W fun e w' => e = .returned (.tuple #[.string (tx8 f), .bool (okX 1 f.term f.kind f.data)]) ∧ Below W.heap.size W w') := fun W => entryText_any 1 f.term f.kind f.data W HM.out
      obtain ⟨T, HTT⟩ : ∃ T : ByteArray, Hid (tx8 f = T) := ⟨_, rfl⟩
      obtain ⟨q, HQ⟩ : ∃ q, Hid (okX 1 f.term f.kind f.data = q) := ⟨_, rfl⟩
      rw [HTT.out, HQ.out] at HE
      rw [HTT.out] at HT HS
      clear hf hfm
      go_wp2_with fail
      refine (HE.out _).mono ?_
      rintro e w3 ⟨rfl, hb3⟩
      have B3 := (ba (Below.refl _ _) _).trans (hb3.mono (by simp))
      have HW3 : Hid (Wb b (s ++ numS [(n : Int)] ++ shoS ((es.map tx8).take k)) w3) := HW.out.up B3
      have HK3 : Hid (Wk b w w3) := HK.out.trans (Wk.of_below B3 (Nat.le_of_lt HW.out.lt))
      have hl3 := HW3.out.lt
      clear c0 c1 c2 hb3 B3
      obtain ⟨w4, HV4⟩ : ∃ W, Hid (w3.alloc (.cells #[.string T] 9) = W) := ⟨_, rfl⟩
      have G4 : Hid (w4.heap[w3.heap.size]? = some (.cells #[.string T] 9)) := by rw [← HV4.out]; exact heap_pushM _ _
      have Z4 : Hid (Wb b (s ++ numS [(n : Int)] ++ shoS ((es.map tx8).take k)) w4) := by rw [← HV4.out]; exact HW3.out.up (ba (Below.refl _ _) _)
      have K4 : Hid (Wk b w w4) := HK3.out.trans (by rw [← HV4.out]; exact Wk.of_below (ba (Below.refl _ _) _) (Nat.le_of_lt hl3))
      go_wp2_with fail
      rw [HV4.out]
      refine (shorts_any b w3.heap.size 1 [T] (0, 0) _ _ Z4.out G4.out (by omega) (by have := HS.out; intro x hx; simp only [List.mem_cons, List.not_mem_nil, or_false] at hx; subst hx; exact this.2) rfl (by decide) HS.out.1).mono ?_
      rintro e w5 ⟨rfl, h5, k5⟩
      have HW5 : Hid (Wb b (s ++ numS [(n : Int)] ++ shoS ((es.map tx8).take (k + 1))) w5) := by
        show Wb _ _ _
        rw [HT.out, ← ByteArray.append_assoc]
        simpa [shoS] using h5
      have HK5 : Hid (Wk b w w5) := K4.out.trans k5
      clear h5 k5 HV4 G4 Z4 K4
      go_wp2
      go_roundw
      case rel => exact ⟨k + 1, by omega, by go_num, HW5, HK5⟩
      case measure => simp [intOf]; omega
    · have he : (es.map tx8).take k = es.map tx8 := List.take_of_length_le (by rw [List.length_map, HL.out]; omega)
      go_wp2
      refine bodyPost_end (results_none rfl _ _ _) rfl ?_
      refine ⟨rfl, ?_, HK.out⟩
      have := HW.out
      rw [he] at this
      exact this

set_option maxRecDepth 10000 in
set_option maxHeartbeats 8000000 in
theorem implEncode_any (kd fr up tm ix lt cm : Int) (ok : Bool) (da : ByteArray) (la : Bool) (ao bo : Option Addr) (n cap m cbp : Nat) (es : List En) (cs : List Int) (w : World) (he : Reads w (.slice ao n cap) es) (hc : Reads w (.slice bo m cbp) cs) (hn : es.length ≤ 1048577) (hm : cs.length ≤ 1048577) (hz : SizedE es) :
    Calls Tryd.prog 8 #[.agg #[.int .i64 kd, .int .i64 fr, .int .i64 up, .int .i64 tm, .int .i64 ix, .int .i64 lt, .int .i64 cm, .bool ok, (.slice ao n cap), (.slice bo m cbp), .string da, .bool la]] w fun e w' => e = .returned (encV kd fr up tm ix lt cm ok da la es cs) ∧ Below w.heap.size w w' := by
  have HE : Hid (Reads w (.slice ao n cap) es) := he
  have HCC : Hid (Reads w (.slice bo m cbp) cs) := hc
  have HCN : Hid (cs.length ≤ 1048577) := hm
  have HLN : Hid (es.length = n) := he.len.symm
  have HZ : Hid (SizedE es) := hz
  have HC : Hid (∀ W, Below w.heap.size w W → Calls Tryd.prog 24 #[.agg #[.int .i64 kd, .int .i64 fr, .int .i64 up, .int .i64 tm, .int .i64 ix, .int .i64 lt, .int .i64 cm, .bool ok, (.slice ao n cap), (.slice bo m cbp), .string da, .bool la]] W fun e w' => e = .returned (.bool (okM kd fr up tm ix lt cm da la es cs)) ∧ Below W.heap.size W w') := fun W hb => implMessageOk_any kd fr up tm ix lt cm ok da la _ _ es cs W (he.below hb) (hc.below hb) hn hm hz
  clear he hc hn hm hz
  obtain ⟨W0, HW0⟩ : ∃ W, Hid (w.alloc (.cells #[.int .i64 kd, .int .i64 fr, .int .i64 up, .int .i64 tm, .int .i64 ix, .int .i64 lt, .int .i64 cm, .bool ok, .slice ao n cap, .slice bo m cbp, .string da, .bool la] 31) = W) := ⟨_, rfl⟩
  have X0 : Hid (Kc12 31 W0 w.heap.size (.int .i64 kd) (.int .i64 fr) (.int .i64 up) (.int .i64 tm) (.int .i64 ix) (.int .i64 lt) (.int .i64 cm) (.bool ok) (.slice ao n cap) (.slice bo m cbp) (.string da) (.bool la)) := by rw [← HW0.out]; exact Kc12.new _ _ _ _ _ _ _ _ _ _ _ _ _ _
  have B0 : Below w.heap.size w W0 := by rw [← HW0.out]; exact ba (Below.refl _ _) _
  cases hq : okM kd fr up tm ix lt cm da la es cs with
  | false =>
    have HX : Hid (encV kd fr up tm ix lt cm ok da la es cs = .tuple #[.string ⟨#[]⟩, .bool false]) := by show _ = _; unfold encV; rw [hq]; rfl
    rw [hq] at HC
    rw [HX.out]
    clear hq HX
    go_enter Tryd.func8, Tryd.ntmps8
    go_wp2_with fail
    rw [HW0.out]
    refine (HC.out _ B0).mono ?_
    rintro x w1 ⟨rfl, hb1⟩
    go_wp2
    go_ret2
    exact ⟨rfl, Below.on B0 hb1⟩
  | true =>
    have HX : Hid (encV kd fr up tm ix lt cm ok da la es cs = .tuple #[.string (encS kd fr up tm ix lt cm ok da la es cs), .bool true]) := by show _ = _; unfold encV; rw [hq]; rfl
    have HF : Hid (1 ≤ kd ∧ kd ≤ 6 ∧ 1 ≤ fr ∧ fr ≤ 4 ∧ 1 ≤ up ∧ up ≤ 4 ∧ 0 ≤ tm ∧ tm ≤ 100000 ∧ 0 ≤ lt ∧ lt ≤ 100000 ∧ 0 ≤ ix ∧ ix ≤ 1000000 ∧ 0 ≤ cm ∧ cm ≤ 1000000 ∧ n ≤ 4 ∧ da.size ≤ 60) := by
      have := okM_fine hq
      rw [HLN.out] at this
      exact this
    rw [hq] at HC
    rw [HX.out]
    have HSZ : Hid (ByteArray.empty.size = 0 ∧ (bstr [kd]).size = 1 ∧ (bstr [fr]).size = 1 ∧ (bstr [up]).size = 1 ∧ (numS [tm, ix, lt, cm]).size ≤ 4 * 1000000001 ∧ (flagS ok).size = 1 ∧ (flagS la).size = 1 ∧ (numS [(n : Int)]).size ≤ 1 * 1000000001 ∧ (shoS (es.map tx8)).size ≤ 4 * 40001 ∧ (textC cs).size ≤ 4) := by
      have h := HF.out
      refine ⟨rfl, by rw [bstr_size']; rfl, by rw [bstr_size']; rfl, by rw [bstr_size']; rfl, numS_size [tm, ix, lt, cm] ?_, by cases ok <;> rfl, by cases la <;> rfl, numS_size [(n : Int)] ?_, ?_, textC_size cs⟩
      · intro x hx
        simp only [List.mem_cons, List.not_mem_nil, or_false] at hx
        rcases hx with rfl | rfl | rfl | rfl <;> omega
      · intro x hx
        simp only [List.mem_cons, List.not_mem_nil, or_false] at hx
        subst hx; omega
      · have h1 := shoS_size (es.map tx8) fun x hx => by
          obtain ⟨y, hy, rfl⟩ := List.mem_map.1 hx
          have := tx8_size y (HZ.out y hy); omega
        rw [List.length_map, HLN.out] at h1
        exact Nat.le_trans h1 (Nat.mul_le_mul_right 40001 (by omega))
    clear hq HX
    go_enter Tryd.func8, Tryd.ntmps8
    go_wp2_with fail
    rw [HW0.out]
    refine (HC.out _ B0).mono ?_
    rintro x w1 ⟨rfl, hb1⟩
    have B1 := Below.on B0 hb1
    have X1 : Hid (Kc12 31 w1 w.heap.size (.int .i64 kd) (.int .i64 fr) (.int .i64 up) (.int .i64 tm) (.int .i64 ix) (.int .i64 lt) (.int .i64 cm) (.bool ok) (.slice ao n cap) (.slice bo m cbp) (.string da) (.bool la)) := X0.out.on hb1 X0.out.lt
    have hl1 : w.heap.size < w1.heap.size := X1.out.lt
    clear B0 hb1 X0 HC HW0
    obtain ⟨w2, HV2⟩ : ∃ W, Hid (w1.alloc (.cells #[.slice none 0 0, .int .i64 0, .int .i8 0] 57) = W) := ⟨_, rfl⟩
    have Y2 : Hid (Wb w1.heap.size ByteArray.empty w2) := by rw [← HV2.out]; exact Wb.new _
    have X2 : Hid (Kc12 31 w2 w.heap.size (.int .i64 kd) (.int .i64 fr) (.int .i64 up) (.int .i64 tm) (.int .i64 ix) (.int .i64 lt) (.int .i64 cm) (.bool ok) (.slice ao n cap) (.slice bo m cbp) (.string da) (.bool la)) := by rw [← HV2.out]; exact X1.out.on (ba (Below.refl _ _) _) X1.out.lt
    have B2 : Below w.heap.size w w2 := by rw [← HV2.out]; exact ba B1 _
    clear B1 X1
    obtain ⟨b, hbq⟩ : ∃ b, w1.heap.size = b := ⟨_, rfl⟩
    rw [hbq] at Y2 hl1
    have q0 : (w1.alloc (.cells #[.slice none 0 0, .int .i64 0, .int .i8 0] 57)).cell? ⟨w.heap.size, 0, none⟩ = some (.int .i64 kd) := by rw [HV2.out]; exact X2.out.c0
    go_wp2_with fail
    rw [HV2.out]
    refine (oneByte_any b _ kd _ Y2.out (by have := HF.out; omega) (by have := HF.out; omega) (by decide)).mono ?_
    rintro x w3 ⟨rfl, y, k⟩
    clear q0 HV2
    have B3 : Below w.heap.size w w3 := below_lowM B2 k.below (Nat.le_of_lt hl1)
    have X3 : Hid (Kc12 31 w3 w.heap.size (.int .i64 kd) (.int .i64 fr) (.int .i64 up) (.int .i64 tm) (.int .i64 ix) (.int .i64 lt) (.int .i64 cm) (.bool ok) (.slice ao n cap) (.slice bo m cbp) (.string da) (.bool la)) := X2.out.on k.below hl1
    have Y3 : Hid (Wb b (ByteArray.empty ++ bstr [kd]) w3) := y
    clear k y B2 X2 Y2
    have q0 := X3.out.c1
    go_wp2_with fail
    refine (oneByte_any b _ fr _ Y3.out (by have := HF.out; omega) (by have := HF.out; omega) (by have h9 := HSZ.out; simp only [ByteArray.size_append]; omega)).mono ?_
    rintro x w4 ⟨rfl, y, k⟩
    clear q0
    have B4 : Below w.heap.size w w4 := below_lowM B3 k.below (Nat.le_of_lt hl1)
    have X4 : Hid (Kc12 31 w4 w.heap.size (.int .i64 kd) (.int .i64 fr) (.int .i64 up) (.int .i64 tm) (.int .i64 ix) (.int .i64 lt) (.int .i64 cm) (.bool ok) (.slice ao n cap) (.slice bo m cbp) (.string da) (.bool la)) := X3.out.on k.below hl1
    have Y4 : Hid (Wb b (ByteArray.empty ++ bstr [kd] ++ bstr [fr]) w4) := y
    clear k y B3 X3 Y3
    have q0 := X4.out.c2
    go_wp2_with fail
    refine (oneByte_any b _ up _ Y4.out (by have := HF.out; omega) (by have := HF.out; omega) (by have h9 := HSZ.out; simp only [ByteArray.size_append]; omega)).mono ?_
    rintro x w5 ⟨rfl, y, k⟩
    clear q0
    have B5 : Below w.heap.size w w5 := below_lowM B4 k.below (Nat.le_of_lt hl1)
    have X5 : Hid (Kc12 31 w5 w.heap.size (.int .i64 kd) (.int .i64 fr) (.int .i64 up) (.int .i64 tm) (.int .i64 ix) (.int .i64 lt) (.int .i64 cm) (.bool ok) (.slice ao n cap) (.slice bo m cbp) (.string da) (.bool la)) := X4.out.on k.below hl1
    have Y5 : Hid (Wb b (ByteArray.empty ++ bstr [kd] ++ bstr [fr] ++ bstr [up]) w5) := y
    clear k y B4 X4 Y4
    have q3 := X5.out.c3
    have q4 := X5.out.c4
    have q5 := X5.out.c5
    have q6 := X5.out.c6
    have hlw5 := Y5.out.lt
    obtain ⟨v5, HV5⟩ : ∃ W, Hid (w5.alloc (.cells #[.int .i64 tm, .int .i64 ix, .int .i64 lt, .int .i64 cm] 3) = W) := ⟨_, rfl⟩
    have G5 : Hid (v5.heap[w5.heap.size]? = some (.cells #[.int .i64 tm, .int .i64 ix, .int .i64 lt, .int .i64 cm] 3)) := by rw [← HV5.out]; exact heap_pushM _ _
    have Z5 : Hid (Wb b (ByteArray.empty ++ bstr [kd] ++ bstr [fr] ++ bstr [up]) v5) := by rw [← HV5.out]; exact Y5.out.up (ba (Below.refl _ _) _)
    have K5 : Hid (Wk b w5 v5) := by rw [← HV5.out]; exact Wk.of_below (ba (Below.refl _ _) _) (Nat.le_of_lt hlw5)
    go_wp2_with fail
    rw [HV5.out]
    refine (numbers_any b w5.heap.size 4 [tm, ix, lt, cm] (0, 0) _ _ Z5.out G5.out (by omega) (by have := HF.out; intro x hx; simp only [List.mem_cons, List.not_mem_nil, or_false] at hx; rcases hx with rfl | rfl | rfl | rfl <;> omega) rfl (by decide) (by have h9 := HSZ.out; simp only [ByteArray.size_append]; omega)).mono ?_
    rintro x w6 ⟨rfl, y, k2⟩
    have k := K5.out.trans k2
    clear q3 q4 q5 q6 G5 Z5 K5 HV5 k2
    have B6 : Below w.heap.size w w6 := below_lowM B5 k.below (Nat.le_of_lt hl1)
    have X6 : Hid (Kc12 31 w6 w.heap.size (.int .i64 kd) (.int .i64 fr) (.int .i64 up) (.int .i64 tm) (.int .i64 ix) (.int .i64 lt) (.int .i64 cm) (.bool ok) (.slice ao n cap) (.slice bo m cbp) (.string da) (.bool la)) := X5.out.on k.below hl1
    have Y6 : Hid (Wb b (ByteArray.empty ++ bstr [kd] ++ bstr [fr] ++ bstr [up] ++ numS [tm, ix, lt, cm]) w6) := y
    clear k y B5 X5 Y5
    have q0 := X6.out.c7
    go_wp2_with fail
    refine (flagW_any b _ ok _ Y6.out (by have h9 := HSZ.out; simp only [ByteArray.size_append]; omega)).mono ?_
    rintro x w7 ⟨rfl, y, k⟩
    clear q0
    have B7 : Below w.heap.size w w7 := below_lowM B6 k.below (Nat.le_of_lt hl1)
    have X7 : Hid (Kc12 31 w7 w.heap.size (.int .i64 kd) (.int .i64 fr) (.int .i64 up) (.int .i64 tm) (.int .i64 ix) (.int .i64 lt) (.int .i64 cm) (.bool ok) (.slice ao n cap) (.slice bo m cbp) (.string da) (.bool la)) := X6.out.on k.below hl1
    have Y7 : Hid (Wb b (ByteArray.empty ++ bstr [kd] ++ bstr [fr] ++ bstr [up] ++ numS [tm, ix, lt, cm] ++ flagS ok) w7) := y
    clear k y B6 X6 Y6
    have q0 := X7.out.c11
    go_wp2_with fail
    refine (flagW_any b _ la _ Y7.out (by have h9 := HSZ.out; simp only [ByteArray.size_append]; omega)).mono ?_
    rintro x w8 ⟨rfl, y, k⟩
    clear q0
    have B8 : Below w.heap.size w w8 := below_lowM B7 k.below (Nat.le_of_lt hl1)
    have X8 : Hid (Kc12 31 w8 w.heap.size (.int .i64 kd) (.int .i64 fr) (.int .i64 up) (.int .i64 tm) (.int .i64 ix) (.int .i64 lt) (.int .i64 cm) (.bool ok) (.slice ao n cap) (.slice bo m cbp) (.string da) (.bool la)) := X7.out.on k.below hl1
    have Y8 : Hid (Wb b (ByteArray.empty ++ bstr [kd] ++ bstr [fr] ++ bstr [up] ++ numS [tm, ix, lt, cm] ++ flagS ok ++ flagS la) w8) := y
    clear k y B7 X7 Y7
    have q8 := X8.out.c8
    have HEW : Hid (∀ W, Wk b w8 W → Reads W (.slice ao n cap) es) := fun W k => HE.out.below (below_lowM B8 k.below (Nat.le_of_lt hl1))
    go_wp2_with fail
    refine (entriesW_any b ao n cap es _ _ Y8.out HEW.out (by have := HF.out; omega) HZ.out (by have h9 := HSZ.out; simp only [ByteArray.size_append]; omega)).mono ?_
    rintro x w9 ⟨rfl, y, k⟩
    clear q8 HEW
    have B9 : Below w.heap.size w w9 := below_lowM B8 k.below (Nat.le_of_lt hl1)
    have X9 : Hid (Kc12 31 w9 w.heap.size (.int .i64 kd) (.int .i64 fr) (.int .i64 up) (.int .i64 tm) (.int .i64 ix) (.int .i64 lt) (.int .i64 cm) (.bool ok) (.slice ao n cap) (.slice bo m cbp) (.string da) (.bool la)) := X8.out.on k.below hl1
    have Y9 : Hid (Wb b (ByteArray.empty ++ bstr [kd] ++ bstr [fr] ++ bstr [up] ++ numS [tm, ix, lt, cm] ++ flagS ok ++ flagS la ++ numS [(n : Int)] ++ shoS (es.map tx8)) w9) := y
    clear k y B8 X8 Y8
    have q9 := X9.out.c9
    have HCT : Hid (∀ W, Below w.heap.size w W → Calls Tryd.prog 29 #[.slice bo m cbp] W fun e w' => e = .returned (.tuple #[.string (textC cs), .bool (okC cs)]) ∧ Below W.heap.size W w') := fun W hb => confText_any (HCC.out.below hb) HCN.out
    obtain ⟨tc, HTC⟩ : ∃ q, Hid (textC cs = q) := ⟨_, rfl⟩
    obtain ⟨qc, HQC⟩ : ∃ q, Hid (okC cs = q) := ⟨_, rfl⟩
    rw [HTC.out, HQC.out] at HCT
    go_wp2_with fail
    refine (HCT.out _ B9).mono ?_
    rintro x w10 ⟨rfl, hbk⟩
    have k : Wk b w9 w10 := Wk.of_below hbk (Nat.le_of_lt Y9.out.lt)
    have y : Wb b (ByteArray.empty ++ bstr [kd] ++ bstr [fr] ++ bstr [up] ++ numS [tm, ix, lt, cm] ++ flagS ok ++ flagS la ++ numS [(n : Int)] ++ shoS (es.map tx8)) w10 := Y9.out.up hbk
    clear q9 HCT hbk
    have B10 : Below w.heap.size w w10 := below_lowM B9 k.below (Nat.le_of_lt hl1)
    have X10 : Hid (Kc12 31 w10 w.heap.size (.int .i64 kd) (.int .i64 fr) (.int .i64 up) (.int .i64 tm) (.int .i64 ix) (.int .i64 lt) (.int .i64 cm) (.bool ok) (.slice ao n cap) (.slice bo m cbp) (.string da) (.bool la)) := X9.out.on k.below hl1
    have Y10 : Hid (Wb b (ByteArray.empty ++ bstr [kd] ++ bstr [fr] ++ bstr [up] ++ numS [tm, ix, lt, cm] ++ flagS ok ++ flagS la ++ numS [(n : Int)] ++ shoS (es.map tx8)) w10) := y
    clear k y B9 X9 Y9
    have q10 := X10.out.c10
    have hlw10 := Y10.out.lt
    obtain ⟨v10, HV10⟩ : ∃ W, Hid (w10.alloc (.cells #[.string tc, .string da] 9) = W) := ⟨_, rfl⟩
    have G10 : Hid (v10.heap[w10.heap.size]? = some (.cells #[.string tc, .string da] 9)) := by rw [← HV10.out]; exact heap_pushM _ _
    have Z10 : Hid (Wb b (ByteArray.empty ++ bstr [kd] ++ bstr [fr] ++ bstr [up] ++ numS [tm, ix, lt, cm] ++ flagS ok ++ flagS la ++ numS [(n : Int)] ++ shoS (es.map tx8)) v10) := by rw [← HV10.out]; exact Y10.out.up (ba (Below.refl _ _) _)
    have K10 : Hid (Wk b w10 v10) := by rw [← HV10.out]; exact Wk.of_below (ba (Below.refl _ _) _) (Nat.le_of_lt hlw10)
    go_wp2_with fail
    rw [HV10.out]
    refine (shorts_any b w10.heap.size 2 [tc, da] (0, 0) _ _ Z10.out G10.out (by omega) (by have := HF.out; have h9 := HSZ.out; intro x hx; simp only [List.mem_cons, List.not_mem_nil, or_false] at hx; rw [HTC.out] at h9; rcases hx with rfl | rfl <;> omega) rfl (by decide) (by have h9 := HSZ.out; simp only [ByteArray.size_append]; omega)).mono ?_
    rintro x w11 ⟨rfl, y, k2⟩
    have k := K10.out.trans k2
    clear q10 G10 Z10 K10 HV10 k2
    have B11 : Below w.heap.size w w11 := below_lowM B10 k.below (Nat.le_of_lt hl1)
    have X11 : Hid (Kc12 31 w11 w.heap.size (.int .i64 kd) (.int .i64 fr) (.int .i64 up) (.int .i64 tm) (.int .i64 ix) (.int .i64 lt) (.int .i64 cm) (.bool ok) (.slice ao n cap) (.slice bo m cbp) (.string da) (.bool la)) := X10.out.on k.below hl1
    have Y11 : Hid (Wb b (ByteArray.empty ++ bstr [kd] ++ bstr [fr] ++ bstr [up] ++ numS [tm, ix, lt, cm] ++ flagS ok ++ flagS la ++ numS [(n : Int)] ++ shoS (es.map tx8) ++ shoS [tc, da]) w11) := y
    clear k y B10 X10 Y10
    go_wp2_with fail
    refine (wrString_any b _ _ Y11.out).mono ?_
    rintro x w12 ⟨rfl, k⟩
    have B12 : Below w.heap.size w w12 := below_lowM B11 k.below (Nat.le_of_lt hl1)
    have HS : Hid (ByteArray.empty ++ bstr [kd] ++ bstr [fr] ++ bstr [up] ++ numS [tm, ix, lt, cm] ++ flagS ok ++ flagS la ++ numS [(n : Int)] ++ shoS (es.map tx8) ++ shoS [tc, da] = encS kd fr up tm ix lt cm ok da la es cs) := by
      show _ = _
      rw [← HTC.out]
      unfold encS
      rw [HLN.out, bstr_three]
      simp [numS, shoS, ByteArray.append_assoc]
    rw [HS.out]
    clear k Y11 X11 B11
    go_wp2
    go_ret2
    exact ⟨rfl, B12⟩
end Go.Proofs.YtgjamikmjknlfaaDoor
