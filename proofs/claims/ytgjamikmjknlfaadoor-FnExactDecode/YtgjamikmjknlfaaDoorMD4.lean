/-
  Bytes that are written one piece behind the other: the writer's methods. A message in bytes: the plain facts. A message in bytes, as the program writes it: the walks. A message read from its bytes by the program: the walks. The whole of a text as a message, by the program: the walks.
-/
import Derived.Test.YtgjamikmjknlfaaDoorMD1
import Derived.Test.YtgjamikmjknlfaaDoorMD3
import Derived.Test.YtgjamikmjknlfaaDoorPt
import Derived.Test.YtgjamikmjknlfaaDoorEs
import Derived.Test.YtgjamikmjknlfaaDoorCt
import Derived.Test.YtgjamikmjknlfaaDoorRcm
import Derived.Defers
import Derived.Recover
namespace Go.Proofs.YtgjamikmjknlfaaDoor
open Go Go.RowKit
set_option linter.unusedVariables false

/-- A writer of the call's own that holds a text. -/
def Wb (b : Nat) (s : ByteArray) (w : World) : Prop := LibA.IsBuffer 57 (fun _ => none) 5 b b 0 (Lib.byteCells s.data.toList) w
theorem Wb.lt {b : Nat} {s : ByteArray} {w : World} (h : Wb b s w) : b < w.heap.size := LibA.IsBuffer.lt h
theorem Wb.up {b : Nat} {s : ByteArray} {w w' : World} (h : Wb b s w) (hb : Below w.heap.size w w') : Wb b s w' := LibA.IsBuffer.old h hb
theorem Wb.new (w : World) : Wb w.heap.size ByteArray.empty (w.alloc (.cells #[.slice none 0 0, .int .i64 0, .int .i8 0] 57)) :=
  LibA.zero_isBuffer (lr := 0) (Nat.le_refl _) (LibA.three_whole (by show (w.heap.push _)[w.heap.size]? = _; rw [Array.getElem?_push, if_pos rfl]))
/-- All but the writer, and rows of bytes, is as it was. -/
structure Wk (b : Nat) (w w' : World) : Prop where
  below : Below b w w'
  kept : Lib.OthersKept 5 (some b) w w'
theorem Wk.refl (b : Nat) (w : World) : Wk b w w := ⟨Below.refl _ _, Lib.OthersKept.refl _ _ _⟩
theorem Wk.trans {b : Nat} {a c d : World} (h : Wk b a c) (k : Wk b c d) : Wk b a d := ⟨⟨k.below.os.trans h.below.os, k.below.tape.trans h.below.tape, k.below.output.trans h.below.output, Nat.le_trans h.below.size k.below.size, fun q hq => (k.below.block q hq).trans (h.below.block q hq)⟩, h.kept.trans k.kept⟩
theorem Wk.of_below {b : Nat} {w w' : World} (hb : Below w.heap.size w w') (hl : b ≤ w.heap.size) : Wk b w w' :=
  ⟨⟨hb.os, hb.tape, hb.output, hb.size, fun q hq => hb.block q (by omega)⟩, fun k o h _ _ => (hb.block k (Array.getElem?_eq_some_iff.1 h).1).trans h⟩
theorem Wk.row {b g : Nat} {w w' : World} {cs : Array Value} {e : TypeId} {fz : Nat × Nat} (h : Wk b w w') (hg : w.heap[g]? = some (.cells cs e fz)) (hgb : g ≠ b) (he : e ≠ 5) : w'.heap[g]? = some (.cells cs e fz) :=
  h.kept g _ hg (by simpa using hgb) fun c fz' q => by injection q with _ q2; exact he q2
theorem bytes_snoc (s t : ByteArray) : Lib.byteCells s.data.toList ++ Lib.byteCells t.data.toList = Lib.byteCells (s ++ t).data.toList := by
  rw [← Lib.byteCells_append]
  congr 1
theorem bytes_len (s : ByteArray) : (Lib.byteCells s.data.toList).length = s.size := by
  rw [Lib.byteCells_length]
  rfl
theorem writeText_any (b : Nat) (s t : ByteArray) (w : World) (h : Wb b s w) (hl : s.size + t.size ≤ 140737488355328) :
    Calls Tryd.prog 57 #[.pointer (some ⟨b, 0, none⟩), .string t] w fun e w' => e = .returned (.tuple #[.int .i64 t.size, .nilIface]) ∧ Wb b (s ++ t) w' ∧ Wk b w w' := by
  refine (Tryd.Buffer_WriteString_at 57 (fun _ => none) b b 0 _ t w h (Nat.le_of_lt h.lt) (Lib.byteCells_one _) (by rw [bytes_len]; exact hl)).mono ?_
  rintro e w' ⟨rfl, h1, h2, h3⟩
  refine ⟨rfl, ?_, h2, h3⟩
  rw [bytes_snoc] at h1
  exact h1
theorem bstr_one (c : Int) (h0 : 0 ≤ c) (h1 : c ≤ 255) : (bstr [c]).data.toList = [c.toNat.toUInt8] := by
  unfold bstr
  simp
theorem writeByte_any (b : Nat) (s : ByteArray) (c : Int) (w : World) (h : Wb b s w) (h0 : 0 ≤ c) (h1 : c ≤ 255) (hl : s.size + 1 ≤ 140737488355328) :
    Calls Tryd.prog 55 #[.pointer (some ⟨b, 0, none⟩), .int .u8 c] w fun e w' => e = .returned .nilIface ∧ Wb b (s ++ bstr [c]) w' ∧ Wk b w w' := by
  refine (Tryd.Buffer_WriteByte_at 57 (fun _ => none) b b 0 _ c w h (Nat.le_of_lt h.lt) (Lib.byteCells_one _) (by rw [bytes_len]; exact hl)).mono ?_
  rintro e w' ⟨rfl, h1', h2, h3⟩
  refine ⟨rfl, ?_, h2, h3⟩
  have e2 : Lib.byteCells (bstr [c]).data.toList = [.int .u8 c] := by
    rw [bstr_one c h0 h1]
    simp only [Lib.byteCells, List.map_cons, List.map_nil]
    congr 2
    have : c.toNat < 256 := by omega
    simp [Nat.toUInt8]
    omega
  rw [← e2, bytes_snoc] at h1'
  exact h1'
/-- Numbers, one behind the other. -/
def numS : List Int → ByteArray
  | [] => ByteArray.empty
  | n :: l => bstr (varI n.toNat) ++ numS l
theorem numS_snoc : ∀ (l : List Int) (n : Int), numS (l ++ [n]) = numS l ++ bstr (varI n.toNat)
  | [], n => by simp [numS]
  | m :: l, n => by simp [numS, numS_snoc l n, ByteArray.append_assoc]
theorem numS_take {l : List Int} {k : Nat} {n : Int} (h : l[k]? = some n) : numS (l.take (k + 1)) = numS (l.take k) ++ bstr (varI n.toNat) := by
  rw [List.take_add_one, h]
  exact numS_snoc _ _
theorem numS_size : ∀ (l : List Int), (∀ n ∈ l, n ≤ 1000000000) → (numS l).size ≤ l.length * 1000000001
  | [], _ => Nat.zero_le _
  | n :: l, h => by
    have h1 := numS_size l fun m hm => h m (List.mem_cons_of_mem _ hm)
    have h2 := var_size n.toNat
    have h3 := h n List.mem_cons_self
    simp only [numS, ByteArray.size_append, List.length_cons]
    omega
set_option maxRecDepth 10000 in
set_option maxHeartbeats 2000000 in
theorem numbers_any (b g m : Nat) (ns : List Int) (fz : Nat × Nat) (s : ByteArray) (w : World) (h : Wb b s w) (hg : w.heap[g]? = some (.cells (ns.map fun n => Value.int .i64 n).toArray 3 fz)) (hgb : g ≠ b) (hn : ∀ n ∈ ns, 0 ≤ n ∧ n ≤ 1000000000) (hm : ns.length = m) (hm8 : m ≤ 8) (hs : s.size ≤ 100000000000000) :
    Calls Tryd.prog 26 #[.pointer (some ⟨b, 0, none⟩), .slice (some ⟨g, 0, none⟩) m m] w fun e w' => e = .returned (.tuple #[]) ∧ Wb b (s ++ numS ns) w' ∧ Wk b w w' := by
  have HN : Hid (∀ n ∈ ns, 0 ≤ n ∧ n ≤ 1000000000) := hn
  have HM : Hid (ns.length = m) := hm
  have HG : Hid (w.heap[g]? = some (.cells (ns.map fun n => Value.int .i64 n).toArray 3 fz)) := hg
  have HB : Hid (Wb b s w) := h
  have hbl := h.lt
  clear h hn hm hg
  go_enter Tryd.func26, Tryd.ntmps26
  go_wp2
  go_loopw [10] (fun i wr => ∃ k : Nat, k ≤ m ∧ i = .int .i64 k ∧ Hid (Wb b (s ++ numS (ns.take k)) wr) ∧ Hid (Wk b w wr)) (fun i _ => m - (intOf i).toNat)
  case atStart => exact ⟨0, Nat.zero_le _, rfl, (by show Wb _ _ _; simpa [numS] using HB.out), Wk.refl _ _⟩
  case round =>
    obtain ⟨k, hk, rfl, HW, HK⟩ := hrel
    by_cases hlt : k < m
    · obtain ⟨n, hn⟩ : ∃ n, ns[k]? = some n := ⟨_, List.getElem?_eq_getElem (by rw [HM.out]; exact hlt)⟩
      have hn2 := HN.out n (List.mem_of_getElem? hn)
      have hgr := HK.out.row HG.out hgb (by decide)
      have c0 : wr.cell? ⟨g, k, none⟩ = some (.int .i64 n) := by simp [World.cell?, hgr, hn]
      have hglt : g < wr.heap.size := (Array.getElem?_eq_some_iff.1 hgr).1
      have HT : Hid (numS (ns.take (k + 1)) = numS (ns.take k) ++ bstr (varI n.toNat)) := numS_take hn
      have HZ : Hid ((s ++ numS (ns.take k)).size + (bstr (varI n.toNat)).size ≤ 140737488355328) := by
        have h1 := numS_size (ns.take k) fun x hx => (HN.out x (List.mem_of_mem_take hx)).2
        have h2 := var_size n.toNat
        have h3 : (ns.take k).length ≤ 8 := by simp; omega
        show _ ≤ _
        rw [ByteArray.size_append]
        omega
      obtain ⟨T, HTT⟩ : ∃ T : ByteArray, Hid (bstr (varI n.toNat) = T) := ⟨_, rfl⟩
      have HV : Hid (∀ W, Calls Tryd.prog 56 #[.int .i64 n] W fun e w' => e = .returned (.tuple #[.string T, .bool true]) ∧ Below W.heap.size W w') := fun W => by
        have := varText_ok n.toNat W (by omega)
        rw [HTT.out, show ((n.toNat : Nat) : Int) = n by omega] at this
        exact this
      clear hn hgr
      go_wp2_with fail
      refine (HV.out _).mono ?_
      rintro e w1 ⟨rfl, hb1⟩
      have HW1 : Hid (Wb b (s ++ numS (ns.take k)) w1) := HW.out.up hb1
      have HK1 : Hid (Wk b w w1) := HK.out.trans (Wk.of_below hb1 (Nat.le_of_lt HW.out.lt))
      clear c0 hb1
      go_wp2_with fail
      refine (writeText_any b _ T _ HW1.out (by rw [← HTT.out]; exact HZ.out)).mono ?_
      rintro e w2 ⟨rfl, h2, k2⟩
      have HW2 : Hid (Wb b (s ++ numS (ns.take (k + 1))) w2) := by
        show Wb _ _ _
        rw [HT.out, HTT.out, ← ByteArray.append_assoc]
        exact h2
      have HK2 : Hid (Wk b w w2) := HK1.out.trans k2
      clear h2 k2
      go_wp2
      go_roundw
      case rel => exact ⟨k + 1, by omega, by go_num, HW2, HK2⟩
      case measure => simp [intOf]; omega
    · have he : ns.take k = ns := List.take_of_length_le (by rw [HM.out]; omega)
      go_wp2
      refine bodyPost_end (results_none rfl _ _ _) rfl ?_
      refine ⟨rfl, ?_, HK.out⟩
      have := HW.out
      rw [he] at this
      exact this
/-- Texts behind their lengths, one behind the other. -/
def shoS : List ByteArray → ByteArray
  | [] => ByteArray.empty
  | n :: l => shortS n ++ shoS l
theorem shoS_snoc : ∀ (l : List ByteArray) (n : ByteArray), shoS (l ++ [n]) = shoS l ++ shortS n
  | [], n => by simp [shoS]
  | m :: l, n => by simp [shoS, shoS_snoc l n, ByteArray.append_assoc]
theorem shoS_take {l : List ByteArray} {k : Nat} {n : ByteArray} (h : l[k]? = some n) : shoS (l.take (k + 1)) = shoS (l.take k) ++ shortS n := by
  rw [List.take_add_one, h]
  exact shoS_snoc _ _
theorem short_size' (s : ByteArray) : (shortS s).size ≤ 2 * s.size + 1 := by
  unfold shortS
  rw [ByteArray.size_append]
  have := var_size s.size
  omega
theorem shoS_size : ∀ (l : List ByteArray), (∀ n ∈ l, n.size ≤ 20000) → (shoS l).size ≤ l.length * 40001
  | [], _ => Nat.zero_le _
  | n :: l, h => by
    have h1 := shoS_size l fun m hm => h m (List.mem_cons_of_mem _ hm)
    have h2 := short_size' n
    have h3 := h n List.mem_cons_self
    simp only [shoS, ByteArray.size_append, List.length_cons]
    omega
set_option maxRecDepth 10000 in
set_option maxHeartbeats 2000000 in
theorem shorts_any (b g m : Nat) (ns : List ByteArray) (fz : Nat × Nat) (s : ByteArray) (w : World) (h : Wb b s w) (hg : w.heap[g]? = some (.cells (ns.map fun n => Value.string n).toArray 9 fz)) (hgb : g ≠ b) (hn : ∀ n ∈ ns, n.size ≤ 20000) (hm : ns.length = m) (hm8 : m ≤ 8) (hs : s.size ≤ 100000000000000) :
    Calls Tryd.prog 30 #[.pointer (some ⟨b, 0, none⟩), .slice (some ⟨g, 0, none⟩) m m] w fun e w' => e = .returned (.tuple #[]) ∧ Wb b (s ++ shoS ns) w' ∧ Wk b w w' := by
  have HN : Hid (∀ n ∈ ns, n.size ≤ 20000) := hn
  have HM : Hid (ns.length = m) := hm
  have HG : Hid (w.heap[g]? = some (.cells (ns.map fun n => Value.string n).toArray 9 fz)) := hg
  have HB : Hid (Wb b s w) := h
  have hbl := h.lt
  clear h hn hm hg
  go_enter Tryd.func30, Tryd.ntmps30
  go_wp2
  go_loopw [10] (fun i wr => ∃ k : Nat, k ≤ m ∧ i = .int .i64 k ∧ Hid (Wb b (s ++ shoS (ns.take k)) wr) ∧ Hid (Wk b w wr)) (fun i _ => m - (intOf i).toNat)
  case atStart => exact ⟨0, Nat.zero_le _, rfl, (by show Wb _ _ _; simpa [shoS] using HB.out), Wk.refl _ _⟩
  case round =>
    obtain ⟨k, hk, rfl, HW, HK⟩ := hrel
    by_cases hlt : k < m
    · obtain ⟨n, hn⟩ : ∃ n, ns[k]? = some n := ⟨_, List.getElem?_eq_getElem (by rw [HM.out]; exact hlt)⟩
      have hn2 := HN.out n (List.mem_of_getElem? hn)
      have hgr := HK.out.row HG.out hgb (by decide)
      have c0 : wr.cell? ⟨g, k, none⟩ = some (.string n) := by simp [World.cell?, hgr, hn]
      have hglt : g < wr.heap.size := (Array.getElem?_eq_some_iff.1 hgr).1
      have HT : Hid (shoS (ns.take (k + 1)) = shoS (ns.take k) ++ shortS n) := shoS_take hn
      have HZ : Hid ((s ++ shoS (ns.take k)).size + (shortS n).size ≤ 140737488355328) := by
        have h1 := shoS_size (ns.take k) fun x hx => HN.out x (List.mem_of_mem_take hx)
        have h2 := short_size' n
        have h3 : (ns.take k).length ≤ 8 := by simp; omega
        show _ ≤ _
        rw [ByteArray.size_append]
        omega
      obtain ⟨T, HTT⟩ : ∃ T : ByteArray, Hid (shortS n = T) := ⟨_, rfl⟩
      have HV : Hid (∀ W, Calls Tryd.prog 60 #[.string n] W fun e w' => e = .returned (.tuple #[.string T, .bool true]) ∧ Below W.heap.size W w') := fun W => by
        have := short_ok n W hn2
        rw [show bstr (varI n.size) ++ n = T from HTT.out] at this
        exact this
      clear hn hgr
      go_wp2_with fail
      refine (HV.out _).mono ?_
      rintro e w1 ⟨rfl, hb1⟩
      have HW1 : Hid (Wb b (s ++ shoS (ns.take k)) w1) := HW.out.up hb1
      have HK1 : Hid (Wk b w w1) := HK.out.trans (Wk.of_below hb1 (Nat.le_of_lt HW.out.lt))
      clear c0 hb1
      go_wp2_with fail
      refine (writeText_any b _ T _ HW1.out (by rw [← HTT.out]; exact HZ.out)).mono ?_
      rintro e w2 ⟨rfl, h2, k2⟩
      have HW2 : Hid (Wb b (s ++ shoS (ns.take (k + 1))) w2) := by
        show Wb _ _ _
        rw [HT.out, HTT.out, ← ByteArray.append_assoc]
        exact h2
      have HK2 : Hid (Wk b w w2) := HK1.out.trans k2
      clear h2 k2
      go_wp2
      go_roundw
      case rel => exact ⟨k + 1, by omega, by go_num, HW2, HK2⟩
      case measure => simp [intOf]; omega
    · have he : ns.take k = ns := List.take_of_length_le (by rw [HM.out]; omega)
      go_wp2
      refine bodyPost_end (results_none rfl _ _ _) rfl ?_
      refine ⟨rfl, ?_, HK.out⟩
      have := HW.out
      rw [he] at this
      exact this
set_option maxHeartbeats 1000000 in
theorem oneByte_any (b : Nat) (s : ByteArray) (n : Int) (w : World) (h : Wb b s w) (h0 : 0 ≤ n) (h1 : n ≤ 255) (hs : s.size ≤ 100000000000000) :
    Calls Tryd.prog 25 #[.pointer (some ⟨b, 0, none⟩), .int .i64 n] w fun e w' => e = .returned (.tuple #[]) ∧ Wb b (s ++ bstr [n]) w' ∧ Wk b w w' := by
  have HB : Hid (Wb b s w) := h
  have hbl := h.lt
  have hw : IntKind.u8.wrap n = n := by simp [IntKind.wrap, IntKind.bits, IntKind.signed]; omega
  clear h
  go_enter Tryd.func25, Tryd.ntmps25
  go_wp2_with fail
  refine (writeByte_any b s n w HB.out h0 h1 (by omega)).mono ?_
  rintro e w1 ⟨rfl, h2, k2⟩
  go_wp2
  refine bodyPost_end (results_none rfl _ _ _) rfl ?_
  exact ⟨rfl, h2, k2⟩
set_option maxHeartbeats 1000000 in
theorem flagW_any (b : Nat) (s : ByteArray) (f : Bool) (w : World) (h : Wb b s w) (hs : s.size ≤ 100000000000000) :
    Calls Tryd.prog 27 #[.pointer (some ⟨b, 0, none⟩), .bool f] w fun e w' => e = .returned (.tuple #[]) ∧ Wb b (s ++ flagS f) w' ∧ Wk b w w' := by
  have HB : Hid (Wb b s w) := h
  clear h
  cases f with
  | false =>
    go_enter Tryd.func27, Tryd.ntmps27
    go_wp2_with fail
    refine (oneByte_any b s 0 w HB.out (by decide) (by decide) hs).mono ?_
    rintro e w1 ⟨rfl, h2, k2⟩
    go_wp2
    refine bodyPost_end (results_none rfl _ _ _) rfl ?_
    exact ⟨rfl, h2, k2⟩
  | true =>
    go_enter Tryd.func27, Tryd.ntmps27
    go_wp2_with fail
    refine (oneByte_any b s 1 w HB.out (by decide) (by decide) hs).mono ?_
    rintro e w1 ⟨rfl, h2, k2⟩
    go_wp2
    refine bodyPost_end (results_none rfl _ _ _) rfl ?_
    exact ⟨rfl, h2, k2⟩
end Go.Proofs.YtgjamikmjknlfaaDoor

namespace Go.Proofs.YtgjamikmjknlfaaDoor
open Go Go.RowKit

/-- An entry's own text. -/
def tx8 (f : En) : ByteArray := textX 1 f.term f.kind f.data
/-- A message in bytes. -/
def encS (kd fr up tm ix lt cm : Int) (ok : Bool) (da : ByteArray) (la : Bool) (es : List En) (cs : List Int) : ByteArray := bstr [kd, fr, up] ++ bstr (varI tm.toNat) ++ bstr (varI ix.toNat) ++ bstr (varI lt.toNat) ++ bstr (varI cm.toNat) ++ flagS ok ++ flagS la ++ bstr (varI es.length) ++ shoS (es.map tx8) ++ shortS (textC cs) ++ shortS da
def encV (kd fr up tm ix lt cm : Int) (ok : Bool) (da : ByteArray) (la : Bool) (es : List En) (cs : List Int) : Value := if okM kd fr up tm ix lt cm da la es cs then .tuple #[.string (encS kd fr up tm ix lt cm ok da la es cs), .bool true] else .tuple #[.string ⟨#[]⟩, .bool false]
theorem bstr_three (a b c : Int) : bstr [a, b, c] = bstr [a] ++ bstr [b] ++ bstr [c] := by
  rw [← bstr_cons a [b, c], ← bstr_cons b [c], ByteArray.append_assoc]
theorem tx8_size (f : En) (_ : f.data.size ≤ 1048576) : (tx8 f).size ≤ 700 := by
  unfold tx8 textX
  cases h : okX 1 f.term f.kind f.data with
  | false => exact Nat.zero_le _
  | true =>
    obtain ⟨h1, h2, h3, h4, h5, h6, h7⟩ := okX_out h
    have e1 : (⟨#[69]⟩ : ByteArray).size = 1 := rfl
    have e2 := varI_len3 (n := (1 : Int).toNat) (by decide)
    have e3 := varI_len3 (n := f.term.toNat) (by omega)
    show (textE 1 f.term f.kind f.data).size ≤ 700
    unfold textE rawE
    simp only [ByteArray.size_append, bstr_size', List.length_cons, List.length_nil]
    omega
theorem textC_size (cs : List Int) : (textC cs).size ≤ 4 := by
  unfold textC
  cases h : okC cs with
  | false => exact Nat.zero_le _
  | true =>
    show (bstr cs).size ≤ 4
    rw [bstr_size']
    exact okC_len h
theorem okM_fine {kd fr up tm ix lt cm : Int} {da : ByteArray} {la : Bool} {es : List En} {cs : List Int} (h : okM kd fr up tm ix lt cm da la es cs = true) : 1 ≤ kd ∧ kd ≤ 6 ∧ 1 ≤ fr ∧ fr ≤ 4 ∧ 1 ≤ up ∧ up ≤ 4 ∧ 0 ≤ tm ∧ tm ≤ 100000 ∧ 0 ≤ lt ∧ lt ≤ 100000 ∧ 0 ≤ ix ∧ ix ≤ 1000000 ∧ 0 ≤ cm ∧ cm ≤ 1000000 ∧ es.length ≤ 4 ∧ da.size ≤ 60 := by
  have h2 := h
  rw [okM_eq] at h2
  unfold okMs sendS tailM headM wiB at h2
  simp only [Bool.and_eq_true, decide_eq_true_eq] at h2
  obtain ⟨⟨⟨a1, a2⟩, ⟨b1, b2⟩, ⟨c1, c2⟩, _, ⟨d1, d2⟩, ⟨e1, e2⟩, ⟨f1, f2⟩, g1, g2⟩, ⟨l1, _⟩, t⟩ := h2
  refine ⟨a1, a2, b1, b2, c1, c2, d1, d2, e1, e2, f1, f2, g1, g2, l1, ?_⟩
  split at t
  · unfold chunkM at t
    simp only [Bool.and_eq_true, decide_eq_true_eq] at t
    exact t.2
  · unfold noneC at t
    simp only [Bool.and_eq_true, decide_eq_true_eq] at t
    have h3 := bytesI_length da
    unfold bytesI at h3
    rw [t.2.1] at h3
    simp at h3
    omega
end Go.Proofs.YtgjamikmjknlfaaDoor

namespace Go.Proofs.YtgjamikmjknlfaaDoor
open Go Go.RowKit

theorem wrString_any (b : Nat) (s : ByteArray) (w : World) (h : Wb b s w) : Calls Tryd.prog 31 #[.pointer (some ⟨b, 0, none⟩)] w fun e w' => e = .returned (.string s) ∧ Wk b w w' := by
  refine (Tryd.Buffer_String_at 57 (fun _ => none) b b 0 s.data.toList w h).mono ?_
  rintro e w' ⟨rfl, n, rfl⟩
  refine ⟨by simp, ⟨rfl, rfl, rfl, Nat.le_refl _, fun _ _ => rfl⟩, fun _ _ h _ _ => h⟩
theorem heap_pushM (W : World) (o : Obj) : (W.alloc o).heap[W.heap.size]? = some o := by show (W.heap.push _)[W.heap.size]? = _; rw [Array.getElem?_push, if_pos rfl]
theorem below_lowM {B b : Nat} {v w W : World} (h : Below B v w) (k : Below b w W) (hb : B ≤ b) : Below B v W := ⟨k.os.trans h.os, k.tape.trans h.tape, k.output.trans h.output, Nat.le_trans h.size k.size, fun q hq => (k.block q (by omega)).trans (h.block q hq)⟩

set_option maxRecDepth 10000 in
set_option maxHeartbeats 4000000 in
theorem entriesW_any (b : Nat) (ao : Option Addr) (n cap : Nat) (es : List En) (s : ByteArray) (w : World) (h : Wb b s w) (hr : ∀ W, Wk b w W → Reads W (.slice ao n cap) es) (hn : n ≤ 4) (hz : SizedE es) (hs : s.size ≤ 10000000000000) :
    Calls Tryd.prog 28 #[.pointer (some ⟨b, 0, none⟩), .slice ao n cap] w fun e w' => e = .returned (.tuple #[]) ∧ Wb b (s ++ numS [(n : Int)] ++ shoS (es.map tx8)) w' ∧ Wk b w w' := by
  have HL : Hid (es.length = n) := (hr w (Wk.refl b w)).len.symm
  have HR : Hid (∀ W, Wk b w W → Reads W (.slice ao n cap) es) := hr
  have HZ : Hid (SizedE es) := hz
  have HB : Hid (Wb b s w) := h
  have hbl := h.lt
  clear h hr hz
  obtain ⟨w1, HV1⟩ : ∃ W, Hid (w.alloc (.cells #[.int .i64 (n : Int)] 3) = W) := ⟨_, rfl⟩
  have G1 : Hid (w1.heap[w.heap.size]? = some (.cells #[.int .i64 (n : Int)] 3)) := by rw [← HV1.out]; exact heap_pushM _ _
  have Z1 : Hid (Wb b s w1) := by rw [← HV1.out]; exact HB.out.up (ba (Below.refl _ _) _)
  have K1 : Hid (Wk b w w1) := by rw [← HV1.out]; exact Wk.of_below (ba (Below.refl _ _) _) (Nat.le_of_lt hbl)
  have hN : Hid ((numS [(n : Int)]).size ≤ 1 * 1000000001) := numS_size [(n : Int)] (by intro x hx; simp only [List.mem_cons, List.not_mem_nil, or_false] at hx; subst hx; omega)
  go_enter Tryd.func28, Tryd.ntmps28
  go_wp2_with fail
  rw [HV1.out]
  refine (numbers_any b w.heap.size 1 [(n : Int)] (0, 0) _ _ Z1.out G1.out (by omega) (by intro x hx; simp only [List.mem_cons, List.not_mem_nil, or_false] at hx; subst hx; omega) rfl (by decide) (by omega)).mono ?_
  rintro e w2 ⟨rfl, h2, k2⟩
  have HB2 : Hid (Wb b (s ++ numS [(n : Int)]) w2) := h2
  have HK2 : Hid (Wk b w w2) := K1.out.trans k2
  clear h2 k2 G1 Z1 K1 HV1 HB
  go_wp2
  go_loopw [15] (fun i wr => ∃ k : Nat, k ≤ n ∧ i = .int .i64 k ∧ Hid (Wb b (s ++ numS [(n : Int)] ++ shoS ((es.map tx8).take k)) wr) ∧ Hid (Wk b w wr)) (fun i _ => n - (intOf i).toNat)
  case atStart => exact ⟨0, Nat.zero_le _, rfl, (by show Wb _ _ _; simpa [shoS] using HB2.out), HK2⟩
  case round =>
    obtain ⟨k, hk, rfl, HW, HK⟩ := hrel
    by_cases hlt : k < n
    · obtain ⟨f, hf⟩ : ∃ f, es[k]? = some f := ⟨_, List.getElem?_eq_getElem (by rw [HL.out]; exact hlt)⟩
      have HM : Hid (f.data.size ≤ maxLen) := by have := HZ.out f (List.mem_of_getElem? hf); show _ ≤ maxLen; unfold maxLen; omega
      obtain ⟨g, o, rfl, hg, c0, c1, c2⟩ := en_at (HR.out wr HK.out) hf
      have hfm : (es.map tx8)[k]? = some (tx8 f) := by rw [List.getElem?_map, hf]; rfl
      have HT : Hid (shoS ((es.map tx8).take (k + 1)) = shoS ((es.map tx8).take k) ++ shortS (tx8 f)) := shoS_take hfm
      have HS : Hid ((s ++ numS [(n : Int)] ++ shoS ((es.map tx8).take k)).size ≤ 100000000000000 ∧ (tx8 f).size ≤ 20000) := by
        have h1 := shoS_size ((es.map tx8).take k) fun x hx => by
          obtain ⟨y, hy, rfl⟩ := List.mem_map.1 (List.mem_of_mem_take hx)
          have := tx8_size y (HZ.out y hy); omega
        have h2 : ((es.map tx8).take k).length ≤ 4 := by rw [List.length_take]; omega
        have h3 := tx8_size f (HZ.out f (List.mem_of_getElem? hf))
        have h4 := hN.out
        refine ⟨?_, by omega⟩
        rw [ByteArray.size_append, ByteArray.size_append]
        omega
      have HE : Hid (∀ W, Calls Tryd.prog 58 #[.int .i64 1, .agg #[.int .i64 f.term, .int .i64 f.kind, .string f.data]] W fun e w' => e = .returned (.tuple #[.string (tx8 f), .bool (okX 1 f.term f.kind f.data)]) ∧ Below W.heap.size W w') := fun W => entryText_any 1 f.term f.kind f.data W HM.out
      obtain ⟨T, HTT⟩ : ∃ T : ByteArray, Hid (tx8 f = T) := ⟨_, rfl⟩
      obtain ⟨q, HQ⟩ : ∃ q, Hid (okX 1 f.term f.kind f.data = q) := ⟨_, rfl⟩
      rw [HTT.out, HQ.out] at HE
      rw [HTT.out] at HT HS
      clear hf hfm
      go_wp2_with fail
      refine (HE.out _).mono ?_
      rintro e w3 ⟨rfl, hb3⟩
      have B3 := (ba (Below.refl _ _) _).trans (hb3.mono (by simp))
      have HW3 : Hid (Wb b (s ++ numS [(n : Int)] ++ shoS ((es.map tx8).take k)) w3) := HW.out.up B3
      have HK3 : Hid (Wk b w w3) := HK.out.trans (Wk.of_below B3 (Nat.le_of_lt HW.out.lt))
      have hl3 := HW3.out.lt
      clear c0 c1 c2 hb3 B3
      obtain ⟨w4, HV4⟩ : ∃ W, Hid (w3.alloc (.cells #[.string T] 9) = W) := ⟨_, rfl⟩
      have G4 : Hid (w4.heap[w3.heap.size]? = some (.cells #[.string T] 9)) := by rw [← HV4.out]; exact heap_pushM _ _
      have Z4 : Hid (Wb b (s ++ numS [(n : Int)] ++ shoS ((es.map tx8).take k)) w4) := by rw [← HV4.out]; exact HW3.out.up (ba (Below.refl _ _) _)
      have K4 : Hid (Wk b w w4) := HK3.out.trans (by rw [← HV4.out]; exact Wk.of_below (ba (Below.refl _ _) _) (Nat.le_of_lt hl3))
      go_wp2_with fail
      rw [HV4.out]
      refine (shorts_any b w3.heap.size 1 [T] (0, 0) _ _ Z4.out G4.out (by omega) (by have := HS.out; intro x hx; simp only [List.mem_cons, List.not_mem_nil, or_false] at hx; subst hx; exact this.2) rfl (by decide) HS.out.1).mono ?_
      rintro e w5 ⟨rfl, h5, k5⟩
      have HW5 : Hid (Wb b (s ++ numS [(n : Int)] ++ shoS ((es.map tx8).take (k + 1))) w5) := by
        show Wb _ _ _
        rw [HT.out, ← ByteArray.append_assoc]
        simpa [shoS] using h5
      have HK5 : Hid (Wk b w w5) := K4.out.trans k5
      clear h5 k5 HV4 G4 Z4 K4
      go_wp2
      go_roundw
      case rel => exact ⟨k + 1, by omega, by go_num, HW5, HK5⟩
      case measure => simp [intOf]; omega
    · have he : (es.map tx8).take k = es.map tx8 := List.take_of_length_le (by rw [List.length_map, HL.out]; omega)
      go_wp2
      refine bodyPost_end (results_none rfl _ _ _) rfl ?_
      refine ⟨rfl, ?_, HK.out⟩
      have := HW.out
      rw [he] at this
      exact this

set_option maxRecDepth 10000 in
set_option maxHeartbeats 8000000 in
theorem implEncode_any (kd fr up tm ix lt cm : Int) (ok : Bool) (da : ByteArray) (la : Bool) (ao bo : Option Addr) (n cap m cbp : Nat) (es : List En) (cs : List Int) (w : World) (he : Reads w (.slice ao n cap) es) (hc : Reads w (.slice bo m cbp) cs) (hn : es.length ≤ 1048577) (hm : cs.length ≤ 1048577) (hz : SizedE es) :
    Calls Tryd.prog 8 #[.agg #[.int .i64 kd, .int .i64 fr, .int .i64 up, .int .i64 tm, .int .i64 ix, .int .i64 lt, .int .i64 cm, .bool ok, (.slice ao n cap), (.slice bo m cbp), .string da, .bool la]] w fun e w' => e = .returned (encV kd fr up tm ix lt cm ok da la es cs) ∧ Below w.heap.size w w' := by
  have HE : Hid (Reads w (.slice ao n cap) es) := he
  have HCC : Hid (Reads w (.slice bo m cbp) cs) := hc
  have HCN : Hid (cs.length ≤ 1048577) := hm
  have HLN : Hid (es.length = n) := he.len.symm
  have HZ : Hid (SizedE es) := hz
  have HC : Hid (∀ W, Below w.heap.size w W → Calls Tryd.prog 24 #[.agg #[.int .i64 kd, .int .i64 fr, .int .i64 up, .int .i64 tm, .int .i64 ix, .int .i64 lt, .int .i64 cm, .bool ok, (.slice ao n cap), (.slice bo m cbp), .string da, .bool la]] W fun e w' => e = .returned (.bool (okM kd fr up tm ix lt cm da la es cs)) ∧ Below W.heap.size W w') := fun W hb => implMessageOk_any kd fr up tm ix lt cm ok da la _ _ es cs W (he.below hb) (hc.below hb) hn hm hz
  clear he hc hn hm hz
  obtain ⟨W0, HW0⟩ : ∃ W, Hid (w.alloc (.cells #[.int .i64 kd, .int .i64 fr, .int .i64 up, .int .i64 tm, .int .i64 ix, .int .i64 lt, .int .i64 cm, .bool ok, .slice ao n cap, .slice bo m cbp, .string da, .bool la] 31) = W) := ⟨_, rfl⟩
  have X0 : Hid (Kc12 31 W0 w.heap.size (.int .i64 kd) (.int .i64 fr) (.int .i64 up) (.int .i64 tm) (.int .i64 ix) (.int .i64 lt) (.int .i64 cm) (.bool ok) (.slice ao n cap) (.slice bo m cbp) (.string da) (.bool la)) := by rw [← HW0.out]; exact Kc12.new _ _ _ _ _ _ _ _ _ _ _ _ _ _
  have B0 : Below w.heap.size w W0 := by rw [← HW0.out]; exact ba (Below.refl _ _) _
  cases hq : okM kd fr up tm ix lt cm da la es cs with
  | false =>
    have HX : Hid (encV kd fr up tm ix lt cm ok da la es cs = .tuple #[.string ⟨#[]⟩, .bool false]) := by show _ = _; unfold encV; rw [hq]; rfl
    rw [hq] at HC
    rw [HX.out]
    clear hq HX
    go_enter Tryd.func8, Tryd.ntmps8
    go_wp2_with fail
    rw [HW0.out]
    refine (HC.out _ B0).mono ?_
    rintro x w1 ⟨rfl, hb1⟩
    go_wp2
    go_ret2
    exact ⟨rfl, Below.on B0 hb1⟩
  | true =>
    have HX : Hid (encV kd fr up tm ix lt cm ok da la es cs = .tuple #[.string (encS kd fr up tm ix lt cm ok da la es cs), .bool true]) := by show _ = _; unfold encV; rw [hq]; rfl
    have HF : Hid (1 ≤ kd ∧ kd ≤ 6 ∧ 1 ≤ fr ∧ fr ≤ 4 ∧ 1 ≤ up ∧ up ≤ 4 ∧ 0 ≤ tm ∧ tm ≤ 100000 ∧ 0 ≤ lt ∧ lt ≤ 100000 ∧ 0 ≤ ix ∧ ix ≤ 1000000 ∧ 0 ≤ cm ∧ cm ≤ 1000000 ∧ n ≤ 4 ∧ da.size ≤ 60) := by
      have := okM_fine hq
      rw [HLN.out] at this
      exact this
    rw [hq] at HC
    rw [HX.out]
    have HSZ : Hid (ByteArray.empty.size = 0 ∧ (bstr [kd]).size = 1 ∧ (bstr [fr]).size = 1 ∧ (bstr [up]).size = 1 ∧ (numS [tm, ix, lt, cm]).size ≤ 4 * 1000000001 ∧ (flagS ok).size = 1 ∧ (flagS la).size = 1 ∧ (numS [(n : Int)]).size ≤ 1 * 1000000001 ∧ (shoS (es.map tx8)).size ≤ 4 * 40001 ∧ (textC cs).size ≤ 4) := by
      have h := HF.out
      refine ⟨rfl, by rw [bstr_size']; rfl, by rw [bstr_size']; rfl, by rw [bstr_size']; rfl, numS_size [tm, ix, lt, cm] ?_, by cases ok <;> rfl, by cases la <;> rfl, numS_size [(n : Int)] ?_, ?_, textC_size cs⟩
      · intro x hx
        simp only [List.mem_cons, List.not_mem_nil, or_false] at hx
        rcases hx with rfl | rfl | rfl | rfl <;> omega
      · intro x hx
        simp only [List.mem_cons, List.not_mem_nil, or_false] at hx
        subst hx; omega
      · have h1 := shoS_size (es.map tx8) fun x hx => by
          obtain ⟨y, hy, rfl⟩ := List.mem_map.1 hx
          have := tx8_size y (HZ.out y hy); omega
        rw [List.length_map, HLN.out] at h1
        exact Nat.le_trans h1 (Nat.mul_le_mul_right 40001 (by omega))
    clear hq HX
    go_enter Tryd.func8, Tryd.ntmps8
    go_wp2_with fail
    rw [HW0.out]
    refine (HC.out _ B0).mono ?_
    rintro x w1 ⟨rfl, hb1⟩
    have B1 := Below.on B0 hb1
    have X1 : Hid (Kc12 31 w1 w.heap.size (.int .i64 kd) (.int .i64 fr) (.int .i64 up) (.int .i64 tm) (.int .i64 ix) (.int .i64 lt) (.int .i64 cm) (.bool ok) (.slice ao n cap) (.slice bo m cbp) (.string da) (.bool la)) := X0.out.on hb1 X0.out.lt
    have hl1 : w.heap.size < w1.heap.size := X1.out.lt
    clear B0 hb1 X0 HC HW0
    obtain ⟨w2, HV2⟩ : ∃ W, Hid (w1.alloc (.cells #[.slice none 0 0, .int .i64 0, .int .i8 0] 57) = W) := ⟨_, rfl⟩
    have Y2 : Hid (Wb w1.heap.size ByteArray.empty w2) := by rw [← HV2.out]; exact Wb.new _
    have X2 : Hid (Kc12 31 w2 w.heap.size (.int .i64 kd) (.int .i64 fr) (.int .i64 up) (.int .i64 tm) (.int .i64 ix) (.int .i64 lt) (.int .i64 cm) (.bool ok) (.slice ao n cap) (.slice bo m cbp) (.string da) (.bool la)) := by rw [← HV2.out]; exact X1.out.on (ba (Below.refl _ _) _) X1.out.lt
    have B2 : Below w.heap.size w w2 := by rw [← HV2.out]; exact ba B1 _
    clear B1 X1
    obtain ⟨b, hbq⟩ : ∃ b, w1.heap.size = b := ⟨_, rfl⟩
    rw [hbq] at Y2 hl1
    have q0 : (w1.alloc (.cells #[.slice none 0 0, .int .i64 0, .int .i8 0] 57)).cell? ⟨w.heap.size, 0, none⟩ = some (.int .i64 kd) := by rw [HV2.out]; exact X2.out.c0
    go_wp2_with fail
    rw [HV2.out]
    refine (oneByte_any b _ kd _ Y2.out (by have := HF.out; omega) (by have := HF.out; omega) (by decide)).mono ?_
    rintro x w3 ⟨rfl, y, k⟩
    clear q0 HV2
    have B3 : Below w.heap.size w w3 := below_lowM B2 k.below (Nat.le_of_lt hl1)
    have X3 : Hid (Kc12 31 w3 w.heap.size (.int .i64 kd) (.int .i64 fr) (.int .i64 up) (.int .i64 tm) (.int .i64 ix) (.int .i64 lt) (.int .i64 cm) (.bool ok) (.slice ao n cap) (.slice bo m cbp) (.string da) (.bool la)) := X2.out.on k.below hl1
    have Y3 : Hid (Wb b (ByteArray.empty ++ bstr [kd]) w3) := y
    clear k y B2 X2 Y2
    have q0 := X3.out.c1
    go_wp2_with fail
    refine (oneByte_any b _ fr _ Y3.out (by have := HF.out; omega) (by have := HF.out; omega) (by have h9 := HSZ.out; simp only [ByteArray.size_append]; omega)).mono ?_
    rintro x w4 ⟨rfl, y, k⟩
    clear q0
    have B4 : Below w.heap.size w w4 := below_lowM B3 k.below (Nat.le_of_lt hl1)
    have X4 : Hid (Kc12 31 w4 w.heap.size (.int .i64 kd) (.int .i64 fr) (.int .i64 up) (.int .i64 tm) (.int .i64 ix) (.int .i64 lt) (.int .i64 cm) (.bool ok) (.slice ao n cap) (.slice bo m cbp) (.string da) (.bool la)) := X3.out.on k.below hl1
    have Y4 : Hid (Wb b (ByteArray.empty ++ bstr [kd] ++ bstr [fr]) w4) := y
    clear k y B3 X3 Y3
    have q0 := X4.out.c2
    go_wp2_with fail
    refine (oneByte_any b _ up _ Y4.out (by have := HF.out; omega) (by have := HF.out; omega) (by have h9 := HSZ.out; simp only [ByteArray.size_append]; omega)).mono ?_
    rintro x w5 ⟨rfl, y, k⟩
    clear q0
    have B5 : Below w.heap.size w w5 := below_lowM B4 k.below (Nat.le_of_lt hl1)
    have X5 : Hid (Kc12 31 w5 w.heap.size (.int .i64 kd) (.int .i64 fr) (.int .i64 up) (.int .i64 tm) (.int .i64 ix) (.int .i64 lt) (.int .i64 cm) (.bool ok) (.slice ao n cap) (.slice bo m cbp) (.string da) (.bool la)) := X4.out.on k.below hl1
    have Y5 : Hid (Wb b (ByteArray.empty ++ bstr [kd] ++ bstr [fr] ++ bstr [up]) w5) := y
    clear k y B4 X4 Y4
    have q3 := X5.out.c3
    have q4 := X5.out.c4
    have q5 := X5.out.c5
    have q6 := X5.out.c6
    have hlw5 := Y5.out.lt
    obtain ⟨v5, HV5⟩ : ∃ W, Hid (w5.alloc (.cells #[.int .i64 tm, .int .i64 ix, .int .i64 lt, .int .i64 cm] 3) = W) := ⟨_, rfl⟩
    have G5 : Hid (v5.heap[w5.heap.size]? = some (.cells #[.int .i64 tm, .int .i64 ix, .int .i64 lt, .int .i64 cm] 3)) := by rw [← HV5.out]; exact heap_pushM _ _
    have Z5 : Hid (Wb b (ByteArray.empty ++ bstr [kd] ++ bstr [fr] ++ bstr [up]) v5) := by rw [← HV5.out]; exact Y5.out.up (ba (Below.refl _ _) _)
    have K5 : Hid (Wk b w5 v5) := by rw [← HV5.out]; exact Wk.of_below (ba (Below.refl _ _) _) (Nat.le_of_lt hlw5)
    go_wp2_with fail
    rw [HV5.out]
    refine (numbers_any b w5.heap.size 4 [tm, ix, lt, cm] (0, 0) _ _ Z5.out G5.out (by omega) (by have := HF.out; intro x hx; simp only [List.mem_cons, List.not_mem_nil, or_false] at hx; rcases hx with rfl | rfl | rfl | rfl <;> omega) rfl (by decide) (by have h9 := HSZ.out; simp only [ByteArray.size_append]; omega)).mono ?_
    rintro x w6 ⟨rfl, y, k2⟩
    have k := K5.out.trans k2
    clear q3 q4 q5 q6 G5 Z5 K5 HV5 k2
    have B6 : Below w.heap.size w w6 := below_lowM B5 k.below (Nat.le_of_lt hl1)
    have X6 : Hid (Kc12 31 w6 w.heap.size (.int .i64 kd) (.int .i64 fr) (.int .i64 up) (.int .i64 tm) (.int .i64 ix) (.int .i64 lt) (.int .i64 cm) (.bool ok) (.slice ao n cap) (.slice bo m cbp) (.string da) (.bool la)) := X5.out.on k.below hl1
    have Y6 : Hid (Wb b (ByteArray.empty ++ bstr [kd] ++ bstr [fr] ++ bstr [up] ++ numS [tm, ix, lt, cm]) w6) := y
    clear k y B5 X5 Y5
    have q0 := X6.out.c7
    go_wp2_with fail
    refine (flagW_any b _ ok _ Y6.out (by have h9 := HSZ.out; simp only [ByteArray.size_append]; omega)).mono ?_
    rintro x w7 ⟨rfl, y, k⟩
    clear q0
    have B7 : Below w.heap.size w w7 := below_lowM B6 k.below (Nat.le_of_lt hl1)
    have X7 : Hid (Kc12 31 w7 w.heap.size (.int .i64 kd) (.int .i64 fr) (.int .i64 up) (.int .i64 tm) (.int .i64 ix) (.int .i64 lt) (.int .i64 cm) (.bool ok) (.slice ao n cap) (.slice bo m cbp) (.string da) (.bool la)) := X6.out.on k.below hl1
    have Y7 : Hid (Wb b (ByteArray.empty ++ bstr [kd] ++ bstr [fr] ++ bstr [up] ++ numS [tm, ix, lt, cm] ++ flagS ok) w7) := y
    clear k y B6 X6 Y6
    have q0 := X7.out.c11
    go_wp2_with fail
    refine (flagW_any b _ la _ Y7.out (by have h9 := HSZ.out; simp only [ByteArray.size_append]; omega)).mono ?_
    rintro x w8 ⟨rfl, y, k⟩
    clear q0
    have B8 : Below w.heap.size w w8 := below_lowM B7 k.below (Nat.le_of_lt hl1)
    have X8 : Hid (Kc12 31 w8 w.heap.size (.int .i64 kd) (.int .i64 fr) (.int .i64 up) (.int .i64 tm) (.int .i64 ix) (.int .i64 lt) (.int .i64 cm) (.bool ok) (.slice ao n cap) (.slice bo m cbp) (.string da) (.bool la)) := X7.out.on k.below hl1
    have Y8 : Hid (Wb b (ByteArray.empty ++ bstr [kd] ++ bstr [fr] ++ bstr [up] ++ numS [tm, ix, lt, cm] ++ flagS ok ++ flagS la) w8) := y
    clear k y B7 X7 Y7
    have q8 := X8.out.c8
    have HEW : Hid (∀ W, Wk b w8 W → Reads W (.slice ao n cap) es) := fun W k => HE.out.below (below_lowM B8 k.below (Nat.le_of_lt hl1))
    go_wp2_with fail
    refine (entriesW_any b ao n cap es _ _ Y8.out HEW.out (by have := HF.out; omega) HZ.out (by have h9 := HSZ.out; simp only [ByteArray.size_append]; omega)).mono ?_
    rintro x w9 ⟨rfl, y, k⟩
    clear q8 HEW
    have B9 : Below w.heap.size w w9 := below_lowM B8 k.below (Nat.le_of_lt hl1)
    have X9 : Hid (Kc12 31 w9 w.heap.size (.int .i64 kd) (.int .i64 fr) (.int .i64 up) (.int .i64 tm) (.int .i64 ix) (.int .i64 lt) (.int .i64 cm) (.bool ok) (.slice ao n cap) (.slice bo m cbp) (.string da) (.bool la)) := X8.out.on k.below hl1
    have Y9 : Hid (Wb b (ByteArray.empty ++ bstr [kd] ++ bstr [fr] ++ bstr [up] ++ numS [tm, ix, lt, cm] ++ flagS ok ++ flagS la ++ numS [(n : Int)] ++ shoS (es.map tx8)) w9) := y
    clear k y B8 X8 Y8
    have q9 := X9.out.c9
    have HCT : Hid (∀ W, Below w.heap.size w W → Calls Tryd.prog 29 #[.slice bo m cbp] W fun e w' => e = .returned (.tuple #[.string (textC cs), .bool (okC cs)]) ∧ Below W.heap.size W w') := fun W hb => confText_any (HCC.out.below hb) HCN.out
    obtain ⟨tc, HTC⟩ : ∃ q, Hid (textC cs = q) := ⟨_, rfl⟩
    obtain ⟨qc, HQC⟩ : ∃ q, Hid (okC cs = q) := ⟨_, rfl⟩
    rw [HTC.out, HQC.out] at HCT
    go_wp2_with fail
    refine (HCT.out _ B9).mono ?_
    rintro x w10 ⟨rfl, hbk⟩
    have k : Wk b w9 w10 := Wk.of_below hbk (Nat.le_of_lt Y9.out.lt)
    have y : Wb b (ByteArray.empty ++ bstr [kd] ++ bstr [fr] ++ bstr [up] ++ numS [tm, ix, lt, cm] ++ flagS ok ++ flagS la ++ numS [(n : Int)] ++ shoS (es.map tx8)) w10 := Y9.out.up hbk
    clear q9 HCT hbk
    have B10 : Below w.heap.size w w10 := below_lowM B9 k.below (Nat.le_of_lt hl1)
    have X10 : Hid (Kc12 31 w10 w.heap.size (.int .i64 kd) (.int .i64 fr) (.int .i64 up) (.int .i64 tm) (.int .i64 ix) (.int .i64 lt) (.int .i64 cm) (.bool ok) (.slice ao n cap) (.slice bo m cbp) (.string da) (.bool la)) := X9.out.on k.below hl1
    have Y10 : Hid (Wb b (ByteArray.empty ++ bstr [kd] ++ bstr [fr] ++ bstr [up] ++ numS [tm, ix, lt, cm] ++ flagS ok ++ flagS la ++ numS [(n : Int)] ++ shoS (es.map tx8)) w10) := y
    clear k y B9 X9 Y9
    have q10 := X10.out.c10
    have hlw10 := Y10.out.lt
    obtain ⟨v10, HV10⟩ : ∃ W, Hid (w10.alloc (.cells #[.string tc, .string da] 9) = W) := ⟨_, rfl⟩
    have G10 : Hid (v10.heap[w10.heap.size]? = some (.cells #[.string tc, .string da] 9)) := by rw [← HV10.out]; exact heap_pushM _ _
    have Z10 : Hid (Wb b (ByteArray.empty ++ bstr [kd] ++ bstr [fr] ++ bstr [up] ++ numS [tm, ix, lt, cm] ++ flagS ok ++ flagS la ++ numS [(n : Int)] ++ shoS (es.map tx8)) v10) := by rw [← HV10.out]; exact Y10.out.up (ba (Below.refl _ _) _)
    have K10 : Hid (Wk b w10 v10) := by rw [← HV10.out]; exact Wk.of_below (ba (Below.refl _ _) _) (Nat.le_of_lt hlw10)
    go_wp2_with fail
    rw [HV10.out]
    refine (shorts_any b w10.heap.size 2 [tc, da] (0, 0) _ _ Z10.out G10.out (by omega) (by have := HF.out; have h9 := HSZ.out; intro x hx; simp only [List.mem_cons, List.not_mem_nil, or_false] at hx; rw [HTC.out] at h9; rcases hx with rfl | rfl <;> omega) rfl (by decide) (by have h9 := HSZ.out; simp only [ByteArray.size_append]; omega)).mono ?_
    rintro x w11 ⟨rfl, y, k2⟩
    have k := K10.out.trans k2
    clear q10 G10 Z10 K10 HV10 k2
    have B11 : Below w.heap.size w w11 := below_lowM B10 k.below (Nat.le_of_lt hl1)
    have X11 : Hid (Kc12 31 w11 w.heap.size (.int .i64 kd) (.int .i64 fr) (.int .i64 up) (.int .i64 tm) (.int .i64 ix) (.int .i64 lt) (.int .i64 cm) (.bool ok) (.slice ao n cap) (.slice bo m cbp) (.string da) (.bool la)) := X10.out.on k.below hl1
    have Y11 : Hid (Wb b (ByteArray.empty ++ bstr [kd] ++ bstr [fr] ++ bstr [up] ++ numS [tm, ix, lt, cm] ++ flagS ok ++ flagS la ++ numS [(n : Int)] ++ shoS (es.map tx8) ++ shoS [tc, da]) w11) := y
    clear k y B10 X10 Y10
    go_wp2_with fail
    refine (wrString_any b _ _ Y11.out).mono ?_
    rintro x w12 ⟨rfl, k⟩
    have B12 : Below w.heap.size w w12 := below_lowM B11 k.below (Nat.le_of_lt hl1)
    have HS : Hid (ByteArray.empty ++ bstr [kd] ++ bstr [fr] ++ bstr [up] ++ numS [tm, ix, lt, cm] ++ flagS ok ++ flagS la ++ numS [(n : Int)] ++ shoS (es.map tx8) ++ shoS [tc, da] = encS kd fr up tm ix lt cm ok da la es cs) := by
      show _ = _
      rw [← HTC.out]
      unfold encS
      rw [HLN.out, bstr_three]
      simp [numS, shoS, ByteArray.append_assoc]
    rw [HS.out]
    clear k Y11 X11 B11
    go_wp2
    go_ret2
    exact ⟨rfl, B12⟩
end Go.Proofs.YtgjamikmjknlfaaDoor

namespace Go.Proofs.YtgjamikmjknlfaaDoor
open Go Go.RowKit
set_option linter.unusedVariables false

theorem Kc12.save {t : TypeId} {W W' : World} {b g : Nat} {x0 x1 x2 x3 x4 x5 x6 x7 x8 x9 x10 x11 : Value} (h : Kc12 t W b x0 x1 x2 x3 x4 x5 x6 x7 x8 x9 x10 x11) (hs : Save g W W') (hg : b ≠ g) : Kc12 t W' b x0 x1 x2 x3 x4 x5 x6 x7 x8 x9 x10 x11 := (hs.block b h.lt hg).trans h
theorem save_set12 {g b : Nat} {a W : World} (h : Save g a W) (hb : a.heap.size ≤ b) (u0 u1 u2 u3 u4 u5 u6 u7 u8 u9 u10 u11 : Value) : Save g a (set12 W b u0 u1 u2 u3 u4 u5 u6 u7 u8 u9 u10 u11) := ((((((((((((h.farS (p := ⟨b, 0, none⟩) hb u0).farS (p := ⟨b, 1, none⟩) hb u1).farS (p := ⟨b, 2, none⟩) hb u2).farS (p := ⟨b, 3, none⟩) hb u3).farS (p := ⟨b, 4, none⟩) hb u4).farS (p := ⟨b, 5, none⟩) hb u5).farS (p := ⟨b, 6, none⟩) hb u6).farS (p := ⟨b, 7, none⟩) hb u7).farS (p := ⟨b, 8, none⟩) hb u8).farS (p := ⟨b, 9, none⟩) hb u9).farS (p := ⟨b, 10, none⟩) hb u10).farS (p := ⟨b, 11, none⟩) hb u11)
theorem one_cellM {w : World} {g : Nat} {a : Value} {t : TypeId} (h : w.heap[g]? = some (.cells #[a] t)) : w.cell? ⟨g, 0, none⟩ = some a := by
  simp [World.cell?, h]
theorem one_fzM {w : World} {g : Nat} {a : Value} {t : TypeId} (h : w.heap[g]? = some (.cells #[a] t)) (o : Nat) : w.frozen? ⟨g, o, none⟩ = false := by
  simp [World.frozen?, h]
theorem one_setM {w : World} {g : Nat} {a : Value} {t : TypeId} (h : w.heap[g]? = some (.cells #[a] t)) (u : Value) : (w.setCell ⟨g, 0, none⟩ u).heap[g]? = some (.cells #[u] t) := by
  simp [World.setCell, Array.getElem?_modify, h]
theorem assert_tornM (w : World) : (Instr.typeAssert (.iface 130 (.agg #[])) 20 130 true).run Tryd.prog w = .ok (.tuple #[.agg #[], .bool true]) w := by kernel_rfl
theorem assert_nilM (w : World) : (Instr.typeAssert .nilIface 20 130 true).run Tryd.prog w = .ok (.tuple #[.agg #[], .bool false]) w := by kernel_rfl
theorem frameM (p q : Value) : (#[p, q] ++ Array.replicate (Tryd.f78.ntmps - (#[p, q] : Array Value).size) undef) = #[p, q, undef, undef, undef, undef, undef, undef, undef, undef, undef, undef] := by kernel_rfl
/-- A message as it is read: its conf as its text. -/
structure Mg8 where
  kd : Nat
  fr : Nat
  up : Nat
  tm : Nat
  ix : Nat
  lt : Nat
  cm : Nat
  ok : Bool
  la : Bool
  es : List En
  c : ByteArray
  da : ByteArray
def msgP (s : ByteArray) (a : Nat) : Option (Mg8 × Nat) :=
  (oneP s a).bind fun r0 => (oneP s r0.2).bind fun r1 => (oneP s r1.2).bind fun r2 => (numP s r2.2).bind fun r3 => (numP s r3.2).bind fun r4 => (numP s r4.2).bind fun r5 => (numP s r5.2).bind fun r6 => (flaP s r6.2).bind fun r7 => (flaP s r7.2).bind fun r8 => (entsP s r8.2).bind fun r9 => (shoP s r9.2).bind fun r10 => (shoP s r10.2).bind fun r11 => some (⟨r0.1, r1.1, r2.1, r3.1, r4.1, r5.1, r6.1, r7.1, r8.1, r9.1, r10.1, r11.1⟩, r11.2)
def MsgR (r : Option (Mg8 × Nat)) (g : Nat) (s : ByteArray) (w : World) (e : Ending) (w' : World) : Prop := match r with
  | some (x, b) => ∃ ea en ec oa on oc, e = .returned (.agg #[.int .i64 (x.kd : Int), .int .i64 (x.fr : Int), .int .i64 (x.up : Int), .int .i64 (x.tm : Int), .int .i64 (x.ix : Int), .int .i64 (x.lt : Int), .int .i64 (x.cm : Int), .bool x.ok, .slice ea en ec, .slice oa on oc, .string x.da, .bool x.la]) ∧ ownsR w' w.heap.size 47 (.slice ea en ec) x.es ∧ ownsR w' w.heap.size 3 (.slice oa on oc) (confT x.c) ∧ Rdr w' g s b ∧ Save g w w'
  | none => e = .panicked tornP ∧ Save g w w'
set_option maxRecDepth 10000 in
set_option maxHeartbeats 8000000 in
theorem message_any (g : Nat) (s : ByteArray) (a : Nat) (w : World) (hc : Rdr w g s a) (hs : s.size ≤ 1048576) :
    Calls Tryd.prog 40 #[.pointer (some ⟨g, 0, none⟩)] w (MsgR (msgP s a) g s w) := by
  obtain ⟨R, HR⟩ : ∃ R, Hid (msgP s a = R) := ⟨_, rfl⟩
  rw [HR.out]
  have hgl := hc.lt
  obtain ⟨W0, HW0⟩ : ∃ W, Hid (w.alloc (.cells #[.int .i64 0, .int .i64 0, .int .i64 0, .int .i64 0, .int .i64 0, .int .i64 0, .int .i64 0, .bool false, .slice none 0 0, .slice none 0 0, .string { data := #[] }, .bool false] 31) = W) := ⟨_, rfl⟩
  have C0 : Hid (Rdr W0 g s a) := by rw [← HW0.out]; exact heap_old hc _
  have S0 : Hid (Save g w W0) := by rw [← HW0.out]; exact (Save.refl g w).alloc _
  have K0 : Hid (Kc12 31 W0 w.heap.size (.int .i64 0) (.int .i64 0) (.int .i64 0) (.int .i64 0) (.int .i64 0) (.int .i64 0) (.int .i64 0) (.bool false) (.slice none 0 0) (.slice none 0 0) (.string { data := #[] }) (.bool false)) := by rw [← HW0.out]; exact Kc12.new _ _ _ _ _ _ _ _ _ _ _ _ _ _
  have C0g : g < W0.heap.size := C0.out.lt
  have hW0s : w.heap.size < W0.heap.size := K0.out.lt
  clear hc
  go_enter Tryd.func40, Tryd.ntmps40
  go_wp2_with fail
  rw [HW0.out]
  refine (oneByteR_any g s a _ C0.out hs).mono ?_
  rintro e w1 h
  cases hq0 : oneP s a with
  | none =>
    rw [hq0] at h
    obtain ⟨rfl, h1⟩ := h
    obtain rfl : R = none := by rw [← HR.out]; simp [msgP, hq0]
    have HS : Hid (Save g w w1) := S0.out.trans h1
    clear hq0 h1
    go_wp2
    exact ⟨rfl, rfl, HS.out⟩
  | some r =>
  obtain ⟨y0, a1⟩ := r
  rw [hq0] at h
  obtain ⟨rfl, h1, h2⟩ := h
  have C1 : Hid (Rdr w1 g s a1) := h1
  have S1 : Hid (Save g w w1) := S0.out.trans h2
  have K1 : Hid (Kc12 31 w1 w.heap.size (.int .i64 0) (.int .i64 0) (.int .i64 0) (.int .i64 0) (.int .i64 0) (.int .i64 0) (.int .i64 0) (.bool false) (.slice none 0 0) (.slice none 0 0) (.string { data := #[] }) (.bool false)) := K0.out.save h2 (by omega)
  have SZ1 : Hid (W0.heap.size ≤ w1.heap.size) := Nat.le_trans (Nat.le_refl _) h2.size
  have Hq0 : Hid (oneP s a = some (y0, a1)) := hq0
  clear hq0 h1 h2 C0 S0 K0
  go_wp2_with fail
  skip
  refine (oneByteR_any g s a1 _ C1.out hs).mono ?_
  rintro e w2 h
  cases hq1 : oneP s a1 with
  | none =>
    rw [hq1] at h
    obtain ⟨rfl, h1⟩ := h
    obtain rfl : R = none := by rw [← HR.out]; simp [msgP, Hq0.out, hq1]
    have HS : Hid (Save g w w2) := S1.out.trans h1
    clear hq1 h1
    go_wp2
    exact ⟨rfl, rfl, HS.out⟩
  | some r =>
  obtain ⟨y1, a2⟩ := r
  rw [hq1] at h
  obtain ⟨rfl, h1, h2⟩ := h
  have C2 : Hid (Rdr w2 g s a2) := h1
  have S2 : Hid (Save g w w2) := S1.out.trans h2
  have K2 : Hid (Kc12 31 w2 w.heap.size (.int .i64 0) (.int .i64 0) (.int .i64 0) (.int .i64 0) (.int .i64 0) (.int .i64 0) (.int .i64 0) (.bool false) (.slice none 0 0) (.slice none 0 0) (.string { data := #[] }) (.bool false)) := K1.out.save h2 (by omega)
  have SZ2 : Hid (W0.heap.size ≤ w2.heap.size) := Nat.le_trans SZ1.out h2.size
  have Hq1 : Hid (oneP s a1 = some (y1, a2)) := hq1
  clear hq1 h1 h2 C1 S1 K1
  go_wp2_with fail
  skip
  refine (oneByteR_any g s a2 _ C2.out hs).mono ?_
  rintro e w3 h
  cases hq2 : oneP s a2 with
  | none =>
    rw [hq2] at h
    obtain ⟨rfl, h1⟩ := h
    obtain rfl : R = none := by rw [← HR.out]; simp [msgP, Hq0.out, Hq1.out, hq2]
    have HS : Hid (Save g w w3) := S2.out.trans h1
    clear hq2 h1
    go_wp2
    exact ⟨rfl, rfl, HS.out⟩
  | some r =>
  obtain ⟨y2, a3⟩ := r
  rw [hq2] at h
  obtain ⟨rfl, h1, h2⟩ := h
  have C3 : Hid (Rdr w3 g s a3) := h1
  have S3 : Hid (Save g w w3) := S2.out.trans h2
  have K3 : Hid (Kc12 31 w3 w.heap.size (.int .i64 0) (.int .i64 0) (.int .i64 0) (.int .i64 0) (.int .i64 0) (.int .i64 0) (.int .i64 0) (.bool false) (.slice none 0 0) (.slice none 0 0) (.string { data := #[] }) (.bool false)) := K2.out.save h2 (by omega)
  have SZ3 : Hid (W0.heap.size ≤ w3.heap.size) := Nat.le_trans SZ2.out h2.size
  have Hq2 : Hid (oneP s a2 = some (y2, a3)) := hq2
  clear hq2 h1 h2 C2 S2 K2
  go_wp2_with fail
  skip
  refine (number_any g s a3 _ C3.out hs).mono ?_
  rintro e w4 h
  cases hq3 : numP s a3 with
  | none =>
    rw [hq3] at h
    obtain ⟨rfl, h1⟩ := h
    obtain rfl : R = none := by rw [← HR.out]; simp [msgP, Hq0.out, Hq1.out, Hq2.out, hq3]
    have HS : Hid (Save g w w4) := S3.out.trans h1
    clear hq3 h1
    go_wp2
    exact ⟨rfl, rfl, HS.out⟩
  | some r =>
  obtain ⟨y3, a4⟩ := r
  rw [hq3] at h
  obtain ⟨rfl, h1, h2⟩ := h
  have C4 : Hid (Rdr w4 g s a4) := h1
  have S4 : Hid (Save g w w4) := S3.out.trans h2
  have K4 : Hid (Kc12 31 w4 w.heap.size (.int .i64 0) (.int .i64 0) (.int .i64 0) (.int .i64 0) (.int .i64 0) (.int .i64 0) (.int .i64 0) (.bool false) (.slice none 0 0) (.slice none 0 0) (.string { data := #[] }) (.bool false)) := K3.out.save h2 (by omega)
  have SZ4 : Hid (W0.heap.size ≤ w4.heap.size) := Nat.le_trans SZ3.out h2.size
  have Hq3 : Hid (numP s a3 = some (y3, a4)) := hq3
  clear hq3 h1 h2 C3 S3 K3
  go_wp2_with fail
  skip
  refine (number_any g s a4 _ C4.out hs).mono ?_
  rintro e w5 h
  cases hq4 : numP s a4 with
  | none =>
    rw [hq4] at h
    obtain ⟨rfl, h1⟩ := h
    obtain rfl : R = none := by rw [← HR.out]; simp [msgP, Hq0.out, Hq1.out, Hq2.out, Hq3.out, hq4]
    have HS : Hid (Save g w w5) := S4.out.trans h1
    clear hq4 h1
    go_wp2
    exact ⟨rfl, rfl, HS.out⟩
  | some r =>
  obtain ⟨y4, a5⟩ := r
  rw [hq4] at h
  obtain ⟨rfl, h1, h2⟩ := h
  have C5 : Hid (Rdr w5 g s a5) := h1
  have S5 : Hid (Save g w w5) := S4.out.trans h2
  have K5 : Hid (Kc12 31 w5 w.heap.size (.int .i64 0) (.int .i64 0) (.int .i64 0) (.int .i64 0) (.int .i64 0) (.int .i64 0) (.int .i64 0) (.bool false) (.slice none 0 0) (.slice none 0 0) (.string { data := #[] }) (.bool false)) := K4.out.save h2 (by omega)
  have SZ5 : Hid (W0.heap.size ≤ w5.heap.size) := Nat.le_trans SZ4.out h2.size
  have Hq4 : Hid (numP s a4 = some (y4, a5)) := hq4
  clear hq4 h1 h2 C4 S4 K4
  go_wp2_with fail
  skip
  refine (number_any g s a5 _ C5.out hs).mono ?_
  rintro e w6 h
  cases hq5 : numP s a5 with
  | none =>
    rw [hq5] at h
    obtain ⟨rfl, h1⟩ := h
    obtain rfl : R = none := by rw [← HR.out]; simp [msgP, Hq0.out, Hq1.out, Hq2.out, Hq3.out, Hq4.out, hq5]
    have HS : Hid (Save g w w6) := S5.out.trans h1
    clear hq5 h1
    go_wp2
    exact ⟨rfl, rfl, HS.out⟩
  | some r =>
  obtain ⟨y5, a6⟩ := r
  rw [hq5] at h
  obtain ⟨rfl, h1, h2⟩ := h
  have C6 : Hid (Rdr w6 g s a6) := h1
  have S6 : Hid (Save g w w6) := S5.out.trans h2
  have K6 : Hid (Kc12 31 w6 w.heap.size (.int .i64 0) (.int .i64 0) (.int .i64 0) (.int .i64 0) (.int .i64 0) (.int .i64 0) (.int .i64 0) (.bool false) (.slice none 0 0) (.slice none 0 0) (.string { data := #[] }) (.bool false)) := K5.out.save h2 (by omega)
  have SZ6 : Hid (W0.heap.size ≤ w6.heap.size) := Nat.le_trans SZ5.out h2.size
  have Hq5 : Hid (numP s a5 = some (y5, a6)) := hq5
  clear hq5 h1 h2 C5 S5 K5
  go_wp2_with fail
  skip
  refine (number_any g s a6 _ C6.out hs).mono ?_
  rintro e w7 h
  cases hq6 : numP s a6 with
  | none =>
    rw [hq6] at h
    obtain ⟨rfl, h1⟩ := h
    obtain rfl : R = none := by rw [← HR.out]; simp [msgP, Hq0.out, Hq1.out, Hq2.out, Hq3.out, Hq4.out, Hq5.out, hq6]
    have HS : Hid (Save g w w7) := S6.out.trans h1
    clear hq6 h1
    go_wp2
    exact ⟨rfl, rfl, HS.out⟩
  | some r =>
  obtain ⟨y6, a7⟩ := r
  rw [hq6] at h
  obtain ⟨rfl, h1, h2⟩ := h
  have C7 : Hid (Rdr w7 g s a7) := h1
  have S7 : Hid (Save g w w7) := S6.out.trans h2
  have K7 : Hid (Kc12 31 w7 w.heap.size (.int .i64 0) (.int .i64 0) (.int .i64 0) (.int .i64 0) (.int .i64 0) (.int .i64 0) (.int .i64 0) (.bool false) (.slice none 0 0) (.slice none 0 0) (.string { data := #[] }) (.bool false)) := K6.out.save h2 (by omega)
  have SZ7 : Hid (W0.heap.size ≤ w7.heap.size) := Nat.le_trans SZ6.out h2.size
  have Hq6 : Hid (numP s a6 = some (y6, a7)) := hq6
  clear hq6 h1 h2 C6 S6 K6
  go_wp2_with fail
  skip
  refine (flagR_any g s a7 _ C7.out hs).mono ?_
  rintro e w8 h
  cases hq7 : flaP s a7 with
  | none =>
    rw [hq7] at h
    obtain ⟨rfl, h1⟩ := h
    obtain rfl : R = none := by rw [← HR.out]; simp [msgP, Hq0.out, Hq1.out, Hq2.out, Hq3.out, Hq4.out, Hq5.out, Hq6.out, hq7]
    have HS : Hid (Save g w w8) := S7.out.trans h1
    clear hq7 h1
    go_wp2
    exact ⟨rfl, rfl, HS.out⟩
  | some r =>
  obtain ⟨y7, a8⟩ := r
  rw [hq7] at h
  obtain ⟨rfl, h1, h2⟩ := h
  have C8 : Hid (Rdr w8 g s a8) := h1
  have S8 : Hid (Save g w w8) := S7.out.trans h2
  have K8 : Hid (Kc12 31 w8 w.heap.size (.int .i64 0) (.int .i64 0) (.int .i64 0) (.int .i64 0) (.int .i64 0) (.int .i64 0) (.int .i64 0) (.bool false) (.slice none 0 0) (.slice none 0 0) (.string { data := #[] }) (.bool false)) := K7.out.save h2 (by omega)
  have SZ8 : Hid (W0.heap.size ≤ w8.heap.size) := Nat.le_trans SZ7.out h2.size
  have Hq7 : Hid (flaP s a7 = some (y7, a8)) := hq7
  clear hq7 h1 h2 C7 S7 K7
  go_wp2_with fail
  skip
  refine (flagR_any g s a8 _ C8.out hs).mono ?_
  rintro e w9 h
  cases hq8 : flaP s a8 with
  | none =>
    rw [hq8] at h
    obtain ⟨rfl, h1⟩ := h
    obtain rfl : R = none := by rw [← HR.out]; simp [msgP, Hq0.out, Hq1.out, Hq2.out, Hq3.out, Hq4.out, Hq5.out, Hq6.out, Hq7.out, hq8]
    have HS : Hid (Save g w w9) := S8.out.trans h1
    clear hq8 h1
    go_wp2
    exact ⟨rfl, rfl, HS.out⟩
  | some r =>
  obtain ⟨y8, a9⟩ := r
  rw [hq8] at h
  obtain ⟨rfl, h1, h2⟩ := h
  have C9 : Hid (Rdr w9 g s a9) := h1
  have S9 : Hid (Save g w w9) := S8.out.trans h2
  have K9 : Hid (Kc12 31 w9 w.heap.size (.int .i64 0) (.int .i64 0) (.int .i64 0) (.int .i64 0) (.int .i64 0) (.int .i64 0) (.int .i64 0) (.bool false) (.slice none 0 0) (.slice none 0 0) (.string { data := #[] }) (.bool false)) := K8.out.save h2 (by omega)
  have SZ9 : Hid (W0.heap.size ≤ w9.heap.size) := Nat.le_trans SZ8.out h2.size
  have Hq8 : Hid (flaP s a8 = some (y8, a9)) := hq8
  clear hq8 h1 h2 C8 S8 K8
  go_wp2_with fail
  skip
  refine (entsR_any g s a9 _ C9.out hs).mono ?_
  rintro e w10 h
  cases hq9 : entsP s a9 with
  | none =>
    rw [hq9] at h
    obtain ⟨rfl, h1⟩ := h
    obtain rfl : R = none := by rw [← HR.out]; simp [msgP, Hq0.out, Hq1.out, Hq2.out, Hq3.out, Hq4.out, Hq5.out, Hq6.out, Hq7.out, Hq8.out, hq9]
    have HS : Hid (Save g w w10) := S9.out.trans h1
    clear hq9 h1
    go_wp2
    exact ⟨rfl, rfl, HS.out⟩
  | some r =>
  obtain ⟨y9, a10⟩ := r
  rw [hq9] at h
  obtain ⟨ea, en, ec, rfl, ho, h1, h2⟩ := h
  have C10 : Hid (Rdr w10 g s a10) := h1
  have S10 : Hid (Save g w w10) := S9.out.trans h2
  have K10 : Hid (Kc12 31 w10 w.heap.size (.int .i64 0) (.int .i64 0) (.int .i64 0) (.int .i64 0) (.int .i64 0) (.int .i64 0) (.int .i64 0) (.bool false) (.slice none 0 0) (.slice none 0 0) (.string { data := #[] }) (.bool false)) := K9.out.save h2 (by omega)
  have SZ10 : Hid (W0.heap.size ≤ w10.heap.size) := Nat.le_trans SZ9.out h2.size
  have Hq9 : Hid (entsP s a9 = some (y9, a10)) := hq9
  have OE10 : Hid (ownsR w10 W0.heap.size 47 (.slice ea en ec) y9) := ho.mono SZ9.out
  clear hq9 h1 h2 C9 S9 K9 ho
  go_wp2_with fail
  skip
  refine (confN_any g s a10 _ C10.out hs).mono ?_
  rintro e w11 h
  cases hq10 : shoP s a10 with
  | none =>
    rw [hq10] at h
    obtain ⟨rfl, h1⟩ := h
    obtain rfl : R = none := by rw [← HR.out]; simp [msgP, Hq0.out, Hq1.out, Hq2.out, Hq3.out, Hq4.out, Hq5.out, Hq6.out, Hq7.out, Hq8.out, Hq9.out, hq10]
    have HS : Hid (Save g w w11) := S10.out.trans h1
    clear hq10 h1
    go_wp2
    exact ⟨rfl, rfl, HS.out⟩
  | some r =>
  obtain ⟨y10, a11⟩ := r
  rw [hq10] at h
  obtain ⟨oa, on, oc, rfl, ho, h1, h2⟩ := h
  have C11 : Hid (Rdr w11 g s a11) := h1
  have S11 : Hid (Save g w w11) := S10.out.trans h2
  have K11 : Hid (Kc12 31 w11 w.heap.size (.int .i64 0) (.int .i64 0) (.int .i64 0) (.int .i64 0) (.int .i64 0) (.int .i64 0) (.int .i64 0) (.bool false) (.slice none 0 0) (.slice none 0 0) (.string { data := #[] }) (.bool false)) := K10.out.save h2 (by omega)
  have SZ11 : Hid (W0.heap.size ≤ w11.heap.size) := Nat.le_trans SZ10.out h2.size
  have Hq10 : Hid (shoP s a10 = some (y10, a11)) := hq10
  have OC11 : Hid (ownsR w11 W0.heap.size 3 (.slice oa on oc) (confT y10)) := ho.mono SZ10.out
  have OE11 : Hid (ownsR w11 W0.heap.size 47 (.slice ea en ec) y9) := OE10.out.saveE h2 C0g
  clear hq10 h1 h2 C10 S10 K10 ho OE10
  go_wp2_with fail
  skip
  refine (short_any g s a11 _ C11.out hs).mono ?_
  rintro e w12 h
  cases hq11 : shoP s a11 with
  | none =>
    rw [hq11] at h
    obtain ⟨rfl, h1⟩ := h
    obtain rfl : R = none := by rw [← HR.out]; simp [msgP, Hq0.out, Hq1.out, Hq2.out, Hq3.out, Hq4.out, Hq5.out, Hq6.out, Hq7.out, Hq8.out, Hq9.out, Hq10.out, hq11]
    have HS : Hid (Save g w w12) := S11.out.trans h1
    clear hq11 h1
    go_wp2
    exact ⟨rfl, rfl, HS.out⟩
  | some r =>
  obtain ⟨y11, a12⟩ := r
  rw [hq11] at h
  obtain ⟨rfl, h1, h2⟩ := h
  have C12 : Hid (Rdr w12 g s a12) := h1
  have S12 : Hid (Save g w w12) := S11.out.trans h2
  have K12 : Hid (Kc12 31 w12 w.heap.size (.int .i64 0) (.int .i64 0) (.int .i64 0) (.int .i64 0) (.int .i64 0) (.int .i64 0) (.int .i64 0) (.bool false) (.slice none 0 0) (.slice none 0 0) (.string { data := #[] }) (.bool false)) := K11.out.save h2 (by omega)
  have SZ12 : Hid (W0.heap.size ≤ w12.heap.size) := Nat.le_trans SZ11.out h2.size
  have Hq11 : Hid (shoP s a11 = some (y11, a12)) := hq11
  have OC12 : Hid (ownsR w12 W0.heap.size 3 (.slice oa on oc) (confT y10)) := OC11.out.saveE h2 C0g
  have OE12 : Hid (ownsR w12 W0.heap.size 47 (.slice ea en ec) y9) := OE11.out.saveE h2 C0g
  clear hq11 h1 h2 C11 S11 K11 OC11 OE11
  obtain rfl : R = some (⟨y0, y1, y2, y3, y4, y5, y6, y7, y8, y9, y10, y11⟩, a12) := by rw [← HR.out]; simp [msgP, Hq0.out, Hq1.out, Hq2.out, Hq3.out, Hq4.out, Hq5.out, Hq6.out, Hq7.out, Hq8.out, Hq9.out, Hq10.out, Hq11.out]
  have c0 := K12.out.c0
  have cf0 := K12.out.fz 0
  have c1 := K12.out.c1
  have cf1 := K12.out.fz 1
  have c2 := K12.out.c2
  have cf2 := K12.out.fz 2
  have c3 := K12.out.c3
  have cf3 := K12.out.fz 3
  have c4 := K12.out.c4
  have cf4 := K12.out.fz 4
  have c5 := K12.out.c5
  have cf5 := K12.out.fz 5
  have c6 := K12.out.c6
  have cf6 := K12.out.fz 6
  have c7 := K12.out.c7
  have cf7 := K12.out.fz 7
  have c8 := K12.out.c8
  have cf8 := K12.out.fz 8
  have c9 := K12.out.c9
  have cf9 := K12.out.fz 9
  have c10 := K12.out.c10
  have cf10 := K12.out.fz 10
  have c11 := K12.out.c11
  have cf11 := K12.out.fz 11
  have hlt8 := K12.out.lt
  go_wp2
  have KE := K12.out.set (.int .i64 (y0 : Int)) (.int .i64 (y1 : Int)) (.int .i64 (y2 : Int)) (.int .i64 (y3 : Int)) (.int .i64 (y4 : Int)) (.int .i64 (y5 : Int)) (.int .i64 (y6 : Int)) (.bool y7) (.slice ea en ec) (.slice oa on oc) (.string y11) (.bool y8)
  refine bodyPost_ret (ret_msg rfl rfl KE) rfl ?_
  refine ⟨ea, en, ec, oa, on, oc, rfl, ?_, ?_, heap_set12 C12.out (by omega) _ _ _ _ _ _ _ _ _ _ _ _, save_set12 S12.out (Nat.le_refl _) _ _ _ _ _ _ _ _ _ _ _ _⟩
  · exact (owns_set12 OE12.out hW0s _ _ _ _ _ _ _ _ _ _ _ _).mono (Nat.le_of_lt hW0s)
  · exact (owns_set12 OC12.out hW0s _ _ _ _ _ _ _ _ _ _ _ _).mono (Nat.le_of_lt hW0s)
end Go.Proofs.YtgjamikmjknlfaaDoor

namespace Go.Proofs.YtgjamikmjknlfaaDoor
open Go Go.RowKit
set_option linter.unusedVariables false

set_option maxRecDepth 10000 in
set_option maxHeartbeats 1000000 in
theorem catch_torn (p q : Nat) (x0 x1 x2 x3 x4 x5 x6 x7 x8 x9 x10 x11 y : Value) (older : List PanicEntry) (w : World) (hp : Kc12 31 w p x0 x1 x2 x3 x4 x5 x6 x7 x8 x9 x10 x11) (hq : w.heap[q]? = some (.cells #[y] 4)) (hpq : p ≠ q) (B : Nat) (h1 : B ≤ p) (h2 : B ≤ q) :
    CallsD Tryd.prog 78 #[.pointer (some ⟨p, 0, none⟩), .pointer (some ⟨q, 0, none⟩)] (.panicking ({ v := tornV, recovered := false } :: older)) w fun e u' w' =>
      e = .returned (.tuple #[]) ∧ u' = .panicking ({ v := tornV, recovered := true } :: older) ∧ Kc12 31 w' p (.int .i64 0) (.int .i64 0) (.int .i64 0) (.int .i64 0) (.int .i64 0) (.int .i64 0) (.int .i64 0) (.bool false) (.slice none 0 0) (.slice none 0 0) (.string { data := #[] }) (.bool false) ∧ w'.heap[q]? = some (.cells #[.bool false] 4) ∧ Below B w w' := by
  refine callsD_of_wpS Tryd.func78 rfl fun c₀ cs hu => ?_
  apply wpS_seq
  rw [frameM]
  have a1 := assert_tornM
  apply wpS_region
  simp only [tornV] at hu ⊢
  simp [wpOpsS, go_sem, recoverD, hu, a1, Exit.thenS]
  have g1 : Kc12 31 (w.alloc (.cells #[] 130)) p x0 x1 x2 x3 x4 x5 x6 x7 x8 x9 x10 x11 := heap_old hp _
  have g2 := heap_old hq (.cells #[] 130)
  have hb : Below B w (w.alloc (.cells #[] 130)) := (ba (Below.refl _ _) _).mono (by have := hp.lt; omega)
  generalize w.alloc (.cells #[] 130) = w1 at g1 g2 hb ⊢
  refine wpS_of_wp ?_
  obtain ⟨W2, HW2⟩ : ∃ V, w1.alloc (.cells #[.int .i64 0, .int .i64 0, .int .i64 0, .int .i64 0, .int .i64 0, .int .i64 0, .int .i64 0, .bool false, .slice none 0 0, .slice none 0 0, .string { data := #[] }, .bool false] 31) = V := ⟨_, rfl⟩
  have k1 : Kc12 31 W2 p x0 x1 x2 x3 x4 x5 x6 x7 x8 x9 x10 x11 := by rw [← HW2]; exact heap_old g1 _
  have k2 : W2.heap[q]? = some (.cells #[y] 4) := by rw [← HW2]; exact heap_old g2 _
  have k3 : Kc12 31 W2 w1.heap.size (.int .i64 0) (.int .i64 0) (.int .i64 0) (.int .i64 0) (.int .i64 0) (.int .i64 0) (.int .i64 0) (.bool false) (.slice none 0 0) (.slice none 0 0) (.string { data := #[] }) (.bool false) := by rw [← HW2]; exact Kc12.new _ _ _ _ _ _ _ _ _ _ _ _ _ _
  have hb2 : Below B w W2 := by rw [← HW2]; exact Below.alloc hb (by have := g1.lt; omega) _
  have hpl : p < w1.heap.size := g1.lt
  have hql : q < w1.heap.size := (Array.getElem?_eq_some_iff.1 g2).1
  have c0 := k1.c0
  have c1 := k1.c1
  have c2 := k1.c2
  have c3 := k1.c3
  have c4 := k1.c4
  have c5 := k1.c5
  have c6 := k1.c6
  have c7 := k1.c7
  have c8 := k1.c8
  have c9 := k1.c9
  have c10 := k1.c10
  have c11 := k1.c11
  have cf0 := k1.fz 0
  have cf1 := k1.fz 1
  have cf2 := k1.fz 2
  have cf3 := k1.fz 3
  have cf4 := k1.fz 4
  have cf5 := k1.fz 5
  have cf6 := k1.fz 6
  have cf7 := k1.fz 7
  have cf8 := k1.fz 8
  have cf9 := k1.fz 9
  have cf10 := k1.fz 10
  have cf11 := k1.fz 11
  have d0 := one_cellM k2
  have e0 := one_fzM k2
  have n0 := k3.c0
  have n1 := k3.c1
  have n2 := k3.c2
  have n3 := k3.c3
  have n4 := k3.c4
  have n5 := k3.c5
  have n6 := k3.c6
  have n7 := k3.c7
  have n8 := k3.c8
  have n9 := k3.c9
  have n10 := k3.c10
  have n11 := k3.c11
  clear g1 g2 hb
  go_wp2
  have KE := k1.set (.int .i64 0) (.int .i64 0) (.int .i64 0) (.int .i64 0) (.int .i64 0) (.int .i64 0) (.int .i64 0) (.bool false) (.slice none 0 0) (.slice none 0 0) (.string { data := #[] }) (.bool false)
  refine ⟨rfl, _, rfl, .tuple #[], results_none rfl _ _ _, rfl, rfl, ?_, ?_, ?_⟩
  · exact heap_far KE (by show q ≠ p; omega) _
  · exact one_setM (heap_set12 k2 (by omega) _ _ _ _ _ _ _ _ _ _ _ _) _
  · exact Below.setCell (below_set12 hb2 h1 _ _ _ _ _ _ _ _ _ _ _ _) (by show B ≤ q; omega) _
set_option maxRecDepth 10000 in
set_option maxHeartbeats 400000 in
theorem catch_idle (p q : Nat) (w : World) :
    CallsD Tryd.prog 78 #[.pointer (some ⟨p, 0, none⟩), .pointer (some ⟨q, 0, none⟩)] .returning w fun e u' w' => e = .returned (.tuple #[]) ∧ u' = .returning ∧ Below w.heap.size w w' := by
  refine callsD_of_wpS Tryd.func78 rfl fun c₀ cs hu => ?_
  apply wpS_seq
  rw [frameM]
  have a1 := assert_nilM
  apply wpS_region
  simp [wpOpsS, go_sem, recoverD, hu, a1, Exit.thenS]
  have hb : Below w.heap.size w (w.alloc (.cells #[] 130)) := ba (Below.refl _ _) _
  generalize w.alloc (.cells #[] 130) = w1 at hb ⊢
  refine wpS_of_wp ?_
  go_wp2
  exact ⟨rfl, .returning, by rw [← hu], .tuple #[], results_none rfl _ _ _, rfl, rfl, hb⟩
theorem ret_rw {fn : Func} {p q : Tmp} {w : World} {g k : Nat} {x0 x1 x2 x3 x4 x5 x6 x7 x8 x9 x10 x11 y : Value} {tmps : Array Value} (h : fn.results = #[.cell p 31, .cell q 4]) (hp : tmps.getD p undef = .pointer (some ⟨g, 0, none⟩)) (hq : tmps.getD q undef = .pointer (some ⟨k, 0, none⟩)) (hb : Kc12 31 w g x0 x1 x2 x3 x4 x5 x6 x7 x8 x9 x10 x11) (hk : w.heap[k]? = some (.cells #[y] 4)) :
    (results fn tmps).run Tryd.prog w = .ok (.tuple #[.agg #[x0, x1, x2, x3, x4, x5, x6, x7, x8, x9, x10, x11], y]) w := by
  have hp' : tmps[p]?.getD undef = .pointer (some ⟨g, 0, none⟩) := by simpa using hp
  have hq' : tmps[q]?.getD undef = .pointer (some ⟨k, 0, none⟩) := by simpa using hq
  have h4 := one_cellM hk
  simp [results, h, hp', hq', hb.c0, hb.c1, hb.c2, hb.c3, hb.c4, hb.c5, hb.c6, hb.c7, hb.c8, hb.c9, hb.c10, hb.c11, h4, asAddr, go_sem]
set_option maxRecDepth 10000 in
theorem door_torn {R : Ending → World → Prop} {W : World} {T : Array Value} {p q B : Nat} {x0 x1 x2 x3 x4 x5 x6 x7 x8 x9 x10 x11 y : Value} (hp : Kc12 31 W p x0 x1 x2 x3 x4 x5 x6 x7 x8 x9 x10 x11) (hq : W.heap[q]? = some (.cells #[y] 4)) (hpq : p ≠ q) (h1 : B ≤ p) (h2 : B ≤ q)
    (t2 : T.getD 4 undef = .pointer (some ⟨p, 0, none⟩)) (t3 : T.getD 5 undef = .pointer (some ⟨q, 0, none⟩))
    (hR : ∀ w', Below B W w' → R (.returned (.tuple #[.agg #[.int .i64 0, .int .i64 0, .int .i64 0, .int .i64 0, .int .i64 0, .int .i64 0, .int .i64 0, .bool false, .slice none 0 0, .slice none 0 0, .string { data := #[] }, .bool false], .bool false])) w') :
    bodyPostD Tryd.prog Tryd.f63 R (Exit.panic tornP) { tmps := T, defers := [{ target := Target.fn (Fn.func 78) #[.pointer (some ⟨p, 0, none⟩), .pointer (some ⟨q, 0, none⟩)], args := #[] }] } W := by
  refine leaves_cons (f := 78) (args := #[.pointer (some ⟨p, 0, none⟩), .pointer (some ⟨q, 0, none⟩)]) (by simp) (by simp [go_sem]) ?_
  refine (catch_torn p q x0 x1 x2 x3 x4 x5 x6 x7 x8 x9 x10 x11 y [] W hp hq hpq B h1 h2).mono ?_
  rintro e u' w'' ⟨rfl, rfl, g1, g2, hb⟩
  exact ⟨_, ret_rw rfl t2 t3 g1 g2, hR _ hb⟩
set_option maxRecDepth 10000 in
theorem door_done {R : Ending → World → Prop} {W : World} {T : Array Value} {p q : Nat} {x0 x1 x2 x3 x4 x5 x6 x7 x8 x9 x10 x11 y : Value} (hp : Kc12 31 W p x0 x1 x2 x3 x4 x5 x6 x7 x8 x9 x10 x11) (hq : W.heap[q]? = some (.cells #[y] 4))
    (t2 : T.getD 4 undef = .pointer (some ⟨p, 0, none⟩)) (t3 : T.getD 5 undef = .pointer (some ⟨q, 0, none⟩))
    (hR : ∀ w', Below W.heap.size W w' → R (.returned (.tuple #[.agg #[x0, x1, x2, x3, x4, x5, x6, x7, x8, x9, x10, x11], y])) w') :
    bodyPostD Tryd.prog Tryd.f63 R Exit.ret { tmps := T, defers := [{ target := Target.fn (Fn.func 78) #[.pointer (some ⟨p, 0, none⟩), .pointer (some ⟨q, 0, none⟩)], args := #[] }] } W := by
  refine leaves_cons (f := 78) (args := #[.pointer (some ⟨p, 0, none⟩), .pointer (some ⟨q, 0, none⟩)]) (by simp) (by simp [go_sem]) ?_
  refine (catch_idle p q W).mono ?_
  rintro e u' w'' ⟨rfl, rfl, hb⟩
  exact ⟨_, ret_rw rfl t2 t3 (hp.up hb) (blk_upR hq hb), hR _ hb⟩

def zeroM : Mg8 := ⟨0, 0, 0, 0, 0, 0, 0, false, false, [], ByteArray.empty, ByteArray.empty⟩
theorem confT_zero : confT ByteArray.empty = [] := confT_no (okC_nil (by rw [bytesI_length]; rfl))
theorem ownsC_nil (w : World) (B : Nat) : ownsR w B 3 (.slice none 0 0) (confT zeroM.c) := by
  show ownsR w B 3 _ (confT ByteArray.empty)
  rw [confT_zero]
  exact ownsR_nil _ _ _
/-- The message that the whole of a text tells. -/
def rwM (s : ByteArray) : Option Mg8 := match msgP s 0 with
  | some (x, b) => if b = s.size then some x else none
  | none => none
def RwM (x : Mg8) (z : Bool) (w : World) (e : Ending) (w' : World) : Prop := ∃ ea en ec oa on oc, e = .returned (.tuple #[.agg #[.int .i64 (x.kd : Int), .int .i64 (x.fr : Int), .int .i64 (x.up : Int), .int .i64 (x.tm : Int), .int .i64 (x.ix : Int), .int .i64 (x.lt : Int), .int .i64 (x.cm : Int), .bool x.ok, .slice ea en ec, .slice oa on oc, .string x.da, .bool x.la], .bool z]) ∧ ownsR w' w.heap.size 47 (.slice ea en ec) x.es ∧ ownsR w' w.heap.size 3 (.slice oa on oc) (confT x.c) ∧ Below w.heap.size w w'
set_option maxRecDepth 10000 in
set_option maxHeartbeats 8000000 in
theorem readWhole_any (s : ByteArray) (w : World) (hs : s.size ≤ 1048576) :
    Calls Tryd.prog 63 #[.string s, .func (.func 40) #[] #[]] w (RwM ((rwM s).getD zeroM) (rwM s).isSome w) := by
  have hmf : ∀ (fn : Fn) (first cap : Array Value) (w : World), (Instr.makeFunc fn first cap).run Tryd.prog w = .ok (.func fn first cap) w := fun _ _ _ _ => rfl
  obtain ⟨R, HR⟩ : ∃ R, Hid (rwM s = R) := ⟨_, rfl⟩
  rw [HR.out]
  obtain ⟨W0, HW0⟩ : ∃ V, Hid (((w.alloc (.cells #[.int .i64 0, .int .i64 0, .int .i64 0, .int .i64 0, .int .i64 0, .int .i64 0, .int .i64 0, .bool false, .slice none 0 0, .slice none 0 0, .string { data := #[] }, .bool false] 31)).alloc (.cells #[.bool false] 4)).alloc (.cells #[.string s, .int .i64 0] 133) = V) := ⟨_, rfl⟩
  have G1 : Hid (Kc12 31 W0 w.heap.size (.int .i64 0) (.int .i64 0) (.int .i64 0) (.int .i64 0) (.int .i64 0) (.int .i64 0) (.int .i64 0) (.bool false) (.slice none 0 0) (.slice none 0 0) (.string { data := #[] }) (.bool false)) := by rw [← HW0.out]; exact heap_old (heap_old (Kc12.new _ _ _ _ _ _ _ _ _ _ _ _ _ _) _) _
  have G2 : Hid (W0.heap[w.heap.size + 1]? = some (.cells #[.bool false] 4)) := by rw [← HW0.out]; exact heap_old (heap_next _ _ _) _
  have GR : Hid (Rdr W0 (w.heap.size + 2) s 0) := by
    rw [← HW0.out]
    have := heap_last ((w.alloc (.cells #[.int .i64 0, .int .i64 0, .int .i64 0, .int .i64 0, .int .i64 0, .int .i64 0, .int .i64 0, .bool false, .slice none 0 0, .slice none 0 0, .string { data := #[] }, .bool false] 31)).alloc (.cells #[.bool false] 4)) (.cells #[.string s, .int .i64 0] 133)
    rw [World.size_alloc, World.size_alloc] at this
    exact this
  have B0 : Hid (Below w.heap.size w W0) := by rw [← HW0.out]; exact ba (ba (ba (Below.refl _ _) _) _) _
  have hgW : w.heap.size + 2 < W0.heap.size := GR.out.lt
  go_enter_defers Tryd.func63, Tryd.ntmps63
  go_wp2_with fail
  rw [HW0.out]
  refine (message_any (w.heap.size + 2) s 0 _ GR.out hs).mono ?_
  rintro e w1 h
  cases hq : msgP s 0 with
  | none =>
    rw [hq] at h
    obtain ⟨rfl, h1⟩ := h
    obtain rfl : R = none := by rw [← HR.out]; unfold rwM; rw [hq]
    have g1 := G1.out.save h1 (by omega)
    have g2 := h1.heap (k := w.heap.size + 1) (by omega) G2.out
    have hb := Save.under (B := w.heap.size) B0.out h1 (by omega) B0.out.size
    clear hq h1
    go_wp2
    exact door_torn g1 g2 (by omega) (Nat.le_refl _) (by omega) rfl rfl fun w' h => ⟨none, 0, 0, none, 0, 0, rfl, ownsR_nil _ _ _, ownsC_nil _ _, hb.trans h⟩
  | some r =>
  obtain ⟨⟨y0, y1, y2, y3, y4, y5, y6, y7, y8, y9, y10, y11⟩, b⟩ := r
  rw [hq] at h
  obtain ⟨ea, en, ec, oa, on, oc, rfl, hoe, hoc, h0, h1⟩ := h
  have OE1 : Hid (ownsR w1 W0.heap.size 47 (.slice ea en ec) y9) := hoe
  have OC1 : Hid (ownsR w1 W0.heap.size 3 (.slice oa on oc) (confT y10)) := hoc
  have K1 : Hid (Kc12 31 w1 w.heap.size (.int .i64 0) (.int .i64 0) (.int .i64 0) (.int .i64 0) (.int .i64 0) (.int .i64 0) (.int .i64 0) (.bool false) (.slice none 0 0) (.slice none 0 0) (.string { data := #[] }) (.bool false)) := G1.out.save h1 (by omega)
  have L1 : Hid (w1.heap[w.heap.size + 1]? = some (.cells #[.bool false] 4)) := h1.heap (k := w.heap.size + 1) (by omega) G2.out
  have B1 : Hid (Below w.heap.size w w1) := Save.under (B := w.heap.size) B0.out h1 (by omega) B0.out.size
  have R1 : Hid (Rdr w1 (w.heap.size + 2) s b) := h0
  have HQ : Hid (msgP s 0 = some (⟨y0, y1, y2, y3, y4, y5, y6, y7, y8, y9, y10, y11⟩, b)) := hq
  clear hq h0 h1 G1 G2 GR B0 hoe hoc
  have hlt : w.heap.size < w1.heap.size := K1.out.lt
  have c0 := K1.out.c0
  have cf0 := K1.out.fz 0
  have c1 := K1.out.c1
  have cf1 := K1.out.fz 1
  have c2 := K1.out.c2
  have cf2 := K1.out.fz 2
  have c3 := K1.out.c3
  have cf3 := K1.out.fz 3
  have c4 := K1.out.c4
  have cf4 := K1.out.fz 4
  have c5 := K1.out.c5
  have cf5 := K1.out.fz 5
  have c6 := K1.out.c6
  have cf6 := K1.out.fz 6
  have c7 := K1.out.c7
  have cf7 := K1.out.fz 7
  have c8 := K1.out.c8
  have cf8 := K1.out.fz 8
  have c9 := K1.out.c9
  have cf9 := K1.out.fz 9
  have c10 := K1.out.c10
  have cf10 := K1.out.fz 10
  have c11 := K1.out.c11
  have cf11 := K1.out.fz 11
  dsimp only
  go_wp2_with fail
  obtain ⟨W2, HW2⟩ : ∃ V, Hid (set12 w1 w.heap.size (.int .i64 (y0 : Int)) (.int .i64 (y1 : Int)) (.int .i64 (y2 : Int)) (.int .i64 (y3 : Int)) (.int .i64 (y4 : Int)) (.int .i64 (y5 : Int)) (.int .i64 (y6 : Int)) (.bool y7) (.slice ea en ec) (.slice oa on oc) (.string y11) (.bool y8) = V) := ⟨_, rfl⟩
  have K2 : Hid (Kc12 31 W2 w.heap.size (.int .i64 (y0 : Int)) (.int .i64 (y1 : Int)) (.int .i64 (y2 : Int)) (.int .i64 (y3 : Int)) (.int .i64 (y4 : Int)) (.int .i64 (y5 : Int)) (.int .i64 (y6 : Int)) (.bool y7) (.slice ea en ec) (.slice oa on oc) (.string y11) (.bool y8)) := by rw [← HW2.out]; exact K1.out.set _ _ _ _ _ _ _ _ _ _ _ _
  have L2 : Hid (W2.heap[w.heap.size + 1]? = some (.cells #[.bool false] 4)) := by rw [← HW2.out]; exact heap_set12 L1.out (by omega) _ _ _ _ _ _ _ _ _ _ _ _
  have B2 : Hid (Below w.heap.size w W2) := by rw [← HW2.out]; exact below_set12 B1.out (Nat.le_refl _) _ _ _ _ _ _ _ _ _ _ _ _
  have R2 : Hid (Rdr W2 (w.heap.size + 2) s b) := by rw [← HW2.out]; exact heap_set12 R1.out (by omega) _ _ _ _ _ _ _ _ _ _ _ _
  have OE2 : Hid (ownsR W2 W0.heap.size 47 (.slice ea en ec) y9) := by rw [← HW2.out]; exact owns_set12 OE1.out (by omega) _ _ _ _ _ _ _ _ _ _ _ _
  have OC2 : Hid (ownsR W2 W0.heap.size 3 (.slice oa on oc) (confT y10)) := by rw [← HW2.out]; exact owns_set12 OC1.out (by omega) _ _ _ _ _ _ _ _ _ _ _ _
  have hw2 := HW2.out
  unfold set12 at hw2
  rw [hw2]
  clear hw2 K1 L1 B1 R1 OE1 OC1 c0 cf0 c1 cf1 c2 cf2 c3 cf3 c4 cf4 c5 cf5 c6 cf6 c7 cf7 c8 cf8 c9 cf9 c10 cf10 c11 cf11
  by_cases hb : b = s.size
  · obtain rfl : R = some ⟨y0, y1, y2, y3, y4, y5, y6, y7, y8, y9, y10, y11⟩ := by rw [← HR.out]; unfold rwM; rw [HQ.out]; simp [hb]
    subst hb
    refine (end_yes _ _ _ R2.out).mono ?_
    rintro e w3 ⟨rfl, h3⟩
    have K3 := K2.out.up h3
    have L3 := blk_upR L2.out h3
    have B3 := Below.on B2.out h3
    have OE3 := OE2.out.all h3
    have OC3 := OC2.out.all h3
    clear K2 L2 B2 R2 OE2 OC2 h3
    have hlt3 : w.heap.size < w3.heap.size := K3.lt
    have c0 := K3.c0
    have cf0 := K3.fz 0
    have c1 := K3.c1
    have cf1 := K3.fz 1
    have c2 := K3.c2
    have cf2 := K3.fz 2
    have c3 := K3.c3
    have cf3 := K3.fz 3
    have c4 := K3.c4
    have cf4 := K3.fz 4
    have c5 := K3.c5
    have cf5 := K3.fz 5
    have c6 := K3.c6
    have cf6 := K3.fz 6
    have c7 := K3.c7
    have cf7 := K3.fz 7
    have c8 := K3.c8
    have cf8 := K3.fz 8
    have c9 := K3.c9
    have cf9 := K3.fz 9
    have c10 := K3.c10
    have cf10 := K3.fz 10
    have c11 := K3.c11
    have cf11 := K3.fz 11
    have d0 := one_cellM L3
    have e0 := one_fzM L3
    go_wp2
    have KF := K3.set (.int .i64 (y0 : Int)) (.int .i64 (y1 : Int)) (.int .i64 (y2 : Int)) (.int .i64 (y3 : Int)) (.int .i64 (y4 : Int)) (.int .i64 (y5 : Int)) (.int .i64 (y6 : Int)) (.bool y7) (.slice ea en ec) (.slice oa on oc) (.string y11) (.bool y8)
    have LF := heap_set12 L3 (show w.heap.size ≠ w.heap.size + 1 by omega) (.int .i64 (y0 : Int)) (.int .i64 (y1 : Int)) (.int .i64 (y2 : Int)) (.int .i64 (y3 : Int)) (.int .i64 (y4 : Int)) (.int .i64 (y5 : Int)) (.int .i64 (y6 : Int)) (.bool y7) (.slice ea en ec) (.slice oa on oc) (.string y11) (.bool y8)
    have OGE := (owns_set12 OE3 (b := w.heap.size) (by omega) (.int .i64 (y0 : Int)) (.int .i64 (y1 : Int)) (.int .i64 (y2 : Int)) (.int .i64 (y3 : Int)) (.int .i64 (y4 : Int)) (.int .i64 (y5 : Int)) (.int .i64 (y6 : Int)) (.bool y7) (.slice ea en ec) (.slice oa on oc) (.string y11) (.bool y8)).setBelow (a := ⟨w.heap.size + 1, 0, none⟩) (by show w.heap.size + 1 < _; omega) (.bool true)
    have OGC := (owns_set12 OC3 (b := w.heap.size) (by omega) (.int .i64 (y0 : Int)) (.int .i64 (y1 : Int)) (.int .i64 (y2 : Int)) (.int .i64 (y3 : Int)) (.int .i64 (y4 : Int)) (.int .i64 (y5 : Int)) (.int .i64 (y6 : Int)) (.bool y7) (.slice ea en ec) (.slice oa on oc) (.string y11) (.bool y8)).setBelow (a := ⟨w.heap.size + 1, 0, none⟩) (by show w.heap.size + 1 < _; omega) (.bool true)
    exact door_done (heap_far KF (by show w.heap.size + 1 ≠ w.heap.size; omega) _) (one_setM LF _) rfl rfl fun w' h => ⟨ea, en, ec, oa, on, oc, rfl, (OGE.all h).mono (by omega), (OGC.all h).mono (by omega), (Below.setCell (below_set12 B3 (Nat.le_refl _) (.int .i64 (y0 : Int)) (.int .i64 (y1 : Int)) (.int .i64 (y2 : Int)) (.int .i64 (y3 : Int)) (.int .i64 (y4 : Int)) (.int .i64 (y5 : Int)) (.int .i64 (y6 : Int)) (.bool y7) (.slice ea en ec) (.slice oa on oc) (.string y11) (.bool y8)) (p := ⟨w.heap.size + 1, 0, none⟩) (by show w.heap.size ≤ w.heap.size + 1; omega) _).trans (h.mono (by simp; omega))⟩
  · obtain rfl : R = none := by rw [← HR.out]; unfold rwM; rw [HQ.out]; simp [hb]
    refine (end_no _ _ b _ R2.out hb).mono ?_
    rintro e w3 ⟨rfl, h3⟩
    have K3 := K2.out.up h3
    have L3 := blk_upR L2.out h3
    have B3 := Below.on B2.out h3
    clear K2 L2 B2 R2 OE2 OC2 h3
    go_wp2
    exact door_torn K3 L3 (by omega) (Nat.le_refl _) (by omega) rfl rfl fun w' h => ⟨none, 0, 0, none, 0, 0, rfl, ownsR_nil _ _ _, ownsC_nil _ _, B3.trans h⟩
end Go.Proofs.YtgjamikmjknlfaaDoor
