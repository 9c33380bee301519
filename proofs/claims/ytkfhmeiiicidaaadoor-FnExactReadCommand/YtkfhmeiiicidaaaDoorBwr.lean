/-
  Bytes that are written one piece behind the other: the writer's methods.
-/
import Derived.Test.YtkfhmeiiicidaaaDoorShelfW
import Derived.Test.YtkfhmeiiicidaaaDoorCmt
import Derived.Test.YtkfhmeiiicidaaaDoorSh
import Derived.Test.YtkfhmeiiicidaaaDoorPt
namespace Go.Proofs.YtkfhmeiiicidaaaDoor
open Go Go.RowKit
set_option linter.unusedVariables false

/-- A writer of the call's own that holds a text. -/
def Wb (b : Nat) (s : ByteArray) (w : World) : Prop := LibA.IsBuffer 44 (fun _ => none) 5 b b 0 (Lib.byteCells s.data.toList) w
theorem Wb.lt {b : Nat} {s : ByteArray} {w : World} (h : Wb b s w) : b < w.heap.size := LibA.IsBuffer.lt h
theorem Wb.up {b : Nat} {s : ByteArray} {w w' : World} (h : Wb b s w) (hb : Below w.heap.size w w') : Wb b s w' := LibA.IsBuffer.old h hb
theorem Wb.new (w : World) : Wb w.heap.size ByteArray.empty (w.alloc (.cells #[.slice none 0 0, .int .i64 0, .int .i8 0] 44)) :=
  LibA.zero_isBuffer (lr := 0) (Nat.le_refl _) (LibA.three_whole (by show (w.heap.push _)[w.heap.size]? = _; rw [Array.getElem?_push, if_pos rfl]))
/-- All but the writer, and rows of bytes, is as it was. -/
structure Wk (b : Nat) (w w' : World) : Prop where
  below : Below b w w'
  kept : Lib.OthersKept 5 (some b) w w'
theorem Wk.refl (b : Nat) (w : World) : Wk b w w := ⟨Below.refl _ _, Lib.OthersKept.refl _ _ _⟩
theorem Wk.trans {b : Nat} {a c d : World} (h : Wk b a c) (k : Wk b c d) : Wk b a d := ⟨⟨k.below.os.trans h.below.os, k.below.tape.trans h.below.tape, k.below.output.trans h.below.output, Nat.le_trans h.below.size k.below.size, fun q hq => (k.below.block q hq).trans (h.below.block q hq)⟩, h.kept.trans k.kept⟩
theorem Wk.of_below {b : Nat} {w w' : World} (hb : Below w.heap.size w w') (hl : b ≤ w.heap.size) : Wk b w w' :=
  ⟨⟨hb.os, hb.tape, hb.output, hb.size, fun q hq => hb.block q (by omega)⟩, fun k o h _ _ => (hb.block k (Array.getElem?_eq_some_iff.1 h).1).trans h⟩
theorem Wk.row {b g : Nat} {w w' : World} {cs : Array Value} {e : TypeId} {fz : Nat × Nat} (h : Wk b w w') (hg : w.heap[g]? = some (.cells cs e fz)) (hgb : g ≠ b) (he : e ≠ 5) : w'.heap[g]? = some (.cells cs e fz) :=
  h.kept g _ hg (by simpa using hgb) fun c fz' q => by injection q with _ q2; exact he q2
theorem bytes_snoc (s t : ByteArray) : Lib.byteCells s.data.toList ++ Lib.byteCells t.data.toList = Lib.byteCells (s ++ t).data.toList := by
  rw [← Lib.byteCells_append]
  congr 1
theorem bytes_len (s : ByteArray) : (Lib.byteCells s.data.toList).length = s.size := by
  rw [Lib.byteCells_length]
  rfl
theorem writeText_any (b : Nat) (s t : ByteArray) (w : World) (h : Wb b s w) (hl : s.size + t.size ≤ 140737488355328) :
    Calls Tryd.prog 36 #[.pointer (some ⟨b, 0, none⟩), .string t] w fun e w' => e = .returned (.tuple #[.int .i64 t.size, .nilIface]) ∧ Wb b (s ++ t) w' ∧ Wk b w w' := by
  refine (Tryd.Buffer_WriteString_at 44 (fun _ => none) b b 0 _ t w h (Nat.le_of_lt h.lt) (Lib.byteCells_one _) (by rw [bytes_len]; exact hl)).mono ?_
  rintro e w' ⟨rfl, h1, h2, h3⟩
  refine ⟨rfl, ?_, h2, h3⟩
  rw [bytes_snoc] at h1
  exact h1
theorem bstr_one (c : Int) (h0 : 0 ≤ c) (h1 : c ≤ 255) : (bstr [c]).data.toList = [c.toNat.toUInt8] := by
  unfold bstr
  simp
theorem writeByte_any (b : Nat) (s : ByteArray) (c : Int) (w : World) (h : Wb b s w) (h0 : 0 ≤ c) (h1 : c ≤ 255) (hl : s.size + 1 ≤ 140737488355328) :
    Calls Tryd.prog 34 #[.pointer (some ⟨b, 0, none⟩), .int .u8 c] w fun e w' => e = .returned .nilIface ∧ Wb b (s ++ bstr [c]) w' ∧ Wk b w w' := by
  refine (Tryd.Buffer_WriteByte_at 44 (fun _ => none) b b 0 _ c w h (Nat.le_of_lt h.lt) (Lib.byteCells_one _) (by rw [bytes_len]; exact hl)).mono ?_
  rintro e w' ⟨rfl, h1', h2, h3⟩
  refine ⟨rfl, ?_, h2, h3⟩
  have e2 : Lib.byteCells (bstr [c]).data.toList = [.int .u8 c] := by
    rw [bstr_one c h0 h1]
    simp only [Lib.byteCells, List.map_cons, List.map_nil]
    congr 2
    have : c.toNat < 256 := by omega
    simp [Nat.toUInt8]
    omega
  rw [← e2, bytes_snoc] at h1'
  exact h1'
/-- Numbers, one behind the other. -/
def numS : List Int → ByteArray
  | [] => ByteArray.empty
  | n :: l => bstr (varI n.toNat) ++ numS l
theorem numS_snoc : ∀ (l : List Int) (n : Int), numS (l ++ [n]) = numS l ++ bstr (varI n.toNat)
  | [], n => by simp [numS]
  | m :: l, n => by simp [numS, numS_snoc l n, ByteArray.append_assoc]
theorem numS_take {l : List Int} {k : Nat} {n : Int} (h : l[k]? = some n) : numS (l.take (k + 1)) = numS (l.take k) ++ bstr (varI n.toNat) := by
  rw [List.take_add_one, h]
  exact numS_snoc _ _
theorem numS_size : ∀ (l : List Int), (∀ n ∈ l, n ≤ 1000000000) → (numS l).size ≤ l.length * 1000000001
  | [], _ => Nat.zero_le _
  | n :: l, h => by
    have h1 := numS_size l fun m hm => h m (List.mem_cons_of_mem _ hm)
    have h2 := var_size n.toNat
    have h3 := h n List.mem_cons_self
    simp only [numS, ByteArray.size_append, List.length_cons]
    omega
set_option maxRecDepth 10000 in
set_option maxHeartbeats 2000000 in
theorem numbers_any (b g m : Nat) (ns : List Int) (fz : Nat × Nat) (s : ByteArray) (w : World) (h : Wb b s w) (hg : w.heap[g]? = some (.cells (ns.map fun n => Value.int .i64 n).toArray 3 fz)) (hgb : g ≠ b) (hn : ∀ n ∈ ns, 0 ≤ n ∧ n ≤ 1000000000) (hm : ns.length = m) (hm8 : m ≤ 8) (hs : s.size ≤ 100000000000000) :
    Calls Tryd.prog 19 #[.pointer (some ⟨b, 0, none⟩), .slice (some ⟨g, 0, none⟩) m m] w fun e w' => e = .returned (.tuple #[]) ∧ Wb b (s ++ numS ns) w' ∧ Wk b w w' := by
  have HN : Hid (∀ n ∈ ns, 0 ≤ n ∧ n ≤ 1000000000) := hn
  have HM : Hid (ns.length = m) := hm
  have HG : Hid (w.heap[g]? = some (.cells (ns.map fun n => Value.int .i64 n).toArray 3 fz)) := hg
  have HB : Hid (Wb b s w) := h
  have hbl := h.lt
  clear h hn hm hg
  go_enter Tryd.func19, Tryd.ntmps19
  go_wp2
  go_loopw [10] (fun i wr => ∃ k : Nat, k ≤ m ∧ i = .int .i64 k ∧ Hid (Wb b (s ++ numS (ns.take k)) wr) ∧ Hid (Wk b w wr)) (fun i _ => m - (intOf i).toNat)
  case atStart => exact ⟨0, Nat.zero_le _, rfl, (by show Wb _ _ _; simpa [numS] using HB.out), Wk.refl _ _⟩
  case round =>
    obtain ⟨k, hk, rfl, HW, HK⟩ := hrel
    by_cases hlt : k < m
    · obtain ⟨n, hn⟩ : ∃ n, ns[k]? = some n := ⟨_, List.getElem?_eq_getElem (by rw [HM.out]; exact hlt)⟩
      have hn2 := HN.out n (List.mem_of_getElem? hn)
      have hgr := HK.out.row HG.out hgb (by decide)
      have c0 : wr.cell? ⟨g, k, none⟩ = some (.int .i64 n) := by simp [World.cell?, hgr, hn]
      have hglt : g < wr.heap.size := (Array.getElem?_eq_some_iff.1 hgr).1
      have HT : Hid (numS (ns.take (k + 1)) = numS (ns.take k) ++ bstr (varI n.toNat)) := numS_take hn
      have HZ : Hid ((s ++ numS (ns.take k)).size + (bstr (varI n.toNat)).size ≤ 140737488355328) := by
        have h1 := numS_size (ns.take k) fun x hx => (HN.out x (List.mem_of_mem_take hx)).2
        have h2 := var_size n.toNat
        have h3 : (ns.take k).length ≤ 8 := by simp; omega
        show _ ≤ _
        rw [ByteArray.size_append]
        omega
      obtain ⟨T, HTT⟩ : ∃ T : ByteArray, Hid (bstr (varI n.toNat) = T) := ⟨_, rfl⟩
      have HV : Hid (∀ W, Calls Tryd.prog 35 #[.int .i64 n] W fun e w' => e = .returned (.tuple #[.string T, .bool true]) ∧ Below W.heap.size W w') := fun W => by
        have := varText_ok n.toNat W (by omega)
        rw [HTT.out, show ((n.toNat : Nat) : Int) = n by omega] at this
        exact this
      clear hn hgr
      go_wp2_with fail
      refine (HV.out _).mono ?_
      rintro e w1 ⟨rfl, hb1⟩
      have HW1 : Hid (Wb b (s ++ numS (ns.take k)) w1) := HW.out.up hb1
      have HK1 : Hid (Wk b w w1) := HK.out.trans (Wk.of_below hb1 (Nat.le_of_lt HW.out.lt))
      clear c0 hb1
      go_wp2_with fail
      refine (writeText_any b _ T _ HW1.out (by rw [← HTT.out]; exact HZ.out)).mono ?_
      rintro e w2 ⟨rfl, h2, k2⟩
      have HW2 : Hid (Wb b (s ++ numS (ns.take (k + 1))) w2) := by
        show Wb _ _ _
        rw [HT.out, HTT.out, ← ByteArray.append_assoc]
        exact h2
      have HK2 : Hid (Wk b w w2) := HK1.out.trans k2
      clear h2 k2
      go_wp2
      go_roundw
      case rel => exact ⟨k + 1, by omega, by go_num, HW2, HK2⟩
      case measure => simp [intOf]; omega
    · have he : ns.take k = ns := List.take_of_length_le (by rw [HM.out]; omega)
      go_wp2
      refine bodyPost_end (results_none rfl _ _ _) rfl ?_
      refine ⟨rfl, ?_, HK.out⟩
      have := HW.out
      rw [he] at this
      exact this
/-- Texts behind their lengths, one behind the other. -/
def shoS : List ByteArray → ByteArray
  | [] => ByteArray.empty
  | n :: l => shortS n ++ shoS l
theorem shoS_snoc : ∀ (l : List ByteArray) (n : ByteArray), shoS (l ++ [n]) = shoS l ++ shortS n
  | [], n => by simp [shoS]
  | m :: l, n => by simp [shoS, shoS_snoc l n, ByteArray.append_assoc]
theorem shoS_take {l : List ByteArray} {k : Nat} {n : ByteArray} (h : l[k]? = some n) : shoS (l.take (k + 1)) = shoS (l.take k) ++ shortS n := by
  rw [List.take_add_one, h]
  exact shoS_snoc _ _
theorem short_size' (s : ByteArray) : (shortS s).size ≤ 2 * s.size + 1 := by
  unfold shortS
  rw [ByteArray.size_append]
  have := var_size s.size
  omega
theorem shoS_size : ∀ (l : List ByteArray), (∀ n ∈ l, n.size ≤ 20000) → (shoS l).size ≤ l.length * 40001
  | [], _ => Nat.zero_le _
  | n :: l, h => by
    have h1 := shoS_size l fun m hm => h m (List.mem_cons_of_mem _ hm)
    have h2 := short_size' n
    have h3 := h n List.mem_cons_self
    simp only [shoS, ByteArray.size_append, List.length_cons]
    omega
set_option maxRecDepth 10000 in
set_option maxHeartbeats 2000000 in
theorem shorts_any (b g m : Nat) (ns : List ByteArray) (fz : Nat × Nat) (s : ByteArray) (w : World) (h : Wb b s w) (hg : w.heap[g]? = some (.cells (ns.map fun n => Value.string n).toArray 9 fz)) (hgb : g ≠ b) (hn : ∀ n ∈ ns, n.size ≤ 20000) (hm : ns.length = m) (hm8 : m ≤ 8) (hs : s.size ≤ 100000000000000) :
    Calls Tryd.prog 20 #[.pointer (some ⟨b, 0, none⟩), .slice (some ⟨g, 0, none⟩) m m] w fun e w' => e = .returned (.tuple #[]) ∧ Wb b (s ++ shoS ns) w' ∧ Wk b w w' := by
  have HN : Hid (∀ n ∈ ns, n.size ≤ 20000) := hn
  have HM : Hid (ns.length = m) := hm
  have HG : Hid (w.heap[g]? = some (.cells (ns.map fun n => Value.string n).toArray 9 fz)) := hg
  have HB : Hid (Wb b s w) := h
  have hbl := h.lt
  clear h hn hm hg
  go_enter Tryd.func20, Tryd.ntmps20
  go_wp2
  go_loopw [10] (fun i wr => ∃ k : Nat, k ≤ m ∧ i = .int .i64 k ∧ Hid (Wb b (s ++ shoS (ns.take k)) wr) ∧ Hid (Wk b w wr)) (fun i _ => m - (intOf i).toNat)
  case atStart => exact ⟨0, Nat.zero_le _, rfl, (by show Wb _ _ _; simpa [shoS] using HB.out), Wk.refl _ _⟩
  case round =>
    obtain ⟨k, hk, rfl, HW, HK⟩ := hrel
    by_cases hlt : k < m
    · obtain ⟨n, hn⟩ : ∃ n, ns[k]? = some n := ⟨_, List.getElem?_eq_getElem (by rw [HM.out]; exact hlt)⟩
      have hn2 := HN.out n (List.mem_of_getElem? hn)
      have hgr := HK.out.row HG.out hgb (by decide)
      have c0 : wr.cell? ⟨g, k, none⟩ = some (.string n) := by simp [World.cell?, hgr, hn]
      have hglt : g < wr.heap.size := (Array.getElem?_eq_some_iff.1 hgr).1
      have HT : Hid (shoS (ns.take (k + 1)) = shoS (ns.take k) ++ shortS n) := shoS_take hn
      have HZ : Hid ((s ++ shoS (ns.take k)).size + (shortS n).size ≤ 140737488355328) := by
        have h1 := shoS_size (ns.take k) fun x hx => HN.out x (List.mem_of_mem_take hx)
        have h2 := short_size' n
        have h3 : (ns.take k).length ≤ 8 := by simp; omega
        show _ ≤ _
        rw [ByteArray.size_append]
        omega
      obtain ⟨T, HTT⟩ : ∃ T : ByteArray, Hid (shortS n = T) := ⟨_, rfl⟩
      have HV : Hid (∀ W, Calls Tryd.prog 37 #[.string n] W fun e w' => e = .returned (.tuple #[.string T, .bool true]) ∧ Below W.heap.size W w') := fun W => by
        have := short_ok n W hn2
        rw [show bstr (varI n.size) ++ n = T from HTT.out] at this
        exact this
      clear hn hgr
      go_wp2_with fail
      refine (HV.out _).mono ?_
      rintro e w1 ⟨rfl, hb1⟩
      have HW1 : Hid (Wb b (s ++ shoS (ns.take k)) w1) := HW.out.up hb1
      have HK1 : Hid (Wk b w w1) := HK.out.trans (Wk.of_below hb1 (Nat.le_of_lt HW.out.lt))
      clear c0 hb1
      go_wp2_with fail
      refine (writeText_any b _ T _ HW1.out (by rw [← HTT.out]; exact HZ.out)).mono ?_
      rintro e w2 ⟨rfl, h2, k2⟩
      have HW2 : Hid (Wb b (s ++ shoS (ns.take (k + 1))) w2) := by
        show Wb _ _ _
        rw [HT.out, HTT.out, ← ByteArray.append_assoc]
        exact h2
      have HK2 : Hid (Wk b w w2) := HK1.out.trans k2
      clear h2 k2
      go_wp2
      go_roundw
      case rel => exact ⟨k + 1, by omega, by go_num, HW2, HK2⟩
      case measure => simp [intOf]; omega
    · have he : ns.take k = ns := List.take_of_length_le (by rw [HM.out]; omega)
      go_wp2
      refine bodyPost_end (results_none rfl _ _ _) rfl ?_
      refine ⟨rfl, ?_, HK.out⟩
      have := HW.out
      rw [he] at this
      exact this
set_option maxHeartbeats 1000000 in
theorem oneByte_any (b : Nat) (s : ByteArray) (n : Int) (w : World) (h : Wb b s w) (h0 : 0 ≤ n) (h1 : n ≤ 255) (hs : s.size ≤ 100000000000000) :
    Calls Tryd.prog 18 #[.pointer (some ⟨b, 0, none⟩), .int .i64 n] w fun e w' => e = .returned (.tuple #[]) ∧ Wb b (s ++ bstr [n]) w' ∧ Wk b w w' := by
  have HB : Hid (Wb b s w) := h
  have hbl := h.lt
  have hw : IntKind.u8.wrap n = n := by simp [IntKind.wrap, IntKind.bits, IntKind.signed]; omega
  clear h
  go_enter Tryd.func18, Tryd.ntmps18
  go_wp2_with fail
  refine (writeByte_any b s n w HB.out h0 h1 (by omega)).mono ?_
  rintro e w1 ⟨rfl, h2, k2⟩
  go_wp2
  refine bodyPost_end (results_none rfl _ _ _) rfl ?_
  exact ⟨rfl, h2, k2⟩
set_option maxHeartbeats 1000000 in
theorem flagW_any (b : Nat) (s : ByteArray) (f : Bool) (w : World) (h : Wb b s w) (hs : s.size ≤ 100000000000000) :
    Calls Tryd.prog 21 #[.pointer (some ⟨b, 0, none⟩), .bool f] w fun e w' => e = .returned (.tuple #[]) ∧ Wb b (s ++ flagS f) w' ∧ Wk b w w' := by
  have HB : Hid (Wb b s w) := h
  clear h
  cases f with
  | false =>
    go_enter Tryd.func21, Tryd.ntmps21
    go_wp2_with fail
    refine (oneByte_any b s 0 w HB.out (by decide) (by decide) hs).mono ?_
    rintro e w1 ⟨rfl, h2, k2⟩
    go_wp2
    refine bodyPost_end (results_none rfl _ _ _) rfl ?_
    exact ⟨rfl, h2, k2⟩
  | true =>
    go_enter Tryd.func21, Tryd.ntmps21
    go_wp2_with fail
    refine (oneByte_any b s 1 w HB.out (by decide) (by decide) hs).mono ?_
    rintro e w1 ⟨rfl, h2, k2⟩
    go_wp2
    refine bodyPost_end (results_none rfl _ _ _) rfl ?_
    exact ⟨rfl, h2, k2⟩
end Go.Proofs.YtkfhmeiiicidaaaDoor
