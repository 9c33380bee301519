/-
  The last index and term of a log, whether it has an index, and the term of one, on both sides: the walks. Whether a message is right, of the program: the walks. Whether a message is right, of the program: the walks, second part. Whether a message is right, of the specification: the walk; both sides are one. Contracts of the library, proved once there, laid at this program by the kit (its plain words).
-/
import Derived.Test.YtgjamikmjknlfaaDoorLk
import Derived.Test.YtgjamikmjknlfaaDoorMgh
import Derived.Test.YtgjamikmjknlfaaDoorCo
import Derived.Shelf.LaysM
import Derived.Shelf.Bytes.GrowSliceCatch
import Derived.Shelf.Bytes.GrowSlice
import Derived.Shelf.Strconv.Clone
import Derived.Shelf.Bytes.LenAt
import Derived.Shelf.Bytes.StringAt
import Derived.Shelf.Bytes.TryGrowAt
import Derived.Shelf.Bytes.GrowRow0At
import Derived.Shelf.Bytes.GrowRowAt
import Derived.Shelf.Bytes.GrowNilAt
import Derived.Shelf.Bytes.GrowAt
import Derived.Shelf.Bytes.WriteByteAt
import Derived.Shelf.Bytes.WriteStringAt
import Derived.Test.YtgjamikmjknlfaaDoorProg
namespace Go.Proofs.YtgjamikmjknlfaaDoor
open Go Go.RowKit

def lastI (s : Int) (l : List En) : Int := if l.length = 0 then s else wrap64 (s + l.length)
def lastT (t : Int) (l : List En) : Int := (l.getLast?.map En.term).getD t
theorem lastT_at {t : Int} {l : List En} {k : Nat} {f : En} (h : l.length = k + 1) (hf : l[k]? = some f) : lastT t l = f.term := by
  unfold lastT
  rw [List.getLast?_eq_getElem?, h, Nat.add_sub_cancel, hf]
  rfl

set_option maxRecDepth 10000 in
set_option maxHeartbeats 1000000 in
theorem logLast_try (s t : Int) (ao : Option Addr) (n c : Nat) (l : List En) (w : World) (hr : Reads w (.slice ao n c) l) (hn : n ≤ 1048577) :
    Calls Tryd.prog 112 #[.agg #[.int .i64 s, .int .i64 t, .slice ao n c]] w fun e w' => e = .returned (.tuple #[.int .i64 (lastI s l), .int .i64 (lastT t l)]) ∧ Below w.heap.size w w' := by
  have hN := hr.len
  have HR : Hid (Reads w (.slice ao n c) l) := hr
  clear hr
  cases n with
  | zero =>
    have hl : l = [] := List.eq_nil_of_length_eq_zero hN.symm
    subst hl
    clear hN
    show Calls Tryd.prog 112 _ w fun e w' => e = .returned (.tuple #[.int .i64 s, .int .i64 t]) ∧ Below w.heap.size w w'
    go_enter Tryd.func112, Tryd.ntmps112
    go_wp2
    go_quiet (fail)
    go_wp2
    go_ret2
    exact ⟨rfl, bdrewN (ba (Below.refl _ _) _) _⟩
  | succ k =>
    obtain ⟨f, hf⟩ : ∃ f, l[k]? = some f := ⟨_, List.getElem?_eq_getElem (by omega)⟩
    have HI : Hid (lastI s l = wrap64 (s + (k + 1 : Nat))) := by show lastI s l = _; unfold lastI; rw [if_neg (by omega), ← hN]
    have HT : Hid (lastT t l = f.term) := lastT_at hN.symm hf
    rw [HI.out, HT.out]
    obtain ⟨b, o, rfl, hb, c0, c1, c2⟩ := en_at HR.out hf
    clear hf hN c1 c2
    have d0 : (w.alloc (.cells #[.int .i64 s, .int .i64 t, .slice (some ⟨b, o, none⟩) (k + 1) c] 93)).cell? ⟨b, o + k * 3, none⟩ = some (.int .i64 f.term) := cell_up (ba (Below.refl _ _) _) c0
    have e1 : ((k + 1 : Nat) : Int) - 1 = (k : Int) := by omega
    go_enter Tryd.func112, Tryd.ntmps112
    go_wp2
    go_quiet (fail)
    go_wp2
    go_ret2
    exact ⟨rfl, bdrewN (ba (Below.refl _ _) _) _⟩
theorem logLast_any {s t : Int} {w : World} {v : Value} {l : List En} (hr : Reads w v l) (hn : l.length ≤ 1048577) :
    Calls Tryd.prog 112 #[.agg #[.int .i64 s, .int .i64 t, v]] w fun e w' => e = .returned (.tuple #[.int .i64 (lastI s l), .int .i64 (lastT t l)]) ∧ Below w.heap.size w w' := by
  obtain ⟨ao, c, rfl, _⟩ := id hr
  exact logLast_try s t ao _ c l w hr hn
/-- A log has an index. -/
def hasL (s : Int) (n : Nat) (i : Int) : Bool := decide (s ≤ i) && decide (i ≤ s + n)
end Go.Proofs.YtgjamikmjknlfaaDoor

namespace Go.Proofs.YtgjamikmjknlfaaDoor
open Go Go.RowKit

/-- A number lies between two. -/
def wiB (x lo hi : Int) : Bool := decide (lo ≤ x) && decide (x ≤ hi)
def headM (kd fr up tm ix lt cm : Int) : Bool := wiB kd 1 6 && (wiB fr 1 4 && (wiB up 1 4 && (!decide (fr = up) && (wiB tm 0 100000 && (wiB lt 0 100000 && (wiB ix 0 1000000 && wiB cm 0 1000000))))))
def noneS (es : List En) : Bool := decide (es.length = 0)
def sendM (tm lt : Int) (es : List En) : Bool := decide (es.length = 0) || (decide (es.length ≤ 4) && (okL 0 lt es && decide (lastT lt es ≤ tm)))
def noneC (cs : List Int) (da : ByteArray) (la : Bool) : Bool := decide (cs.length = 0) && (decide (da.toList = []) && !la)
def chunkM (cs : List Int) (da : ByteArray) : Bool := okC cs && decide (da.size ≤ 60)
/-- A message is right. -/
def okM (kd fr up tm ix lt cm : Int) (da : ByteArray) (la : Bool) (es : List En) (cs : List Int) : Bool := headM kd fr up tm ix lt cm && ((if kd = 3 then sendM tm lt es else noneS es) && (if kd = 5 then chunkM cs da else noneC cs da la))
theorem ret_snd {fn : Func} {p : Tmp} {w : World} {g : Nat} {x0 x1 x2 x3 : Value} {tmps : Array Value} (h : fn.results = #[.cell p 95]) (hp : tmps.getD p undef = .pointer (some ⟨g, 0, none⟩)) (h0 : w.cell? ⟨g, 0, none⟩ = some x0) (h1 : w.cell? ⟨g, 1, none⟩ = some x1) (h2 : w.cell? ⟨g, 2, none⟩ = some x2) (h3 : w.cell? ⟨g, 3, none⟩ = some x3) :
    (results fn tmps).run Tryd.prog w = .ok (.agg #[x0, x1, x2, x3]) w := by
  have hp' : tmps[p]?.getD undef = .pointer (some ⟨g, 0, none⟩) := by simpa using hp
  simp [results, h, hp', h0, h1, h2, h3, asAddr, go_sem]
theorem ret_chk {fn : Func} {p : Tmp} {w : World} {g : Nat} {x0 x1 x2 : Value} {tmps : Array Value} (h : fn.results = #[.cell p 101]) (hp : tmps.getD p undef = .pointer (some ⟨g, 0, none⟩)) (h0 : w.cell? ⟨g, 0, none⟩ = some x0) (h1 : w.cell? ⟨g, 1, none⟩ = some x1) (h2 : w.cell? ⟨g, 2, none⟩ = some x2) :
    (results fn tmps).run Tryd.prog w = .ok (.agg #[x0, x1, x2]) w := by
  have hp' : tmps[p]?.getD undef = .pointer (some ⟨g, 0, none⟩) := by simpa using hp
  simp [results, h, hp', h0, h1, h2, asAddr, go_sem]

theorem isNode_any (n : Int) (w : World) : Calls Tryd.prog 72 #[.int .i64 n] w fun e w' => e = .returned (.bool (wiB n 1 4)) ∧ w' = w := by
  by_cases h1 : 1 ≤ n
  · by_cases h2 : n ≤ 4
    · rw [show wiB n 1 4 = true by simp [wiB, h1, h2]]
      go_enter Tryd.func72, Tryd.ntmps72
      go_wp2
      go_ret
      exact ⟨rfl, rfl⟩
    · rw [show wiB n 1 4 = false by simp [wiB, h1, h2]]
      go_enter Tryd.func72, Tryd.ntmps72
      go_wp2
      go_ret
      exact ⟨rfl, rfl⟩
  · rw [show wiB n 1 4 = false by simp [wiB, h1]]
    go_enter Tryd.func72, Tryd.ntmps72
    go_wp2
    go_ret
    exact ⟨rfl, rfl⟩

theorem upToM_any (n hi : Int) (w : World) : Calls Tryd.prog 73 #[.int .i64 n, .int .i64 hi] w fun e w' => e = .returned (.bool (wiB n 0 hi)) ∧ w' = w := by
  by_cases h1 : 0 ≤ n
  · by_cases h2 : n ≤ hi
    · rw [show wiB n 0 hi = true by simp [wiB, h1, h2]]
      go_enter Tryd.func73, Tryd.ntmps73
      go_wp2
      go_ret
      exact ⟨rfl, rfl⟩
    · rw [show wiB n 0 hi = false by simp [wiB, h1, h2]]
      go_enter Tryd.func73, Tryd.ntmps73
      go_wp2
      go_ret
      exact ⟨rfl, rfl⟩
  · rw [show wiB n 0 hi = false by simp [wiB, h1]]
    go_enter Tryd.func73, Tryd.ntmps73
    go_wp2
    go_ret
    exact ⟨rfl, rfl⟩

set_option maxRecDepth 10000 in
set_option maxHeartbeats 4000000 in
theorem isHead_any (kd fr up tm ix lt cm : Int) (ok : Bool) (da : ByteArray) (la : Bool) (e c : Value) (w : World) : Calls Tryd.prog 50 #[.agg #[.int .i64 kd, .int .i64 fr, .int .i64 up, .int .i64 tm, .int .i64 ix, .int .i64 lt, .int .i64 cm, .bool ok, e, c, .string da, .bool la]] w fun e w' => e = .returned (.bool (headM kd fr up tm ix lt cm)) ∧ Below w.heap.size w w' := by
  by_cases k0 : 1 ≤ kd
  rotate_left
  · rw [show headM kd fr up tm ix lt cm = false by simp [headM, wiB, k0]]
    go_enter Tryd.func50, Tryd.ntmps50
    go_wp2_with (first | (go_at_call 72; refine (isNode_any _ _).mono ?_; rintro e w2 ⟨rfl, hw⟩; have hw2 := hw.symm; subst hw2; first | rw [h2] | rw [h3] | rw [h5] | rw [h6] | rw [h7] | rw [h8]) | (go_at_call 73; refine (upToM_any _ _ _).mono ?_; rintro e w2 ⟨rfl, hw⟩; have hw2 := hw.symm; subst hw2; first | rw [h2] | rw [h3] | rw [h5] | rw [h6] | rw [h7] | rw [h8]))
    go_ret
    exact ⟨rfl, ba (Below.refl _ _) _⟩
  by_cases k1 : kd ≤ 6
  rotate_left
  · rw [show headM kd fr up tm ix lt cm = false by simp [headM, wiB, k1]]
    go_enter Tryd.func50, Tryd.ntmps50
    go_wp2_with (first | (go_at_call 72; refine (isNode_any _ _).mono ?_; rintro e w2 ⟨rfl, hw⟩; have hw2 := hw.symm; subst hw2; first | rw [h2] | rw [h3] | rw [h5] | rw [h6] | rw [h7] | rw [h8]) | (go_at_call 73; refine (upToM_any _ _ _).mono ?_; rintro e w2 ⟨rfl, hw⟩; have hw2 := hw.symm; subst hw2; first | rw [h2] | rw [h3] | rw [h5] | rw [h6] | rw [h7] | rw [h8]))
    go_ret
    exact ⟨rfl, ba (Below.refl _ _) _⟩
  cases h2 : wiB fr 1 4 with
  | false =>
    rw [show headM kd fr up tm ix lt cm = false by simp [headM, h2]]
    go_enter Tryd.func50, Tryd.ntmps50
    go_wp2_with (first | (go_at_call 72; refine (isNode_any _ _).mono ?_; rintro e w2 ⟨rfl, hw⟩; have hw2 := hw.symm; subst hw2; first | rw [h2] | rw [h3] | rw [h5] | rw [h6] | rw [h7] | rw [h8]) | (go_at_call 73; refine (upToM_any _ _ _).mono ?_; rintro e w2 ⟨rfl, hw⟩; have hw2 := hw.symm; subst hw2; first | rw [h2] | rw [h3] | rw [h5] | rw [h6] | rw [h7] | rw [h8]))
    go_ret
    exact ⟨rfl, ba (Below.refl _ _) _⟩
  | true =>
  cases h3 : wiB up 1 4 with
  | false =>
    rw [show headM kd fr up tm ix lt cm = false by simp [headM, h3]]
    go_enter Tryd.func50, Tryd.ntmps50
    go_wp2_with (first | (go_at_call 72; refine (isNode_any _ _).mono ?_; rintro e w2 ⟨rfl, hw⟩; have hw2 := hw.symm; subst hw2; first | rw [h2] | rw [h3] | rw [h5] | rw [h6] | rw [h7] | rw [h8]) | (go_at_call 73; refine (upToM_any _ _ _).mono ?_; rintro e w2 ⟨rfl, hw⟩; have hw2 := hw.symm; subst hw2; first | rw [h2] | rw [h3] | rw [h5] | rw [h6] | rw [h7] | rw [h8]))
    go_ret
    exact ⟨rfl, ba (Below.refl _ _) _⟩
  | true =>
  by_cases k4 : fr = up
  · rw [show headM kd fr up tm ix lt cm = false by simp [headM, k4]]
    go_enter Tryd.func50, Tryd.ntmps50
    go_wp2_with (first | (go_at_call 72; refine (isNode_any _ _).mono ?_; rintro e w2 ⟨rfl, hw⟩; have hw2 := hw.symm; subst hw2; first | rw [h2] | rw [h3] | rw [h5] | rw [h6] | rw [h7] | rw [h8]) | (go_at_call 73; refine (upToM_any _ _ _).mono ?_; rintro e w2 ⟨rfl, hw⟩; have hw2 := hw.symm; subst hw2; first | rw [h2] | rw [h3] | rw [h5] | rw [h6] | rw [h7] | rw [h8]))
    go_ret
    exact ⟨rfl, ba (Below.refl _ _) _⟩
  have hk4 : (fr != up) = true := by simp [k4]
  cases h5 : wiB tm 0 100000 with
  | false =>
    rw [show headM kd fr up tm ix lt cm = false by simp [headM, h5]]
    go_enter Tryd.func50, Tryd.ntmps50
    go_wp2_with (first | (go_at_call 72; refine (isNode_any _ _).mono ?_; rintro e w2 ⟨rfl, hw⟩; have hw2 := hw.symm; subst hw2; first | rw [h2] | rw [h3] | rw [h5] | rw [h6] | rw [h7] | rw [h8]) | (go_at_call 73; refine (upToM_any _ _ _).mono ?_; rintro e w2 ⟨rfl, hw⟩; have hw2 := hw.symm; subst hw2; first | rw [h2] | rw [h3] | rw [h5] | rw [h6] | rw [h7] | rw [h8]))
    go_ret
    exact ⟨rfl, ba (Below.refl _ _) _⟩
  | true =>
  cases h6 : wiB lt 0 100000 with
  | false =>
    rw [show headM kd fr up tm ix lt cm = false by simp [headM, h6]]
    go_enter Tryd.func50, Tryd.ntmps50
    go_wp2_with (first | (go_at_call 72; refine (isNode_any _ _).mono ?_; rintro e w2 ⟨rfl, hw⟩; have hw2 := hw.symm; subst hw2; first | rw [h2] | rw [h3] | rw [h5] | rw [h6] | rw [h7] | rw [h8]) | (go_at_call 73; refine (upToM_any _ _ _).mono ?_; rintro e w2 ⟨rfl, hw⟩; have hw2 := hw.symm; subst hw2; first | rw [h2] | rw [h3] | rw [h5] | rw [h6] | rw [h7] | rw [h8]))
    go_ret
    exact ⟨rfl, ba (Below.refl _ _) _⟩
  | true =>
  cases h7 : wiB ix 0 1000000 with
  | false =>
    rw [show headM kd fr up tm ix lt cm = false by simp [headM, h7]]
    go_enter Tryd.func50, Tryd.ntmps50
    go_wp2_with (first | (go_at_call 72; refine (isNode_any _ _).mono ?_; rintro e w2 ⟨rfl, hw⟩; have hw2 := hw.symm; subst hw2; first | rw [h2] | rw [h3] | rw [h5] | rw [h6] | rw [h7] | rw [h8]) | (go_at_call 73; refine (upToM_any _ _ _).mono ?_; rintro e w2 ⟨rfl, hw⟩; have hw2 := hw.symm; subst hw2; first | rw [h2] | rw [h3] | rw [h5] | rw [h6] | rw [h7] | rw [h8]))
    go_ret
    exact ⟨rfl, ba (Below.refl _ _) _⟩
  | true =>
  cases h8 : wiB cm 0 1000000 with
  | false =>
    rw [show headM kd fr up tm ix lt cm = false by simp [headM, h8]]
    go_enter Tryd.func50, Tryd.ntmps50
    go_wp2_with (first | (go_at_call 72; refine (isNode_any _ _).mono ?_; rintro e w2 ⟨rfl, hw⟩; have hw2 := hw.symm; subst hw2; first | rw [h2] | rw [h3] | rw [h5] | rw [h6] | rw [h7] | rw [h8]) | (go_at_call 73; refine (upToM_any _ _ _).mono ?_; rintro e w2 ⟨rfl, hw⟩; have hw2 := hw.symm; subst hw2; first | rw [h2] | rw [h3] | rw [h5] | rw [h6] | rw [h7] | rw [h8]))
    go_ret
    exact ⟨rfl, ba (Below.refl _ _) _⟩
  | true =>
  rw [show headM kd fr up tm ix lt cm = true by simp only [headM, show wiB kd 1 6 = true by simp [wiB, k0, k1], h2, h3, decide_eq_false k4, h5, h6, h7, h8]; rfl]
  go_enter Tryd.func50, Tryd.ntmps50
  go_wp2_with (first | (go_at_call 72; refine (isNode_any _ _).mono ?_; rintro e w2 ⟨rfl, hw⟩; have hw2 := hw.symm; subst hw2; first | rw [h2] | rw [h3] | rw [h5] | rw [h6] | rw [h7] | rw [h8]) | (go_at_call 73; refine (upToM_any _ _ _).mono ?_; rintro e w2 ⟨rfl, hw⟩; have hw2 := hw.symm; subst hw2; first | rw [h2] | rw [h3] | rw [h5] | rw [h6] | rw [h7] | rw [h8]))
  go_ret
  exact ⟨rfl, ba (Below.refl _ _) _⟩

set_option maxHeartbeats 1000000 in
theorem sending_any (kd fr up tm ix lt cm : Int) (ok : Bool) (da : ByteArray) (la : Bool) (ao bo : Option Addr) (n cap m cbp : Nat) (w : World) : Calls Tryd.prog 51 #[.agg #[.int .i64 kd, .int .i64 fr, .int .i64 up, .int .i64 tm, .int .i64 ix, .int .i64 lt, .int .i64 cm, .bool ok, .slice ao n cap, .slice bo m cbp, .string da, .bool la]] w fun e' w' => e' = .returned (.agg #[.int .i64 0, .int .i64 lt, .slice ao n cap, .int .i64 tm]) ∧ Below w.heap.size w w' := by
  go_enter Tryd.func51, Tryd.ntmps51
  go_wp2
  refine bodyPost_ret (ret_snd rfl rfl (by simp [go_sem]) (by simp [go_sem]) (by simp [go_sem]) (by simp [go_sem])) rfl ⟨rfl, ?_⟩
  exact ba (ba (Below.refl _ _) _) _
set_option maxHeartbeats 1000000 in
theorem chunk_any (kd fr up tm ix lt cm : Int) (ok : Bool) (da : ByteArray) (la : Bool) (ao bo : Option Addr) (n cap m cbp : Nat) (w : World) : Calls Tryd.prog 53 #[.agg #[.int .i64 kd, .int .i64 fr, .int .i64 up, .int .i64 tm, .int .i64 ix, .int .i64 lt, .int .i64 cm, .bool ok, .slice ao n cap, .slice bo m cbp, .string da, .bool la]] w fun e' w' => e' = .returned (.agg #[.slice bo m cbp, .string da, .bool la]) ∧ Below w.heap.size w w' := by
  go_enter Tryd.func53, Tryd.ntmps53
  go_wp2
  refine bodyPost_ret (ret_chk rfl rfl (by simp [go_sem]) (by simp [go_sem]) (by simp [go_sem])) rfl ⟨rfl, ?_⟩
  exact ba (ba (Below.refl _ _) _) _
set_option maxHeartbeats 1000000 in
theorem sNone_any (lt tm : Int) (e : Value) (es : List En) (w : World) (he : Reads w e es) : Calls Tryd.prog 110 #[.agg #[.int .i64 0, .int .i64 lt, e, .int .i64 tm]] w fun e w' => e = .returned (.bool (noneS es)) ∧ Below w.heap.size w w' := by
  obtain ⟨ao, cap, rfl, _⟩ := id he
  clear he
  unfold noneS
  generalize es.length = n
  by_cases h : n = 0
  · subst h
    go_enter Tryd.func110, Tryd.ntmps110
    go_wp2
    go_ret
    exact ⟨rfl, ba (Below.refl _ _) _⟩
  · rw [decide_eq_false h]
    have hb : ((n : Int) == 0) = false := by simp; omega
    go_enter Tryd.func110, Tryd.ntmps110
    go_wp2
    go_ret
    exact ⟨rfl, ba (Below.refl _ _) _⟩
set_option maxRecDepth 10000 in
set_option maxHeartbeats 4000000 in
theorem sRight_any (lt tm : Int) (e : Value) (es : List En) (w : World) (he : Reads w e es) (hn : es.length ≤ 1048577) (hz : SizedE es) : Calls Tryd.prog 111 #[.agg #[.int .i64 0, .int .i64 lt, e, .int .i64 tm]] w fun e w' => e = .returned (.bool (sendM tm lt es)) ∧ Below w.heap.size w w' := by
  obtain ⟨ao, cap, rfl, _⟩ := id he
  have HR : Hid (Reads w (.slice ao es.length cap) es) := he
  have HN : Hid (es.length ≤ 1048577) := hn
  have HZ : Hid (SizedE es) := hz
  clear he hn hz
  obtain ⟨q, HQ⟩ : ∃ q, Hid (sendM tm lt es = q) := ⟨_, rfl⟩
  rw [HQ.out]
  obtain ⟨x0, HX⟩ : ∃ q, Hid (lastI 0 es = q) := ⟨_, rfl⟩
  obtain ⟨x1, HY⟩ : ∃ q, Hid (lastT lt es = q) := ⟨_, rfl⟩
  obtain ⟨n, HM⟩ : ∃ n, Hid (es.length = n) := ⟨_, rfl⟩
  rw [HM.out] at HR ⊢
  go_enter Tryd.func111, Tryd.ntmps111
  go_wp2_with fail
  refine (logLast_any (HR.out.alloc _) HN.out).mono ?_
  rintro e w2 ⟨rfl, hb2⟩
  rw [HX.out, HY.out]
  have c0 : w2.cell? ⟨w.heap.size, 0, none⟩ = some (.int .i64 0) := (hb2.cell (by simp)).trans (by simp [go_sem])
  have c1 : w2.cell? ⟨w.heap.size, 1, none⟩ = some (.int .i64 lt) := (hb2.cell (by simp)).trans (by simp [go_sem])
  have c2 : w2.cell? ⟨w.heap.size, 2, none⟩ = some (.slice ao n cap) := (hb2.cell (by simp)).trans (by simp [go_sem])
  have c3 : w2.cell? ⟨w.heap.size, 3, none⟩ = some (.int .i64 tm) := (hb2.cell (by simp)).trans (by simp [go_sem])
  have B2 := below_new hb2
  clear hb2
  go_wp2_with fail
  refine (sNone_any lt tm _ es _ (HR.out.below B2)).mono ?_
  rintro e w3 ⟨rfl, hb3⟩
  have d0 := cell_up hb3 c0
  have d1 := cell_up hb3 c1
  have d2 := cell_up hb3 c2
  have d3 := cell_up hb3 c3
  have B3 := B2.trans (hb3.mono B2.size)
  clear hb3 c0 c1 c2 c3 B2
  cases hz : noneS es with
  | true =>
    obtain rfl : true = q := by rw [← HQ.out]; simp only [sendM]; rw [show decide (es.length = 0) = true from hz]; rfl
    go_wp2
    go_ret
    exact ⟨rfl, B3⟩
  | false =>
  have HE : Hid (q = (decide (n ≤ 4) && (okL 0 lt es && decide (x1 ≤ tm)))) := by show _ = _; rw [← HQ.out, ← HY.out, ← HM.out]; simp only [sendM]; rw [show decide (es.length = 0) = false from hz]; rfl
  clear hz
  by_cases h4 : n ≤ 4
  rotate_left
  · obtain rfl : q = false := by rw [HE.out, decide_eq_false h4]; rfl
    go_wp2
    go_ret
    exact ⟨rfl, B3⟩
  go_wp2_with fail
  refine (logOk_any (s := 0) (t := lt) (HR.out.below B3) HN.out HZ.out).mono ?_
  rintro e w4 ⟨rfl, hb4⟩
  have e3 := cell_up hb4 d3
  have B4 := B3.trans (hb4.mono B3.size)
  clear hb4 d0 d1 d2 d3 B3
  cases hk : okL 0 lt es with
  | false =>
    obtain rfl : q = false := by rw [HE.out, hk]; simp
    go_wp2
    go_ret
    exact ⟨rfl, B4⟩
  | true =>
  by_cases h5 : x1 ≤ tm
  · obtain rfl : q = true := by rw [HE.out, hk, decide_eq_true h4, decide_eq_true h5]; rfl
    go_wp2
    go_ret
    exact ⟨rfl, B4⟩
  · obtain rfl : q = false := by rw [HE.out, decide_eq_false h5]; simp
    go_wp2
    go_ret
    exact ⟨by show Ending.returned (.bool (decide (x1 ≤ tm))) = _; rw [decide_eq_false (by omega)], B4⟩
end Go.Proofs.YtgjamikmjknlfaaDoor

namespace Go.Proofs.YtgjamikmjknlfaaDoor
open Go Go.RowKit

set_option maxHeartbeats 1000000 in
theorem cNone_any (c : Value) (cs : List Int) (da : ByteArray) (la : Bool) (w : World) (hc : Reads w c cs) : Calls Tryd.prog 114 #[.agg #[c, .string da, .bool la]] w fun e w' => e = .returned (.bool (noneC cs da la)) ∧ Below w.heap.size w w' := by
  obtain ⟨ao, cap, rfl, _⟩ := id hc
  clear hc
  unfold noneC
  generalize cs.length = n
  by_cases h : n = 0
  · subst h
    by_cases h2 : da.toList = []
    · cases la
      all_goals
        rw [decide_eq_true h2]
        go_enter Tryd.func114, Tryd.ntmps114
        go_wp2
        go_ret
        exact ⟨rfl, ba (Below.refl _ _) _⟩
    · rw [decide_eq_false h2]
      have h3 : (da.toList == []) = false := by cases hl : da.toList with | nil => exact absurd hl h2 | cons a b => rfl
      go_enter Tryd.func114, Tryd.ntmps114
      go_wp2
      go_ret
      exact ⟨rfl, ba (Below.refl _ _) _⟩
  · rw [decide_eq_false h]
    have hb : ((n : Int) == 0) = false := by simp; omega
    go_enter Tryd.func114, Tryd.ntmps114
    go_wp2
    go_ret
    exact ⟨rfl, ba (Below.refl _ _) _⟩
set_option maxHeartbeats 1000000 in
theorem cRight_any (c : Value) (cs : List Int) (da : ByteArray) (la : Bool) (w : World) (hc : Reads w c cs) (hn : cs.length ≤ 1048577) : Calls Tryd.prog 115 #[.agg #[c, .string da, .bool la]] w fun e w' => e = .returned (.bool (chunkM cs da)) ∧ Below w.heap.size w w' := by
  obtain ⟨ao, cap, rfl, _⟩ := id hc
  have HR : Hid (Reads w (.slice ao cs.length cap) cs) := hc
  have HN : Hid (cs.length ≤ 1048577) := hn
  clear hc hn
  unfold chunkM
  obtain ⟨n, HM⟩ : ∃ n, Hid (cs.length = n) := ⟨_, rfl⟩
  rw [HM.out] at HR ⊢
  obtain ⟨q, HQ⟩ : ∃ q, Hid ((okC cs && decide (da.size ≤ 60)) = q) := ⟨_, rfl⟩
  rw [HQ.out]
  go_enter Tryd.func115, Tryd.ntmps115
  go_wp2_with fail
  refine (confOk_any (HR.out.alloc _) HN.out).mono ?_
  rintro e w2 ⟨rfl, hb2⟩
  have c1 : w2.cell? ⟨w.heap.size, 1, none⟩ = some (.string da) := (hb2.cell (by simp)).trans (by simp [go_sem])
  have B2 := below_new hb2
  clear hb2
  cases hk : okC cs with
  | false =>
    obtain rfl : q = false := by rw [← HQ.out, hk]; rfl
    go_wp2
    go_ret
    exact ⟨rfl, B2⟩
  | true =>
  have e : q = decide ((da.size : Int) ≤ 60) := by rw [← HQ.out, hk, Bool.true_and]; exact decide_eq_decide.2 (by omega)
  subst e
  go_wp2
  go_ret
  exact ⟨rfl, B2⟩
set_option maxRecDepth 10000 in
set_option maxHeartbeats 4000000 in
theorem onS_any (kd fr up tm ix lt cm : Int) (ok : Bool) (da : ByteArray) (la : Bool) (e c : Value) (es : List En) (cs : List Int) (w : World) (he : Reads w e es) (hc : Reads w c cs) (hn : es.length ≤ 1048577) (hm : cs.length ≤ 1048577) (hz : SizedE es) : Calls Tryd.prog 52 #[.agg #[.int .i64 3, .func (.func 51) #[] #[]], .agg #[.int .i64 kd, .int .i64 fr, .int .i64 up, .int .i64 tm, .int .i64 ix, .int .i64 lt, .int .i64 cm, .bool ok, e, c, .string da, .bool la]] w fun e w' => e = .returned (.bool (if kd = 3 then sendM tm lt es else noneS es)) ∧ Below w.heap.size w w' := by
  obtain ⟨ao, cap, rfl, _⟩ := id he
  obtain ⟨bo, cbp, rfl, _⟩ := id hc
  have HE : Hid (Reads w (.slice ao es.length cap) es) := he
  have HC : Hid (Reads w (.slice bo cs.length cbp) cs) := hc
  have HN : Hid (es.length ≤ 1048577) := hn
  have HM : Hid (cs.length ≤ 1048577) := hm
  have HZ : Hid (SizedE es) := hz
  clear he hc hn hm hz
  obtain ⟨q, HQ⟩ : ∃ q, Hid ((if kd = 3 then sendM tm lt es else noneS es) = q) := ⟨_, rfl⟩
  rw [HQ.out]
  go_enter Tryd.func52, Tryd.ntmps52
  go_wp2_with fail
  refine (sending_any kd fr up tm ix lt cm ok da la ao bo _ _ _ _ _).mono ?_
  rintro e w2 ⟨rfl, hb2⟩
  have K1 := (Kc12.new _ _ _ _ _ _ _ _ _ _ _ _ _ _).up hb2
  rw [show (w.alloc (.cells #[.int .i64 3, .func (.func 51) #[] #[]] 91)).heap.size = w.heap.size + 1 by simp] at K1
  have p0 : w2.cell? ⟨w.heap.size, 0, none⟩ = some (.int .i64 3) := (hb2.cell (by simp; omega)).trans (by simp [go_sem])
  have k0 := K1.c0
  have B2 : Below w.heap.size w w2 := (ba (ba (Below.refl _ _) _) _).trans (hb2.mono (by simp; omega))
  clear hb2
  have hlt : w.heap.size + 1 < w2.heap.size := K1.lt
  have hlt0 : w.heap.size < w2.heap.size := by omega
  clear K1
  by_cases hk : kd = 3
  · subst hk
    obtain rfl : sendM tm lt es = q := by rw [← HQ.out, if_pos rfl]
    go_wp2_with fail
    refine (sRight_any _ _ _ es _ ((HE.out.below B2).alloc _) HN.out HZ.out).mono ?_
    rintro e w3 ⟨rfl, hb3⟩
    have B3 := (ba B2 _).trans (hb3.mono (by have := B2.size; simp; omega))
    clear hb3
    go_wp2
    go_ret
    exact ⟨rfl, B3⟩
  · obtain rfl : noneS es = q := by rw [← HQ.out, if_neg hk]
    have hk2 : (kd != 3) = true := by simp [hk]
    go_wp2_with fail
    refine (sNone_any _ _ _ es _ ((HE.out.below B2).alloc _)).mono ?_
    rintro e w3 ⟨rfl, hb3⟩
    have B3 := (ba B2 _).trans (hb3.mono (by have := B2.size; simp; omega))
    clear hb3
    go_wp2
    go_ret
    exact ⟨rfl, B3⟩
set_option maxRecDepth 10000 in
set_option maxHeartbeats 4000000 in
theorem onC_any (kd fr up tm ix lt cm : Int) (ok : Bool) (da : ByteArray) (la : Bool) (e c : Value) (es : List En) (cs : List Int) (w : World) (he : Reads w e es) (hc : Reads w c cs) (hn : es.length ≤ 1048577) (hm : cs.length ≤ 1048577) (hz : SizedE es) : Calls Tryd.prog 54 #[.agg #[.int .i64 5, .func (.func 53) #[] #[]], .agg #[.int .i64 kd, .int .i64 fr, .int .i64 up, .int .i64 tm, .int .i64 ix, .int .i64 lt, .int .i64 cm, .bool ok, e, c, .string da, .bool la]] w fun e w' => e = .returned (.bool (if kd = 5 then chunkM cs da else noneC cs da la)) ∧ Below w.heap.size w w' := by
  obtain ⟨ao, cap, rfl, _⟩ := id he
  obtain ⟨bo, cbp, rfl, _⟩ := id hc
  have HE : Hid (Reads w (.slice ao es.length cap) es) := he
  have HC : Hid (Reads w (.slice bo cs.length cbp) cs) := hc
  have HN : Hid (es.length ≤ 1048577) := hn
  have HM : Hid (cs.length ≤ 1048577) := hm
  have HZ : Hid (SizedE es) := hz
  clear he hc hn hm hz
  obtain ⟨q, HQ⟩ : ∃ q, Hid ((if kd = 5 then chunkM cs da else noneC cs da la) = q) := ⟨_, rfl⟩
  rw [HQ.out]
  go_enter Tryd.func54, Tryd.ntmps54
  go_wp2_with fail
  refine (chunk_any kd fr up tm ix lt cm ok da la ao bo _ _ _ _ _).mono ?_
  rintro e w2 ⟨rfl, hb2⟩
  have K1 := (Kc12.new _ _ _ _ _ _ _ _ _ _ _ _ _ _).up hb2
  rw [show (w.alloc (.cells #[.int .i64 5, .func (.func 53) #[] #[]] 99)).heap.size = w.heap.size + 1 by simp] at K1
  have p0 : w2.cell? ⟨w.heap.size, 0, none⟩ = some (.int .i64 5) := (hb2.cell (by simp; omega)).trans (by simp [go_sem])
  have k0 := K1.c0
  have B2 : Below w.heap.size w w2 := (ba (ba (Below.refl _ _) _) _).trans (hb2.mono (by simp; omega))
  clear hb2
  have hlt : w.heap.size + 1 < w2.heap.size := K1.lt
  have hlt0 : w.heap.size < w2.heap.size := by omega
  clear K1
  by_cases hk : kd = 5
  · subst hk
    obtain rfl : chunkM cs da = q := by rw [← HQ.out, if_pos rfl]
    go_wp2_with fail
    refine (cRight_any _ cs _ _ _ ((HC.out.below B2).alloc _) HM.out).mono ?_
    rintro e w3 ⟨rfl, hb3⟩
    have B3 := (ba B2 _).trans (hb3.mono (by have := B2.size; simp; omega))
    clear hb3
    go_wp2
    go_ret
    exact ⟨rfl, B3⟩
  · obtain rfl : noneC cs da la = q := by rw [← HQ.out, if_neg hk]
    have hk2 : (kd != 5) = true := by simp [hk]
    go_wp2_with fail
    refine (cNone_any _ cs _ _ _ ((HC.out.below B2).alloc _)).mono ?_
    rintro e w3 ⟨rfl, hb3⟩
    have B3 := (ba B2 _).trans (hb3.mono (by have := B2.size; simp; omega))
    clear hb3
    go_wp2
    go_ret
    exact ⟨rfl, B3⟩
set_option maxRecDepth 10000 in
set_option maxHeartbeats 4000000 in
theorem implMessageOk_any (kd fr up tm ix lt cm : Int) (ok : Bool) (da : ByteArray) (la : Bool) (e c : Value) (es : List En) (cs : List Int) (w : World) (he : Reads w e es) (hc : Reads w c cs) (hn : es.length ≤ 1048577) (hm : cs.length ≤ 1048577) (hz : SizedE es) : Calls Tryd.prog 24 #[.agg #[.int .i64 kd, .int .i64 fr, .int .i64 up, .int .i64 tm, .int .i64 ix, .int .i64 lt, .int .i64 cm, .bool ok, e, c, .string da, .bool la]] w fun e w' => e = .returned (.bool (okM kd fr up tm ix lt cm da la es cs)) ∧ Below w.heap.size w w' := by
  have HE : Hid (Reads w e es) := he
  have HC : Hid (Reads w c cs) := hc
  have HN : Hid (es.length ≤ 1048577) := hn
  have HM : Hid (cs.length ≤ 1048577) := hm
  have HZ : Hid (SizedE es) := hz
  obtain ⟨ao, cap, rfl, _⟩ := id he
  obtain ⟨bo, cbp, rfl, _⟩ := id hc
  clear he hc hn hm hz
  unfold okM
  obtain ⟨q0, HQ0⟩ : ∃ q, Hid (headM kd fr up tm ix lt cm = q) := ⟨_, rfl⟩
  obtain ⟨q1, HQ1⟩ : ∃ q, Hid ((if kd = 3 then sendM tm lt es else noneS es) = q) := ⟨_, rfl⟩
  obtain ⟨q2, HQ2⟩ : ∃ q, Hid ((if kd = 5 then chunkM cs da else noneC cs da la) = q) := ⟨_, rfl⟩
  rw [HQ0.out, HQ1.out, HQ2.out]
  go_enter Tryd.func24, Tryd.ntmps24
  go_wp2_with fail
  refine (isHead_any kd fr up tm ix lt cm ok da la _ _ _).mono ?_
  rintro e w2 ⟨rfl, hb2⟩
  rw [HQ0.out]
  have K2 := (Kc12.new _ _ _ _ _ _ _ _ _ _ _ _ _ _).up hb2
  have B2 := below_new hb2
  clear hb2
  cases q0 with
  | false =>
    go_wp2
    go_ret
    exact ⟨rfl, B2⟩
  | true =>
  have c0 := K2.c0
  have c1 := K2.c1
  have c2 := K2.c2
  have c3 := K2.c3
  have c4 := K2.c4
  have c5 := K2.c5
  have c6 := K2.c6
  have c7 := K2.c7
  have c8 := K2.c8
  have c9 := K2.c9
  have c10 := K2.c10
  have c11 := K2.c11
  go_wp2_with fail
  refine (onS_any kd fr up tm ix lt cm ok da la _ _ es cs _ (HE.out.below B2) (HC.out.below B2) HN.out HM.out HZ.out).mono ?_
  rintro e w3 ⟨rfl, hb3⟩
  rw [HQ1.out]
  have K3 := K2.up hb3
  have B3 := B2.trans (hb3.mono B2.size)
  clear hb3 c0 c1 c2 c3 c4 c5 c6 c7 c8 c9 c10 c11 K2
  cases q1 with
  | false =>
    go_wp2
    go_ret
    exact ⟨rfl, B3⟩
  | true =>
  have c0 := K3.c0
  have c1 := K3.c1
  have c2 := K3.c2
  have c3 := K3.c3
  have c4 := K3.c4
  have c5 := K3.c5
  have c6 := K3.c6
  have c7 := K3.c7
  have c8 := K3.c8
  have c9 := K3.c9
  have c10 := K3.c10
  have c11 := K3.c11
  go_wp2_with fail
  refine (onC_any kd fr up tm ix lt cm ok da la _ _ es cs _ (HE.out.below B3) (HC.out.below B3) HN.out HM.out HZ.out).mono ?_
  rintro e w4 ⟨rfl, hb4⟩
  rw [HQ2.out]
  have B4 := B3.trans (hb4.mono B3.size)
  clear hb4 c0 c1 c2 c3 c4 c5 c6 c7 c8 c9 c10 c11 K3
  cases q2 with
  | false =>
    go_wp2
    go_ret
    exact ⟨rfl, B4⟩
  | true =>
    go_wp2
    go_ret
    exact ⟨rfl, B4⟩
end Go.Proofs.YtgjamikmjknlfaaDoor

namespace Go.Proofs.YtgjamikmjknlfaaDoor
open Go Go.RowKit

def risesU (tm : Int) : Int → List En → Bool
  | _, [] => true
  | a, e :: r => okE e.term e.kind e.data && (decide (a ≤ e.term) && (decide (e.term ≤ tm) && risesU tm e.term r))
def tailM (kd : Int) (da : ByteArray) (la : Bool) (cs : List Int) : Bool := if kd = 5 then chunkM cs da else noneC cs da la
def sendS (kd tm lt : Int) (es : List En) : Bool := decide (es.length ≤ 4) && ((decide (es.length = 0) || decide (kd = 3)) && risesU tm lt es)
/-- A message is right, as the specification asks it. -/
def okMs (kd fr up tm ix lt cm : Int) (da : ByteArray) (la : Bool) (es : List En) (cs : List Int) : Bool := headM kd fr up tm ix lt cm && (sendS kd tm lt es && tailM kd da la cs)
theorem risesU_at {tm : Int} {l : List En} {k : Nat} {a : Int} {x : En} (h : l[k]? = some x) : risesU tm a (l.drop k) = (okE x.term x.kind x.data && (decide (a ≤ x.term) && (decide (x.term ≤ tm) && risesU tm x.term (l.drop (k + 1))))) := by
  have hk : k < l.length := (List.getElem?_eq_some_iff.1 h).1
  have e : l[k] = x := by rw [List.getElem?_eq_getElem hk] at h; exact Option.some.inj h
  rw [List.drop_eq_getElem_cons hk, e]
  rfl
theorem lastT_cons (a : Int) (e : En) (r : List En) : lastT a (e :: r) = lastT e.term r := by
  unfold lastT
  cases r with
  | nil => rfl
  | cons x y => rw [List.getLast?_cons_cons]; cases h : (x :: y).getLast? with
    | none => simp at h
    | some z => rfl
theorem rises_last : ∀ (l : List En) (a : Int), rises a l = true → a ≤ lastT a l
  | [], a, _ => by simp [lastT]
  | e :: r, a, h => by
    simp only [rises, Bool.and_eq_true, decide_eq_true_eq] at h
    have := rises_last r e.term h.2
    rw [lastT_cons]
    omega
theorem risesU_eq (tm : Int) : ∀ (l : List En) (a : Int), risesU tm a l = (rises a l && (decide (l.length = 0) || decide (lastT a l ≤ tm)))
  | [], a => by simp [risesU, rises]
  | e :: r, a => by
    have ih := risesU_eq tm r e.term
    simp only [risesU, rises, ih, lastT_cons]
    cases h1 : rises e.term r with
    | false => simp
    | true =>
      have h2 := rises_last r e.term h1
      cases r with
      | nil => cases okE e.term e.kind e.data <;> cases h5 : decide (a ≤ e.term) <;> first | rfl | (simp [lastT]; done) | (simp [lastT]; rfl)
      | cons x y =>
        by_cases h3 : lastT e.term (x :: y) ≤ tm
        · have h4 : e.term ≤ tm := by omega
          simp [h3, h4]
        · simp [h3]
theorem okM_eq (kd fr up tm ix lt cm : Int) (da : ByteArray) (la : Bool) (es : List En) (cs : List Int) : okM kd fr up tm ix lt cm da la es cs = okMs kd fr up tm ix lt cm da la es cs := by
  unfold okM okMs tailM sendS
  cases hh : headM kd fr up tm ix lt cm with
  | false => rfl
  | true =>
  congr 2
  rw [risesU_eq]
  have hlt : 0 ≤ lt ∧ lt ≤ 100000 := by
    simp only [headM, wiB, Bool.and_eq_true, decide_eq_true_eq] at hh
    exact hh.2.2.2.2.2.1
  unfold sendM noneS
  by_cases hn : es.length = 0
  · have : es = [] := List.eq_nil_of_length_eq_zero hn
    subst this
    simp [rises]
  · by_cases hk : kd = 3
    · by_cases h4 : es.length ≤ 4
      · rw [okL_in (by omega) (by omega) hlt.1 hlt.2 (by omega) (by omega)]
        simp [hk, hn, h4]
      · simp [hk, hn, h4]
    · simp [hk, hn]
theorem inW_any (x lo hi : Int) (w : World) : Calls Tryd.prog 46 #[.int .i64 x, .int .i64 lo, .int .i64 hi] w fun e w' => e = .returned (.bool (wiB x lo hi)) ∧ w' = w := in_any x lo hi w

set_option maxRecDepth 10000 in
set_option maxHeartbeats 8000000 in
theorem specMessageOk_try (kd fr up tm ix lt cm : Int) (ok : Bool) (da : ByteArray) (la : Bool) (ao bo : Option Addr) (cap cbp : Nat) (es : List En) (cs : List Int) (w : World) (he : Reads w (.slice ao es.length cap) es) (hc : Reads w (.slice bo cs.length cbp) cs) (hn : es.length ≤ 1048577) (hm : cs.length ≤ 1048577) (hz : SizedE es) : Calls Tryd.prog 16 #[.agg #[.int .i64 kd, .int .i64 fr, .int .i64 up, .int .i64 tm, .int .i64 ix, .int .i64 lt, .int .i64 cm, .bool ok, (.slice ao es.length cap), (.slice bo cs.length cbp), .string da, .bool la]] w fun e w' => e = .returned (.bool (okMs kd fr up tm ix lt cm da la es cs)) ∧ Below w.heap.size w w' := by
  have HE : Hid (Reads w (.slice ao es.length cap) es) := he
  have HC : Hid (Reads w (.slice bo cs.length cbp) cs) := hc
  have HN : Hid (es.length ≤ 1048577) := hn
  have HM : Hid (cs.length ≤ 1048577) := hm
  have HZ : Hid (SizedE es) := hz
  clear he hc hn hm hz
  cases h1 : wiB kd 1 6 with
  | false =>
    rw [show okMs kd fr up tm ix lt cm da la es cs = false by simp [okMs, headM, h1]]
    go_enter Tryd.func16, Tryd.ntmps16
    go_wp2_with (go_at_call 46; refine (inW_any _ _ _ _).mono ?_; rintro e w2 ⟨rfl, hw⟩; have hw2 := hw.symm; subst hw2; first | rw [h1] | rw [h2] | rw [h3] | rw [h5] | rw [h6] | rw [h7] | rw [h8])
    go_ret
    exact ⟨rfl, ba (Below.refl _ _) _⟩
  | true =>
  cases h2 : wiB fr 1 4 with
  | false =>
    rw [show okMs kd fr up tm ix lt cm da la es cs = false by simp [okMs, headM, h2]]
    go_enter Tryd.func16, Tryd.ntmps16
    go_wp2_with (go_at_call 46; refine (inW_any _ _ _ _).mono ?_; rintro e w2 ⟨rfl, hw⟩; have hw2 := hw.symm; subst hw2; first | rw [h1] | rw [h2] | rw [h3] | rw [h5] | rw [h6] | rw [h7] | rw [h8])
    go_ret
    exact ⟨rfl, ba (Below.refl _ _) _⟩
  | true =>
  cases h3 : wiB up 1 4 with
  | false =>
    rw [show okMs kd fr up tm ix lt cm da la es cs = false by simp [okMs, headM, h3]]
    go_enter Tryd.func16, Tryd.ntmps16
    go_wp2_with (go_at_call 46; refine (inW_any _ _ _ _).mono ?_; rintro e w2 ⟨rfl, hw⟩; have hw2 := hw.symm; subst hw2; first | rw [h1] | rw [h2] | rw [h3] | rw [h5] | rw [h6] | rw [h7] | rw [h8])
    go_ret
    exact ⟨rfl, ba (Below.refl _ _) _⟩
  | true =>
  by_cases k4 : fr = up
  · rw [show okMs kd fr up tm ix lt cm da la es cs = false by simp [okMs, headM, k4]]
    subst k4
    go_enter Tryd.func16, Tryd.ntmps16
    go_wp2_with (go_at_call 46; refine (inW_any _ _ _ _).mono ?_; rintro e w2 ⟨rfl, hw⟩; have hw2 := hw.symm; subst hw2; first | rw [h1] | rw [h2] | rw [h3] | rw [h5] | rw [h6] | rw [h7] | rw [h8])
    go_ret
    exact ⟨rfl, ba (Below.refl _ _) _⟩
  have hk4 : (fr == up) = false := by simp [k4]
  cases h5 : wiB tm 0 100000 with
  | false =>
    rw [show okMs kd fr up tm ix lt cm da la es cs = false by simp [okMs, headM, h5]]
    go_enter Tryd.func16, Tryd.ntmps16
    go_wp2_with (go_at_call 46; refine (inW_any _ _ _ _).mono ?_; rintro e w2 ⟨rfl, hw⟩; have hw2 := hw.symm; subst hw2; first | rw [h1] | rw [h2] | rw [h3] | rw [h5] | rw [h6] | rw [h7] | rw [h8])
    go_ret
    exact ⟨rfl, ba (Below.refl _ _) _⟩
  | true =>
  cases h6 : wiB lt 0 100000 with
  | false =>
    rw [show okMs kd fr up tm ix lt cm da la es cs = false by simp [okMs, headM, h6]]
    go_enter Tryd.func16, Tryd.ntmps16
    go_wp2_with (go_at_call 46; refine (inW_any _ _ _ _).mono ?_; rintro e w2 ⟨rfl, hw⟩; have hw2 := hw.symm; subst hw2; first | rw [h1] | rw [h2] | rw [h3] | rw [h5] | rw [h6] | rw [h7] | rw [h8])
    go_ret
    exact ⟨rfl, ba (Below.refl _ _) _⟩
  | true =>
  cases h7 : wiB ix 0 1000000 with
  | false =>
    rw [show okMs kd fr up tm ix lt cm da la es cs = false by simp [okMs, headM, h7]]
    go_enter Tryd.func16, Tryd.ntmps16
    go_wp2_with (go_at_call 46; refine (inW_any _ _ _ _).mono ?_; rintro e w2 ⟨rfl, hw⟩; have hw2 := hw.symm; subst hw2; first | rw [h1] | rw [h2] | rw [h3] | rw [h5] | rw [h6] | rw [h7] | rw [h8])
    go_ret
    exact ⟨rfl, ba (Below.refl _ _) _⟩
  | true =>
  cases h8 : wiB cm 0 1000000 with
  | false =>
    rw [show okMs kd fr up tm ix lt cm da la es cs = false by simp [okMs, headM, h8]]
    go_enter Tryd.func16, Tryd.ntmps16
    go_wp2_with (go_at_call 46; refine (inW_any _ _ _ _).mono ?_; rintro e w2 ⟨rfl, hw⟩; have hw2 := hw.symm; subst hw2; first | rw [h1] | rw [h2] | rw [h3] | rw [h5] | rw [h6] | rw [h7] | rw [h8])
    go_ret
    exact ⟨rfl, ba (Below.refl _ _) _⟩
  | true =>
  obtain ⟨R, HR⟩ : ∃ R, Hid (okMs kd fr up tm ix lt cm da la es cs = R) := ⟨_, rfl⟩
  rw [HR.out]
  have HR1 : Hid (R = (sendS kd tm lt es && tailM kd da la cs)) := by
    show R = _
    rw [← HR.out]
    unfold okMs
    rw [show headM kd fr up tm ix lt cm = true by simp only [headM, h1, h2, h3, decide_eq_false k4, h5, h6, h7, h8]; rfl]
    rfl
  clear HR
  obtain ⟨n, Hn⟩ : ∃ n, Hid (es.length = n) := ⟨_, rfl⟩
  rw [Hn.out] at HE ⊢
  obtain ⟨m, Hm⟩ : ∃ m, Hid (cs.length = m) := ⟨_, rfl⟩
  rw [Hm.out] at HC ⊢
  by_cases h9 : n ≤ 4
  rotate_left
  · obtain rfl : R = false := by rw [HR1.out]; simp [sendS, Hn.out, h9]
    go_enter Tryd.func16, Tryd.ntmps16
    go_wp2_with (go_at_call 46; refine (inW_any _ _ _ _).mono ?_; rintro e w2 ⟨rfl, hw⟩; have hw2 := hw.symm; subst hw2; first | rw [h1] | rw [h2] | rw [h3] | rw [h5] | rw [h6] | rw [h7] | rw [h8])
    go_ret
    exact ⟨rfl, ba (Below.refl _ _) _⟩
  by_cases h10 : n = 0 ∨ kd = 3
  rotate_left
  · obtain rfl : R = false := by rw [HR1.out]; simp [sendS, Hn.out, h9]; intro h; exact absurd h h10
    have h11 : 0 < n := by omega
    have h12 : kd ≠ 3 := fun h => h10 (.inr h)
    clear h10
    have h13 : (kd != 3) = true := by simp [h12]
    go_enter Tryd.func16, Tryd.ntmps16
    go_wp2_with (go_at_call 46; refine (inW_any _ _ _ _).mono ?_; rintro e w2 ⟨rfl, hw⟩; have hw2 := hw.symm; subst hw2; first | rw [h1] | rw [h2] | rw [h3] | rw [h5] | rw [h6] | rw [h7] | rw [h8])
    go_ret
    exact ⟨rfl, ba (Below.refl _ _) _⟩
  have HR2 : Hid (R = (risesU tm lt es && tailM kd da la cs)) := by
    show R = _
    rw [HR1.out]
    unfold sendS
    rw [Hn.out, decide_eq_true h9]
    rcases h10 with h | h <;> simp [h]
  clear HR1
  by_cases h0 : n = 0
  · subst h0
    have HR4 : Hid (R = tailM kd da la cs) := by show R = _; rw [HR2.out, List.eq_nil_of_length_eq_zero Hn.out]; rfl
    go_enter Tryd.func16, Tryd.ntmps16
    go_wp2_with (go_at_call 46; refine (inW_any _ _ _ _).mono ?_; rintro e w2 ⟨rfl, hw⟩; have hw2 := hw.symm; subst hw2; first | rw [h1] | rw [h2] | rw [h3] | rw [h5] | rw [h6] | rw [h7] | rw [h8])
    clear h1 h2 h3 h5 h6 h7 h8 hk4 k4
    go_loopw [3, 4] (fun x i wr => x = .int .i64 lt ∧ i = .int .i64 0 ∧ Below (w.heap.size + 1) (w.alloc (.cells #[.int .i64 kd, .int .i64 fr, .int .i64 up, .int .i64 tm, .int .i64 ix, .int .i64 lt, .int .i64 cm, .bool ok, .slice ao 0 cap, .slice bo m cbp, .string da, .bool la] 31)) wr) (fun _ _ _ => 0)
    case atStart => exact ⟨rfl, rfl, Below.refl _ _⟩
    case round =>
      obtain ⟨rfl, rfl, hbw⟩ := hrel
      have hbel : Below w.heap.size w wr := (ba (Below.refl _ _) _).trans (hbw.mono (by omega))
      have K := (Kc12.new 31 w (.int .i64 kd) (.int .i64 fr) (.int .i64 up) (.int .i64 tm) (.int .i64 ix) (.int .i64 lt) (.int .i64 cm) (.bool ok) (.slice ao 0 cap) (.slice bo m cbp) (.string da) (.bool la)).on hbw (by omega)
      have c0 := K.c0
      have c3 := K.c3
      have c8 := K.c8
      have c9 := K.c9
      have c10 := K.c10
      have c11 := K.c11
      clear K
      by_cases h15 : kd = 5
      · subst h15
        have HR3 : Hid (R = chunkM cs da) := HR4.out
        go_wp2_with fail
        refine (specConfOk_any (HC.out.below hbel) HM.out).mono ?_
        rintro e w5 ⟨rfl, hb5⟩
        have c10b := cell_up hb5 c10
        have B5 := hbel.trans (hb5.mono hbel.size)
        clear hb5
        cases hk : okC cs with
        | false =>
          obtain rfl : R = false := by rw [HR3.out]; unfold chunkM; rw [hk]; rfl
          go_wp2
          go_ret
          exact ⟨rfl, B5⟩
        | true =>
        obtain rfl : R = decide ((da.size : Int) ≤ 60) := by rw [HR3.out]; unfold chunkM; rw [hk, Bool.true_and]; exact decide_eq_decide.2 (by omega)
        go_wp2
        go_ret
        exact ⟨rfl, B5⟩
      · have h16 : (kd == 5) = false := by simp [h15]
        have HR3 : Hid (R = noneC cs da la) := by show R = _; rw [HR4.out]; unfold tailM; rw [if_neg h15]
        by_cases hm0 : m = 0
        · subst hm0
          by_cases hd : da.toList = []
          · obtain rfl : R = !la := by rw [HR3.out]; unfold noneC; rw [Hm.out, decide_eq_true hd]; rfl
            cases la
            all_goals
              go_wp2
              go_ret
              exact ⟨rfl, hbel⟩
          · obtain rfl : R = false := by rw [HR3.out]; unfold noneC; rw [decide_eq_false hd]; simp
            have h3 : (da.toList == []) = false := by cases hl : da.toList with | nil => exact absurd hl hd | cons a b => rfl
            go_wp2
            go_ret
            exact ⟨rfl, hbel⟩
        · obtain rfl : R = false := by rw [HR3.out]; unfold noneC; rw [Hm.out, decide_eq_false hm0]; rfl
          have hb : ((m : Int) == 0) = false := by simp; omega
          go_wp2
          go_ret
          exact ⟨rfl, hbel⟩
  · have h17 : 0 < n := by omega
    obtain rfl : kd = 3 := h10.resolve_left h0
    clear h10 h0
    have HR4 : Hid (R = (risesU tm lt es && noneC cs da la)) := HR2.out
    go_enter Tryd.func16, Tryd.ntmps16
    go_wp2_with (go_at_call 46; refine (inW_any _ _ _ _).mono ?_; rintro e w2 ⟨rfl, hw⟩; have hw2 := hw.symm; subst hw2; first | rw [h1] | rw [h2] | rw [h3] | rw [h5] | rw [h6] | rw [h7] | rw [h8])
    clear h1 h2 h3 h5 h6 h7 h8 hk4 k4
    go_loopw [3, 4] (fun x i wr => ∃ (k : Nat) (a : Int), k ≤ n ∧ i = .int .i64 k ∧ x = .int .i64 a ∧ Hid (risesU tm a (es.drop k) = risesU tm lt es) ∧ Below (w.heap.size + 1) (w.alloc (.cells #[.int .i64 3, .int .i64 fr, .int .i64 up, .int .i64 tm, .int .i64 ix, .int .i64 lt, .int .i64 cm, .bool ok, .slice ao n cap, .slice bo m cbp, .string da, .bool la] 31)) wr) (fun _ i _ => n - (intOf i).toNat)
    case atStart => exact ⟨0, lt, Nat.zero_le _, rfl, rfl, by simp [Hid], Below.refl _ _⟩
    case round =>
      obtain ⟨k, a, hk, rfl, rfl, HX, hbw⟩ := hrel
      have hbel : Below w.heap.size w wr := (ba (Below.refl _ _) _).trans (hbw.mono (by omega))
      have K := (Kc12.new 31 w (.int .i64 3) (.int .i64 fr) (.int .i64 up) (.int .i64 tm) (.int .i64 ix) (.int .i64 lt) (.int .i64 cm) (.bool ok) (.slice ao n cap) (.slice bo m cbp) (.string da) (.bool la)).on hbw (by omega)
      have c0 := K.c0
      have c3 := K.c3
      have c8 := K.c8
      have c9 := K.c9
      have c10 := K.c10
      have c11 := K.c11
      clear K
      by_cases hlt : k < n
      · obtain ⟨f, hf⟩ : ∃ f, es[k]? = some f := ⟨_, List.getElem?_eq_getElem (by rw [Hn.out]; exact hlt)⟩
        have HM2 : Hid (f.data.size ≤ maxLen) := by have := HZ.out f (List.mem_of_getElem? hf); show _ ≤ maxLen; unfold maxLen; omega
        obtain ⟨b, o, rfl, hb, e0, e1, e2⟩ := en_at (HE.out.below hbel) hf
        have HS : Hid (risesU tm lt es = (okE f.term f.kind f.data && (decide (a ≤ f.term) && (decide (f.term ≤ tm) && risesU tm f.term (es.drop (k + 1)))))) := by show _ = _; rw [← HX.out]; exact risesU_at hf
        clear hf HX
        have q0 := Wd.cell e0
        have q1 := Wd.cell e1
        have q2 := Wd.cell e2
        have q3 := Wd.cell c3
        have q8 := Wd.cell c8
        cases hq : okE f.term f.kind f.data with
        | false =>
          have EE : Hid (∀ W, Calls Tryd.prog 47 #[.agg #[.int .i64 f.term, .int .i64 f.kind, .string f.data]] W fun e w' => e = .returned (.bool false) ∧ Below W.heap.size W w') := fun W => by have := specEntryOk_any f.term f.kind f.data W HM2.out; rwa [hq] at this
          obtain rfl : R = false := by rw [HR4.out, HS.out, hq]; rfl
          go_wp2
          refine wp_region_wd (by kernel_rfl) (by kernel_rfl) ?_
          repeat (go_big_quiet_step ((go_at_call 47; refine calls_wd (v := .bool false) ?_; with_reducible exact EE.out _)))
          refine wpQuiet_nil ?_
          rintro _ ⟨x1, rfl⟩
          go_wp2
          go_ret
          exact ⟨rfl, hbel.trans (x1.ok.mono hbel.size)⟩
        | true =>
        have EE : Hid (∀ W, Calls Tryd.prog 47 #[.agg #[.int .i64 f.term, .int .i64 f.kind, .string f.data]] W fun e w' => e = .returned (.bool true) ∧ Below W.heap.size W w') := fun W => by have := specEntryOk_any f.term f.kind f.data W HM2.out; rwa [hq] at this
        by_cases ha : a ≤ f.term
        rotate_left
        · obtain rfl : R = false := by rw [HR4.out, HS.out, decide_eq_false ha]; simp
          go_wp2
          refine wp_region_wd (by kernel_rfl) (by kernel_rfl) ?_
          repeat (go_big_quiet_step ((go_at_call 47; refine calls_wd (v := .bool true) ?_; with_reducible exact EE.out _)))
          refine wpQuiet_nil ?_
          rintro _ ⟨x1, rfl⟩
          go_wp2
          go_ret
          exact ⟨rfl, hbel.trans (x1.ok.mono hbel.size)⟩
        have ha2 : decide (f.term < a) = false := decide_eq_false (by omega)
        have ha3 : (f.term < a) = False := by simp; omega
        by_cases ht : f.term ≤ tm
        rotate_left
        · have ht2 : decide (tm < f.term) = true := decide_eq_true (by omega)
          have ht3 : (tm < f.term) = True := by simp; omega
          obtain rfl : R = false := by rw [HR4.out, HS.out, decide_eq_false ht]; simp
          go_wp2
          refine wp_region_wd (by kernel_rfl) (by kernel_rfl) ?_
          repeat (go_big_quiet_step ((go_at_call 47; refine calls_wd (v := .bool true) ?_; with_reducible exact EE.out _)))
          refine wpQuiet_nil ?_
          rintro _ ⟨x1, rfl⟩
          go_wp2
          go_ret
          exact ⟨rfl, hbel.trans (x1.ok.mono hbel.size)⟩
        have ht2 : decide (tm < f.term) = false := decide_eq_false (by omega)
        have ht3 : (tm < f.term) = False := by simp; omega
        have HX2 : Hid (risesU tm f.term (es.drop (k + 1)) = risesU tm lt es) := by show _ = _; rw [HS.out, hq, decide_eq_true ha, decide_eq_true ht]; rfl
        go_wp2
        refine wp_region_wd (by kernel_rfl) (by kernel_rfl) ?_
        repeat (go_big_quiet_step ((go_at_call 47; refine calls_wd (v := .bool true) ?_; with_reducible exact EE.out _)))
        refine wpQuiet_nil ?_
        rintro _ ⟨x1, rfl⟩
        have y0 := q0 x1
        have y8 := q8 x1
        go_wp2
        go_roundw
        case rel => exact ⟨k + 1, f.term, by omega, by go_num, rfl, HX2, hbw.trans (x1.ok.mono (by have := hbw.size; simpa using this))⟩
        case measure => simp [intOf]; omega
      · have hkn : k = n := by omega
        subst hkn
        have HR3 : Hid (R = noneC cs da la) := by show R = _; rw [HR4.out, ← HX.out, ← Hn.out, List.drop_length]; rfl
        by_cases hm0 : m = 0
        · subst hm0
          by_cases hd : da.toList = []
          · obtain rfl : R = !la := by rw [HR3.out]; unfold noneC; rw [Hm.out, decide_eq_true hd]; rfl
            cases la
            all_goals
              go_wp2
              go_ret
              exact ⟨rfl, hbel⟩
          · obtain rfl : R = false := by rw [HR3.out]; unfold noneC; rw [decide_eq_false hd]; simp
            have h3 : (da.toList == []) = false := by cases hl : da.toList with | nil => exact absurd hl hd | cons a b => rfl
            go_wp2
            go_ret
            exact ⟨rfl, hbel⟩
        · obtain rfl : R = false := by rw [HR3.out]; unfold noneC; rw [Hm.out, decide_eq_false hm0]; rfl
          have hb : ((m : Int) == 0) = false := by simp; omega
          go_wp2
          go_ret
          exact ⟨rfl, hbel⟩
theorem specMessageOk_any (kd fr up tm ix lt cm : Int) (ok : Bool) (da : ByteArray) (la : Bool) (e c : Value) (es : List En) (cs : List Int) (w : World) (he : Reads w e es) (hc : Reads w c cs) (hn : es.length ≤ 1048577) (hm : cs.length ≤ 1048577) (hz : SizedE es) : Calls Tryd.prog 16 #[.agg #[.int .i64 kd, .int .i64 fr, .int .i64 up, .int .i64 tm, .int .i64 ix, .int .i64 lt, .int .i64 cm, .bool ok, e, c, .string da, .bool la]] w fun e w' => e = .returned (.bool (okM kd fr up tm ix lt cm da la es cs)) ∧ Below w.heap.size w w' := by
  obtain ⟨ao, cap, rfl, _⟩ := id he
  obtain ⟨bo, cbp, rfl, _⟩ := id hc
  rw [okM_eq]
  exact specMessageOk_try kd fr up tm ix lt cm ok da la ao bo cap cbp es cs w he hc hn hm hz

end Go.Proofs.YtgjamikmjknlfaaDoor

namespace Go.Proofs
open Go.Shelf
def Tryd.laysM181_ren : Go.Shelf.Ren := ⟨fun | 181 => 86 | n => n, fun | 130 => 111 | 3 => 3 | 0 => 0 | 93 => 55 | 37 => 42 | 91 => 53 | 5 => 5 | n => n, fun | n => n⟩
theorem Tryd.laysM181 : Go.Proofs.LaysM.n181 Tryd.prog Tryd.laysM181_ren := {
  mixed := by kernel_rfl
  f181 := Tryd.func86.trans (congrArg some (by kernel_rfl))
  t0 := Tryd.underlying0
  a0 := Tryd.isAgg0
  z0 := Tryd.sizeOf0
  v0 := Tryd.zeroValue0
  t3 := Tryd.underlying3
  a3 := Tryd.isAgg3
  z3 := Tryd.sizeOf3
  v3 := Tryd.zeroValue3
  t37 := Tryd.underlying42
  a37 := Tryd.isAgg42
  z37 := Tryd.sizeOf42
  v37 := Tryd.zeroValue42
  t93 := Tryd.underlying55
  a93 := Tryd.isAgg55
  z93 := Tryd.sizeOf55
  v93 := Tryd.zeroValue55
  t130 := Tryd.underlying111
  a130 := Tryd.isAgg111
  z130 := Tryd.sizeOf111
  v130 := Tryd.zeroValue111
  t5 := Tryd.underlying5
  a5 := Tryd.isAgg5
  z5 := Tryd.sizeOf5
  v5 := Tryd.zeroValue5
  t91 := Tryd.underlying53
  a91 := Tryd.isAgg53
  z91 := Tryd.sizeOf53
  v91 := Tryd.zeroValue53
  i0 := by kernel_rfl
  i3 := by kernel_rfl
  i5 := by kernel_rfl
  i37 := by kernel_rfl
  i91 := by kernel_rfl
  i93 := by kernel_rfl
  i130 := by kernel_rfl }
open Go.RowKit in
theorem Tryd.Buffer_Len_at (T : TypeId) (R : Nat → Option Value) (B b q : Nat) (bs : List Value) (w : World) (h : LibA.IsBuffer T R 5 B b q bs w) :
    Calls Tryd.prog 86 #[.pointer (some ⟨b, q, none⟩)] w fun e w' => e = .returned (.int .i64 bs.length) ∧ ∃ n, w' = w.drewN n := Any.Buffer_Len_at Tryd.laysM181 T R B b q bs w h
def Tryd.laysM182_ren : Go.Shelf.Ren := ⟨fun | 182 => 31 | n => n, fun | 130 => 111 | 9 => 9 | 4 => 4 | 0 => 0 | 93 => 55 | 37 => 42 | 3 => 3 | 91 => 53 | 5 => 5 | n => n, fun | n => n⟩
theorem Tryd.laysM182 : Go.Proofs.LaysM.n182 Tryd.prog Tryd.laysM182_ren := {
  mixed := by kernel_rfl
  f182 := Tryd.func31.trans (congrArg some (by kernel_rfl))
  t0 := Tryd.underlying0
  a0 := Tryd.isAgg0
  z0 := Tryd.sizeOf0
  v0 := Tryd.zeroValue0
  t3 := Tryd.underlying3
  a3 := Tryd.isAgg3
  z3 := Tryd.sizeOf3
  v3 := Tryd.zeroValue3
  t4 := Tryd.underlying4
  a4 := Tryd.isAgg4
  z4 := Tryd.sizeOf4
  v4 := Tryd.zeroValue4
  t9 := Tryd.underlying9
  a9 := Tryd.isAgg9
  z9 := Tryd.sizeOf9
  v9 := Tryd.zeroValue9
  t37 := Tryd.underlying42
  a37 := Tryd.isAgg42
  z37 := Tryd.sizeOf42
  v37 := Tryd.zeroValue42
  t93 := Tryd.underlying55
  a93 := Tryd.isAgg55
  z93 := Tryd.sizeOf55
  v93 := Tryd.zeroValue55
  t130 := Tryd.underlying111
  a130 := Tryd.isAgg111
  z130 := Tryd.sizeOf111
  v130 := Tryd.zeroValue111
  t5 := Tryd.underlying5
  a5 := Tryd.isAgg5
  z5 := Tryd.sizeOf5
  v5 := Tryd.zeroValue5
  t91 := Tryd.underlying53
  a91 := Tryd.isAgg53
  z91 := Tryd.sizeOf53
  v91 := Tryd.zeroValue53
  i0 := by kernel_rfl
  i3 := by kernel_rfl
  i4 := by kernel_rfl
  i5 := by kernel_rfl
  i9 := by kernel_rfl
  i37 := by kernel_rfl
  i91 := by kernel_rfl
  i93 := by kernel_rfl
  i130 := by kernel_rfl }
open Go.RowKit in
theorem Tryd.Buffer_String_at (T : TypeId) (R : Nat → Option Value) (B b q : Nat) (l : List UInt8) (w : World) (h : LibA.IsBuffer T R 5 B b q (Lib.byteCells l) w) :
    Calls Tryd.prog 31 #[.pointer (some ⟨b, q, none⟩)] w fun e w' => e = .returned (.string ⟨l.toArray⟩) ∧ ∃ n, w' = w.drewN n := Any.Buffer_String_at Tryd.laysM182 T R B b q l w h
def Tryd.laysM179_ren : Go.Shelf.Ren := ⟨fun | 179 => 55 | 251 => 74 | 252 => 75 | 181 => 86 | 184 => 87 | 290 => 88 | 324 => 91 | n => n, fun | 130 => 111 | 5 => 5 | 75 => 104 | 0 => 0 | 93 => 55 | 91 => 53 | 3 => 3 | 131 => 122 | 4 => 4 | 37 => 42 | 20 => 20 | 80 => 63 | 9 => 9 | n => n, fun | 14 => 0 | n => n⟩
theorem Tryd.laysM179 : Go.Proofs.LaysM.n179 Tryd.prog Tryd.laysM179_ren := {
  mixed := by kernel_rfl
  f179 := Tryd.func55.trans (congrArg some (by kernel_rfl))
  f181 := Tryd.func86.trans (congrArg some (by kernel_rfl))
  f184 := Tryd.func87.trans (congrArg some (by kernel_rfl))
  f251 := Tryd.func74.trans (congrArg some (by kernel_rfl))
  f252 := Tryd.func75.trans (congrArg some (by kernel_rfl))
  f290 := Tryd.func88.trans (congrArg some (by kernel_rfl))
  f324 := Tryd.func91.trans (congrArg some (by kernel_rfl))
  t0 := Tryd.underlying0
  a0 := Tryd.isAgg0
  z0 := Tryd.sizeOf0
  v0 := Tryd.zeroValue0
  t3 := Tryd.underlying3
  a3 := Tryd.isAgg3
  z3 := Tryd.sizeOf3
  v3 := Tryd.zeroValue3
  t4 := Tryd.underlying4
  a4 := Tryd.isAgg4
  z4 := Tryd.sizeOf4
  v4 := Tryd.zeroValue4
  t5 := Tryd.underlying5
  a5 := Tryd.isAgg5
  z5 := Tryd.sizeOf5
  v5 := Tryd.zeroValue5
  t20 := Tryd.underlying20
  a20 := Tryd.isAgg20
  z20 := Tryd.sizeOf20
  v20 := Tryd.zeroValue20
  t37 := Tryd.underlying42
  a37 := Tryd.isAgg42
  z37 := Tryd.sizeOf42
  v37 := Tryd.zeroValue42
  t75 := Tryd.underlying104
  a75 := Tryd.isAgg104
  z75 := Tryd.sizeOf104
  v75 := Tryd.zeroValue104
  t91 := Tryd.underlying53
  a91 := Tryd.isAgg53
  z91 := Tryd.sizeOf53
  v91 := Tryd.zeroValue53
  t93 := Tryd.underlying55
  a93 := Tryd.isAgg55
  z93 := Tryd.sizeOf55
  v93 := Tryd.zeroValue55
  t130 := Tryd.underlying111
  a130 := Tryd.isAgg111
  z130 := Tryd.sizeOf111
  v130 := Tryd.zeroValue111
  t131 := Tryd.underlying122
  a131 := Tryd.isAgg122
  z131 := Tryd.sizeOf122
  v131 := Tryd.zeroValue122
  g14 := by kernel_rfl
  t9 := Tryd.underlying9
  a9 := Tryd.isAgg9
  z9 := Tryd.sizeOf9
  v9 := Tryd.zeroValue9
  t80 := Tryd.underlying63
  a80 := Tryd.isAgg63
  z80 := Tryd.sizeOf63
  v80 := Tryd.zeroValue63
  i0 := by kernel_rfl
  i3 := by kernel_rfl
  i4 := by kernel_rfl
  i5 := by kernel_rfl
  i9 := by kernel_rfl
  i20 := by kernel_rfl
  i37 := by kernel_rfl
  i75 := by kernel_rfl
  i80 := by kernel_rfl
  i91 := by kernel_rfl
  i93 := by kernel_rfl
  i130 := by kernel_rfl
  i131 := by kernel_rfl
  m14 := by kernel_rfl }
open Go.RowKit in
theorem Tryd.Buffer_WriteByte_at (T : TypeId) (R : Nat → Option Value) (B b q : Nat) (bs : List Value) (c : Int) (w : World) (h : LibA.IsBuffer T R 5 B b q bs w) (hBw : B ≤ w.heap.size) (h1 : ∀ v ∈ bs, v.oneCell' = true) (hlim : bs.length + 1 ≤ 140737488355328) :
    Calls Tryd.prog 55 #[.pointer (some ⟨b, q, none⟩), .int .u8 c] w fun e w' => e = .returned .nilIface ∧ LibA.IsBuffer T R 5 B b q (bs ++ [.int .u8 c]) w' ∧ Below B w w' ∧ Lib.OthersKept 5 (some b) w w' := Any.Buffer_WriteByte_at Tryd.laysM179 T R B b q bs c w h hBw h1 hlim
def Tryd.laysM178_ren : Go.Shelf.Ren := ⟨fun | 178 => 57 | 251 => 74 | 252 => 75 | 181 => 86 | 184 => 87 | 290 => 88 | 324 => 91 | n => n, fun | 130 => 111 | 9 => 9 | 3 => 3 | 75 => 104 | 0 => 0 | 93 => 55 | 91 => 53 | 131 => 122 | 4 => 4 | 37 => 42 | 20 => 20 | 80 => 63 | 5 => 5 | n => n, fun | 14 => 0 | n => n⟩
theorem Tryd.laysM178 : Go.Proofs.LaysM.n178 Tryd.prog Tryd.laysM178_ren := {
  mixed := by kernel_rfl
  f178 := Tryd.func57.trans (congrArg some (by kernel_rfl))
  f181 := Tryd.func86.trans (congrArg some (by kernel_rfl))
  f184 := Tryd.func87.trans (congrArg some (by kernel_rfl))
  f251 := Tryd.func74.trans (congrArg some (by kernel_rfl))
  f252 := Tryd.func75.trans (congrArg some (by kernel_rfl))
  f290 := Tryd.func88.trans (congrArg some (by kernel_rfl))
  f324 := Tryd.func91.trans (congrArg some (by kernel_rfl))
  t0 := Tryd.underlying0
  a0 := Tryd.isAgg0
  z0 := Tryd.sizeOf0
  v0 := Tryd.zeroValue0
  t3 := Tryd.underlying3
  a3 := Tryd.isAgg3
  z3 := Tryd.sizeOf3
  v3 := Tryd.zeroValue3
  t4 := Tryd.underlying4
  a4 := Tryd.isAgg4
  z4 := Tryd.sizeOf4
  v4 := Tryd.zeroValue4
  t9 := Tryd.underlying9
  a9 := Tryd.isAgg9
  z9 := Tryd.sizeOf9
  v9 := Tryd.zeroValue9
  t20 := Tryd.underlying20
  a20 := Tryd.isAgg20
  z20 := Tryd.sizeOf20
  v20 := Tryd.zeroValue20
  t37 := Tryd.underlying42
  a37 := Tryd.isAgg42
  z37 := Tryd.sizeOf42
  v37 := Tryd.zeroValue42
  t75 := Tryd.underlying104
  a75 := Tryd.isAgg104
  z75 := Tryd.sizeOf104
  v75 := Tryd.zeroValue104
  t91 := Tryd.underlying53
  a91 := Tryd.isAgg53
  z91 := Tryd.sizeOf53
  v91 := Tryd.zeroValue53
  t93 := Tryd.underlying55
  a93 := Tryd.isAgg55
  z93 := Tryd.sizeOf55
  v93 := Tryd.zeroValue55
  t130 := Tryd.underlying111
  a130 := Tryd.isAgg111
  z130 := Tryd.sizeOf111
  v130 := Tryd.zeroValue111
  t131 := Tryd.underlying122
  a131 := Tryd.isAgg122
  z131 := Tryd.sizeOf122
  v131 := Tryd.zeroValue122
  g14 := by kernel_rfl
  t5 := Tryd.underlying5
  a5 := Tryd.isAgg5
  z5 := Tryd.sizeOf5
  v5 := Tryd.zeroValue5
  t80 := Tryd.underlying63
  a80 := Tryd.isAgg63
  z80 := Tryd.sizeOf63
  v80 := Tryd.zeroValue63
  i0 := by kernel_rfl
  i3 := by kernel_rfl
  i4 := by kernel_rfl
  i5 := by kernel_rfl
  i9 := by kernel_rfl
  i20 := by kernel_rfl
  i37 := by kernel_rfl
  i75 := by kernel_rfl
  i80 := by kernel_rfl
  i91 := by kernel_rfl
  i93 := by kernel_rfl
  i130 := by kernel_rfl
  i131 := by kernel_rfl
  m14 := by kernel_rfl }
open Go.RowKit in
theorem Tryd.Buffer_WriteString_at (T : TypeId) (R : Nat → Option Value) (B b q : Nat) (bs : List Value) (s : ByteArray) (w : World) (h : LibA.IsBuffer T R 5 B b q bs w) (hBw : B ≤ w.heap.size) (h1 : ∀ v ∈ bs, v.oneCell' = true) (hlim : bs.length + s.size ≤ 140737488355328) :
    Calls Tryd.prog 57 #[.pointer (some ⟨b, q, none⟩), .string s] w fun e w' => e = .returned (.tuple #[.int .i64 s.size, .nilIface]) ∧ LibA.IsBuffer T R 5 B b q (bs ++ Lib.byteCells s.data.toList) w' ∧ Below B w w' ∧ Lib.OthersKept 5 (some b) w w' := Any.Buffer_WriteString_at Tryd.laysM178 T R B b q bs s w h hBw h1 hlim
end Go.Proofs
