/-
  More of the reader of a text: a flag, a conf or none, entries: the walks.
-/
import Derived.Test.YtgjamikmjknlfaaDoorRcn
import Derived.Test.YtgjamikmjknlfaaDoorRde
import Derived.Test.YtgjamikmjknlfaaDoorEns
import Derived.Test.YtgjamikmjknlfaaDoorAr
namespace Go.Proofs.YtgjamikmjknlfaaDoor
open Go Go.RowKit
set_option linter.unusedVariables false

def flaP (s : ByteArray) (a : Nat) : Option (Bool × Nat) := match oneP s a with
  | some (x, b) => some (decide ((x : Int) = 1), b)
  | none => none
set_option maxRecDepth 10000 in
set_option maxHeartbeats 1000000 in
theorem flagR_any (g : Nat) (s : ByteArray) (a : Nat) (w : World) (hc : Rdr w g s a) (hs : s.size ≤ 1048576) :
    Calls Tryd.prog 66 #[.pointer (some ⟨g, 0, none⟩)] w (StepP (flaP s a) (fun x => .bool x) g s w) := by
  have HC : Hid (Rdr w g s a) := hc
  clear hc
  obtain ⟨R, HR⟩ : ∃ R, Hid (flaP s a = R) := ⟨_, rfl⟩
  rw [HR.out]
  go_enter Tryd.func66, Tryd.ntmps66
  go_wp2_with fail
  refine (oneByteR_any g s a _ HC.out hs).mono ?_
  rintro e w1 h
  cases hq : oneP s a with
  | none =>
    rw [hq] at h
    obtain ⟨rfl, h1⟩ := h
    obtain rfl : R = none := by rw [← HR.out]; unfold flaP; rw [hq]
    clear hq
    go_wp2
    exact ⟨rfl, rfl, h1⟩
  | some r =>
    obtain ⟨x, b⟩ := r
    rw [hq] at h
    obtain ⟨rfl, h1, h2⟩ := h
    have H1 : Hid (Rdr w1 g s b) := h1
    have H2 : Hid (Save g w w1) := h2
    by_cases hx : (x : Int) = 1
    · obtain rfl : R = some (true, b) := by rw [← HR.out]; unfold flaP; rw [hq]; simp [hx]
      clear hq h1 h2
      go_wp2
      go_ret
      exact ⟨rfl, H1.out, H2.out⟩
    · obtain rfl : R = some (false, b) := by rw [← HR.out]; unfold flaP; rw [hq]; simp [hx]
      have hb : ((x : Int) == 1) = false := by rw [beq_eq_false_iff_ne]; exact hx
      clear hq h1 h2
      go_wp2
      go_ret
      exact ⟨rfl, H1.out, H2.out⟩


/-- The entry that a text tells, or the zero one. -/
def finE (s : ByteArray) (i t a : Nat) : En := if okF s i t a then ⟨t, kAt s a, dAt s a⟩ else ⟨0, 0, ByteArray.empty⟩
def entT (s : ByteArray) : En :=
  if (rv s 1).2.2 = true ∧ (rv s (rv s 1).2.1).2.2 = true ∧ (rv s (rv s 1).2.1).2.1 < s.size then finE s (rv s 1).1.toNat (rv s (rv s 1).2.1).1.toNat (rv s (rv s 1).2.1).2.1.toNat else ⟨0, 0, ByteArray.empty⟩
theorem rdV_eq (s : ByteArray) : ∃ (i : Int) (z : Bool), rdV s = .tuple #[.int .i64 i, .agg #[.int .i64 (entT s).term, .int .i64 (entT s).kind, .string (entT s).data], .bool z] := by
  unfold rdV entT
  split
  · unfold finV finE
    split
    · exact ⟨_, _, rfl⟩
    · exact ⟨_, _, rfl⟩
  · exact ⟨_, _, rfl⟩
theorem entT_size (s : ByteArray) : (entT s).data.size ≤ s.size := by
  unfold entT
  split
  · unfold finE
    split
    · exact dAt_size _ _
    · exact Nat.zero_le _
  · exact Nat.zero_le _
/-- What reading a conf comes to: what is no conf is none. -/
def ConfN (r : Option (ByteArray × Nat)) (g : Nat) (s : ByteArray) (w : World) (e : Ending) (w' : World) : Prop := match r with
  | some (c, b) => ∃ oa on oc, e = .returned (.slice oa on oc) ∧ ownsR w' w.heap.size 3 (.slice oa on oc) (confT c) ∧ Rdr w' g s b ∧ Save g w w'
  | none => e = .panicked tornP ∧ Save g w w'
theorem shoP_size {s t : ByteArray} {a b : Nat} (h : shoP s a = some (t, b)) : t.size ≤ 20000 := by
  obtain ⟨X, Y, _, e1, e2, rfl, _, _⟩ := shoP_some h
  rw [ByteArray.size_extract]; omega
set_option maxRecDepth 10000 in
set_option maxHeartbeats 1000000 in
theorem confN_any (g : Nat) (s : ByteArray) (a : Nat) (w : World) (hc : Rdr w g s a) (hs : s.size ≤ 1048576) :
    Calls Tryd.prog 68 #[.pointer (some ⟨g, 0, none⟩)] w (ConfN (shoP s a) g s w) := by
  have HC : Hid (Rdr w g s a) := hc
  clear hc
  obtain ⟨R, HR⟩ : ∃ R, Hid (shoP s a = R) := ⟨_, rfl⟩
  rw [HR.out]
  go_enter Tryd.func68, Tryd.ntmps68
  go_wp2_with fail
  refine (short_any g s a _ HC.out hs).mono ?_
  rintro e w1 h
  cases hq : shoP s a with
  | none =>
    rw [hq] at h
    obtain ⟨rfl, h1⟩ := h
    obtain rfl : R = none := by rw [← HR.out]; exact hq
    clear hq
    go_wp2
    exact ⟨rfl, rfl, h1⟩
  | some r =>
    obtain ⟨t, b⟩ := r
    rw [hq] at h
    obtain ⟨rfl, h1, h2⟩ := h
    obtain rfl : R = some (t, b) := by rw [← HR.out]; exact hq
    have H1 : Hid (Rdr w1 g s b) := h1
    have H2 : Hid (Save g w w1) := h2
    have HZ : Hid (t.size ≤ maxLen) := by have := shoP_size hq; show _ ≤ _; unfold maxLen; omega
    clear hq h1 h2
    go_wp2_with fail
    refine Calls.mono (readConf_any t _ HZ.out) ?_
    rintro e w2 ⟨v2, rfl, ho2, hb2⟩
    obtain ⟨a2, n2, d2, rfl⟩ := ho2.slice3
    have H3 : Hid (Rdr w2 g s b) := H1.out.up hb2
    have H4 : Hid (Save g w w2) := H2.out.trans (Save.of_below hb2)
    have HO : Hid (ownsR w2 w.heap.size 3 (.slice a2 n2 d2) (confT t)) := ho2.mono H2.out.size
    clear ho2 hb2
    go_wp2
    go_ret
    exact ⟨_, _, _, rfl, HO.out, H3.out, H4.out⟩

def entsG (s : ByteArray) : Nat → Nat → List En → Option (List En × Nat)
  | 0, a, l => some (l, a)
  | k + 1, a, l => match shoP s a with
    | some (t, b) => entsG s k b (l ++ [entT t])
    | none => none
theorem entsG_some {s t : ByteArray} {k a b : Nat} {l : List En} (h : shoP s a = some (t, b)) : entsG s (k + 1) a l = entsG s k b (l ++ [entT t]) := by
  rw [entsG, h]
theorem entsG_none {s : ByteArray} {k a : Nat} {l : List En} (h : shoP s a = none) : entsG s (k + 1) a l = none := by
  rw [entsG, h]
/-- The entries that a text tells, their count ahead. -/
def entsP (s : ByteArray) (a : Nat) : Option (List En × Nat) := match numU s 4 a with
  | some (n, b) => entsG s n b []
  | none => none
theorem entsG_len {s : ByteArray} : ∀ (k a : Nat) (l : List En) {r : List En} {b : Nat}, entsG s k a l = some (r, b) → r.length = l.length + k
  | 0, a, l, r, b, h => by simp only [entsG, Option.some.injEq, Prod.mk.injEq] at h; rw [← h.1]; rfl
  | k + 1, a, l, r, b, h => by
    unfold entsG at h
    split at h
    · have := entsG_len k _ _ h
      simp at this; omega
    · cases h
theorem entsG_sz {s : ByteArray} : ∀ (k a : Nat) (l : List En) {r : List En} {b : Nat}, entsG s k a l = some (r, b) → (∀ f ∈ l, f.data.size ≤ 20000) → ∀ f ∈ r, f.data.size ≤ 20000
  | 0, a, l, r, b, h, hl => by simp only [entsG, Option.some.injEq, Prod.mk.injEq] at h; rw [← h.1]; exact hl
  | k + 1, a, l, r, b, h, hl => by
    unfold entsG at h
    split at h
    · rename_i t c e
      refine entsG_sz k _ _ h fun f hf => ?_
      rcases List.mem_append.1 hf with hf | hf
      · exact hl f hf
      · rw [List.mem_singleton.1 hf]
        exact Nat.le_trans (entT_size t) (shoP_size e)
    · cases h
def EntsP (r : Option (List En × Nat)) (g : Nat) (s : ByteArray) (w : World) (e : Ending) (w' : World) : Prop := match r with
  | some (l, b) => ∃ oa on oc, e = .returned (.slice oa on oc) ∧ ownsR w' w.heap.size 47 (.slice oa on oc) l ∧ Rdr w' g s b ∧ Save g w w'
  | none => e = .panicked tornP ∧ Save g w w'
theorem en_built {w : World} {b : Nat} {f : En} (h : w.heap[b]? = some (.cells #[.int .i64 f.term, .int .i64 f.kind, .string f.data] 47)) : Reads w (.slice (some ⟨b, 0, none⟩) 1 1) [f] := by
  refine ⟨_, _, rfl, fun _ => ⟨b, 0, rfl, (Array.getElem?_eq_some_iff.1 h).1, fun i x hi j u hj => ?_⟩⟩
  have : i = 0 := by
    rcases i with _ | i
    · rfl
    · simp at hi
  subst this
  simp only [List.getElem?_cons_zero, Option.some.injEq] at hi
  subst hi
  have hj2 : ([.int .i64 f.term, .int .i64 f.kind, .string f.data] : List Value)[j]? = some u := hj
  simp [World.cell?, h, hj2]
theorem en_oneV (f : En) : ∀ x ∈ [f], ∀ u ∈ Rec.cells x, u.oneCell' = true := by
  intro x hx u hu
  rw [List.mem_singleton.1 hx] at hu
  have hu2 : u ∈ ([.int .i64 f.term, .int .i64 f.kind, .string f.data] : List Value) := hu
  simp only [List.mem_cons, List.not_mem_nil, or_false] at hu2
  rcases hu2 with rfl | rfl | rfl <;> rfl
theorem Save.grown {B g : Nat} {a w w' : World} {row : Option Nat} (h : Save g a w) (hg : w.grownBy w' row) (hB : a.heap.size ≤ B) (hr : ∀ k, row = some k → B ≤ k) : Save g a w' :=
  ⟨hg.os.trans h.os, hg.tape.trans h.tape, hg.output.trans h.output, Nat.le_trans h.size hg.size, fun k hk hkg => (hg.block k (Nat.lt_of_lt_of_le hk h.size) (fun e => by have := hr k e.symm; omega)).trans (h.block k hk hkg)⟩
theorem Rdr.grown {w w' : World} {g : Nat} {s : ByteArray} {a : Nat} {row : Option Nat} (h : Rdr w g s a) (hg : w.grownBy w' row) (hr : ∀ k, row = some k → g < k) : Rdr w' g s a :=
  (hg.block g h.lt (fun e => by have := hr g e.symm; omega)).trans h
theorem ownsR.saveE {α : Type} [Rec α] {w w' : World} {B g : Nat} {e : TypeId} {v : Value} {l : List α} (h : ownsR w B e v l) (hs : Save g w w') (hg : g < B) : ownsR w' B e v l :=
  h.holdR fun q hq => hs.block q (h.lt q hq).2 (by have := (h.lt q hq).1; omega)
set_option maxRecDepth 10000 in
set_option maxHeartbeats 4000000 in
theorem entsR_any (g : Nat) (s : ByteArray) (a : Nat) (w : World) (hc : Rdr w g s a) (hs : s.size ≤ 1048576) :
    Calls Tryd.prog 67 #[.pointer (some ⟨g, 0, none⟩)] w (EntsP (entsP s a) g s w) := by
  obtain ⟨R, HR⟩ : ∃ R, Hid (entsP s a = R) := ⟨_, rfl⟩
  rw [HR.out]
  have hgl := hc.lt
  obtain ⟨W0, HW0⟩ : ∃ W, Hid (w.alloc (.cells #[] 47) = W) := ⟨_, rfl⟩
  have HC : Hid (Rdr W0 g s a) := by rw [← HW0.out]; exact heap_old hc _
  have S0 : Hid (Save g w W0) := by rw [← HW0.out]; exact (Save.refl g w).alloc _
  have O0 : Hid (ownsR W0 w.heap.size 47 (.slice (some ⟨w.heap.size, 0, none⟩) 0 0) ([] : List En)) := by
    rw [← HW0.out]
    exact ownsR_made0 (α := En) w w.heap.size 47 (Nat.le_refl _)
  clear hc
  go_enter Tryd.func67, Tryd.ntmps67
  go_wp2_with fail
  rw [HW0.out]
  refine (show Calls Tryd.prog 82 _ _ _ from numberUp_any g s a 4 _ HC.out hs).mono ?_
  rintro e w1 h
  cases hq : numU s 4 a with
  | none =>
    rw [hq] at h
    obtain ⟨rfl, h1⟩ := h
    obtain rfl : R = none := by rw [← HR.out]; unfold entsP; rw [hq]
    have HS := S0.out.trans h1
    clear hq h1
    go_wp2
    exact ⟨rfl, rfl, HS⟩
  | some r =>
  obtain ⟨n, b⟩ := r
  rw [hq] at h
  obtain ⟨rfl, h1, h2⟩ := h
  have hn : n ≤ 4 := by
    unfold numU at hq
    split at hq
    · split at hq
      · rename_i hl; simp only [Option.some.injEq, Prod.mk.injEq] at hq; omega
      · cases hq
    · cases hq
  have HE : Hid (entsG s n b [] = R) := by show _ = _; rw [← HR.out]; unfold entsP; rw [hq]
  have H1 : Hid (Rdr w1 g s b) := h1
  have H2 : Hid (Save g w w1) := S0.out.trans h2
  have O1 : Hid (ownsR w1 w.heap.size 47 (.slice (some ⟨w.heap.size, 0, none⟩) 0 0) ([] : List En)) := O0.out.saveE h2 hgl
  clear hq h1 h2 HC S0 O0 HW0
  go_wp2
  go_loopw [3, 10] (fun x i wr => ∃ (k c : Nat) (l : List En) (x0 : Option Addr) (x1 x2 : Nat), k ≤ n ∧ i = .int .i64 k ∧ x = .slice x0 x1 x2 ∧ l.length = k ∧ Hid (entsG s (n - k) c l = R) ∧ Hid (ownsR wr w.heap.size 47 (.slice x0 x1 x2) l) ∧ Hid (Rdr wr g s c) ∧ Hid (Save g w wr)) (fun _ i _ => n - (intOf i).toNat)
  case atStart => exact ⟨0, b, [], _, _, _, Nat.zero_le _, rfl, rfl, rfl, HE, O1, H1, H2⟩
  case round =>
    obtain ⟨k, c, l, x0, x1, x2, hk, rfl, rfl, hl, HX, HO, HC, HS⟩ := hrel
    by_cases hlt : k < n
    · go_wp2_with fail
      refine (short_any g s c _ HC.out hs).mono ?_
      rintro e w2 h
      have hx : n - k = (n - (k + 1)) + 1 := by omega
      cases hq : shoP s c with
      | none =>
        rw [hq] at h
        obtain ⟨rfl, h1⟩ := h
        obtain rfl : R = none := by rw [← HX.out, hx]; exact entsG_none hq
        have HS2 := HS.out.trans h1
        clear hq h1
        go_wp2
        exact ⟨rfl, rfl, HS2⟩
      | some r =>
      obtain ⟨t, d⟩ := r
      rw [hq] at h
      obtain ⟨rfl, h1, h2⟩ := h
      have HX2 : Hid (entsG s (n - (k + 1)) d (l ++ [entT t]) = R) := by show _ = _; rw [← HX.out, hx]; exact (entsG_some hq).symm
      have HZ : Hid (t.size ≤ 1048576) := by have := shoP_size hq; show _ ≤ _; omega
      have HC2 : Hid (Rdr w2 g s d) := h1
      have HS2 : Hid (Save g w w2) := HS.out.trans h2
      have HO2 : Hid (ownsR w2 w.heap.size 47 (.slice x0 x1 x2) l) := HO.out.saveE h2 hgl
      clear hq h1 h2 HX HC HS HO hx
      have HRE : Hid (∀ W, Calls Tryd.prog 83 #[.string t] W fun e w' => e = .returned (rdV t) ∧ Below W.heap.size W w') := fun W => readEntry_any t W HZ.out
      obtain ⟨i, z, hv⟩ := rdV_eq t
      rw [hv] at HRE
      obtain ⟨f, HF⟩ : ∃ f, Hid (entT t = f) := ⟨_, rfl⟩
      rw [HF.out] at HRE HX2
      clear hv
      go_wp2_with fail
      refine (HRE.out _).mono ?_
      rintro e w3 ⟨rfl, hb3⟩
      have HC3 : Hid (Rdr w3 g s d) := HC2.out.up hb3
      have HS3 : Hid (Save g w w3) := HS2.out.trans (Save.of_below hb3)
      have HO3 : Hid (ownsR w3 w.heap.size 47 (.slice x0 x1 x2) l) := HO2.out.all hb3
      clear hb3 HC2 HS2 HO2 HRE
      obtain ⟨W4, HW4⟩ : ∃ W, Hid ((w3.alloc (.cells #[.int .i64 f.term, .int .i64 f.kind, .string f.data] 47)).alloc (.cells #[.int .i64 f.term, .int .i64 f.kind, .string f.data] 47) = W) := ⟨_, rfl⟩
      have HC4 : Hid (Rdr W4 g s d) := by rw [← HW4.out]; exact heap_old (heap_old HC3.out _) _
      have HS4 : Hid (Save g w W4) := by rw [← HW4.out]; exact (HS3.out.alloc _).alloc _
      have HO4 : Hid (ownsR W4 w.heap.size 47 (.slice x0 x1 x2) l) := by rw [← HW4.out]; exact (HO3.out.alloc _).alloc _
      have HB4 : Hid (Reads W4 (.slice (some ⟨w3.heap.size + 1, 0, none⟩) 1 1) [f]) := by rw [← HW4.out]; exact en_built (heap_next _ _ _)
      have HL : Hid (l.length + [f].length ≤ 1048577) := by show _ ≤ _; simp; omega
      go_wp2_with (at_builtin; rw [HW4.out]; refine wpList_append_recs rfl (.tmp 19) (.tmp 21) 29 rfl w.heap.size 47 _ 32 underEn infoEn rfl _ _ l [f] rfl rfl HO4.out HB4.out (en_oneV f) HL.out (by decide) HS4.out.size ?_)
      intro v5 W5 ho5 hg5
      have hown : ∀ q, (Value.slice x0 x1 x2).ownBlock = some q → w.heap.size ≤ q := fun q hq => (HO4.out.lt q hq).1
      have HC5 : Hid (Rdr W5 g s d) := HC4.out.grown hg5 fun q hq => by have := hown q hq; omega
      have HS5 : Hid (Save g w W5) := HS4.out.grown hg5 (Nat.le_refl _) hown
      obtain ⟨y0, y1, y2, rfl⟩ := ho5.slice3
      have HO5 : Hid (ownsR W5 w.heap.size 47 (.slice y0 y1 y2) (l ++ [f])) := ho5
      clear ho5 hg5 hown HC4 HS4 HO4 HB4 HL HW4 HC3 HS3 HO3
      go_wp2
      go_roundw
      case rel => exact ⟨k + 1, d, l ++ [f], _, _, _, by omega, by go_num, rfl, by simp; omega, HX2, HO5, HC5, HS5⟩
      case measure => simp [intOf]; omega
    · have hkn : k = n := by omega
      subst hkn
      obtain rfl : R = some (l, c) := by rw [← HX.out]; simp [entsG]
      go_wp2
      go_ret
      exact ⟨_, _, _, rfl, HO.out, HC.out, HS.out⟩
end Go.Proofs.YtgjamikmjknlfaaDoor
