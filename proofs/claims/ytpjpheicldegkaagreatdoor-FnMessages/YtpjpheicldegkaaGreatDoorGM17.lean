/- Rcn,Rcm,Eni8,Brd,Rvk -/
import Derived.Test.YtpjpheicldegkaaGreatDoorRdc
import Derived.Test.YtpjpheicldegkaaGreatDoorGM5
import Derived.Test.YtpjpheicldegkaaGreatDoorRde
import Derived.Test.YtpjpheicldegkaaGreatDoorGM12
import Derived.Test.YtpjpheicldegkaaGreatDoorGM16
import Derived.Test.YtpjpheicldegkaaGreatDoorGM15
namespace Go.Proofs.YtpjpheicldegkaaGreatDoor
open Go Go.RowKit
set_option linter.unusedVariables false

def numU (s : ByteArray) (lim : Nat) (a : Nat) : Option (Nat × Nat) := match numP s a with
  | some (x, y) => if x ≤ lim then some (x, y) else none
  | none => none
def conP (s : ByteArray) (a : Nat) : Option (ByteArray × Nat) := match shoP s a with
  | some (t, b) => if okT t = true then some (t, b) else none
  | none => none
theorem Save.farS {g : Nat} {a w : World} (h : Save g a w) {p : Addr} (hp : a.heap.size ≤ p.block) (u : Value) : Save g a (w.setCell p u) :=
  ⟨h.os, h.tape, h.output, by rw [World.size_setCell]; exact h.size, fun k hk hg => (heap_setCell_other w p k u (by omega)).trans (h.block k hk hg)⟩
theorem ownsR.holdR {α : Type} [Rec α] {w W : World} {B : Nat} {e : TypeId} {v : Value} {l : List α} (h : ownsR w B e v l) (hk : ∀ q, v.ownBlock = some q → W.heap[q]? = w.heap[q]?) : ownsR W B e v l := by
  refine ⟨h.1, ?_⟩
  rcases h.2 with h2 | ⟨g, cap, cur, rfl, hB, hg, hr⟩
  · exact .inl h2
  · exact .inr ⟨g, cap, cur, rfl, hB, (hk g rfl).trans hg, hr⟩
set_option maxRecDepth 10000 in
set_option maxHeartbeats 1000000 in
theorem numberUp_any (g : Nat) (s : ByteArray) (a lim : Nat) (w : World) (hc : Rdr w g s a) (hs : s.size ≤ 1048576) :
    Calls Tryz.prog 81 #[.pointer (some ⟨g, 0, none⟩), .int .i64 (lim : Int)] w (StepP (numU s lim a) (fun x => .int .i64 (x : Int)) g s w) := by
  have HC : Hid (Rdr w g s a) := hc
  clear hc
  obtain ⟨R, HR⟩ : ∃ R, Hid (numU s lim a = R) := ⟨_, rfl⟩
  rw [HR.out]
  go_enter Tryz.func81, Tryz.ntmps81
  go_wp2_with fail
  refine (qme g s a _ HC.out hs).mono ?_
  rintro e w1 h
  cases hq : numP s a with
  | none =>
    rw [hq] at h
    obtain ⟨rfl, h1⟩ := h
    obtain rfl : R = none := by rw [← HR.out]; unfold numU; rw [hq]
    clear hq
    go_wp2
    exact ⟨rfl, rfl, h1⟩
  | some r =>
    obtain ⟨x, b⟩ := r
    rw [hq] at h
    obtain ⟨rfl, h1, h2⟩ := h
    have H1 : Hid (Rdr w1 g s b) := h1
    have H2 : Hid (Save g w w1) := h2
    by_cases hx : x ≤ lim
    · obtain rfl : R = some (x, b) := by rw [← HR.out]; unfold numU; rw [hq]; simp [hx]
      have hd : decide ((x : Int) ≤ (lim : Int)) = true := decide_eq_true (by omega)
      have hd2 : decide (x ≤ lim) = true := decide_eq_true hx
      clear hq h1 h2
      go_wp2_with fail
      refine (show Calls Tryz.prog 79 _ _ _ from untorn_yes _).mono ?_
      rintro e w2 ⟨rfl, hw⟩
      have hw2 := hw.symm
      subst hw2
      clear hw
      go_wp2
      go_ret
      exact ⟨rfl, H1.out, H2.out⟩
    · obtain rfl : R = none := by rw [← HR.out]; unfold numU; rw [hq]; simp [hx]
      have hd : decide ((x : Int) ≤ (lim : Int)) = false := decide_eq_false (by omega)
      have hd2 : decide (x ≤ lim) = false := decide_eq_false hx
      clear hq h1 h2
      go_wp2_with fail
      refine (show Calls Tryz.prog 79 _ _ _ from untorn_no _).mono ?_
      rintro e w2 ⟨rfl, hw⟩
      have hw2 := hw.symm
      subst hw2
      clear hw
      go_wp2
      exact ⟨rfl, rfl, H2.out⟩
def ConfP (r : Option (ByteArray × Nat)) (g : Nat) (s : ByteArray) (w : World) (e : Ending) (w' : World) : Prop := match r with
  | some (c, b) => ∃ v, e = .returned v ∧ ownsR w' w.heap.size 3 v (confT c) ∧ Rdr w' g s b ∧ Save g w w'
  | none => e = .panicked tornP ∧ Save g w w'
end Go.Proofs.YtpjpheicldegkaaGreatDoor

namespace Go.Proofs.YtpjpheicldegkaaGreatDoor
open Go Go.RowKit
set_option linter.unusedVariables false

def flaP (s : ByteArray) (a : Nat) : Option (Bool × Nat) := match oneP s a with
  | some (x, b) => some (decide ((x : Int) = 1), b)
  | none => none
set_option maxRecDepth 10000 in
set_option maxHeartbeats 1000000 in
theorem flagR_any (g : Nat) (s : ByteArray) (a : Nat) (w : World) (hc : Rdr w g s a) (hs : s.size ≤ 1048576) :
    Calls Tryz.prog 55 #[.pointer (some ⟨g, 0, none⟩)] w (StepP (flaP s a) (fun x => .bool x) g s w) := by
  have HC : Hid (Rdr w g s a) := hc
  clear hc
  obtain ⟨R, HR⟩ : ∃ R, Hid (flaP s a = R) := ⟨_, rfl⟩
  rw [HR.out]
  go_enter Tryz.func55, Tryz.ntmps55
  go_wp2_with fail
  refine (oneByteR_any g s a _ HC.out hs).mono ?_
  rintro e w1 h
  cases hq : oneP s a with
  | none =>
    rw [hq] at h
    obtain ⟨rfl, h1⟩ := h
    obtain rfl : R = none := by rw [← HR.out]; unfold flaP; rw [hq]
    clear hq
    go_wp2
    exact ⟨rfl, rfl, h1⟩
  | some r =>
    obtain ⟨x, b⟩ := r
    rw [hq] at h
    obtain ⟨rfl, h1, h2⟩ := h
    have H1 : Hid (Rdr w1 g s b) := h1
    have H2 : Hid (Save g w w1) := h2
    by_cases hx : (x : Int) = 1
    · obtain rfl : R = some (true, b) := by rw [← HR.out]; unfold flaP; rw [hq]; simp [hx]
      clear hq h1 h2
      go_wp2
      go_ret
      exact ⟨rfl, H1.out, H2.out⟩
    · obtain rfl : R = some (false, b) := by rw [← HR.out]; unfold flaP; rw [hq]; simp [hx]
      have hb : ((x : Int) == 1) = false := by rw [beq_eq_false_iff_ne]; exact hx
      clear hq h1 h2
      go_wp2
      go_ret
      exact ⟨rfl, H1.out, H2.out⟩

def finE (s : ByteArray) (i t a : Nat) : En := if okF s i t a then ⟨t, kAt s a, dAt s a⟩ else ⟨0, 0, ByteArray.empty⟩
def entT (s : ByteArray) : En :=
  if (rv s 1).2.2 = true ∧ (rv s (rv s 1).2.1).2.2 = true ∧ (rv s (rv s 1).2.1).2.1 < s.size then finE s (rv s 1).1.toNat (rv s (rv s 1).2.1).1.toNat (rv s (rv s 1).2.1).2.1.toNat else ⟨0, 0, ByteArray.empty⟩
theorem rdV_eq (s : ByteArray) : ∃ (i : Int) (z : Bool), rdV s = .tuple #[.int .i64 i, .agg #[.int .i64 (entT s).term, .int .i64 (entT s).kind, .string (entT s).data], .bool z] := by
  unfold rdV entT
  split
  · unfold finV finE
    split
    · exact ⟨_, _, rfl⟩
    · exact ⟨_, _, rfl⟩
  · exact ⟨_, _, rfl⟩
theorem entT_size (s : ByteArray) : (entT s).data.size ≤ s.size := by
  unfold entT
  split
  · unfold finE
    split
    · exact dAt_size _ _
    · exact Nat.zero_le _
  · exact Nat.zero_le _
def ConfN (r : Option (ByteArray × Nat)) (g : Nat) (s : ByteArray) (w : World) (e : Ending) (w' : World) : Prop := match r with
  | some (c, b) => ∃ oa on oc, e = .returned (.slice oa on oc) ∧ ownsR w' w.heap.size 3 (.slice oa on oc) (confT c) ∧ Rdr w' g s b ∧ Save g w w'
  | none => e = .panicked tornP ∧ Save g w w'
theorem shoP_size {s t : ByteArray} {a b : Nat} (h : shoP s a = some (t, b)) : t.size ≤ 20000 := by
  obtain ⟨X, Y, _, e1, e2, rfl, _, _⟩ := shoP_some h
  rw [ByteArray.size_extract]; omega
set_option maxRecDepth 10000 in
set_option maxHeartbeats 1000000 in
theorem confN_any (g : Nat) (s : ByteArray) (a : Nat) (w : World) (hc : Rdr w g s a) (hs : s.size ≤ 1048576) :
    Calls Tryz.prog 57 #[.pointer (some ⟨g, 0, none⟩)] w (ConfN (shoP s a) g s w) := by
  have HC : Hid (Rdr w g s a) := hc
  clear hc
  obtain ⟨R, HR⟩ : ∃ R, Hid (shoP s a = R) := ⟨_, rfl⟩
  rw [HR.out]
  go_enter Tryz.func57, Tryz.ntmps57
  go_wp2_with fail
  refine (short_any g s a _ HC.out hs).mono ?_
  rintro e w1 h
  cases hq : shoP s a with
  | none =>
    rw [hq] at h
    obtain ⟨rfl, h1⟩ := h
    obtain rfl : R = none := by rw [← HR.out]; exact hq
    clear hq
    go_wp2
    exact ⟨rfl, rfl, h1⟩
  | some r =>
    obtain ⟨t, b⟩ := r
    rw [hq] at h
    obtain ⟨rfl, h1, h2⟩ := h
    obtain rfl : R = some (t, b) := by rw [← HR.out]; exact hq
    have H1 : Hid (Rdr w1 g s b) := h1
    have H2 : Hid (Save g w w1) := h2
    have HZ : Hid (t.size ≤ maxLen) := by have := shoP_size hq; show _ ≤ _; unfold maxLen; omega
    clear hq h1 h2
    go_wp2_with fail
    refine Calls.mono (readConf_any t _ HZ.out) ?_
    rintro e w2 ⟨v2, rfl, ho2, hb2⟩
    obtain ⟨a2, n2, d2, rfl⟩ := ho2.slice3
    have H3 : Hid (Rdr w2 g s b) := H1.out.up hb2
    have H4 : Hid (Save g w w2) := H2.out.trans (Save.of_below hb2)
    have HO : Hid (ownsR w2 w.heap.size 3 (.slice a2 n2 d2) (confT t)) := ho2.mono H2.out.size
    clear ho2 hb2
    go_wp2
    go_ret
    exact ⟨_, _, _, rfl, HO.out, H3.out, H4.out⟩

def entsG (s : ByteArray) : Nat → Nat → List En → Option (List En × Nat)
  | 0, a, l => some (l, a)
  | k + 1, a, l => match shoP s a with
    | some (t, b) => entsG s k b (l ++ [entT t])
    | none => none
theorem entsG_some {s t : ByteArray} {k a b : Nat} {l : List En} (h : shoP s a = some (t, b)) : entsG s (k + 1) a l = entsG s k b (l ++ [entT t]) := by
  rw [entsG, h]
theorem entsG_none {s : ByteArray} {k a : Nat} {l : List En} (h : shoP s a = none) : entsG s (k + 1) a l = none := by
  rw [entsG, h]
def entsP (s : ByteArray) (a : Nat) : Option (List En × Nat) := match numU s 4 a with
  | some (n, b) => entsG s n b []
  | none => none
theorem entsG_len {s : ByteArray} : ∀ (k a : Nat) (l : List En) {r : List En} {b : Nat}, entsG s k a l = some (r, b) → r.length = l.length + k
  | 0, a, l, r, b, h => by simp only [entsG, Option.some.injEq, Prod.mk.injEq] at h; rw [← h.1]; rfl
  | k + 1, a, l, r, b, h => by
    unfold entsG at h
    split at h
    · have := entsG_len k _ _ h
      simp at this; omega
    · cases h
theorem entsG_sz {s : ByteArray} : ∀ (k a : Nat) (l : List En) {r : List En} {b : Nat}, entsG s k a l = some (r, b) → (∀ f ∈ l, f.data.size ≤ 20000) → ∀ f ∈ r, f.data.size ≤ 20000
  | 0, a, l, r, b, h, hl => by simp only [entsG, Option.some.injEq, Prod.mk.injEq] at h; rw [← h.1]; exact hl
  | k + 1, a, l, r, b, h, hl => by
    unfold entsG at h
    split at h
    · rename_i t c e
      refine entsG_sz k _ _ h fun f hf => ?_
      rcases List.mem_append.1 hf with hf | hf
      · exact hl f hf
      · rw [List.mem_singleton.1 hf]
        exact Nat.le_trans (entT_size t) (shoP_size e)
    · cases h
def EntsP (r : Option (List En × Nat)) (g : Nat) (s : ByteArray) (w : World) (e : Ending) (w' : World) : Prop := match r with
  | some (l, b) => ∃ oa on oc, e = .returned (.slice oa on oc) ∧ ownsR w' w.heap.size 59 (.slice oa on oc) l ∧ Rdr w' g s b ∧ Save g w w'
  | none => e = .panicked tornP ∧ Save g w w'
theorem en_built {w : World} {b : Nat} {f : En} (h : w.heap[b]? = some (.cells #[.int .i64 f.term, .int .i64 f.kind, .string f.data] 59)) : Reads w (.slice (some ⟨b, 0, none⟩) 1 1) [f] := by
  refine ⟨_, _, rfl, fun _ => ⟨b, 0, rfl, (Array.getElem?_eq_some_iff.1 h).1, fun i x hi j u hj => ?_⟩⟩
  have : i = 0 := by
    rcases i with _ | i
    · rfl
    · simp at hi
  subst this
  simp only [List.getElem?_cons_zero, Option.some.injEq] at hi
  subst hi
  have hj2 : ([.int .i64 f.term, .int .i64 f.kind, .string f.data] : List Value)[j]? = some u := hj
  simp [World.cell?, h, hj2]
theorem en_oneV (f : En) : ∀ x ∈ [f], ∀ u ∈ Rec.cells x, u.oneCell' = true := by
  intro x hx u hu
  rw [List.mem_singleton.1 hx] at hu
  have hu2 : u ∈ ([.int .i64 f.term, .int .i64 f.kind, .string f.data] : List Value) := hu
  simp only [List.mem_cons, List.not_mem_nil, or_false] at hu2
  rcases hu2 with rfl | rfl | rfl <;> rfl
theorem Save.grown {B g : Nat} {a w w' : World} {row : Option Nat} (h : Save g a w) (hg : w.grownBy w' row) (hB : a.heap.size ≤ B) (hr : ∀ k, row = some k → B ≤ k) : Save g a w' :=
  ⟨hg.os.trans h.os, hg.tape.trans h.tape, hg.output.trans h.output, Nat.le_trans h.size hg.size, fun k hk hkg => (hg.block k (Nat.lt_of_lt_of_le hk h.size) (fun e => by have := hr k e.symm; omega)).trans (h.block k hk hkg)⟩
theorem Rdr.grown {w w' : World} {g : Nat} {s : ByteArray} {a : Nat} {row : Option Nat} (h : Rdr w g s a) (hg : w.grownBy w' row) (hr : ∀ k, row = some k → g < k) : Rdr w' g s a :=
  (hg.block g h.lt (fun e => by have := hr g e.symm; omega)).trans h
theorem ownsR.saveE {α : Type} [Rec α] {w w' : World} {B g : Nat} {e : TypeId} {v : Value} {l : List α} (h : ownsR w B e v l) (hs : Save g w w') (hg : g < B) : ownsR w' B e v l :=
  h.holdR fun q hq => hs.block q (h.lt q hq).2 (by have := (h.lt q hq).1; omega)
set_option maxRecDepth 10000 in
set_option maxHeartbeats 4000000 in
theorem entsR_any (g : Nat) (s : ByteArray) (a : Nat) (w : World) (hc : Rdr w g s a) (hs : s.size ≤ 1048576) :
    Calls Tryz.prog 56 #[.pointer (some ⟨g, 0, none⟩)] w (EntsP (entsP s a) g s w) := by
  obtain ⟨R, HR⟩ : ∃ R, Hid (entsP s a = R) := ⟨_, rfl⟩
  rw [HR.out]
  have hgl := hc.lt
  obtain ⟨W0, HW0⟩ : ∃ W, Hid (w.alloc (.cells #[] 59) = W) := ⟨_, rfl⟩
  have HC : Hid (Rdr W0 g s a) := by rw [← HW0.out]; exact qvb hc _
  have S0 : Hid (Save g w W0) := by rw [← HW0.out]; exact (Save.refl g w).alloc _
  have O0 : Hid (ownsR W0 w.heap.size 59 (.slice (some ⟨w.heap.size, 0, none⟩) 0 0) ([] : List En)) := by
    rw [← HW0.out]
    exact qoe (α := En) w w.heap.size 59 (Nat.le_refl _)
  clear hc
  go_enter Tryz.func56, Tryz.ntmps56
  go_wp2_with fail
  rw [HW0.out]
  refine (show Calls Tryz.prog 81 _ _ _ from numberUp_any g s a 4 _ HC.out hs).mono ?_
  rintro e w1 h
  cases hq : numU s 4 a with
  | none =>
    rw [hq] at h
    obtain ⟨rfl, h1⟩ := h
    obtain rfl : R = none := by rw [← HR.out]; unfold entsP; rw [hq]
    have HS := S0.out.trans h1
    clear hq h1
    go_wp2
    exact ⟨rfl, rfl, HS⟩
  | some r =>
  obtain ⟨n, b⟩ := r
  rw [hq] at h
  obtain ⟨rfl, h1, h2⟩ := h
  have hn : n ≤ 4 := by
    unfold numU at hq
    split at hq
    · split at hq
      · rename_i hl; simp only [Option.some.injEq, Prod.mk.injEq] at hq; omega
      · cases hq
    · cases hq
  have HE : Hid (entsG s n b [] = R) := by show _ = _; rw [← HR.out]; unfold entsP; rw [hq]
  have H1 : Hid (Rdr w1 g s b) := h1
  have H2 : Hid (Save g w w1) := S0.out.trans h2
  have O1 : Hid (ownsR w1 w.heap.size 59 (.slice (some ⟨w.heap.size, 0, none⟩) 0 0) ([] : List En)) := O0.out.saveE h2 hgl
  clear hq h1 h2 HC S0 O0 HW0
  go_wp2
  go_loopw [3, 10] (fun x i wr => ∃ (k c : Nat) (l : List En) (x0 : Option Addr) (x1 x2 : Nat), k ≤ n ∧ i = .int .i64 k ∧ x = .slice x0 x1 x2 ∧ l.length = k ∧ Hid (entsG s (n - k) c l = R) ∧ Hid (ownsR wr w.heap.size 59 (.slice x0 x1 x2) l) ∧ Hid (Rdr wr g s c) ∧ Hid (Save g w wr)) (fun _ i _ => n - (intOf i).toNat)
  case atStart => exact ⟨0, b, [], _, _, _, Nat.zero_le _, rfl, rfl, rfl, HE, O1, H1, H2⟩
  case round =>
    obtain ⟨k, c, l, x0, x1, x2, hk, rfl, rfl, hl, HX, HO, HC, HS⟩ := hrel
    by_cases hlt : k < n
    · go_wp2_with fail
      refine (short_any g s c _ HC.out hs).mono ?_
      rintro e w2 h
      have hx : n - k = (n - (k + 1)) + 1 := by omega
      cases hq : shoP s c with
      | none =>
        rw [hq] at h
        obtain ⟨rfl, h1⟩ := h
        obtain rfl : R = none := by rw [← HX.out, hx]; exact entsG_none hq
        have HS2 := HS.out.trans h1
        clear hq h1
        go_wp2
        exact ⟨rfl, rfl, HS2⟩
      | some r =>
      obtain ⟨t, d⟩ := r
      rw [hq] at h
      obtain ⟨rfl, h1, h2⟩ := h
      have HX2 : Hid (entsG s (n - (k + 1)) d (l ++ [entT t]) = R) := by show _ = _; rw [← HX.out, hx]; exact (entsG_some hq).symm
      have HZ : Hid (t.size ≤ 1048576) := by have := shoP_size hq; show _ ≤ _; omega
      have HC2 : Hid (Rdr w2 g s d) := h1
      have HS2 : Hid (Save g w w2) := HS.out.trans h2
      have HO2 : Hid (ownsR w2 w.heap.size 59 (.slice x0 x1 x2) l) := HO.out.saveE h2 hgl
      clear hq h1 h2 HX HC HS HO hx
      have HRE : Hid (∀ W, Calls Tryz.prog 82 #[.string t] W fun e w' => e = .returned (rdV t) ∧ Below W.heap.size W w') := fun W => readEntry_any t W HZ.out
      obtain ⟨i, z, hv⟩ := rdV_eq t
      rw [hv] at HRE
      obtain ⟨f, HF⟩ : ∃ f, Hid (entT t = f) := ⟨_, rfl⟩
      rw [HF.out] at HRE HX2
      clear hv
      go_wp2_with fail
      refine (HRE.out _).mono ?_
      rintro e w3 ⟨rfl, hb3⟩
      have HC3 : Hid (Rdr w3 g s d) := HC2.out.up hb3
      have HS3 : Hid (Save g w w3) := HS2.out.trans (Save.of_below hb3)
      have HO3 : Hid (ownsR w3 w.heap.size 59 (.slice x0 x1 x2) l) := HO2.out.all hb3
      clear hb3 HC2 HS2 HO2 HRE
      obtain ⟨W4, HW4⟩ : ∃ W, Hid ((w3.alloc (.cells #[.int .i64 f.term, .int .i64 f.kind, .string f.data] 59)).alloc (.cells #[.int .i64 f.term, .int .i64 f.kind, .string f.data] 59) = W) := ⟨_, rfl⟩
      have HC4 : Hid (Rdr W4 g s d) := by rw [← HW4.out]; exact qvb (qvb HC3.out _) _
      have HS4 : Hid (Save g w W4) := by rw [← HW4.out]; exact (HS3.out.alloc _).alloc _
      have HO4 : Hid (ownsR W4 w.heap.size 59 (.slice x0 x1 x2) l) := by rw [← HW4.out]; exact (HO3.out.alloc _).alloc _
      have HB4 : Hid (Reads W4 (.slice (some ⟨w3.heap.size + 1, 0, none⟩) 1 1) [f]) := by rw [← HW4.out]; exact en_built (heap_next _ _ _)
      have HL : Hid (l.length + [f].length ≤ 1048577) := by show _ ≤ _; simp; omega
      go_wp2_with (at_builtin; rw [HW4.out]; refine qca rfl (.tmp 19) (.tmp 21) 24 rfl w.heap.size 59 _ 32 underEn infoEn rfl _ _ l [f] rfl rfl HO4.out HB4.out (en_oneV f) HL.out (by decide) HS4.out.size ?_)
      intro v5 W5 ho5 hg5
      have hown : ∀ q, (Value.slice x0 x1 x2).ownBlock = some q → w.heap.size ≤ q := fun q hq => (HO4.out.lt q hq).1
      have HC5 : Hid (Rdr W5 g s d) := HC4.out.grown hg5 fun q hq => by have := hown q hq; omega
      have HS5 : Hid (Save g w W5) := HS4.out.grown hg5 (Nat.le_refl _) hown
      obtain ⟨y0, y1, y2, rfl⟩ := ho5.slice3
      have HO5 : Hid (ownsR W5 w.heap.size 59 (.slice y0 y1 y2) (l ++ [f])) := ho5
      clear ho5 hg5 hown HC4 HS4 HO4 HB4 HL HW4 HC3 HS3 HO3
      go_wp2
      go_roundw
      case rel => exact ⟨k + 1, d, l ++ [f], _, _, _, by omega, by go_num, rfl, by simp; omega, HX2, HO5, HC5, HS5⟩
      case measure => simp [intOf]; omega
    · have hkn : k = n := by omega
      subst hkn
      obtain rfl : R = some (l, c) := by rw [← HX.out]; simp [entsG]
      go_wp2
      go_ret
      exact ⟨_, _, _, rfl, HO.out, HC.out, HS.out⟩
end Go.Proofs.YtpjpheicldegkaaGreatDoor

namespace Go.Proofs.YtpjpheicldegkaaGreatDoor
open Go Go.RowKit

theorem wrString_any (b : Nat) (s : ByteArray) (w : World) (h : Wb b s w) : Calls Tryz.prog 21 #[.pointer (some ⟨b, 0, none⟩)] w fun e w' => e = .returned (.string s) ∧ Wk b w w' := by
  refine (Tryz.Buffer_String_at 44 (fun _ => none) b b 0 s.data.toList w h).mono ?_
  rintro e w' ⟨rfl, n, rfl⟩
  refine ⟨by simp, ⟨rfl, rfl, rfl, Nat.le_refl _, fun _ _ => rfl⟩, fun _ _ h _ _ => h⟩
theorem heap_pushM (W : World) (o : Obj) : (W.alloc o).heap[W.heap.size]? = some o := by show (W.heap.push _)[W.heap.size]? = _; rw [Array.getElem?_push, if_pos rfl]
theorem qpb {B b : Nat} {v w W : World} (h : Below B v w) (k : Below b w W) (hb : B ≤ b) : Below B v W := ⟨k.os.trans h.os, k.tape.trans h.tape, k.output.trans h.output, Nat.le_trans h.size k.size, fun q hq => (k.block q (by omega)).trans (h.block q hq)⟩

set_option maxRecDepth 10000 in
set_option maxHeartbeats 4000000 in
theorem entriesW_any (b : Nat) (ao : Option Addr) (n cap : Nat) (es : List En) (s : ByteArray) (w : World) (h : Wb b s w) (hr : ∀ W, Wk b w W → Reads W (.slice ao n cap) es) (hn : n ≤ 4) (hz : qsc es) (hs : s.size ≤ 10000000000000) :
    Calls Tryz.prog 18 #[.pointer (some ⟨b, 0, none⟩), .slice ao n cap] w fun e w' => e = .returned (.tuple #[]) ∧ Wb b (s ++ numS [(n : Int)] ++ shoS (es.map tx8)) w' ∧ Wk b w w' := by
  have HL : Hid (es.length = n) := (hr w (Wk.refl b w)).len.symm
  have HR : Hid (∀ W, Wk b w W → Reads W (.slice ao n cap) es) := hr
  have HZ : Hid (qsc es) := hz
  have HB : Hid (Wb b s w) := h
  have hbl := h.lt
  clear h hr hz
  obtain ⟨w1, HV1⟩ : ∃ W, Hid (w.alloc (.cells #[.int .i64 (n : Int)] 3) = W) := ⟨_, rfl⟩
  have G1 : Hid (w1.heap[w.heap.size]? = some (.cells #[.int .i64 (n : Int)] 3)) := by rw [← HV1.out]; exact heap_pushM _ _
  have Z1 : Hid (Wb b s w1) := by rw [← HV1.out]; exact HB.out.up (ba (Below.refl _ _) _)
  have K1 : Hid (Wk b w w1) := by rw [← HV1.out]; exact Wk.of_below (ba (Below.refl _ _) _) (Nat.le_of_lt hbl)
  have hN : Hid ((numS [(n : Int)]).size ≤ 1 * 1000000001) := numS_size [(n : Int)] (by intro x hx; simp only [List.mem_cons, List.not_mem_nil, or_false] at hx; subst hx; omega)
  go_enter Tryz.func18, Tryz.ntmps18
  go_wp2_with fail
  rw [HV1.out]
  refine (numbers_any b w.heap.size 1 [(n : Int)] (0, 0) _ _ Z1.out G1.out (by omega) (by intro x hx; simp only [List.mem_cons, List.not_mem_nil, or_false] at hx; subst hx; omega) rfl (by decide) (by omega)).mono ?_
  rintro e w2 ⟨rfl, h2, k2⟩
  have HB2 : Hid (Wb b (s ++ numS [(n : Int)]) w2) := h2
  have HK2 : Hid (Wk b w w2) := K1.out.trans k2
  clear h2 k2 G1 Z1 K1 HV1 HB
  go_wp2
  go_loopw [15] (fun i wr => ∃ k : Nat, k ≤ n ∧ i = .int .i64 k ∧ Hid (Wb b (s ++ numS [(n : Int)] ++ shoS ((es.map tx8).take k)) wr) ∧ Hid (Wk b w wr)) (fun i _ => n - (intOf i).toNat)
  case atStart => exact ⟨0, Nat.zero_le _, rfl, (by show Wb _ _ _; simpa [shoS] using HB2.out), HK2⟩
  case round =>
    obtain ⟨k, hk, rfl, HW, HK⟩ := hrel
    by_cases hlt : k < n
    · obtain ⟨f, hf⟩ : ∃ f, es[k]? = some f := ⟨_, List.getElem?_eq_getElem (by rw [HL.out]; exact hlt)⟩
      have HM : Hid (f.data.size ≤ maxLen) := by have := HZ.out f (List.mem_of_getElem? hf); show _ ≤ maxLen; unfold maxLen; omega
      obtain ⟨g, o, rfl, hg, c0, c1, c2⟩ := en_at (HR.out wr HK.out) hf
      have hfm : (es.map tx8)[k]? = some (tx8 f) := by rw [List.getElem?_map, hf]; rfl
      have HT : Hid (shoS ((es.map tx8).take (k + 1)) = shoS ((es.map tx8).take k) ++ qsa (tx8 f)) := shoS_take hfm
      have HS : Hid ((s ++ numS [(n : Int)] ++ shoS ((es.map tx8).take k)).size ≤ 100000000000000 ∧ (tx8 f).size ≤ 20000) := by
        have h1 := shoS_size ((es.map tx8).take k) fun x hx => by
          obtain ⟨y, hy, rfl⟩ := List.mem_map.1 (List.mem_of_mem_take hx)
          have := tx8_size y (HZ.out y hy); omega
        have h2 : ((es.map tx8).take k).length ≤ 4 := by rw [List.length_take]; omega
        have h3 := tx8_size f (HZ.out f (List.mem_of_getElem? hf))
        have h4 := hN.out
        refine ⟨?_, by omega⟩
        rw [ByteArray.size_append, ByteArray.size_append]
        omega
      have HE : Hid (∀ W, Calls Tryz.prog 49 #[.int .i64 1, .agg #[.int .i64 f.term, .int .i64 f.kind, .string f.data]] W fun e w' => e = .returned (.tuple #[.string (tx8 f), .bool (okX 1 f.term f.kind f.data)]) ∧ Below W.heap.size W w') := fun W => entryText_any 1 f.term f.kind f.data W HM.out
      obtain ⟨T, HTT⟩ : ∃ T : ByteArray, Hid (tx8 f = T) := ⟨_, rfl⟩
      obtain ⟨q, HQ⟩ : ∃ q, Hid (okX 1 f.term f.kind f.data = q) := ⟨_, rfl⟩
      rw [HTT.out, HQ.out] at HE
      rw [HTT.out] at HT HS
      clear hf hfm
      go_wp2_with fail
      refine (HE.out _).mono ?_
      rintro e w3 ⟨rfl, hb3⟩
      have B3 := (ba (Below.refl _ _) _).trans (hb3.mono (by simp))
      have HW3 : Hid (Wb b (s ++ numS [(n : Int)] ++ shoS ((es.map tx8).take k)) w3) := HW.out.up B3
      have HK3 : Hid (Wk b w w3) := HK.out.trans (Wk.of_below B3 (Nat.le_of_lt HW.out.lt))
      have hl3 := HW3.out.lt
      clear c0 c1 c2 hb3 B3
      obtain ⟨w4, HV4⟩ : ∃ W, Hid (w3.alloc (.cells #[.string T] 9) = W) := ⟨_, rfl⟩
      have G4 : Hid (w4.heap[w3.heap.size]? = some (.cells #[.string T] 9)) := by rw [← HV4.out]; exact heap_pushM _ _
      have Z4 : Hid (Wb b (s ++ numS [(n : Int)] ++ shoS ((es.map tx8).take k)) w4) := by rw [← HV4.out]; exact HW3.out.up (ba (Below.refl _ _) _)
      have K4 : Hid (Wk b w w4) := HK3.out.trans (by rw [← HV4.out]; exact Wk.of_below (ba (Below.refl _ _) _) (Nat.le_of_lt hl3))
      go_wp2_with fail
      rw [HV4.out]
      refine (shorts_any b w3.heap.size 1 [T] (0, 0) _ _ Z4.out G4.out (by omega) (by have := HS.out; intro x hx; simp only [List.mem_cons, List.not_mem_nil, or_false] at hx; subst hx; exact this.2) rfl (by decide) HS.out.1).mono ?_
      rintro e w5 ⟨rfl, h5, k5⟩
      have HW5 : Hid (Wb b (s ++ numS [(n : Int)] ++ shoS ((es.map tx8).take (k + 1))) w5) := by
        show Wb _ _ _
        rw [HT.out, ← ByteArray.append_assoc]
        simpa [shoS] using h5
      have HK5 : Hid (Wk b w w5) := K4.out.trans k5
      clear h5 k5 HV4 G4 Z4 K4
      go_wp2
      go_roundw
      case rel => exact ⟨k + 1, by omega, by go_num, HW5, HK5⟩
      case measure => simp [intOf]; omega
    · have he : (es.map tx8).take k = es.map tx8 := List.take_of_length_le (by rw [List.length_map, HL.out]; omega)
      go_wp2
      refine bodyPost_end (results_none rfl _ _ _) rfl ?_
      refine ⟨rfl, ?_, HK.out⟩
      have := HW.out
      rw [he] at this
      exact this

set_option maxRecDepth 10000 in
set_option maxHeartbeats 8000000 in
theorem qud (kd fr up tm ix lt cm : Int) (ok : Bool) (da : ByteArray) (la : Bool) (ao bo : Option Addr) (n cap m cbp : Nat) (es : List En) (cs : List Int) (w : World) (he : Reads w (.slice ao n cap) es) (hc : Reads w (.slice bo m cbp) cs) (hn : es.length ≤ 1048577) (hm : cs.length ≤ 1048577) (hz : qsc es) :
    Calls Tryz.prog 6 #[.agg #[.int .i64 kd, .int .i64 fr, .int .i64 up, .int .i64 tm, .int .i64 ix, .int .i64 lt, .int .i64 cm, .bool ok, (.slice ao n cap), (.slice bo m cbp), .string da, .bool la]] w fun e w' => e = .returned (encV kd fr up tm ix lt cm ok da la es cs) ∧ Below w.heap.size w w' := by
  have HE : Hid (Reads w (.slice ao n cap) es) := he
  have HCC : Hid (Reads w (.slice bo m cbp) cs) := hc
  have HCN : Hid (cs.length ≤ 1048577) := hm
  have HLN : Hid (es.length = n) := he.len.symm
  have HZ : Hid (qsc es) := hz
  have HC : Hid (∀ W, Below w.heap.size w W → Calls Tryz.prog 9 #[.agg #[.int .i64 kd, .int .i64 fr, .int .i64 up, .int .i64 tm, .int .i64 ix, .int .i64 lt, .int .i64 cm, .bool ok, (.slice ao n cap), (.slice bo m cbp), .string da, .bool la]] W fun e w' => e = .returned (.bool (okM kd fr up tm ix lt cm da la es cs)) ∧ Below W.heap.size W w') := fun W hb => implMessageOk_any kd fr up tm ix lt cm ok da la _ _ es cs W (he.below hb) (hc.below hb) hn hm hz
  clear he hc hn hm hz
  obtain ⟨W0, HW0⟩ : ∃ W, Hid (w.alloc (.cells #[.int .i64 kd, .int .i64 fr, .int .i64 up, .int .i64 tm, .int .i64 ix, .int .i64 lt, .int .i64 cm, .bool ok, .slice ao n cap, .slice bo m cbp, .string da, .bool la] 27) = W) := ⟨_, rfl⟩
  have X0 : Hid (Kc12 27 W0 w.heap.size (.int .i64 kd) (.int .i64 fr) (.int .i64 up) (.int .i64 tm) (.int .i64 ix) (.int .i64 lt) (.int .i64 cm) (.bool ok) (.slice ao n cap) (.slice bo m cbp) (.string da) (.bool la)) := by rw [← HW0.out]; exact Kc12.new _ _ _ _ _ _ _ _ _ _ _ _ _ _
  have B0 : Below w.heap.size w W0 := by rw [← HW0.out]; exact ba (Below.refl _ _) _
  cases hq : okM kd fr up tm ix lt cm da la es cs with
  | false =>
    have HX : Hid (encV kd fr up tm ix lt cm ok da la es cs = .tuple #[.string ⟨#[]⟩, .bool false]) := by show _ = _; unfold encV; rw [hq]; rfl
    rw [hq] at HC
    rw [HX.out]
    clear hq HX
    go_enter Tryz.func6, Tryz.ntmps6
    go_wp2_with fail
    rw [HW0.out]
    refine (HC.out _ B0).mono ?_
    rintro x w1 ⟨rfl, hb1⟩
    go_wp2
    go_ret2
    exact ⟨rfl, Below.on B0 hb1⟩
  | true =>
    have HX : Hid (encV kd fr up tm ix lt cm ok da la es cs = .tuple #[.string (encS kd fr up tm ix lt cm ok da la es cs), .bool true]) := by show _ = _; unfold encV; rw [hq]; rfl
    have HF : Hid (1 ≤ kd ∧ kd ≤ 6 ∧ 1 ≤ fr ∧ fr ≤ 4 ∧ 1 ≤ up ∧ up ≤ 4 ∧ 0 ≤ tm ∧ tm ≤ 100000 ∧ 0 ≤ lt ∧ lt ≤ 100000 ∧ 0 ≤ ix ∧ ix ≤ 1000000 ∧ 0 ≤ cm ∧ cm ≤ 1000000 ∧ n ≤ 4 ∧ da.size ≤ 60) := by
      have := okM_fine hq
      rw [HLN.out] at this
      exact this
    rw [hq] at HC
    rw [HX.out]
    have HSZ : Hid (ByteArray.empty.size = 0 ∧ (bstr [kd]).size = 1 ∧ (bstr [fr]).size = 1 ∧ (bstr [up]).size = 1 ∧ (numS [tm, ix, lt, cm]).size ≤ 4 * 1000000001 ∧ (flagS ok).size = 1 ∧ (flagS la).size = 1 ∧ (numS [(n : Int)]).size ≤ 1 * 1000000001 ∧ (shoS (es.map tx8)).size ≤ 4 * 40001 ∧ (textC cs).size ≤ 4) := by
      have h := HF.out
      refine ⟨rfl, by rw [qra]; rfl, by rw [qra]; rfl, by rw [qra]; rfl, numS_size [tm, ix, lt, cm] ?_, by cases ok <;> rfl, by cases la <;> rfl, numS_size [(n : Int)] ?_, ?_, textC_size cs⟩
      · intro x hx
        simp only [List.mem_cons, List.not_mem_nil, or_false] at hx
        rcases hx with rfl | rfl | rfl | rfl <;> omega
      · intro x hx
        simp only [List.mem_cons, List.not_mem_nil, or_false] at hx
        subst hx; omega
      · have h1 := shoS_size (es.map tx8) fun x hx => by
          obtain ⟨y, hy, rfl⟩ := List.mem_map.1 hx
          have := tx8_size y (HZ.out y hy); omega
        rw [List.length_map, HLN.out] at h1
        exact Nat.le_trans h1 (Nat.mul_le_mul_right 40001 (by omega))
    clear hq HX
    go_enter Tryz.func6, Tryz.ntmps6
    go_wp2_with fail
    rw [HW0.out]
    refine (HC.out _ B0).mono ?_
    rintro x w1 ⟨rfl, hb1⟩
    have B1 := Below.on B0 hb1
    have X1 : Hid (Kc12 27 w1 w.heap.size (.int .i64 kd) (.int .i64 fr) (.int .i64 up) (.int .i64 tm) (.int .i64 ix) (.int .i64 lt) (.int .i64 cm) (.bool ok) (.slice ao n cap) (.slice bo m cbp) (.string da) (.bool la)) := X0.out.on hb1 X0.out.lt
    have hl1 : w.heap.size < w1.heap.size := X1.out.lt
    clear B0 hb1 X0 HC HW0
    obtain ⟨w2, HV2⟩ : ∃ W, Hid (w1.alloc (.cells #[.slice none 0 0, .int .i64 0, .int .i8 0] 44) = W) := ⟨_, rfl⟩
    have Y2 : Hid (Wb w1.heap.size ByteArray.empty w2) := by rw [← HV2.out]; exact Wb.new _
    have X2 : Hid (Kc12 27 w2 w.heap.size (.int .i64 kd) (.int .i64 fr) (.int .i64 up) (.int .i64 tm) (.int .i64 ix) (.int .i64 lt) (.int .i64 cm) (.bool ok) (.slice ao n cap) (.slice bo m cbp) (.string da) (.bool la)) := by rw [← HV2.out]; exact X1.out.on (ba (Below.refl _ _) _) X1.out.lt
    have B2 : Below w.heap.size w w2 := by rw [← HV2.out]; exact ba B1 _
    clear B1 X1
    obtain ⟨b, hbq⟩ : ∃ b, w1.heap.size = b := ⟨_, rfl⟩
    rw [hbq] at Y2 hl1
    have q0 : (w1.alloc (.cells #[.slice none 0 0, .int .i64 0, .int .i8 0] 44)).cell? ⟨w.heap.size, 0, none⟩ = some (.int .i64 kd) := by rw [HV2.out]; exact X2.out.c0
    go_wp2_with fail
    rw [HV2.out]
    refine (qpe b _ kd _ Y2.out (by have := HF.out; omega) (by have := HF.out; omega) (by decide)).mono ?_
    rintro x w3 ⟨rfl, y, k⟩
    clear q0 HV2
    have B3 : Below w.heap.size w w3 := qpb B2 k.below (Nat.le_of_lt hl1)
    have X3 : Hid (Kc12 27 w3 w.heap.size (.int .i64 kd) (.int .i64 fr) (.int .i64 up) (.int .i64 tm) (.int .i64 ix) (.int .i64 lt) (.int .i64 cm) (.bool ok) (.slice ao n cap) (.slice bo m cbp) (.string da) (.bool la)) := X2.out.on k.below hl1
    have Y3 : Hid (Wb b (ByteArray.empty ++ bstr [kd]) w3) := y
    clear k y B2 X2 Y2
    have q0 := X3.out.c1
    go_wp2_with fail
    refine (qpe b _ fr _ Y3.out (by have := HF.out; omega) (by have := HF.out; omega) (by have h9 := HSZ.out; simp only [ByteArray.size_append]; omega)).mono ?_
    rintro x w4 ⟨rfl, y, k⟩
    clear q0
    have B4 : Below w.heap.size w w4 := qpb B3 k.below (Nat.le_of_lt hl1)
    have X4 : Hid (Kc12 27 w4 w.heap.size (.int .i64 kd) (.int .i64 fr) (.int .i64 up) (.int .i64 tm) (.int .i64 ix) (.int .i64 lt) (.int .i64 cm) (.bool ok) (.slice ao n cap) (.slice bo m cbp) (.string da) (.bool la)) := X3.out.on k.below hl1
    have Y4 : Hid (Wb b (ByteArray.empty ++ bstr [kd] ++ bstr [fr]) w4) := y
    clear k y B3 X3 Y3
    have q0 := X4.out.c2
    go_wp2_with fail
    refine (qpe b _ up _ Y4.out (by have := HF.out; omega) (by have := HF.out; omega) (by have h9 := HSZ.out; simp only [ByteArray.size_append]; omega)).mono ?_
    rintro x w5 ⟨rfl, y, k⟩
    clear q0
    have B5 : Below w.heap.size w w5 := qpb B4 k.below (Nat.le_of_lt hl1)
    have X5 : Hid (Kc12 27 w5 w.heap.size (.int .i64 kd) (.int .i64 fr) (.int .i64 up) (.int .i64 tm) (.int .i64 ix) (.int .i64 lt) (.int .i64 cm) (.bool ok) (.slice ao n cap) (.slice bo m cbp) (.string da) (.bool la)) := X4.out.on k.below hl1
    have Y5 : Hid (Wb b (ByteArray.empty ++ bstr [kd] ++ bstr [fr] ++ bstr [up]) w5) := y
    clear k y B4 X4 Y4
    have q3 := X5.out.c3
    have q4 := X5.out.c4
    have q5 := X5.out.c5
    have q6 := X5.out.c6
    have hlw5 := Y5.out.lt
    obtain ⟨v5, HV5⟩ : ∃ W, Hid (w5.alloc (.cells #[.int .i64 tm, .int .i64 ix, .int .i64 lt, .int .i64 cm] 3) = W) := ⟨_, rfl⟩
    have G5 : Hid (v5.heap[w5.heap.size]? = some (.cells #[.int .i64 tm, .int .i64 ix, .int .i64 lt, .int .i64 cm] 3)) := by rw [← HV5.out]; exact heap_pushM _ _
    have Z5 : Hid (Wb b (ByteArray.empty ++ bstr [kd] ++ bstr [fr] ++ bstr [up]) v5) := by rw [← HV5.out]; exact Y5.out.up (ba (Below.refl _ _) _)
    have K5 : Hid (Wk b w5 v5) := by rw [← HV5.out]; exact Wk.of_below (ba (Below.refl _ _) _) (Nat.le_of_lt hlw5)
    go_wp2_with fail
    rw [HV5.out]
    refine (numbers_any b w5.heap.size 4 [tm, ix, lt, cm] (0, 0) _ _ Z5.out G5.out (by omega) (by have := HF.out; intro x hx; simp only [List.mem_cons, List.not_mem_nil, or_false] at hx; rcases hx with rfl | rfl | rfl | rfl <;> omega) rfl (by decide) (by have h9 := HSZ.out; simp only [ByteArray.size_append]; omega)).mono ?_
    rintro x w6 ⟨rfl, y, k2⟩
    have k := K5.out.trans k2
    clear q3 q4 q5 q6 G5 Z5 K5 HV5 k2
    have B6 : Below w.heap.size w w6 := qpb B5 k.below (Nat.le_of_lt hl1)
    have X6 : Hid (Kc12 27 w6 w.heap.size (.int .i64 kd) (.int .i64 fr) (.int .i64 up) (.int .i64 tm) (.int .i64 ix) (.int .i64 lt) (.int .i64 cm) (.bool ok) (.slice ao n cap) (.slice bo m cbp) (.string da) (.bool la)) := X5.out.on k.below hl1
    have Y6 : Hid (Wb b (ByteArray.empty ++ bstr [kd] ++ bstr [fr] ++ bstr [up] ++ numS [tm, ix, lt, cm]) w6) := y
    clear k y B5 X5 Y5
    have q0 := X6.out.c7
    go_wp2_with fail
    refine (flagW_any b _ ok _ Y6.out (by have h9 := HSZ.out; simp only [ByteArray.size_append]; omega)).mono ?_
    rintro x w7 ⟨rfl, y, k⟩
    clear q0
    have B7 : Below w.heap.size w w7 := qpb B6 k.below (Nat.le_of_lt hl1)
    have X7 : Hid (Kc12 27 w7 w.heap.size (.int .i64 kd) (.int .i64 fr) (.int .i64 up) (.int .i64 tm) (.int .i64 ix) (.int .i64 lt) (.int .i64 cm) (.bool ok) (.slice ao n cap) (.slice bo m cbp) (.string da) (.bool la)) := X6.out.on k.below hl1
    have Y7 : Hid (Wb b (ByteArray.empty ++ bstr [kd] ++ bstr [fr] ++ bstr [up] ++ numS [tm, ix, lt, cm] ++ flagS ok) w7) := y
    clear k y B6 X6 Y6
    have q0 := X7.out.c11
    go_wp2_with fail
    refine (flagW_any b _ la _ Y7.out (by have h9 := HSZ.out; simp only [ByteArray.size_append]; omega)).mono ?_
    rintro x w8 ⟨rfl, y, k⟩
    clear q0
    have B8 : Below w.heap.size w w8 := qpb B7 k.below (Nat.le_of_lt hl1)
    have X8 : Hid (Kc12 27 w8 w.heap.size (.int .i64 kd) (.int .i64 fr) (.int .i64 up) (.int .i64 tm) (.int .i64 ix) (.int .i64 lt) (.int .i64 cm) (.bool ok) (.slice ao n cap) (.slice bo m cbp) (.string da) (.bool la)) := X7.out.on k.below hl1
    have Y8 : Hid (Wb b (ByteArray.empty ++ bstr [kd] ++ bstr [fr] ++ bstr [up] ++ numS [tm, ix, lt, cm] ++ flagS ok ++ flagS la) w8) := y
    clear k y B7 X7 Y7
    have q8 := X8.out.c8
    have HEW : Hid (∀ W, Wk b w8 W → Reads W (.slice ao n cap) es) := fun W k => HE.out.below (qpb B8 k.below (Nat.le_of_lt hl1))
    go_wp2_with fail
    refine (entriesW_any b ao n cap es _ _ Y8.out HEW.out (by have := HF.out; omega) HZ.out (by have h9 := HSZ.out; simp only [ByteArray.size_append]; omega)).mono ?_
    rintro x w9 ⟨rfl, y, k⟩
    clear q8 HEW
    have B9 : Below w.heap.size w w9 := qpb B8 k.below (Nat.le_of_lt hl1)
    have X9 : Hid (Kc12 27 w9 w.heap.size (.int .i64 kd) (.int .i64 fr) (.int .i64 up) (.int .i64 tm) (.int .i64 ix) (.int .i64 lt) (.int .i64 cm) (.bool ok) (.slice ao n cap) (.slice bo m cbp) (.string da) (.bool la)) := X8.out.on k.below hl1
    have Y9 : Hid (Wb b (ByteArray.empty ++ bstr [kd] ++ bstr [fr] ++ bstr [up] ++ numS [tm, ix, lt, cm] ++ flagS ok ++ flagS la ++ numS [(n : Int)] ++ shoS (es.map tx8)) w9) := y
    clear k y B8 X8 Y8
    have q9 := X9.out.c9
    have HCT : Hid (∀ W, Below w.heap.size w W → Calls Tryz.prog 19 #[.slice bo m cbp] W fun e w' => e = .returned (.tuple #[.string (textC cs), .bool (okC cs)]) ∧ Below W.heap.size W w') := fun W hb => confText_any (HCC.out.below hb) HCN.out
    obtain ⟨tc, HTC⟩ : ∃ q, Hid (textC cs = q) := ⟨_, rfl⟩
    obtain ⟨qc, HQC⟩ : ∃ q, Hid (okC cs = q) := ⟨_, rfl⟩
    rw [HTC.out, HQC.out] at HCT
    go_wp2_with fail
    refine (HCT.out _ B9).mono ?_
    rintro x w10 ⟨rfl, hbk⟩
    have k : Wk b w9 w10 := Wk.of_below hbk (Nat.le_of_lt Y9.out.lt)
    have y : Wb b (ByteArray.empty ++ bstr [kd] ++ bstr [fr] ++ bstr [up] ++ numS [tm, ix, lt, cm] ++ flagS ok ++ flagS la ++ numS [(n : Int)] ++ shoS (es.map tx8)) w10 := Y9.out.up hbk
    clear q9 HCT hbk
    have B10 : Below w.heap.size w w10 := qpb B9 k.below (Nat.le_of_lt hl1)
    have X10 : Hid (Kc12 27 w10 w.heap.size (.int .i64 kd) (.int .i64 fr) (.int .i64 up) (.int .i64 tm) (.int .i64 ix) (.int .i64 lt) (.int .i64 cm) (.bool ok) (.slice ao n cap) (.slice bo m cbp) (.string da) (.bool la)) := X9.out.on k.below hl1
    have Y10 : Hid (Wb b (ByteArray.empty ++ bstr [kd] ++ bstr [fr] ++ bstr [up] ++ numS [tm, ix, lt, cm] ++ flagS ok ++ flagS la ++ numS [(n : Int)] ++ shoS (es.map tx8)) w10) := y
    clear k y B9 X9 Y9
    have q10 := X10.out.c10
    have hlw10 := Y10.out.lt
    obtain ⟨v10, HV10⟩ : ∃ W, Hid (w10.alloc (.cells #[.string tc, .string da] 9) = W) := ⟨_, rfl⟩
    have G10 : Hid (v10.heap[w10.heap.size]? = some (.cells #[.string tc, .string da] 9)) := by rw [← HV10.out]; exact heap_pushM _ _
    have Z10 : Hid (Wb b (ByteArray.empty ++ bstr [kd] ++ bstr [fr] ++ bstr [up] ++ numS [tm, ix, lt, cm] ++ flagS ok ++ flagS la ++ numS [(n : Int)] ++ shoS (es.map tx8)) v10) := by rw [← HV10.out]; exact Y10.out.up (ba (Below.refl _ _) _)
    have K10 : Hid (Wk b w10 v10) := by rw [← HV10.out]; exact Wk.of_below (ba (Below.refl _ _) _) (Nat.le_of_lt hlw10)
    go_wp2_with fail
    rw [HV10.out]
    refine (shorts_any b w10.heap.size 2 [tc, da] (0, 0) _ _ Z10.out G10.out (by omega) (by have := HF.out; have h9 := HSZ.out; intro x hx; simp only [List.mem_cons, List.not_mem_nil, or_false] at hx; rw [HTC.out] at h9; rcases hx with rfl | rfl <;> omega) rfl (by decide) (by have h9 := HSZ.out; simp only [ByteArray.size_append]; omega)).mono ?_
    rintro x w11 ⟨rfl, y, k2⟩
    have k := K10.out.trans k2
    clear q10 G10 Z10 K10 HV10 k2
    have B11 : Below w.heap.size w w11 := qpb B10 k.below (Nat.le_of_lt hl1)
    have X11 : Hid (Kc12 27 w11 w.heap.size (.int .i64 kd) (.int .i64 fr) (.int .i64 up) (.int .i64 tm) (.int .i64 ix) (.int .i64 lt) (.int .i64 cm) (.bool ok) (.slice ao n cap) (.slice bo m cbp) (.string da) (.bool la)) := X10.out.on k.below hl1
    have Y11 : Hid (Wb b (ByteArray.empty ++ bstr [kd] ++ bstr [fr] ++ bstr [up] ++ numS [tm, ix, lt, cm] ++ flagS ok ++ flagS la ++ numS [(n : Int)] ++ shoS (es.map tx8) ++ shoS [tc, da]) w11) := y
    clear k y B10 X10 Y10
    go_wp2_with fail
    refine (wrString_any b _ _ Y11.out).mono ?_
    rintro x w12 ⟨rfl, k⟩
    have B12 : Below w.heap.size w w12 := qpb B11 k.below (Nat.le_of_lt hl1)
    have HS : Hid (ByteArray.empty ++ bstr [kd] ++ bstr [fr] ++ bstr [up] ++ numS [tm, ix, lt, cm] ++ flagS ok ++ flagS la ++ numS [(n : Int)] ++ shoS (es.map tx8) ++ shoS [tc, da] = encS kd fr up tm ix lt cm ok da la es cs) := by
      show _ = _
      rw [← HTC.out]
      unfold encS
      rw [HLN.out, bstr_three]
      simp [numS, shoS, ByteArray.append_assoc]
    rw [HS.out]
    clear k Y11 X11 B11
    go_wp2
    go_ret2
    exact ⟨rfl, B12⟩
end Go.Proofs.YtpjpheicldegkaaGreatDoor

namespace Go.Proofs.YtpjpheicldegkaaGreatDoor
open Go Go.RowKit
set_option linter.unusedVariables false

structure Se where
  tok : Int
  last : Int
  reply : ByteArray
instance : Rec Se := ⟨3, fun s => [.int .i64 s.tok, .int .i64 s.last, .string s.reply], fun _ => rfl, by decide⟩
structure Pl where
  name : ByteArray
  cron : ByteArray
  fr : Int
  up : Int
  cu : Bool
  tasks : Value
  paused : Bool
  cursor : Int
  floor : Int
instance : Rec Pl := ⟨9, fun s => [.string s.name, .string s.cron, .int .i64 s.fr, .int .i64 s.up, .bool s.cu, s.tasks, .bool s.paused, .int .i64 s.cursor, .int .i64 s.floor], fun _ => rfl, by decide⟩
theorem underSe : Tryz.prog.underlying 147 = some (.slice 154) := by kernel_rfl
theorem infoSe : (Tryz.prog.info? 154).map (fun i => (i.zero, i.size, i.bytes)) = some (some (.agg #[.int .i64 0, .int .i64 0, .string ⟨#[]⟩]), 3, 32) := by kernel_rfl
theorem underPl : Tryz.prog.underlying 148 = some (.slice 168) := by kernel_rfl
theorem infoPl : (Tryz.prog.info? 168).map (fun i => (i.zero, i.size, i.bytes)) = some (some (.agg #[.string ⟨#[]⟩, .string ⟨#[]⟩, .int .i64 0, .int .i64 0, .bool false, .slice none 0 0, .bool false, .int .i64 0, .int .i64 0]), 9, 104) := by kernel_rfl
theorem se_one (l : List Se) : ∀ x ∈ l, ∀ u ∈ Rec.cells x, u.oneCell' = true := by
  intro x _ u hu
  simp only [Rec.cells, List.mem_cons, List.not_mem_nil, or_false] at hu
  rcases hu with rfl | rfl | rfl <;> rfl
theorem B5.on {t : TypeId} {W W' : World} {b B : Nat} {x0 x1 x2 x3 x4 : Value} (h : B5 t W b x0 x1 x2 x3 x4) (hb : Below B W W') (hB : b < B) : B5 t W' b x0 x1 x2 x3 x4 := (hb.block _ hB).trans h
theorem B5.save {t : TypeId} {W W' : World} {b g : Nat} {x0 x1 x2 x3 x4 : Value} (h : B5 t W b x0 x1 x2 x3 x4) (hs : Save g W W') (hg : b ≠ g) : B5 t W' b x0 x1 x2 x3 x4 := (hs.block b h.lt hg).trans h
theorem B5.ty {t : TypeId} {W : World} {b : Nat} {x0 x1 x2 x3 x4 : Value} (h : B5 t W b x0 x1 x2 x3 x4) : TyB W b t := ⟨_, h⟩
theorem ret_b1 {W : World} {b : Nat} {x0 x1 x2 x3 x4 : Value} {fn : Func} {p : Tmp} {tmps : Array Value} (h : fn.results = #[.cell p 151]) (hp : tmps.getD p undef = .pointer (some ⟨b, 0, none⟩)) (hb : B5 151 W b x0 x1 x2 x3 x4) :
    (results fn tmps).run Tryz.prog W = .ok (.agg #[x0, x1, x2, x3, x4]) W := by
  have hp' : tmps[p]?.getD undef = .pointer (some ⟨b, 0, none⟩) := by simpa using hp
  simp [results, h, hp', hb.c0, hb.c1, hb.c2, hb.c3, hb.c4, asAddr, go_sem]
theorem ret_b2 {W : World} {b : Nat} {x0 x1 x2 x3 x4 : Value} {fn : Func} {p u : Tmp} {x : Value} {tmps : Array Value} (h : fn.results = #[.cell p 151, .tmp u]) (hp : tmps.getD p undef = .pointer (some ⟨b, 0, none⟩)) (hu : tmps.getD u undef = x) (hb : B5 151 W b x0 x1 x2 x3 x4) :
    (results fn tmps).run Tryz.prog W = .ok (.tuple #[.agg #[x0, x1, x2, x3, x4], x]) W := by
  have hp' : tmps[p]?.getD undef = .pointer (some ⟨b, 0, none⟩) := by simpa using hp
  have hu' : tmps[u]?.getD undef = x := by simpa using hu
  simp [results, h, hp', hu', hb.c0, hb.c1, hb.c2, hb.c3, hb.c4, asAddr, go_sem]
theorem ownsR.setTy {α : Type} [Rec α] {W : World} {B : Nat} {e t : TypeId} {v : Value} {l : List α} {p : Addr} (h : ownsR W B e v l) (ht : TyB W p.block t) (hne : t ≠ e) (u : Value) : ownsR (W.setCell p u) B e v l :=
  h.same' fun r hr => heap_setCell_other W p r u (fun e => (ht.ne (h.ty hr) hne) e.symm)

theorem set5_other (W : World) (b : Nat) (u0 u1 u2 u3 u4 : Value) {k : Nat} (h : k ≠ b) : (set5 W b u0 u1 u2 u3 u4).heap[k]? = W.heap[k]? := by
  unfold set5
  rw [heap_setCell_other _ ⟨b, 4, none⟩ k _ h, heap_setCell_other _ ⟨b, 3, none⟩ k _ h, heap_setCell_other _ ⟨b, 2, none⟩ k _ h, heap_setCell_other _ ⟨b, 1, none⟩ k _ h, heap_setCell_other _ ⟨b, 0, none⟩ k _ h]
theorem ownsR_set5b {α : Type} [Rec α] {W : World} {B b : Nat} {e t : TypeId} {v x0 x1 x2 x3 x4 : Value} {l : List α} (h : ownsR W B e v l) (hb : B5 t W b x0 x1 x2 x3 x4) (hne : t ≠ e) (u0 u1 u2 u3 u4 : Value) : ownsR (set5 W b u0 u1 u2 u3 u4) B e v l :=
  h.same' fun r hr => set5_other W b u0 u1 u2 u3 u4 (hb.ty.ne (h.ty hr) hne).symm
abbrev bdV (sv pv rv : Value) (ck tk : Int) : Value := .agg #[sv, pv, rv, .int .i64 ck, .int .i64 tk]
abbrev z5 : Array Value := #[.slice none 0 0, .slice none 0 0, .slice none 0 0, .int .i64 0, .int .i64 0]

set_option maxRecDepth 10000 in
set_option maxHeartbeats 1000000 in
theorem boardNew_any (w : World) : Calls Tryz.prog 96 #[] w fun e w' => e = .returned (bdV (.slice none 0 0) (.slice none 0 0) (.slice none 0 0) 0 1) ∧ Below w.heap.size w w' := by
  go_enter Tryz.func96, Tryz.ntmps96
  go_wp2
  refine bodyPost_ret (ret_b1 (p := 0) (by kernel_rfl) (by kernel_rfl) (B5.new 151 w (.slice none 0 0) (.slice none 0 0) (.slice none 0 0) (.int .i64 0) (.int .i64 1))) rfl ?_
  exact ⟨rfl, ba (Below.refl _ _) _⟩
set_option maxRecDepth 10000 in
set_option maxHeartbeats 1000000 in
theorem planAt_none (sv rv : Value) (ao : Option Addr) (c : Nat) (ck tk : Int) (s : ByteArray) (w : World) : Calls Tryz.prog 106 #[bdV sv (.slice ao 0 c) rv ck tk, .string s] w fun e w' => e = .returned (.int .i64 (-1)) ∧ Below w.heap.size w w' := by
  go_enter Tryz.func106, Tryz.ntmps106
  go_wp2
  go_loopw [5] (fun iv wr => iv = .int .i64 0 ∧ Hid (B5 151 wr w.heap.size sv (.slice ao 0 c) rv (.int .i64 ck) (.int .i64 tk)) ∧ Hid (Below w.heap.size w wr)) (fun _ _ => 0)
  case atStart => exact ⟨rfl, B5.new _ _ _ _ _ _ _, ba (Below.refl _ _) _⟩
  case round =>
    obtain ⟨rfl, HK, HB⟩ := hrel
    have h1 := HK.out.c1
    go_wp2
    go_ret
    exact ⟨rfl, HB.out⟩
set_option maxRecDepth 10000 in
set_option maxHeartbeats 4000000 in
theorem l15Copy_none (sv : Value) (ap ar : Option Addr) (cp cr : Nat) (ck tk : Int) (l : List Se) (w : World) (hr : Reads w sv l) (hl : l.length ≤ 1000) :
    Calls Tryz.prog 103 #[bdV sv (.slice ap 0 cp) (.slice ar 0 cr) ck tk] w fun e w' => ∃ (sv' : Value) (xp xr : Addr), e = .returned (bdV sv' (.slice (some xp) 0 0) (.slice (some xr) 0 0) ck tk) ∧ ownsR w' w.heap.size 154 sv' l ∧ Below w.heap.size w w' := by
  obtain ⟨ao, c, rfl, _⟩ := id hr
  have HR : Hid (Reads w (.slice ao l.length c) l) := hr
  have HL : Hid (([] : List Se).length + l.length ≤ 1048577) := by show _ ≤ _; simp; omega
  clear hr
  obtain ⟨n, hn⟩ : ∃ n, l.length = n := ⟨_, rfl⟩
  rw [hn] at HR hl
  rw [hn]
  clear hn
  obtain ⟨W0, HW0⟩ : ∃ W0, Hid (((w.alloc (.cells #[.slice ao n c, .slice ap 0 cp, .slice ar 0 cr, .int .i64 ck, .int .i64 tk] 151)).alloc (.cells z5 151)).alloc (.cells #[] 154) = W0) := ⟨_, rfl⟩
  have J0 : B5 151 W0 w.heap.size (.slice ao n c) (.slice ap 0 cp) (.slice ar 0 cr) (.int .i64 ck) (.int .i64 tk) := by rw [← HW0.out]; exact ((B5.new _ _ _ _ _ _ _).alloc _).alloc _
  have Z0 : B5 151 W0 (w.heap.size + 1) (.slice none 0 0) (.slice none 0 0) (.slice none 0 0) (.int .i64 0) (.int .i64 0) := by
    rw [← HW0.out]
    have := (B5.new 151 (w.alloc (.cells #[.slice ao n c, .slice ap 0 cp, .slice ar 0 cr, .int .i64 ck, .int .i64 tk] 151)) (.slice none 0 0) (.slice none 0 0) (.slice none 0 0) (.int .i64 0) (.int .i64 0)).alloc (.cells #[] 154)
    simpa using this
  have B0 : Below w.heap.size w W0 := by rw [← HW0.out]; exact ba (ba (ba (Below.refl _ _) _) _) _
  have O0 : ownsR W0 w.heap.size 154 (.slice (some ⟨w.heap.size + 1 + 1, 0, none⟩) 0 0) ([] : List Se) := by
    rw [← HW0.out]
    have := qoe (α := Se) ((w.alloc (.cells #[.slice ao n c, .slice ap 0 cp, .slice ar 0 cr, .int .i64 ck, .int .i64 tk] 151)).alloc (.cells z5 151)) w.heap.size 154 (by simp; omega)
    simpa using this
  have R0 := HR.out.below B0
  have j0 := J0.c0
  go_enter Tryz.func103, Tryz.ntmps103
  go_wp2_with (at_builtin; rw [HW0.out]; refine qca rfl (.tmp 8) (.tmp 10) 147 rfl w.heap.size 154 _ 32 underSe infoSe rfl _ (.slice ao n c) [] l (by rfl) (by rfl) O0 R0 (se_one _) HL.out (by decide) B0.size ?_)
  intro v5 w5 ho5 hg5
  obtain ⟨a5, c5, rfl⟩ := ho5.slice
  have J5 := J0.grown hg5 (by simp [Value.ownBlock]; omega)
  have Z5 := Z0.grown hg5 (by simp [Value.ownBlock])
  have B5' := B0.grown hg5 B0.size (by simp [Value.ownBlock]; omega)
  obtain ⟨m, hm⟩ : ∃ m, l.length = m := ⟨_, rfl⟩
  rw [hm] at ho5
  rw [hm]
  clear J0 Z0 B0 O0 R0 hg5 j0 HW0 HR hm
  have HJ : Hid (B5 151 (w5.setCell ⟨w.heap.size, 0, none⟩ (.slice a5 m c5)) w.heap.size (.slice a5 m c5) (.slice ap 0 cp) (.slice ar 0 cr) (.int .i64 ck) (.int .i64 tk)) := J5.s0 _
  have HZ : Hid (B5 151 (w5.setCell ⟨w.heap.size, 0, none⟩ (.slice a5 m c5)) (w.heap.size + 1) (.slice none 0 0) (.slice none 0 0) (.slice none 0 0) (.int .i64 0) (.int .i64 0)) := Z5.far (by simp) _
  have HO : Hid (ownsR (w5.setCell ⟨w.heap.size, 0, none⟩ (.slice a5 m c5)) w.heap.size 154 (.slice a5 m c5) l) := ho5.setTy J5.ty (by decide) _
  have HB : Hid (Below w.heap.size w (w5.setCell ⟨w.heap.size, 0, none⟩ (.slice a5 m c5))) := Below.setCell B5' (Nat.le_refl _) _
  have j0 := J5.c0
  have jf := J5.fr 0
  clear J5 Z5 ho5 B5'
  go_wp2
  go_loopw [3, 4] (fun pv iv wr => ∃ xp : Addr, pv = .slice (some xp) 0 0 ∧ iv = .int .i64 0 ∧ Hid (B5 151 wr w.heap.size (.slice a5 m c5) (.slice ap 0 cp) (.slice ar 0 cr) (.int .i64 ck) (.int .i64 tk)) ∧ Hid (B5 151 wr (w.heap.size + 1) (.slice none 0 0) (.slice none 0 0) (.slice none 0 0) (.int .i64 0) (.int .i64 0)) ∧ Hid (ownsR wr w.heap.size 154 (.slice a5 m c5) l) ∧ Hid (Below w.heap.size w wr)) (fun _ _ _ => 0)
  case atStart => exact ⟨_, rfl, rfl, HJ.out.alloc _, HZ.out.alloc _, HO.out.alloc _, ba HB.out _⟩
  case round =>
    obtain ⟨xp, rfl, rfl, HJ, HZ, HO, HB⟩ := hrel
    have j1 := HJ.out.c1
    have jf := HJ.out.fr 1
    have HJ2 : Hid (B5 151 (wr.setCell ⟨w.heap.size, 1, none⟩ (.slice (some xp) 0 0)) w.heap.size (.slice a5 m c5) (.slice (some xp) 0 0) (.slice ar 0 cr) (.int .i64 ck) (.int .i64 tk)) := HJ.out.s1 _
    have HZ2 : Hid (B5 151 (wr.setCell ⟨w.heap.size, 1, none⟩ (.slice (some xp) 0 0)) (w.heap.size + 1) (.slice none 0 0) (.slice none 0 0) (.slice none 0 0) (.int .i64 0) (.int .i64 0)) := HZ.out.far (by simp) _
    have HO2 : Hid (ownsR (wr.setCell ⟨w.heap.size, 1, none⟩ (.slice (some xp) 0 0)) w.heap.size 154 (.slice a5 m c5) l) := HO.out.setTy HJ.out.ty (by decide) _
    have HB2 : Hid (Below w.heap.size w (wr.setCell ⟨w.heap.size, 1, none⟩ (.slice (some xp) 0 0))) := Below.setCell HB.out (Nat.le_refl _) _
    clear HJ HZ HO HB
    go_wp2
    go_loopw [6, 7] (fun rv iv wx => ∃ xr : Addr, rv = .slice (some xr) 0 0 ∧ iv = .int .i64 0 ∧ Hid (B5 151 wx w.heap.size (.slice a5 m c5) (.slice (some xp) 0 0) (.slice ar 0 cr) (.int .i64 ck) (.int .i64 tk)) ∧ Hid (B5 151 wx (w.heap.size + 1) (.slice none 0 0) (.slice none 0 0) (.slice none 0 0) (.int .i64 0) (.int .i64 0)) ∧ Hid (ownsR wx w.heap.size 154 (.slice a5 m c5) l) ∧ Hid (Below w.heap.size w wx)) (fun _ _ _ => 0)
    case atStart => exact ⟨_, rfl, rfl, HJ2.out.alloc _, HZ2.out.alloc _, HO2.out.alloc _, ba HB2.out _⟩
    case round =>
      clear HJ2 HZ2 HO2 HB2 j1 jf
      obtain ⟨xr, rfl, rfl, HJ, HZ, HO, HB⟩ := hrel
      have j0 := HJ.out.c0
      have j1 := HJ.out.c1
      have j2 := HJ.out.c2
      have j3 := HJ.out.c3
      have j4 := HJ.out.c4
      have jf := HJ.out.fr 2
      have z0 := HZ.out.c0
      have z1 := HZ.out.c1
      have z2 := HZ.out.c2
      have z3 := HZ.out.c3
      have z4 := HZ.out.c4
      have f0 := HZ.out.fr 0
      have f1 := HZ.out.fr 1
      have f2 := HZ.out.fr 2
      have f3 := HZ.out.fr 3
      have f4 := HZ.out.fr 4
      have HZ3 : Hid (B5 151 (wr.setCell ⟨w.heap.size, 2, none⟩ (.slice (some xr) 0 0)) (w.heap.size + 1) (.slice none 0 0) (.slice none 0 0) (.slice none 0 0) (.int .i64 0) (.int .i64 0)) := HZ.out.far (by simp) _
      have HO3 : Hid (ownsR (wr.setCell ⟨w.heap.size, 2, none⟩ (.slice (some xr) 0 0)) w.heap.size 154 (.slice a5 m c5) l) := HO.out.setTy HJ.out.ty (by decide) _
      have HB3 : Hid (Below w.heap.size w (wr.setCell ⟨w.heap.size, 2, none⟩ (.slice (some xr) 0 0))) := Below.setCell HB.out (Nat.le_refl _) _
      clear HJ HZ HO HB
      go_wp2
      refine bodyPost_ret (ret_b1 (p := 2) (by kernel_rfl) (by kernel_rfl) (HZ3.out.set (.slice a5 m c5) (.slice (some xp) 0 0) (.slice (some xr) 0 0) (.int .i64 ck) (.int .i64 tk))) rfl ?_
      exact ⟨_, xp, xr, rfl, ownsR_set5b HO3.out HZ3.out (by decide) _ _ _ _ _, qrc HB3.out (Nat.le_succ _) _ _ _ _ _⟩
end Go.Proofs.YtpjpheicldegkaaGreatDoor

namespace Go.Proofs.YtpjpheicldegkaaGreatDoor
open Go Go.RowKit
set_option linter.unusedVariables false

theorem bytesI_bstr (l : List Int) (h : ∀ x ∈ l, 0 ≤ x ∧ x < 256) : qwd (bstr l) = l := by
  unfold qwd
  rw [ByteArray.toList_eq]
  unfold bstr
  simp only [List.map_map]
  conv => rhs; rw [← List.map_id l]
  apply List.map_congr_left
  intro x hx
  have := h x hx
  simp only [Function.comp, id, UInt8.toNat_ofNat']
  omega
theorem confT_back {l : List Int} (h : okC l = true) : okT (textC l) = true ∧ confT (textC l) = l := by
  have e : qwd (textC l) = l := by
    unfold textC
    rw [if_pos h]
    refine bytesI_bstr l fun x hx => ?_
    obtain ⟨k, hk⟩ := List.getElem?_of_mem hx
    have := okC_at h hk
    omega
  have h2 : okT (textC l) = true := by unfold okT; rw [e]; exact h
  exact ⟨h2, by rw [confT_yes h2, e]⟩
end Go.Proofs.YtpjpheicldegkaaGreatDoor
