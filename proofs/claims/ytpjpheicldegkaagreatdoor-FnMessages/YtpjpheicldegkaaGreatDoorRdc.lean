/- Rdc -/
import Derived.Test.YtpjpheicldegkaaGreatDoorGM12
import Derived.Test.YtpjpheicldegkaaGreatDoorGM5
import Derived.Test.YtpjpheicldegkaaGreatDoorGM1
import Derived.WalkLawsBesides
import Derived.RegionDies
namespace Go.Proofs.YtpjpheicldegkaaGreatDoor
open Go Go.RowKit
set_option linter.unusedVariables false

def tornV : Value := .iface 130 (.agg #[])
def tornP : List PanicEntry := [{ v := tornV, recovered := false }]
theorem untorn_yes (w : World) : Calls Tryz.prog 79 #[.bool true] w fun e w' => e = .returned (.tuple #[]) ∧ w' = w := by
  go_enter Tryz.func79, Tryz.ntmps79
  go_wp2
  go_end0
  exact ⟨rfl, rfl⟩
theorem untorn_no (w : World) : Calls Tryz.prog 79 #[.bool false] w fun e w' => e = .panicked tornP ∧ w' = w := by
  go_enter Tryz.func79, Tryz.ntmps79
  go_wp2
  exact ⟨rfl, rfl, rfl⟩
theorem blk_upR {w w' : World} {g : Nat} {o : Obj} (h : w.heap[g]? = some o) (hb : Below w.heap.size w w') : w'.heap[g]? = some o :=
  (hb.block _ (Array.getElem?_eq_some_iff.1 h).1).trans h
def Rdr (w : World) (g : Nat) (s : ByteArray) (a : Nat) : Prop := w.heap[g]? = some (.cells #[.string s, .int .i64 (a : Int)] 133)
theorem qfd {w : World} {g : Nat} {a b : Value} {t : TypeId} (h : w.heap[g]? = some (.cells #[a, b] t)) :
    w.cell? ⟨g, 0, none⟩ = some a ∧ w.cell? ⟨g, 1, none⟩ = some b ∧ (∀ o, w.frozen? ⟨g, o, none⟩ = false) := by
  refine ⟨?_, ?_, ?_⟩
  · simp [World.cell?, h]
  · simp [World.cell?, h]
  · intro o; simp [World.frozen?, h]
theorem rdr_set1 {w : World} {g : Nat} {a b : Value} {t : TypeId} (h : w.heap[g]? = some (.cells #[a, b] t)) (v : Value) :
    (w.setCell ⟨g, 1, none⟩ v).heap[g]? = some (.cells #[a, v] t) := by
  simp [World.setCell, Array.getElem?_modify, h]
theorem Rdr.up {w w' : World} {g : Nat} {s : ByteArray} {a : Nat} (h : Rdr w g s a) (hb : Below w.heap.size w w') : Rdr w' g s a := blk_upR h hb
theorem Rdr.lt {w : World} {g : Nat} {s : ByteArray} {a : Nat} (h : Rdr w g s a) : g < w.heap.size := (Array.getElem?_eq_some_iff.1 h).1

def numP (s : ByteArray) (a : Nat) : Option (Nat × Nat) := if (rv s a).2.2 = true then some ((rv s a).1.toNat, (rv s a).2.1.toNat) else none
def shoP (s : ByteArray) (a : Nat) : Option (ByteArray × Nat) := match numP s a with
  | some (x, y) => if x ≤ 20000 ∧ y + x ≤ s.size then some (s.extract y (y + x), y + x) else none
  | none => none
def oneP (s : ByteArray) (a : Nat) : Option (Nat × Nat) := if a < s.size then some (kAt s a, a + 1) else none
theorem numP_some {s : ByteArray} {a X Y : Nat} (h : numP s a = some (X, Y)) : rv s a = ((X : Int), (Y : Int), true) ∧ X ≤ 1000000000 ∧ a < Y ∧ Y ≤ s.size := by
  unfold numP at h
  rcases hr : rv s a with ⟨x, y, z⟩
  rw [hr] at h
  split at h
  · rename_i hz
    simp only at hz
    subst hz
    obtain ⟨X', Y', rfl, rfl, h1, h2, h3⟩ := rv_in hr
    simp only [Int.toNat_natCast, Option.some.injEq, Prod.mk.injEq] at h
    obtain ⟨rfl, rfl⟩ := h
    exact ⟨rfl, h1, by omega, h3⟩
  · cases h
theorem numP_none {s : ByteArray} {a : Nat} (h : numP s a = none) : ∃ x y, rv s a = (x, y, false) := by
  unfold numP at h
  rcases hr : rv s a with ⟨x, y, z⟩
  rw [hr] at h
  split at h
  · cases h
  · rename_i hz
    simp only [Bool.not_eq_true] at hz
    subst hz
    exact ⟨x, y, rfl⟩
theorem shoP_some {s t : ByteArray} {a b : Nat} (h : shoP s a = some (t, b)) : ∃ X Y : Nat, rv s a = ((X : Int), (Y : Int), true) ∧ X ≤ 20000 ∧ Y + X ≤ s.size ∧ t = s.extract Y (Y + X) ∧ b = Y + X ∧ a < b := by
  unfold shoP at h
  split at h
  · rename_i X Y he
    split at h
    · rename_i hc
      obtain ⟨h1, h2, h3, h4⟩ := numP_some he
      simp only [Option.some.injEq, Prod.mk.injEq] at h
      exact ⟨X, Y, h1, hc.1, hc.2, h.1.symm, h.2.symm, by omega⟩
    · cases h
  · cases h
theorem shoP_none {s : ByteArray} {a : Nat} (h : shoP s a = none) : ∃ x y z, rv s a = (x, y, z) ∧ (z = false ∨ 20000 < x ∨ (s.size : Int) - y < x) := by
  unfold shoP at h
  split at h
  · rename_i X Y he
    split at h
    · cases h
    · rename_i hc
      obtain ⟨h1, h2, h3, h4⟩ := numP_some he
      exact ⟨X, Y, true, h1, by omega⟩
  · rename_i he
    obtain ⟨x, y, hr⟩ := numP_none he
    exact ⟨x, y, false, hr, .inl rfl⟩
def StepP {α : Type} (r : Option (α × Nat)) (f : α → Value) (g : Nat) (s : ByteArray) (w : World) (e : Ending) (w' : World) : Prop := match r with
  | some (x, b) => e = .returned (f x) ∧ Rdr w' g s b ∧ Save g w w'
  | none => e = .panicked tornP ∧ Save g w w'

set_option maxRecDepth 10000 in
set_option maxHeartbeats 1000000 in
theorem qme (g : Nat) (s : ByteArray) (a : Nat) (w : World) (hc : Rdr w g s a) (hs : s.size ≤ 1048576) :
    Calls Tryz.prog 54 #[.pointer (some ⟨g, 0, none⟩)] w (StepP (numP s a) (fun x => .int .i64 (x : Int)) g s w) := by
  have HC : Hid (Rdr w g s a) := hc
  obtain ⟨c0, c1, hf⟩ := qfd hc
  clear hc
  have q0 := Wd.cell c0
  have q1 := Wd.cell c1
  cases hq : numP s a with
  | some r =>
    obtain ⟨x, b⟩ := r
    have HR : Hid (rv s a = ((x : Int), (b : Int), true)) := (numP_some hq).1
    clear hq
    go_enter Tryz.func54, Tryz.ntmps54
    go_wp2
    refine qba (by kernel_rfl) (by kernel_rfl) ?_
    repeat (go_big_quiet_step ((go_at_call 80; refine qaa (v := .tuple #[.int .i64 (x : Int), .int .i64 (b : Int), .bool true]) ?_; exact qgc _ _ _ hs _ _ true HR.out)))
    refine wpQuiet_nil ?_
    rintro _ ⟨v, rfl⟩
    have HC1 : Hid (Rdr v.at' g s a) := HC.out.up v.ok
    have HS : Hid (Save g w v.at') := Save.of_below v.ok
    generalize v.at' = w1 at HC1 HS ⊢
    clear c0 c1 hf q0 q1
    obtain ⟨c0, c1, hf⟩ := qfd HC1.out
    go_wp2_with (go_at_call 79; refine (untorn_yes _).mono ?_; rintro e w2 ⟨rfl, hw⟩; have hw2 := hw.symm; subst hw2; clear hw)
    go_ret
    exact ⟨rfl, rdr_set1 HC1.out _, HS.out.setCell rfl _⟩
  | none =>
    obtain ⟨x, y, hr⟩ := numP_none hq
    have HR : Hid (rv s a = (x, y, false)) := hr
    clear hq hr
    go_enter Tryz.func54, Tryz.ntmps54
    go_wp2
    refine qba (by kernel_rfl) (by kernel_rfl) ?_
    repeat (go_big_quiet_step ((go_at_call 80; refine qaa (v := .tuple #[.int .i64 x, .int .i64 y, .bool false]) ?_; exact qgc _ _ _ hs _ _ false HR.out)))
    refine wpQuiet_nil ?_
    rintro _ ⟨v, rfl⟩
    have HS : Hid (Save g w v.at') := Save.of_below v.ok
    generalize v.at' = w1 at HS ⊢
    clear c0 c1 hf q0 q1
    go_wp2_with (go_at_call 79; refine (untorn_no _).mono ?_; rintro e w2 ⟨rfl, hw⟩; have hw2 := hw.symm; subst hw2; clear hw)
    exact ⟨rfl, rfl, HS.out⟩

set_option maxRecDepth 10000 in
set_option maxHeartbeats 1000000 in
theorem short_any (g : Nat) (s : ByteArray) (a : Nat) (w : World) (hc : Rdr w g s a) (hs : s.size ≤ 1048576) :
    Calls Tryz.prog 58 #[.pointer (some ⟨g, 0, none⟩)] w (StepP (shoP s a) (fun x => .string x) g s w) := by
  have HC : Hid (Rdr w g s a) := hc
  obtain ⟨c0, c1, hf⟩ := qfd hc
  clear hc
  have q0 := Wd.cell c0
  have q1 := Wd.cell c1
  cases hq : shoP s a with
  | some r =>
    obtain ⟨x, b⟩ := r
    have CR : Hid (∀ W, Calls Tryz.prog 84 #[.string s, .int .i64 a] W fun e w' => e = .returned (.tuple #[.string x, .int .i64 (b : Int), .bool true]) ∧ Below W.heap.size W w') := fun W => by
      obtain ⟨X, Y, hr, h1, h2, rfl, rfl, h3⟩ := shoP_some hq
      have := readShort_ok s a W hs _ _ hr (by omega) (by omega)
      rw [show ((Y : Int) + (X : Int)).toNat = Y + X by omega, Int.toNat_natCast, show (Y : Int) + (X : Int) = ((Y + X : Nat) : Int) by omega] at this
      exact this
    clear hq
    go_enter Tryz.func58, Tryz.ntmps58
    go_wp2
    refine qba (by kernel_rfl) (by kernel_rfl) ?_
    repeat (go_big_quiet_step ((go_at_call 84; refine qwa (v := .tuple #[.string x, .int .i64 (b : Int), .bool true]) ?_; exact CR.out _)))
    refine wpQuiet_nil ?_
    rintro _ ⟨v, rfl⟩
    have HC1 : Hid (Rdr v.at' g s a) := HC.out.up v.ok
    have HS : Hid (Save g w v.at') := Save.of_below v.ok
    generalize v.at' = w1 at HC1 HS ⊢
    clear c0 c1 hf q0 q1
    obtain ⟨c0, c1, hf⟩ := qfd HC1.out
    go_wp2_with (go_at_call 79; refine (untorn_yes _).mono ?_; rintro e w2 ⟨rfl, hw⟩; have hw2 := hw.symm; subst hw2; clear hw)
    go_ret
    exact ⟨rfl, rdr_set1 HC1.out _, HS.out.setCell rfl _⟩
  | none =>
    have CR : Hid (∀ W, Calls Tryz.prog 84 #[.string s, .int .i64 a] W fun e w' => e = .returned (.tuple #[.string ByteArray.empty, .int .i64 0, .bool false]) ∧ Below W.heap.size W w') := fun W => by
      obtain ⟨x, y, z, hr, hx⟩ := shoP_none hq
      exact readShort_bad s a W hs _ _ _ hr hx
    clear hq
    go_enter Tryz.func58, Tryz.ntmps58
    go_wp2
    refine qba (by kernel_rfl) (by kernel_rfl) ?_
    repeat (go_big_quiet_step ((go_at_call 84; refine qwa (v := .tuple #[.string ByteArray.empty, .int .i64 0, .bool false]) ?_; exact CR.out _)))
    refine wpQuiet_nil ?_
    rintro _ ⟨v, rfl⟩
    have HS : Hid (Save g w v.at') := Save.of_below v.ok
    generalize v.at' = w1 at HS ⊢
    clear c0 c1 hf q0 q1
    go_wp2_with (go_at_call 79; refine (untorn_no _).mono ?_; rintro e w2 ⟨rfl, hw⟩; have hw2 := hw.symm; subst hw2; clear hw)
    exact ⟨rfl, rfl, HS.out⟩

set_option maxRecDepth 10000 in
set_option maxHeartbeats 1000000 in
theorem oneByteR_any (g : Nat) (s : ByteArray) (a : Nat) (w : World) (hc : Rdr w g s a) (hs : s.size ≤ 1048576) :
    Calls Tryz.prog 53 #[.pointer (some ⟨g, 0, none⟩)] w (StepP (oneP s a) (fun x => .int .i64 (x : Int)) g s w) := by
  have HC : Hid (Rdr w g s a) := hc
  obtain ⟨c0, c1, hf⟩ := qfd hc
  clear hc
  rcases Nat.lt_or_ge a s.size with ha | ha
  · have HQ : Hid (oneP s a = some (kAt s a, a + 1)) := by show oneP s a = _; unfold oneP; rw [if_pos ha]
    rw [HQ.out]
    have hd : decide ((a : Int) < (s.size : Int)) = true := decide_eq_true (by omega)
    have q0 := Wd.cell c0
    have q1 := Wd.cell c1
    have hw1 : IntKind.i64.wrap ((a : Int) + 1) = (a : Int) + 1 := by go_arith
    have hw2 : IntKind.i64.wrap ((a : Int) + 1 - 1) = (a : Int) := by go_arith
    obtain ⟨k, HK⟩ : ∃ k : Nat, Hid (kAt s a = k) := ⟨_, rfl⟩
    have hix : ∀ wx, (Instr.index 9 (.string s) (.int .i64 (a : Int))).run Tryz.prog wx = .ok (.int .u8 (k : Int)) wx := fun wx => by
      rw [← HK.out, kAt_in ha]
      have := run_index_string (P := Tryz.prog) wx 9 s .i64 (a : Int) Tryz.underlying9
      rw [this]
      simp [ha]
    have hk8 : k < 256 := by rw [← HK.out]; exact kAt_lt s a
    have hw3 : IntKind.i64.wrap (k : Int) = (k : Int) := by go_arith
    rw [HK.out]
    go_enter Tryz.func53, Tryz.ntmps53
    go_wp2
    refine qba (by kernel_rfl) (by kernel_rfl) ?_
    repeat (go_big_quiet_step ((go_at_call 79; refine qaa (v := .tuple #[]) ?_; exact untorn_yes _)))
    refine wpQuiet_nil ?_
    rintro _ ⟨v, rfl⟩
    have HC1 : Hid (Rdr v.at' g s a) := HC.out.up v.ok
    have HS : Hid (Save g w v.at') := Save.of_below v.ok
    generalize v.at' = w1 at HC1 HS ⊢
    clear c0 c1 hf q0 q1
    obtain ⟨c0, c1, hf⟩ := qfd HC1.out
    go_wp2
    have HC2 : Hid (Rdr (w1.setCell ⟨g, 1, none⟩ (.int .i64 ((a : Int) + 1))) g s (a + 1)) := by
      have := rdr_set1 HC1.out (.int .i64 ((a : Int) + 1))
      unfold Hid Rdr
      rw [Int.natCast_add]
      exact this
    have HS2 : Hid (Save g w (w1.setCell ⟨g, 1, none⟩ (.int .i64 ((a : Int) + 1)))) := HS.out.setCell rfl _
    generalize hW : w1.setCell ⟨g, 1, none⟩ (.int .i64 ((a : Int) + 1)) = W at HC2 HS2 ⊢
    clear hW c0 c1 hf
    obtain ⟨c0, c1, hf⟩ := qfd HC2.out
    rw [Int.natCast_add] at c1
    go_quiet (fail)
    go_wp2
    go_ret
    exact ⟨rfl, HC2.out, HS2.out.drewN _⟩
  · have HQ : Hid (oneP s a = none) := by show oneP s a = _; unfold oneP; rw [if_neg (by omega)]
    rw [HQ.out]
    have hd : decide (a < s.size) = false := decide_eq_false (by omega)
    have hd2 : decide ((a : Int) < (s.size : Int)) = false := decide_eq_false (by omega)
    go_enter Tryz.func53, Tryz.ntmps53
    go_wp2
    go_region_dies
    all_goals (refine (untorn_no _).mono ?_; rintro e w2 ⟨rfl, hw⟩; have hw2 := hw.symm; subst hw2; clear hw; exact ⟨rfl, rfl, Save.of_below (Below.refl _ _).drew⟩)

set_option maxHeartbeats 1000000 in
theorem end_yes (g : Nat) (s : ByteArray) (w : World) (hc : Rdr w g s s.size) :
    Calls Tryz.prog 78 #[.pointer (some ⟨g, 0, none⟩)] w fun e w' => e = .returned (.tuple #[]) ∧ Below w.heap.size w w' := by
  obtain ⟨c0, c1, hf⟩ := qfd hc
  clear hc
  have q0 := Wd.cell c0
  have q1 := Wd.cell c1
  go_enter Tryz.func78, Tryz.ntmps78
  go_wp2
  refine qba (by kernel_rfl) (by kernel_rfl) ?_
  repeat (go_big_quiet_step ((go_at_call 79; refine qaa (v := .tuple #[]) ?_; exact untorn_yes _)))
  refine wpQuiet_nil ?_
  rintro _ ⟨v, rfl⟩
  have HS : Hid (Below w.heap.size w v.at') := v.ok
  generalize v.at' = w1 at HS ⊢
  go_wp2
  go_end0
  exact ⟨rfl, HS.out⟩
set_option maxHeartbeats 1000000 in
theorem end_no (g : Nat) (s : ByteArray) (a : Nat) (w : World) (hc : Rdr w g s a) (ha : a ≠ s.size) :
    Calls Tryz.prog 78 #[.pointer (some ⟨g, 0, none⟩)] w fun e w' => e = .panicked tornP ∧ Below w.heap.size w w' := by
  obtain ⟨c0, c1, hf⟩ := qfd hc
  have hne : ((a : Int) == (s.size : Int)) = false := by rw [beq_eq_false_iff_ne]; omega
  have hne2 : ¬ (a : Int) = (s.size : Int) := by omega
  clear hc ha
  go_enter Tryz.func78, Tryz.ntmps78
  go_wp2
  go_region_dies
  all_goals (refine (untorn_no _).mono ?_; rintro e w2 ⟨rfl, hw⟩; have hw2 := hw.symm; subst hw2; clear hw; exact ⟨rfl, rfl, (Below.refl _ _).drew⟩)
end Go.Proofs.YtpjpheicldegkaaGreatDoor
