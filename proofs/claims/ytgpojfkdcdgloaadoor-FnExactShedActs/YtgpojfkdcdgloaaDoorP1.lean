/-
  Short texts: the walks of what reads them. The reader of a snapshot, which panics where the text does not go on: the walks of its steps. What a reader's panic comes to: the deferred closure's contracts. What is read of a snapshot's text: plain facts.
-/
import Derived.Test.YtgpojfkdcdgloaaDoorRvs
import Derived.Test.YtgpojfkdcdgloaaDoorCln
import Derived.Test.YtgpojfkdcdgloaaDoorT0
import Derived.WalkLawsBesides
import Derived.RegionDies
import Derived.Defers
import Derived.Recover
import Derived.Test.YtgpojfkdcdgloaaDoorRea
namespace Go.Proofs.YtgpojfkdcdgloaaDoor
open Go.RowKit

theorem rvGo_true (s : ByteArray) : ∀ (f i k n : Nat) (x y : Int), rvGo s f i k n = (x, y, true) → 0 ≤ x ∧ x ≤ 1000000000 ∧ 0 ≤ y ∧ y ≤ s.size
  | 0, i, k, n, x, y, h => by simp [rvGo] at h
  | f + 1, i, k, n, x, y, h => by
    by_cases h1 : i < s.size
    · by_cases h2 : s[i].toNat < 128
      · by_cases h3 : 1000000000 < n + s[i].toNat % 128 * 128 ^ k ∨ (s[i].toNat = 0 ∧ 0 < k)
        · rw [rvGo_bad h1 h2 h3] at h
          simp at h
        · rw [rvGo_ok h1 h2 h3] at h
          generalize n + s[i].toNat % 128 * 128 ^ k = v at h h3
          simp only [Prod.mk.injEq, and_true] at h
          omega
      · rw [rvGo_more h1 h2] at h
        exact rvGo_true s f _ _ _ x y h
    · rw [rvGo_end h1] at h
      simp at h
theorem rv_true {s : ByteArray} {at' x y : Int} (h : rv s at' = (x, y, true)) : 0 ≤ x ∧ x ≤ 1000000000 ∧ 0 ≤ y ∧ y ≤ s.size := by
  unfold rv at h
  by_cases hc : 0 ≤ at' ∧ at' ≤ s.size
  · rw [if_pos hc] at h
    exact rvGo_true s _ _ _ _ x y h
  · rw [if_neg hc] at h
    simp at h


set_option maxHeartbeats 400000 in
theorem readShort_bad (s : ByteArray) (at' : Int) (w : World) (hs : s.size ≤ 1048576) (x y : Int) (z : Bool) (HR : Hid (rv s at' = (x, y, z)))
    (hbad : z = false ∨ 20000 < x ∨ (s.size : Int) - y < x) :
    Calls Tryd.prog 104 #[.string s, .int .i64 at'] w fun e w' => e = .returned (.tuple #[.string ByteArray.empty, .int .i64 0, .bool false]) ∧ Below w.heap.size w w' := by
  cases z with
  | false =>
    clear hbad
    go_enter Tryd.func104, Tryd.ntmps104
    go_wp2_with (go_at_call 102; refine (readVar_any s at' _ hs x y false HR.out).mono ?_; rintro e w1 ⟨rfl, hb1⟩)
    go_ret3
    exact ⟨rfl, by subst hb1; exact Below.refl _ _⟩
  | true =>
    obtain ⟨hx0, hx1, hy0, hy1⟩ := rv_true HR.out
    by_cases h1 : 20000 < x
    · clear hbad
      go_enter Tryd.func104, Tryd.ntmps104
      go_wp2_with (go_at_call 102; refine (readVar_any s at' _ hs x y true HR.out).mono ?_; rintro e w1 ⟨rfl, hb1⟩)
      go_ret3
      exact ⟨rfl, by subst hb1; exact Below.refl _ _⟩
    · have h2 : (s.size : Int) - y < x := by simp at hbad; omega
      clear hbad
      go_enter Tryd.func104, Tryd.ntmps104
      go_wp2_with (go_at_call 102; refine (readVar_any s at' _ hs x y true HR.out).mono ?_; rintro e w1 ⟨rfl, hb1⟩)
      go_ret3
      exact ⟨rfl, by subst hb1; exact Below.refl _ _⟩

set_option maxHeartbeats 400000 in
theorem readShort_ok (s : ByteArray) (at' : Int) (w : World) (hs : s.size ≤ 1048576) (x y : Int) (HR : Hid (rv s at' = (x, y, true)))
    (h1 : x ≤ 20000) (h2 : x ≤ (s.size : Int) - y) :
    Calls Tryd.prog 104 #[.string s, .int .i64 at'] w fun e w' => e = .returned (.tuple #[.string (s.extract y.toNat (y + x).toNat), .int .i64 (y + x), .bool true]) ∧ Below w.heap.size w w' := by
  obtain ⟨hx0, hx1, hy0, hy1⟩ := rv_true HR.out
  go_enter Tryd.func104, Tryd.ntmps104
  go_wp2_with (first | (go_at_call 102; refine (readVar_any s at' _ hs x y true HR.out).mono ?_; rintro e w1 ⟨rfl, hb1⟩) | (go_at_call 101; refine (clone_any _ _ (by simp only [ByteArray.size_extract]; omega)).mono ?_; rintro e w2 ⟨rfl, hb2⟩))
  go_ret3
  exact ⟨rfl, by subst hb1; exact hb2⟩

end Go.Proofs.YtgpojfkdcdgloaaDoor

namespace Go.Proofs.YtgpojfkdcdgloaaDoor
open Go Go.RowKit

/-- What a reader panics with. -/
def tornV : Value := .iface 98 (.agg #[])
def tornP : List PanicEntry := [{ v := tornV, recovered := false }]
theorem untorn_yes (w : World) : Calls Tryd.prog 82 #[.bool true] w fun e w' => e = .returned (.tuple #[]) ∧ w' = w := by
  go_enter Tryd.func82, Tryd.ntmps82
  go_wp2
  go_end0
  exact ⟨rfl, rfl⟩
theorem untorn_no (w : World) : Calls Tryd.prog 82 #[.bool false] w fun e w' => e = .panicked tornP ∧ w' = w := by
  go_enter Tryd.func82, Tryd.ntmps82
  go_wp2
  exact ⟨rfl, rfl, rfl⟩

/-- Block g is a reader over text s at place a. -/
def Rdr (w : World) (g : Nat) (s : ByteArray) (a : Nat) : Prop := w.heap[g]? = some (.cells #[.string s, .int .i64 (a : Int)] 102)
theorem rdr_cells {w : World} {g : Nat} {a b : Value} {t : TypeId} (h : w.heap[g]? = some (.cells #[a, b] t)) :
    w.cell? ⟨g, 0, none⟩ = some a ∧ w.cell? ⟨g, 1, none⟩ = some b ∧ (∀ o, w.frozen? ⟨g, o, none⟩ = false) := by
  refine ⟨?_, ?_, ?_⟩
  · simp [World.cell?, h]
  · simp [World.cell?, h]
  · intro o; simp [World.frozen?, h]
theorem rdr_set1 {w : World} {g : Nat} {a b : Value} {t : TypeId} (h : w.heap[g]? = some (.cells #[a, b] t)) (v : Value) :
    (w.setCell ⟨g, 1, none⟩ v).heap[g]? = some (.cells #[a, v] t) := by
  simp [World.setCell, Array.getElem?_modify, h]
theorem Rdr.up {w w' : World} {g : Nat} {s : ByteArray} {a : Nat} (h : Rdr w g s a) (hb : Below w.heap.size w w') : Rdr w' g s a := blk_up h hb
theorem Rdr.lt {w : World} {g : Nat} {s : ByteArray} {a : Nat} (h : Rdr w g s a) : g < w.heap.size := (Array.getElem?_eq_some_iff.1 h).1

set_option maxHeartbeats 1000000 in
theorem number_yes (g : Nat) (s : ByteArray) (a X Y : Nat) (lim : Int) (w : World) (hc : Rdr w g s a) (hs : s.size ≤ 1048576) (hr : rv s a = ((X : Int), (Y : Int), true)) (hx : (X : Int) ≤ lim) :
    Calls Tryd.prog 83 #[.pointer (some ⟨g, 0, none⟩), .int .i64 lim] w fun e w' => e = .returned (.int .i64 X) ∧ Rdr w' g s Y ∧ Save g w w' := by
  have HC : Hid (Rdr w g s a) := hc
  have HR : Hid (rv s a = ((X : Int), (Y : Int), true)) := hr
  obtain ⟨c0, c1, hf⟩ := rdr_cells hc
  clear hc hr
  have q0 := Wd.cell c0
  have q1 := Wd.cell c1
  go_enter Tryd.func83, Tryd.ntmps83
  go_wp2
  refine wp_region_wd (by kernel_rfl) (by kernel_rfl) ?_
  repeat (go_big_quiet_step ((go_at_call 102; refine calls_wd_same (v := .tuple #[.int .i64 (X : Int), .int .i64 (Y : Int), .bool true]) ?_; exact readVar_any _ _ _ hs _ _ true HR.out)))
  refine wpQuiet_nil ?_
  rintro _ ⟨v, rfl⟩
  have HC1 : Hid (Rdr v.at' g s a) := HC.out.up v.ok
  have HS : Hid (Save g w v.at') := Save.of_below v.ok
  generalize v.at' = w1 at HC1 HS ⊢
  clear c0 c1 hf q0 q1
  obtain ⟨c0, c1, hf⟩ := rdr_cells HC1.out
  go_wp2_with (go_at_call 82; refine (untorn_yes _).mono ?_; rintro e w2 ⟨rfl, hw⟩; have hw2 := hw.symm; subst hw2; clear hw)
  go_ret
  exact ⟨rfl, rdr_set1 HC1.out _, HS.out.setCell rfl _⟩

set_option maxRecDepth 10000 in
set_option maxHeartbeats 1000000 in
theorem number_no (g : Nat) (s : ByteArray) (a : Nat) (x y : Int) (z : Bool) (lim : Int) (w : World) (hc : Rdr w g s a) (hs : s.size ≤ 1048576) (hr : rv s a = (x, y, z)) (hx : z = false ∨ lim < x) :
    Calls Tryd.prog 83 #[.pointer (some ⟨g, 0, none⟩), .int .i64 lim] w fun e w' => e = .panicked tornP ∧ Below w.heap.size w w' := by
  have HR : Hid (rv s a = (x, y, z)) := hr
  obtain ⟨c0, c1, hf⟩ := rdr_cells hc
  clear hc hr
  have q0 := Wd.cell c0
  have q1 := Wd.cell c1
  go_enter Tryd.func83, Tryd.ntmps83
  go_wp2
  refine wp_region_wd (by kernel_rfl) (by kernel_rfl) ?_
  repeat (go_big_quiet_step ((go_at_call 102; refine calls_wd_same (v := .tuple #[.int .i64 x, .int .i64 y, .bool z]) ?_; exact readVar_any _ _ _ hs _ _ z HR.out)))
  refine wpQuiet_nil ?_
  rintro _ ⟨v, rfl⟩
  have HS : Hid (Below w.heap.size w v.at') := v.ok
  generalize v.at' = w1 at HS ⊢
  clear c0 c1 hf q0 q1
  cases z with
  | false =>
    clear hx
    go_wp2_with (go_at_call 82; refine (untorn_no _).mono ?_; rintro e w2 ⟨rfl, hw⟩; have hw2 := hw.symm; subst hw2; clear hw)
    exact ⟨rfl, rfl, HS.out⟩
  | true =>
    have hx2 : lim < x := hx.resolve_left (fun h => by cases h)
    have hd : decide (x ≤ lim) = false := decide_eq_false (by omega)
    clear hx hx2
    go_wp2_with (go_at_call 82; refine (untorn_no _).mono ?_; rintro e w2 ⟨rfl, hw⟩; have hw2 := hw.symm; subst hw2; clear hw)
    exact ⟨rfl, rfl, HS.out⟩

set_option maxHeartbeats 1000000 in
theorem short_yes (g : Nat) (s : ByteArray) (a X Y : Nat) (w : World) (hc : Rdr w g s a) (hs : s.size ≤ 1048576) (hr : rv s a = ((X : Int), (Y : Int), true)) (h1 : X ≤ 20000) (h2 : Y + X ≤ s.size) :
    Calls Tryd.prog 85 #[.pointer (some ⟨g, 0, none⟩)] w fun e w' => e = .returned (.string (s.extract Y (Y + X))) ∧ Rdr w' g s (Y + X) ∧ Save g w w' := by
  have HC : Hid (Rdr w g s a) := hc
  have CR : Hid (∀ W, Calls Tryd.prog 104 #[.string s, .int .i64 a] W fun e w' => e = .returned (.tuple #[.string (s.extract Y (Y + X)), .int .i64 ((Y + X : Nat) : Int), .bool true]) ∧ Below W.heap.size W w') := fun W => by
    have := readShort_ok s a W hs _ _ hr (by omega) (by omega)
    rw [show ((Y : Int) + (X : Int)).toNat = Y + X by omega, Int.toNat_natCast, show (Y : Int) + (X : Int) = ((Y + X : Nat) : Int) by omega] at this
    exact this
  obtain ⟨t, ht⟩ : ∃ t, s.extract Y (Y + X) = t := ⟨_, rfl⟩
  rw [ht] at CR ⊢
  obtain ⟨b, hb⟩ : ∃ b, Y + X = b := ⟨_, rfl⟩
  rw [hb] at CR ⊢
  obtain ⟨c0, c1, hf⟩ := rdr_cells hc
  clear hc hr ht h1 h2 hb
  have q0 := Wd.cell c0
  have q1 := Wd.cell c1
  go_enter Tryd.func85, Tryd.ntmps85
  go_wp2
  refine wp_region_wd (by kernel_rfl) (by kernel_rfl) ?_
  repeat (go_big_quiet_step ((go_at_call 104; refine calls_wd (v := .tuple #[.string t, .int .i64 (b : Int), .bool true]) ?_; exact CR.out _)))
  refine wpQuiet_nil ?_
  rintro _ ⟨v, rfl⟩
  have HC1 : Hid (Rdr v.at' g s a) := HC.out.up v.ok
  have HS : Hid (Save g w v.at') := Save.of_below v.ok
  generalize v.at' = w1 at HC1 HS ⊢
  clear c0 c1 hf q0 q1
  obtain ⟨c0, c1, hf⟩ := rdr_cells HC1.out
  go_wp2_with (go_at_call 82; refine (untorn_yes _).mono ?_; rintro e w2 ⟨rfl, hw⟩; have hw2 := hw.symm; subst hw2; clear hw)
  go_ret
  exact ⟨rfl, rdr_set1 HC1.out _, HS.out.setCell rfl _⟩

set_option maxHeartbeats 1000000 in
theorem short_no (g : Nat) (s : ByteArray) (a : Nat) (x y : Int) (z : Bool) (w : World) (hc : Rdr w g s a) (hs : s.size ≤ 1048576) (hr : rv s a = (x, y, z)) (hx : z = false ∨ 20000 < x ∨ (s.size : Int) - y < x) :
    Calls Tryd.prog 85 #[.pointer (some ⟨g, 0, none⟩)] w fun e w' => e = .panicked tornP ∧ Below w.heap.size w w' := by
  have CR : Hid (∀ W, Calls Tryd.prog 104 #[.string s, .int .i64 a] W fun e w' => e = .returned (.tuple #[.string ByteArray.empty, .int .i64 0, .bool false]) ∧ Below W.heap.size W w') := fun W => readShort_bad s a W hs _ _ _ hr hx
  obtain ⟨c0, c1, hf⟩ := rdr_cells hc
  clear hc hr hx
  have q0 := Wd.cell c0
  have q1 := Wd.cell c1
  go_enter Tryd.func85, Tryd.ntmps85
  go_wp2
  refine wp_region_wd (by kernel_rfl) (by kernel_rfl) ?_
  repeat (go_big_quiet_step ((go_at_call 104; refine calls_wd (v := .tuple #[.string ByteArray.empty, .int .i64 0, .bool false]) ?_; exact CR.out _)))
  refine wpQuiet_nil ?_
  rintro _ ⟨v, rfl⟩
  have HS : Hid (Below w.heap.size w v.at') := v.ok
  generalize v.at' = w1 at HS ⊢
  clear c0 c1 hf q0 q1
  go_wp2_with (go_at_call 82; refine (untorn_no _).mono ?_; rintro e w2 ⟨rfl, hw⟩; have hw2 := hw.symm; subst hw2; clear hw)
  exact ⟨rfl, rfl, HS.out⟩

set_option maxHeartbeats 1000000 in
theorem conf_yes (g : Nat) (s : ByteArray) (a X Y : Nat) (w : World) (hc : Rdr w g s a) (hs : s.size ≤ 1048576) (hr : rv s a = ((X : Int), (Y : Int), true)) (h1 : X ≤ 20000) (h2 : Y + X ≤ s.size) (hk : okT (s.extract Y (Y + X)) = true) :
    Calls Tryd.prog 84 #[.pointer (some ⟨g, 0, none⟩)] w fun e w' => ∃ v, e = .returned v ∧ ownsR w' w.heap.size 3 v (confT (s.extract Y (Y + X))) ∧ Rdr w' g s (Y + X) ∧ Save g w w' := by
  have CR : Hid (∀ W, Rdr W g s a → Calls Tryd.prog 85 #[.pointer (some ⟨g, 0, none⟩)] W fun e w' => e = .returned (.string (s.extract Y (Y + X))) ∧ Rdr w' g s (Y + X) ∧ Save g W w') := fun W h => short_yes g s a X Y W h hs hr h1 h2
  have hz : (s.extract Y (Y + X)).size ≤ maxLen := by rw [ByteArray.size_extract]; unfold maxLen; omega
  obtain ⟨t, ht⟩ : ∃ t, s.extract Y (Y + X) = t := ⟨_, rfl⟩
  rw [ht] at CR hz hk ⊢
  obtain ⟨b, hb⟩ : ∃ b, Y + X = b := ⟨_, rfl⟩
  rw [hb] at CR ⊢
  clear hr ht h1 h2 hb
  have HZ : Hid (t.size ≤ maxLen) := hz
  have HK : Hid (okT t = true) := hk
  have HC : Hid (Rdr w g s a) := hc
  clear hz hk hc
  go_enter Tryd.func84, Tryd.ntmps84
  go_wp2_with fail
  refine Calls.mono (CR.out _ HC.out) ?_
  rintro e w1 ⟨rfl, HC1, HS1⟩
  have HC1 : Hid (Rdr w1 g s b) := HC1
  have HS1 : Hid (Save g w w1) := HS1
  go_wp2_with fail
  refine Calls.mono (readConf_any t _ HZ.out) ?_
  rintro e w2 ⟨v2, rfl, ho2, hb2⟩
  obtain ⟨a2, n2, d2, rfl⟩ := ho2.slice3
  have HC2 : Hid (Rdr w2 g s b) := HC1.out.up hb2
  have HS2 : Hid (Save g w w2) := HS1.out.trans (Save.of_below hb2)
  have HO2 : Hid (ownsR w2 w.heap.size 3 (.slice a2 n2 d2) (confT t)) := ho2.mono HS1.out.size
  clear ho2 hb2
  rw [HK.out]
  go_wp2_with (go_at_call 82; refine (untorn_yes _).mono ?_; rintro e w3 ⟨rfl, hw⟩; have hw2 := hw.symm; subst hw2; clear hw)
  go_ret
  exact ⟨_, rfl, HO2.out, HC2.out, HS2.out⟩

set_option maxHeartbeats 1000000 in
/-- The conf's text is not there, or none of a conf. -/
theorem conf_no (g : Nat) (s : ByteArray) (a : Nat) (x y : Int) (z : Bool) (w : World) (hc : Rdr w g s a) (hs : s.size ≤ 1048576) (hr : rv s a = (x, y, z)) (hx : z = false ∨ 20000 < x ∨ (s.size : Int) - y < x) :
    Calls Tryd.prog 84 #[.pointer (some ⟨g, 0, none⟩)] w fun e w' => e = .panicked tornP ∧ Below w.heap.size w w' := by
  have CR : Hid (∀ W, Rdr W g s a → Calls Tryd.prog 85 #[.pointer (some ⟨g, 0, none⟩)] W fun e w' => e = .panicked tornP ∧ Below W.heap.size W w') := fun W h => short_no g s a x y z W h hs hr hx
  have HC : Hid (Rdr w g s a) := hc
  clear hr hx hc
  go_enter Tryd.func84, Tryd.ntmps84
  go_wp2_with fail
  refine Calls.mono (CR.out _ HC.out) ?_
  rintro e w1 ⟨rfl, hb1⟩
  go_wp2
  exact ⟨rfl, rfl, hb1⟩
set_option maxHeartbeats 1000000 in
theorem conf_wrong (g : Nat) (s : ByteArray) (a X Y : Nat) (w : World) (hc : Rdr w g s a) (hs : s.size ≤ 1048576) (hr : rv s a = ((X : Int), (Y : Int), true)) (h1 : X ≤ 20000) (h2 : Y + X ≤ s.size) (hk : okT (s.extract Y (Y + X)) = false) :
    Calls Tryd.prog 84 #[.pointer (some ⟨g, 0, none⟩)] w fun e w' => e = .panicked tornP ∧ Save g w w' := by
  have CR : Hid (∀ W, Rdr W g s a → Calls Tryd.prog 85 #[.pointer (some ⟨g, 0, none⟩)] W fun e w' => e = .returned (.string (s.extract Y (Y + X))) ∧ Rdr w' g s (Y + X) ∧ Save g W w') := fun W h => short_yes g s a X Y W h hs hr h1 h2
  have hz : (s.extract Y (Y + X)).size ≤ maxLen := by rw [ByteArray.size_extract]; unfold maxLen; omega
  obtain ⟨t, ht⟩ : ∃ t, s.extract Y (Y + X) = t := ⟨_, rfl⟩
  rw [ht] at CR hz hk
  obtain ⟨b, hb⟩ : ∃ b, Y + X = b := ⟨_, rfl⟩
  rw [hb] at CR
  clear hr ht h1 h2 hb
  have HZ : Hid (t.size ≤ maxLen) := hz
  have HK : Hid (okT t = false) := hk
  have HC : Hid (Rdr w g s a) := hc
  clear hz hk hc
  go_enter Tryd.func84, Tryd.ntmps84
  go_wp2_with fail
  refine Calls.mono (CR.out _ HC.out) ?_
  rintro e w1 ⟨rfl, HC1, HS1⟩
  have HS1 : Hid (Save g w w1) := HS1
  go_wp2_with fail
  refine Calls.mono (readConf_any t _ HZ.out) ?_
  rintro e w2 ⟨v2, rfl, ho2, hb2⟩
  obtain ⟨a2, n2, d2, rfl⟩ := ho2.slice3
  have HS2 : Hid (Save g w w2) := HS1.out.trans (Save.of_below hb2)
  clear ho2 hb2 HC1
  rw [HK.out]
  go_wp2_with (go_at_call 82; refine (untorn_no _).mono ?_; rintro e w3 ⟨rfl, hw⟩; have hw2 := hw.symm; subst hw2; clear hw)
  exact ⟨rfl, rfl, HS2.out⟩

set_option maxHeartbeats 1000000 in
theorem end_yes (g : Nat) (s : ByteArray) (w : World) (hc : Rdr w g s s.size) :
    Calls Tryd.prog 86 #[.pointer (some ⟨g, 0, none⟩)] w fun e w' => e = .returned (.tuple #[]) ∧ Below w.heap.size w w' := by
  obtain ⟨c0, c1, hf⟩ := rdr_cells hc
  clear hc
  have q0 := Wd.cell c0
  have q1 := Wd.cell c1
  go_enter Tryd.func86, Tryd.ntmps86
  go_wp2
  refine wp_region_wd (by kernel_rfl) (by kernel_rfl) ?_
  repeat (go_big_quiet_step ((go_at_call 82; refine calls_wd_same (v := .tuple #[]) ?_; exact untorn_yes _)))
  refine wpQuiet_nil ?_
  rintro _ ⟨v, rfl⟩
  have HS : Hid (Below w.heap.size w v.at') := v.ok
  generalize v.at' = w1 at HS ⊢
  go_wp2
  go_end0
  exact ⟨rfl, HS.out⟩
set_option maxHeartbeats 1000000 in
theorem end_no (g : Nat) (s : ByteArray) (a : Nat) (w : World) (hc : Rdr w g s a) (ha : a ≠ s.size) :
    Calls Tryd.prog 86 #[.pointer (some ⟨g, 0, none⟩)] w fun e w' => e = .panicked tornP ∧ Below w.heap.size w w' := by
  obtain ⟨c0, c1, hf⟩ := rdr_cells hc
  have hne : ((a : Int) == (s.size : Int)) = false := by rw [beq_eq_false_iff_ne]; omega
  have hne2 : ¬ (a : Int) = (s.size : Int) := by omega
  clear hc ha
  go_enter Tryd.func86, Tryd.ntmps86
  go_wp2
  go_region_dies
  all_goals (refine (untorn_no _).mono ?_; rintro e w2 ⟨rfl, hw⟩; have hw2 := hw.symm; subst hw2; clear hw; exact ⟨rfl, rfl, (Below.refl _ _).drew⟩)
end Go.Proofs.YtgpojfkdcdgloaaDoor

namespace Go.Proofs.YtgpojfkdcdgloaaDoor
open Go Go.RowKit

theorem sb_frozen {w : World} {g : Nat} {c : Array Value} {t : TypeId} (h : w.heap[g]? = some (.cells c t)) (o : Nat) : w.frozen? ⟨g, o, none⟩ = false := by
  simp [World.frozen?, h]
theorem sb_set0 {w : World} {g : Nat} {a b c d : Value} {t : TypeId} (h : w.heap[g]? = some (.cells #[a, b, c, d] t)) (u : Value) : (w.setCell ⟨g, 0, none⟩ u).heap[g]? = some (.cells #[u, b, c, d] t) := by
  simp [World.setCell, Array.getElem?_modify, h]
theorem sb_set1 {w : World} {g : Nat} {a b c d : Value} {t : TypeId} (h : w.heap[g]? = some (.cells #[a, b, c, d] t)) (u : Value) : (w.setCell ⟨g, 1, none⟩ u).heap[g]? = some (.cells #[a, u, c, d] t) := by
  simp [World.setCell, Array.getElem?_modify, h]
theorem sb_set2 {w : World} {g : Nat} {a b c d : Value} {t : TypeId} (h : w.heap[g]? = some (.cells #[a, b, c, d] t)) (u : Value) : (w.setCell ⟨g, 2, none⟩ u).heap[g]? = some (.cells #[a, b, u, d] t) := by
  simp [World.setCell, Array.getElem?_modify, h]
theorem sb_set3 {w : World} {g : Nat} {a b c d : Value} {t : TypeId} (h : w.heap[g]? = some (.cells #[a, b, c, d] t)) (u : Value) : (w.setCell ⟨g, 3, none⟩ u).heap[g]? = some (.cells #[a, b, c, u] t) := by
  simp [World.setCell, Array.getElem?_modify, h]
theorem one_cell {w : World} {g : Nat} {a : Value} {t : TypeId} (h : w.heap[g]? = some (.cells #[a] t)) : w.cell? ⟨g, 0, none⟩ = some a := by
  simp [World.cell?, h]
theorem one_set {w : World} {g : Nat} {a : Value} {t : TypeId} (h : w.heap[g]? = some (.cells #[a] t)) (u : Value) : (w.setCell ⟨g, 0, none⟩ u).heap[g]? = some (.cells #[u] t) := by
  simp [World.setCell, Array.getElem?_modify, h]

theorem assert_torn (w : World) : (Instr.typeAssert (.iface 98 (.agg #[])) 20 98 true).run Tryd.prog w = .ok (.tuple #[.agg #[], .bool true]) w := by kernel_rfl
theorem assert_nil (w : World) : (Instr.typeAssert .nilIface 20 98 true).run Tryd.prog w = .ok (.tuple #[.agg #[], .bool false]) w := by kernel_rfl

section
variable {P : Program} {Q : Exit → Act → List Frame → World → Prop} {a : Act} {cs : List Frame} {w : World} {ops : Array Oper} {i : Nat} {rest : List Nat} {o : Oper}
theorem opsS_value {v : Value} {w' : World} (ho : ops[i]? = some o) (hw : Region.wanted o (yielded ops a.tmps) = true) (hr : (execOp a.eval o).run P w = .ok (.value v) w') (h : wpOpsS P ops Q rest (a.put o.dst v) cs w') : wpOpsS P ops Q (i :: rest) a cs w := by
  simp only [wpOpsS, ho, hw, hr, if_true, Oper.upon]
  exact h
theorem opsS_skip {w' : World} (ho : ops[i]? = some o) (hw : Region.wanted o (yielded ops a.tmps) = true) (hr : (execOp a.eval o).run P w = .ok .skip w') (h : wpOpsS P ops Q rest (a.put o.dst undef) cs w') : wpOpsS P ops Q (i :: rest) a cs w := by
  simp only [wpOpsS, ho, hw, hr, if_true, Oper.upon]
  exact h
theorem opsS_caught {v : Value} {cs' : List Frame} {w' : World} (ho : ops[i]? = some o) (hw : Region.wanted o (yielded ops a.tmps) = true) (hr : (execOp a.eval o).run P w = .ok .recover w') (hc : recoverD cs = some (v, cs')) (h : wpOpsS P ops Q rest (a.put o.dst v) cs' w') : wpOpsS P ops Q (i :: rest) a cs w := by
  simp only [wpOpsS, ho, hw, hr, if_true, hc]
  exact h
theorem opsS_idle {w' : World} (ho : ops[i]? = some o) (hw : Region.wanted o (yielded ops a.tmps) = true) (hr : (execOp a.eval o).run P w = .ok .recover w') (hc : recoverD cs = none) (h : wpOpsS P ops Q rest (a.put o.dst .nilIface) cs w') : wpOpsS P ops Q (i :: rest) a cs w := by
  simp only [wpOpsS, ho, hw, hr, if_true, hc]
  exact h
theorem regionS {id : Nat} {l : List Nat} (hl : List.range ops.size = l) (h : wpOpsS P ops Q l a cs w) : (Code.region id ops false).wpS P Q a cs w := wpS_region (by rw [hl]; exact h)
end

theorem frame80 (p q : Value) : (#[p, q] ++ Array.replicate (Tryd.f80.ntmps - (#[p, q] : Array Value).size) undef) = #[p, q, undef, undef, undef, undef, undef, undef, undef, undef, undef] := by kernel_rfl

set_option maxRecDepth 10000 in
set_option maxHeartbeats 400000 in
theorem catch_torn (p q : Nat) (x0 x1 x2 x3 y : Value) (older : List PanicEntry) (w : World) (hp : w.heap[p]? = some (.cells #[x0, x1, x2, x3] 30)) (hq : w.heap[q]? = some (.cells #[y] 4)) (hpq : p ≠ q) (B : Nat) (h1 : B ≤ p) (h2 : B ≤ q) :
    CallsD Tryd.prog 80 #[.pointer (some ⟨p, 0, none⟩), .pointer (some ⟨q, 0, none⟩)] (.panicking ({ v := tornV, recovered := false } :: older)) w fun e u' w' =>
      e = .returned (.tuple #[]) ∧ u' = .panicking ({ v := tornV, recovered := true } :: older) ∧ w'.heap[p]? = some (.cells #[.int .i64 0, .int .i64 0, .slice none 0 0, .string { data := #[] }] 30) ∧ w'.heap[q]? = some (.cells #[.bool false] 4) ∧ Below B w w' := by
  refine callsD_of_wpS Tryd.func80 rfl fun c₀ cs hu => ?_
  apply wpS_seq
  rw [frame80]
  have a1 := assert_torn
  apply wpS_region
  simp only [tornV] at hu ⊢
  simp [wpOpsS, go_sem, recoverD, hu, a1, Exit.thenS]
  have g1 := heap_old hp (.cells #[] 98)
  have g2 := heap_old hq (.cells #[] 98)
  have hb : Below B w (w.alloc (.cells #[] 98)) := (ba (Below.refl _ _) _).mono (by have := (Array.getElem?_eq_some_iff.1 hp).1; omega)
  generalize w.alloc (.cells #[] 98) = w1 at g1 g2 hb ⊢
  refine wpS_of_wp ?_
  obtain ⟨c0, c1, c2, c3⟩ := sb_cells g1
  have f1 := sb_frozen g1
  have f2 := sb_frozen g2
  have d0 := one_cell g2
  go_wp2
  refine ⟨rfl, _, rfl, .tuple #[], results_none rfl _ _ _, rfl, rfl, ?_, ?_, ?_⟩
  · exact heap_far (sb_set3 (sb_set2 (sb_set1 (sb_set0 g1 _) _) _) _) (by show q ≠ p; omega) _
  · exact one_set (heap_far (heap_far (heap_far (heap_far g2 (by show p ≠ q; omega) _) (by show p ≠ q; omega) _) (by show p ≠ q; omega) _) (by show p ≠ q; omega) _) _
  · exact Below.setCell (Below.setCell (Below.setCell (Below.setCell (Below.setCell hb (by show B ≤ p; omega) _) (by show B ≤ p; omega) _) (by show B ≤ p; omega) _) (by show B ≤ p; omega) _) (by show B ≤ q; omega) _

set_option maxRecDepth 10000 in
set_option maxHeartbeats 400000 in
theorem catch_idle (p q : Nat) (w : World) :
    CallsD Tryd.prog 80 #[.pointer (some ⟨p, 0, none⟩), .pointer (some ⟨q, 0, none⟩)] .returning w fun e u' w' => e = .returned (.tuple #[]) ∧ u' = .returning ∧ Below w.heap.size w w' := by
  refine callsD_of_wpS Tryd.func80 rfl fun c₀ cs hu => ?_
  apply wpS_seq
  rw [frame80]
  have a1 := assert_nil
  apply wpS_region
  simp [wpOpsS, go_sem, recoverD, hu, a1, Exit.thenS]
  have hb : Below w.heap.size w (w.alloc (.cells #[] 98)) := ba (Below.refl _ _) _
  generalize w.alloc (.cells #[] 98) = w1 at hb ⊢
  refine wpS_of_wp ?_
  go_wp2
  exact ⟨rfl, .returning, by rw [← hu], .tuple #[], results_none rfl _ _ _, rfl, rfl, hb⟩
end Go.Proofs.YtgpojfkdcdgloaaDoor

namespace Go.Proofs.YtgpojfkdcdgloaaDoor
open Go Go.RowKit

/-- A number that is read stands there as it is written. -/
theorem rvGo_text (s : ByteArray) (a : Nat) : ∀ (f i k n X Y : Nat) (p : List Nat), bytesAt s a p → p.length = k → a + k = i → (∀ b ∈ p, 128 ≤ b ∧ b < 256) → n = valN p → rvGo s f i k n = ((X : Int), (Y : Int), true) → ∃ q, bytesAt s a q ∧ a + q.length = Y ∧ varI X = ints q
  | 0, _, _, _, _, _, _, _, _, _, _, _, h => by simp [rvGo] at h
  | f + 1, i, k, n, X, Y, p, hp, hk, hi, hb, hn, h => by
    rw [rvGo] at h
    split at h
    · rename_i hlt
      subst hi
      have hq : bytesAt s a (p ++ [s[a + k].toNat]) := by
        have := bytesAt_snoc hp (by omega)
        simpa [hk] using this
      split at h
      · rename_i h128
        split at h
        · simp at h
        · rename_i hx
          simp only [Prod.mk.injEq, and_true] at h
          refine ⟨p ++ [s[a + k].toNat], hq, by simp; omega, ?_⟩
          have hv : X = valN (p ++ [s[a + k].toNat]) := by
            rw [valN_snoc, hk, ← hn]
            omega
          rw [hv]
          refine varI_valN p _ hb h128 ?_
          by_cases hpe : p = []
          · exact .inl hpe
          · refine .inr fun h0 => hx (.inr ⟨h0, ?_⟩)
            have : p.length ≠ 0 := fun e => hpe (List.length_eq_zero_iff.1 e)
            omega
      · rename_i h128
        refine rvGo_text s a f (a + k + 1) (k + 1) _ X Y (p ++ [s[a + k].toNat]) hq (by simp; omega) (by omega) ?_ ?_ h
        · intro b hbm
          rcases List.mem_append.1 hbm with h1 | h1
          · exact hb b h1
          · simp at h1
            subst h1
            exact ⟨by omega, UInt8.toNat_lt _⟩
        · rw [valN_snoc, hk, ← hn]
    · simp at h
theorem rv_text {s : ByteArray} {a X Y : Nat} (h : rv s a = ((X : Int), (Y : Int), true)) : s.extract a Y = bstr (varI X) ∧ Y = a + (varI X).length := by
  by_cases ha : a ≤ s.size
  · rw [rv_in_eq ha] at h
    obtain ⟨q, h1, h2, h3⟩ := rvGo_text s a 5 a 0 0 X Y [] ⟨by simpa using ha, fun j _ hj => absurd hj (by simp)⟩ rfl rfl (fun b hb => absurd hb (by simp)) rfl h
    refine ⟨by rw [← h2, extract_bytesAt h1, h3], ?_⟩
    rw [h3, ← h2]
    simp [ints]
  · rw [rv_bad_eq (.inr (by omega))] at h
    simp at h

/-- What is under the seal. -/
def inS (s : ByteArray) : ByteArray × Bool := if 4 ≤ s.size ∧ s.size ≤ 20004 ∧ lastT s = tail4 (headT s) then (headT s, false) else (ByteArray.empty, true)
theorem inS_yes {s : ByteArray} (h0 : 4 ≤ s.size) (h1 : s.size ≤ 20004) (h : lastT s = tail4 (headT s)) : inS s = (headT s, false) := by unfold inS; rw [if_pos ⟨h0, h1, h⟩]
theorem inS_no {s : ByteArray} (h : ¬ (4 ≤ s.size ∧ s.size ≤ 20004 ∧ lastT s = tail4 (headT s))) : inS s = (ByteArray.empty, true) := by unfold inS; rw [if_neg h]
theorem inS_size (s : ByteArray) : (inS s).1.size ≤ 20000 := by
  unfold inS
  split
  · rename_i h
    show (headT s).size ≤ 20000
    rw [headT_size]
    omega
  · exact Nat.zero_le _
/-- All that is read. -/
structure Rsd where
  i : Int
  t : Int
  l : List Int
  b : ByteArray
  z : Bool
def zeroS : Rsd := ⟨0, 0, [], ByteArray.empty, false⟩
def rsF (s : ByteArray) (i t : Nat) (c d : ByteArray) (bad : Bool) : Rsd := if bad = false ∧ okS i t (confT c) d = true ∧ textS i t (confT c) d = s then ⟨i, t, confT c, d, true⟩ else zeroS
/-- The steps of the cursor, one behind the other. -/
structure Steps (x : ByteArray) (b0 : Bool) (i t n m : Nat) (c d : ByteArray) (a1 a2 a3 a4 a5 a6 : Nat) (b1 b2 b3 b4 b5 b6 : Bool) : Prop where
  s1 : varS x 0 b0 = (i, a1, b1)
  s2 : varS x a1 b1 = (t, a2, b2)
  s3 : varS x a2 b2 = (n, a3, b3)
  s4 : takeS x a3 b3 n = (c, a4, b4)
  s5 : varS x a4 b4 = (m, a5, b5)
  s6 : takeS x a5 b5 m = (d, a6, b6)
def rsP (s : ByteArray) : Rsd :=
  let x := (inS s).1
  let p1 := varS x 0 (inS s).2
  let p2 := varS x p1.2.1 p1.2.2
  let p3 := varS x p2.2.1 p2.2.2
  let p4 := takeS x p3.2.1 p3.2.2 p3.1
  let p5 := varS x p4.2.1 p4.2.2
  let p6 := takeS x p5.2.1 p5.2.2 p5.1
  rsF s p1.1 p2.1 p4.1 p6.1 p6.2.2
theorem rsP_steps {s : ByteArray} {i t n m : Nat} {c d : ByteArray} {a1 a2 a3 a4 a5 a6 : Nat} {b1 b2 b3 b4 b5 b6 : Bool} (h : Steps (inS s).1 (inS s).2 i t n m c d a1 a2 a3 a4 a5 a6 b1 b2 b3 b4 b5 b6) : rsP s = rsF s i t c d b6 := by
  unfold rsP
  dsimp only
  rw [h.s1]; dsimp only
  rw [h.s2]; dsimp only
  rw [h.s3]; dsimp only
  rw [h.s4]; dsimp only
  rw [h.s5]; dsimp only
  rw [h.s6]
theorem steps_all (x : ByteArray) (b0 : Bool) : ∃ (i t n m : Nat) (c d : ByteArray) (a1 a2 a3 a4 a5 a6 : Nat) (b1 b2 b3 b4 b5 b6 : Bool), Steps x b0 i t n m c d a1 a2 a3 a4 a5 a6 b1 b2 b3 b4 b5 b6 :=
  ⟨_, _, _, _, _, _, _, _, _, _, _, _, _, _, _, _, _, _, rfl, rfl, rfl, rfl, rfl, rfl⟩
theorem takeS_bad {s t : ByteArray} {a a' n : Nat} {b : Bool} (h : takeS s a true n = (t, a', b)) : b = true := by
  rw [takeS_no1] at h
  simp only [Prod.mk.injEq] at h
  exact h.2.2.symm
theorem varS_stays {s : ByteArray} {a x a' : Nat} {b : Bool} (h : varS s a true = (x, a', b)) : b = true := by
  rw [varS_bad] at h
  simp only [Prod.mk.injEq] at h
  exact h.2.2.symm
theorem rsF_bad {s : ByteArray} {i t : Nat} {c d : ByteArray} : rsF s i t c d true = zeroS := by unfold rsF; rw [if_neg (fun h => by cases h.1)]
theorem rsF_none {s : ByteArray} {i t : Nat} {c d : ByteArray} {b : Bool} (h : okS i t (confT c) d = false) : rsF s i t c d b = zeroS := by
  unfold rsF
  rw [if_neg]
  rintro ⟨-, h2, -⟩
  rw [h] at h2
  cases h2
theorem textS_size {i t : Int} {l : List Int} {b : ByteArray} (h : okS i t l b = true) : (textS i t l b).size = (snT i.toNat t.toNat l b).size + 4 := by
  unfold textS
  rw [h, if_pos rfl]
  unfold sealT
  rw [ByteArray.size_append, tail4_size]
theorem rsF_long {s : ByteArray} {i t : Nat} {c d : ByteArray} {b : Bool} (h : 20000 < s.size) : rsF s i t c d b = zeroS := by
  unfold rsF
  rw [if_neg]
  rintro ⟨-, h2, h3⟩
  have h4 := textS_size h2
  rw [h3] at h4
  have h5 := (okS_out h2).2.2.2.2
  omega
namespace Steps
variable {x : ByteArray} {b0 : Bool} {i t n m : Nat} {c d : ByteArray} {a1 a2 a3 a4 a5 a6 : Nat} {b1 b2 b3 b4 b5 b6 : Bool}
theorem up5 (h : Steps x b0 i t n m c d a1 a2 a3 a4 a5 a6 b1 b2 b3 b4 b5 b6) (hb : b5 = true) : b6 = true := by subst hb; exact takeS_bad h.s6
theorem up4 (h : Steps x b0 i t n m c d a1 a2 a3 a4 a5 a6 b1 b2 b3 b4 b5 b6) (hb : b4 = true) : b6 = true := h.up5 (by subst hb; exact varS_stays h.s5)
theorem up3 (h : Steps x b0 i t n m c d a1 a2 a3 a4 a5 a6 b1 b2 b3 b4 b5 b6) (hb : b3 = true) : b6 = true := h.up4 (by subst hb; exact takeS_bad h.s4)
theorem up2 (h : Steps x b0 i t n m c d a1 a2 a3 a4 a5 a6 b1 b2 b3 b4 b5 b6) (hb : b2 = true) : b6 = true := h.up3 (by subst hb; exact varS_stays h.s3)
theorem up1 (h : Steps x b0 i t n m c d a1 a2 a3 a4 a5 a6 b1 b2 b3 b4 b5 b6) (hb : b1 = true) : b6 = true := h.up2 (by subst hb; exact varS_stays h.s2)
theorem up0 (h : Steps x b0 i t n m c d a1 a2 a3 a4 a5 a6 b1 b2 b3 b4 b5 b6) (hb : b0 = true) : b6 = true := h.up1 (by subst hb; exact varS_stays h.s1)
/-- Where all is read, it stands there as it is written. -/
theorem whole (h : Steps x b0 i t n m c d a1 a2 a3 a4 a5 a6 b1 b2 b3 b4 b5 false) : x.extract 0 a6 = bstr (varI i) ++ bstr (varI t) ++ shT c ++ shT d ∧ a6 ≤ x.size ∧ (bstr (varI i) ++ bstr (varI t) ++ shT c ++ shT d).size = a6 := by
  obtain ⟨rfl, h6a, h6b, h6c⟩ := takeS_ok h.s6
  obtain ⟨rfl, h5⟩ := varS_ok h.s5
  obtain ⟨rfl, h4a, h4b, h4c⟩ := takeS_ok h.s4
  obtain ⟨rfl, h3⟩ := varS_ok h.s3
  obtain ⟨rfl, h2⟩ := varS_ok h.s2
  obtain ⟨rfl, h1⟩ := varS_ok h.s1
  have h1' : rv x (0 : Nat) = ((i : Int), (a1 : Int), true) := h1
  obtain ⟨e1, l1⟩ := rv_text h1'
  obtain ⟨e2, l2⟩ := rv_text h2
  obtain ⟨e3, l3⟩ := rv_text h3
  obtain ⟨e5, l5⟩ := rv_text h5
  have z4 : c.size = n := by rw [h4b, ByteArray.size_extract]; omega
  have z6 : d.size = m := by rw [h6b, ByteArray.size_extract]; omega
  have j : ∀ (p q r : Nat), p ≤ q → q ≤ r → x.extract p q ++ x.extract q r = x.extract p r := fun p q r h1 h2 => by
    rw [ByteArray.extract_append_extract]
    congr 1 <;> omega
  refine ⟨?_, by omega, ?_⟩
  · unfold shT
    rw [z4, z6, ← e1, ← e2, ← e3, ← e5, h4b, h6b, ← h4c, ← h6c, j 0 a1 a2 (by omega) (by omega), j a2 a3 a4 (by omega) (by omega), j a4 a5 a6 (by omega) (by omega), j 0 a2 a4 (by omega) (by omega), j 0 a4 a6 (by omega) (by omega)]
  · unfold shT
    simp only [ByteArray.size_append, bstr_size]
    rw [z4, z6]
    omega
end Steps
theorem okT_bstr {c : ByteArray} (h : okT c = true) : bstr (confT c) = c := by
  rw [confT_yes h]
  apply ByteArray.ext
  unfold bstr bytesI
  rw [ByteArray.toList_eq]
  have e : ((fun n : Int => UInt8.ofNat n.toNat) ∘ fun b : UInt8 => (b.toNat : Int)) = id := by funext b; simp
  simp [e]
theorem okC_conf {c : ByteArray} (h : okT c = true) : okC (confT c) = true := by rw [confT_yes h]; exact h
/-- All is read, and nothing stands behind it. -/
theorem rsF_yes {s : ByteArray} {i t n m : Nat} {c d : ByteArray} {a1 a2 a3 a4 a5 a6 : Nat} {b1 b2 b3 b4 b5 : Bool} (h : Steps (headT s) false i t n m c d a1 a2 a3 a4 a5 a6 b1 b2 b3 b4 b5 false)
    (h0 : 4 ≤ s.size) (h20 : s.size ≤ 20000) (hl : lastT s = tail4 (headT s)) (hi : i ≤ 1000000) (ht : t ≤ 100000) (hk : okT c = true) (ha : a6 = (headT s).size) : rsF s i t c d false = ⟨i, t, confT c, d, true⟩ := by
  obtain ⟨w1, w2, w3⟩ := h.whole
  have e0 : (headT s).extract 0 a6 = headT s := by rw [ha]; exact ByteArray.extract_zero_size
  have hd : d.size ≤ 20000 := by
    obtain ⟨_, h6a, h6b, _⟩ := takeS_ok h.s6
    rw [h6b, ByteArray.size_extract]
    have := headT_size s
    omega
  have e1 : snT i t (confT c) d = headT s := by
    unfold snT
    rw [okT_bstr hk, ← w1, e0]
  have hok : okS i t (confT c) d = true := okS_in (okC_conf hk) (idxB_in (by omega) (by omega)) (by unfold trmB; rw [decide_eq_true (show 0 ≤ (t : Int) by omega), decide_eq_true (show (t : Int) ≤ 100000 by omega)]; rfl) hd (by
    simp only [Int.toNat_natCast]
    rw [e1, headT_size]
    omega)
  have htx : textS i t (confT c) d = s := by
    unfold textS
    rw [hok, if_pos rfl]
    simp only [Int.toNat_natCast]
    rw [e1]
    exact (sealT_iff s).2 hl
  unfold rsF
  rw [if_pos ⟨rfl, hok, htx⟩]
/-- Something stands behind it. -/
theorem rsF_behind {s : ByteArray} {i t n m : Nat} {c d : ByteArray} {a1 a2 a3 a4 a5 a6 : Nat} {b1 b2 b3 b4 b5 : Bool} (h : Steps (headT s) false i t n m c d a1 a2 a3 a4 a5 a6 b1 b2 b3 b4 b5 false)
    (hk : okT c = true) (ha : a6 ≠ (headT s).size) : rsF s i t c d false = zeroS := by
  unfold rsF
  rw [if_neg]
  rintro ⟨-, h2, h3⟩
  obtain ⟨w1, w2, w3⟩ := h.whole
  have h4 := textS_size h2
  rw [h3] at h4
  simp only [Int.toNat_natCast] at h4
  have e1 : (snT i t (confT c) d).size = a6 := by
    unfold snT
    rw [okT_bstr hk, w3]
  have := headT_size s
  omega
theorem rsF_conf {s : ByteArray} {i t : Nat} {c d : ByteArray} {b : Bool} (hk : okT c = false) : rsF s i t c d b = zeroS := rsF_none (okS_no (.inl (by rw [confT_no hk]; rfl)))
theorem rsF_index {s : ByteArray} {i t : Nat} {c d : ByteArray} {b : Bool} (h : 1000000 < i) : rsF s i t c d b = zeroS := rsF_none (okS_no (.inr (.inl (idxB_no (.inr (by omega))))))
theorem rsF_term {s : ByteArray} {i t : Nat} {c d : ByteArray} {b : Bool} (h : 100000 < t) : rsF s i t c d b = zeroS := rsF_none (okS_no (.inr (.inr (.inl (by unfold trmB; rw [decide_eq_false (show ¬ (t : Int) ≤ 100000 by omega), Bool.and_false])))))
theorem varS_rv {s : ByteArray} {a x a' : Nat} (h : varS s a false = (x, a', true)) : (rv s a).2.2 = false := by
  unfold varS at h
  split at h
  · simp at h
  · rename_i hc
    cases hr : (rv s a).2.2 with
    | false => rfl
    | true => exact absurd ⟨rfl, hr⟩ hc
theorem takeS_far {s t : ByteArray} {a a' n : Nat} (h : takeS s a false n = (t, a', true)) : s.size < a + n := by
  unfold takeS at h
  split at h
  · simp at h
  · rename_i hc
    exact Nat.lt_of_not_le fun h => hc ⟨rfl, h⟩
end Go.Proofs.YtgpojfkdcdgloaaDoor
