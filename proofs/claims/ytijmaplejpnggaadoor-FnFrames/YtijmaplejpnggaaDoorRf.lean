/-
  The frame at a place of a file: its reading, the walk; and all frames from a place on, as a plain function.
-/
import Derived.Test.YtijmaplejpnggaaDoorFr
import Derived.Test.YtijmaplejpnggaaDoorNl
import Derived.Test.YtijmaplejpnggaaDoorCln
namespace Go.Proofs.YtijmaplejpnggaaDoor
open Go.RowKit

/-- The record of the frame at a place, and the place behind it. -/
def rdF (s : ByteArray) (a : Nat) : Option (ByteArray × Nat) :=
  if (rv s a).2.2 = true ∧ (rv s a).1 ≤ (s.size : Int) - (rv s a).2.1 - 4 then
    if 1 ≤ (rv s a).1.toNat ∧ (rv s a).1.toNat ≤ 9000 ∧ frameT (s.extract ((rv s a).2.1.toNat + 4) ((rv s a).2.1.toNat + 4 + (rv s a).1.toNat)) = s.extract a ((rv s a).2.1.toNat + 4 + (rv s a).1.toNat) then
      some (s.extract ((rv s a).2.1.toNat + 4) ((rv s a).2.1.toNat + 4 + (rv s a).1.toNat), (rv s a).2.1.toNat + 4 + (rv s a).1.toNat)
    else none
  else none

theorem rvGo_bd (s : ByteArray) : ∀ (f i k n : Nat), i ≤ s.size → (rvGo s f i k n).2.2 = true → 0 ≤ (rvGo s f i k n).1 ∧ (i : Int) < (rvGo s f i k n).2.1 ∧ (rvGo s f i k n).2.1 ≤ s.size
  | 0, i, k, n, _, h => by simp [rvGo] at h
  | f + 1, i, k, n, hi, h => by
    by_cases hs : i < s.size
    · by_cases hb : s[i].toNat < 128
      · by_cases hx : 1000000000 < n + s[i].toNat % 128 * 128 ^ k ∨ (s[i].toNat = 0 ∧ 0 < k)
        · rw [rvGo_bad hs hb hx] at h; simp at h
        · rw [rvGo_ok hs hb hx] at h ⊢
          simp only
          refine ⟨?_, ?_, ?_⟩ <;> omega
      · rw [rvGo_more hs hb] at h ⊢
        have := rvGo_bd s f (i + 1) (k + 1) _ (by omega) h
        omega
    · rw [rvGo_end hs] at h; simp at h
theorem rv_bd (s : ByteArray) (a : Nat) (ha : a ≤ s.size) (h : (rv s a).2.2 = true) : 0 ≤ (rv s a).1 ∧ (a : Int) < (rv s a).2.1 ∧ (rv s a).2.1 ≤ s.size := by
  rw [rv_in_eq ha] at h ⊢
  exact rvGo_bd s 5 a 0 0 ha h

theorem rdF_bd {s : ByteArray} {a e : Nat} {t : ByteArray} (ha : a ≤ s.size) (h : rdF s a = some (t, e)) : a < e ∧ e ≤ s.size := by
  unfold rdF at h
  split at h
  · rename_i hc
    split at h
    · have := rv_bd s a ha hc.1
      simp only [Option.some.injEq, Prod.mk.injEq] at h
      omega
    · simp at h
  · simp at h

/-- All frames from a place on. -/
def unf (s : ByteArray) : Nat → Nat → List (ByteArray × Nat)
  | 0, _ => []
  | f + 1, a => match rdF s a with
    | none => []
    | some x => x :: unf s f x.2
theorem unf_enough (s : ByteArray) : ∀ (f g a : Nat), a ≤ s.size → s.size - a < f → s.size - a < g → unf s f a = unf s g a
  | 0, _, _, _, h, _ => by omega
  | _ + 1, 0, _, _, _, h => by omega
  | f + 1, g + 1, a, ha, h1, h2 => by
    unfold unf
    cases h : rdF s a with
    | none => rfl
    | some x =>
      have := rdF_bd ha (h.trans (by rfl : some x = some (x.1, x.2)))
      simp only
      rw [unf_enough s f g x.2 (by omega) (by omega) (by omega)]
def frs (s : ByteArray) (a : Nat) : List (ByteArray × Nat) := unf s (s.size + 1) a
theorem frs_none {s : ByteArray} {a : Nat} (h : rdF s a = none) : frs s a = [] := by unfold frs unf; rw [h]
theorem frs_some {s : ByteArray} {a : Nat} {x : ByteArray × Nat} (ha : a ≤ s.size) (h : rdF s a = some x) : frs s a = x :: frs s x.2 := by
  have := rdF_bd ha (h.trans (by rfl : some x = some (x.1, x.2)))
  unfold frs
  rw [unf, h]
  simp only
  rw [unf_enough s s.size (s.size + 1) x.2 (by omega) (by omega) (by omega)]
theorem unf_len (s : ByteArray) : ∀ (f a : Nat), (unf s f a).length ≤ f
  | 0, _ => by simp [unf]
  | f + 1, a => by
    unfold unf
    cases rdF s a with
    | none => simp
    | some x => simp; exact unf_len s f x.2
theorem frs_len (s : ByteArray) (a : Nat) : (frs s a).length ≤ s.size + 1 := unf_len s _ a

theorem slice_two (s : ByteArray) (x y : Int) (wx : World) (h0 : 0 ≤ x) (h1 : x ≤ y) (h2 : y ≤ s.size) :
    (Instr.slice 9 (.string s) (some (.int .i64 x)) (some (.int .i64 y)) none).run Tryd.prog wx = .ok (.string (s.extract x.toNat y.toNat)) wx := by
  have := run_slice_string (P := Tryd.prog) wx 9 s .i64 .i64 x y Tryd.underlying9 (by omega) (by omega) (by omega)
  simpa using this

theorem readVar_is (s : ByteArray) (a : Nat) (w : World) (ha : a ≤ s.size) (hs : s.size ≤ 1048576) (x y : Int) (z : Bool) (h : rv s a = (x, y, z)) :
    Calls Tryd.prog 71 #[.string s, .int .i64 a] w fun e w' => e = .returned (.tuple #[.int .i64 x, .int .i64 y, .bool z]) ∧ w' = w := by
  have := readVar_in s a w ha hs
  rw [← rv_in_eq ha, h] at this
  exact this


set_option maxHeartbeats 400000 in
theorem readFrame_no1 (s : ByteArray) (a : Nat) (w : World) (ha : a ≤ s.size) (hs : s.size ≤ 20000) (x y : Int) (h : rv s a = (x, y, false)) :
    Calls Tryd.prog 55 #[.string s, .int .i64 a] w fun e w' => e = .returned (.tuple #[.string ByteArray.empty, .int .i64 0, .bool false]) ∧ Below w.heap.size w w' := by
  go_enter Tryd.func55, Tryd.ntmps55
  go_wp2_with (go_at_call 71; refine (readVar_is s a _ ha (by omega) x y false h).mono ?_; rintro e w' ⟨rfl, hw⟩; have hw2 := hw.symm; subst hw2)
  go_ret3
  exact ⟨rfl, Below.refl _ _⟩
set_option maxHeartbeats 400000 in
theorem readFrame_no2 (s : ByteArray) (a : Nat) (w : World) (ha : a ≤ s.size) (hs : s.size ≤ 20000) (x y : Int) (h : rv s a = (x, y, true)) (hx : (s.size : Int) - y - 4 < x) :
    Calls Tryd.prog 55 #[.string s, .int .i64 a] w fun e w' => e = .returned (.tuple #[.string ByteArray.empty, .int .i64 0, .bool false]) ∧ Below w.heap.size w w' := by
  have hb := rv_bd s a ha (by rw [h])
  rw [h] at hb
  obtain ⟨b1, b2, b3⟩ := hb
  simp only at b1 b2 b3
  have H : Hid (rv s a = (x, y, true)) := h
  clear h
  go_enter Tryd.func55, Tryd.ntmps55
  go_wp2_with (go_at_call 71; refine (readVar_is s a _ ha (by omega) x y true H.out).mono ?_; rintro e w' ⟨rfl, hw⟩; have hw2 := hw.symm; subst hw2)
  go_ret3
  exact ⟨rfl, Below.refl _ _⟩
set_option maxHeartbeats 400000 in
theorem readFrame_no3 (s : ByteArray) (a : Nat) (w : World) (ha : a ≤ s.size) (hs : s.size ≤ 20000) (x y : Int) (h : rv s a = (x, y, true)) (hx : x ≤ (s.size : Int) - y - 4) (hn : x < 1 ∨ 9000 < x) :
    Calls Tryd.prog 55 #[.string s, .int .i64 a] w fun e w' => e = .returned (.tuple #[.string ByteArray.empty, .int .i64 0, .bool false]) ∧ Below w.heap.size w w' := by
  have hb := rv_bd s a ha (by rw [h])
  rw [h] at hb
  obtain ⟨b1, b2, b3⟩ := hb
  simp only at b1 b2 b3
  have H : Hid (rv s a = (x, y, true)) := h
  have hsl := fun wx => slice_two s (y + 4) (y + 4 + x) wx (by omega) (by omega) (by omega)
  have HN : Hid ((s.extract (y + 4).toNat (y + 4 + x).toNat).size < 1 ∨ 9000 < (s.extract (y + 4).toNat (y + 4 + x).toNat).size) := by
    show _ ∨ _
    rw [ByteArray.size_extract]; omega
  have HZ : Hid ((s.extract (y + 4).toNat (y + 4 + x).toNat).size ≤ 9223372036854775807) := by
    show _ ≤ _
    rw [ByteArray.size_extract]; omega
  clear h hn
  go_enter Tryd.func55, Tryd.ntmps55
  go_wp2_with (first | (go_at_call 71; refine (readVar_is s a _ ha (by omega) x y true H.out).mono ?_; rintro e w' ⟨rfl, hw⟩; have hw2 := hw.symm; subst hw2) | (go_at_call 11; refine (frame_bad _ _ HZ.out HN.out).mono ?_; rintro e w1 ⟨rfl, hb1⟩))
  go_ret3
  exact ⟨rfl, hb1⟩
set_option maxHeartbeats 400000 in
theorem readFrame_no4 (s : ByteArray) (a : Nat) (w : World) (ht : TableIs w) (ha : a ≤ s.size) (hs : s.size ≤ 20000) (x y : Int) (h : rv s a = (x, y, true)) (hx : x ≤ (s.size : Int) - y - 4) (h1 : 1 ≤ x) (h2 : x ≤ 9000)
    (hne : frameT (s.extract (y + 4).toNat (y + 4 + x).toNat) ≠ s.extract a (y + 4 + x).toNat) :
    Calls Tryd.prog 55 #[.string s, .int .i64 a] w fun e w' => e = .returned (.tuple #[.string ByteArray.empty, .int .i64 0, .bool false]) ∧ Below w.heap.size w w' := by
  have hb := rv_bd s a ha (by rw [h])
  rw [h] at hb
  obtain ⟨b1, b2, b3⟩ := hb
  simp only at b1 b2 b3
  have H : Hid (rv s a = (x, y, true)) := h
  have hsl := fun wx => slice_two s (y + 4) (y + 4 + x) wx (by omega) (by omega) (by omega)
  have hsl2 := fun wx => slice_two s a (y + 4 + x) wx (by omega) (by omega) (by omega)
  simp only [Int.toNat_natCast] at hsl2
  have HZ : Hid (1 ≤ (s.extract (y + 4).toNat (y + 4 + x).toNat).size ∧ (s.extract (y + 4).toNat (y + 4 + x).toNat).size ≤ 9000) := by
    show _ ∧ _
    rw [ByteArray.size_extract]; omega
  have hq := ne_list hne
  clear h hne
  go_enter Tryd.func55, Tryd.ntmps55
  go_wp2_with (first | (go_at_call 71; refine (readVar_is s a _ ha (by omega) x y true H.out).mono ?_; rintro e w' ⟨rfl, hw⟩; have hw2 := hw.symm; subst hw2) | (go_at_call 11; refine (frame_ok _ _ HZ.out.1 HZ.out.2 ht).mono ?_; rintro e w1 ⟨rfl, hb1⟩))
  go_ret3
  exact ⟨rfl, hb1⟩
set_option maxHeartbeats 400000 in
theorem readFrame_yes (s : ByteArray) (a : Nat) (w : World) (ht : TableIs w) (ha : a ≤ s.size) (hs : s.size ≤ 20000) (x y : Int) (h : rv s a = (x, y, true)) (hx : x ≤ (s.size : Int) - y - 4) (h1 : 1 ≤ x) (h2 : x ≤ 9000)
    (he : frameT (s.extract (y + 4).toNat (y + 4 + x).toNat) = s.extract a (y + 4 + x).toNat) :
    Calls Tryd.prog 55 #[.string s, .int .i64 a] w fun e w' => e = .returned (.tuple #[.string (s.extract (y + 4).toNat (y + 4 + x).toNat), .int .i64 (y + 4 + x), .bool true]) ∧ Below w.heap.size w w' := by
  have hb := rv_bd s a ha (by rw [h])
  rw [h] at hb
  obtain ⟨b1, b2, b3⟩ := hb
  simp only at b1 b2 b3
  have H : Hid (rv s a = (x, y, true)) := h
  have hsl := fun wx => slice_two s (y + 4) (y + 4 + x) wx (by omega) (by omega) (by omega)
  have hsl2 := fun wx => slice_two s a (y + 4 + x) wx (by omega) (by omega) (by omega)
  simp only [Int.toNat_natCast] at hsl2
  have HZ : Hid (1 ≤ (s.extract (y + 4).toNat (y + 4 + x).toNat).size ∧ (s.extract (y + 4).toNat (y + 4 + x).toNat).size ≤ 9000) := by
    show _ ∧ _
    rw [ByteArray.size_extract]; omega
  have hq := eq_list he
  clear h he
  go_enter Tryd.func55, Tryd.ntmps55
  go_wp2_with (first | (go_at_call 71; refine (readVar_is s a _ ha (by omega) x y true H.out).mono ?_; rintro e w' ⟨rfl, hw⟩; have hw2 := hw.symm; subst hw2) | (go_at_call 11; refine (frame_ok _ _ HZ.out.1 HZ.out.2 ht).mono ?_; rintro e w1 ⟨rfl, hb1⟩) | (go_at_call 72; refine (clone_any _ _ (by have := HZ.out; omega)).mono ?_; rintro e w2 ⟨rfl, hb2⟩))
  go_ret3
  exact ⟨rfl, hb1.trans (hb2.mono hb1.size)⟩

/-- What readFrame answers. -/
def rfV : Option (ByteArray × Nat) → Value
  | none => .tuple #[.string ByteArray.empty, .int .i64 0, .bool false]
  | some x => .tuple #[.string x.1, .int .i64 x.2, .bool true]
theorem readFrame_any (s : ByteArray) (a : Nat) (w : World) (ht : TableIs w) (ha : a ≤ s.size) (hs : s.size ≤ 20000) (r : Option (ByteArray × Nat)) (hr : rdF s a = r) :
    Calls Tryd.prog 55 #[.string s, .int .i64 a] w fun e w' => e = .returned (rfV r) ∧ Below w.heap.size w w' := by
  subst hr
  obtain ⟨x, y, z, h⟩ : ∃ x y z, rv s a = (x, y, z) := ⟨_, _, _, rfl⟩
  unfold rdF
  rw [h]
  simp only
  cases z with
  | false => rw [if_neg (by simp)]; exact readFrame_no1 s a w ha hs x y h
  | true =>
    have hb := rv_bd s a ha (by rw [h])
    rw [h] at hb
    obtain ⟨b1, b2, b3⟩ := hb
    simp only at b1 b2 b3
    have e1 : (y + 4).toNat = y.toNat + 4 := by omega
    have e2 : (y + 4 + x).toNat = y.toNat + 4 + x.toNat := by omega
    have e3 : y + 4 + x = ((y.toNat + 4 + x.toNat : Nat) : Int) := by omega
    by_cases hx : x ≤ (s.size : Int) - y - 4
    · rw [if_pos ⟨rfl, hx⟩]
      by_cases h1 : 1 ≤ x.toNat ∧ x.toNat ≤ 9000
      · by_cases he : frameT (s.extract (y.toNat + 4) (y.toNat + 4 + x.toNat)) = s.extract a (y.toNat + 4 + x.toNat)
        · rw [if_pos ⟨h1.1, h1.2, he⟩]
          have := readFrame_yes s a w ht ha hs x y h hx (by omega) (by omega) (by rw [e1, e2]; exact he)
          rw [e1, e2, e3] at this
          exact this
        · rw [if_neg (fun hh => he hh.2.2)]
          exact readFrame_no4 s a w ht ha hs x y h hx (by omega) (by omega) (by rw [e1, e2]; exact he)
      · rw [if_neg (fun hh => h1 ⟨hh.1, hh.2.1⟩)]
        exact readFrame_no3 s a w ha hs x y h hx (by omega)
    · rw [if_neg (fun hh => hx hh.2)]
      exact readFrame_no2 s a w ha hs x y h (by omega)

end Go.Proofs.YtijmaplejpnggaaDoor
