/-
  The file of a name: the walks; the law on whether all is kept.
-/
import Derived.Test.YtekflgecfcjjiaaAk
namespace Go.Proofs.Ytekflgecfcjjiaa
open Go Go.RowKit

set_option maxHeartbeats 2000000 in
theorem law_AllKept (ao : Option Addr) (n cap : Nat) (l : List Fl) (w : World) (hr : Reads w (.slice ao n cap) l) (hs : Small l) (hn : n ≤ 9223372036854775807) :
    Calls Try.prog 11 #[.agg #[.slice ao n cap]] w fun e w' => e = .returned (.bool true) ∧ Below w.heap.size w w' := by
  have HR : Hid (Reads w (.slice ao n cap) l) := hr
  have HN : Hid (n = l.length) := hr.len
  have HS : Hid (Small l) := hs
  clear hr hs
  go_enter Try.func11, Try.ntmps11
  go_wp2_with fail
  refine (szDisk_any _ l _ _ (HR.out.alloc _) HS.out (by decide) (by decide) (by rw [← HN.out]; exact hn)).mono ?_
  rintro e w1 ⟨r, rfl, hr, hb1⟩
  rcases hr with rfl | ⟨hr0, hr1⟩
  · go_wp2
    go_ret
    exact ⟨rfl, (ba (Below.refl _ _) _).trans (hb1.mono (by simp))⟩
  · have HL : Hid (l.length ≤ 1048576) := by show l.length ≤ 1048576; omega
    have c1 : w1.cell? ⟨w.heap.size, 0, none⟩ = some (.slice ao n cap) := (hb1.cell (by simp)).trans (by simp [go_sem])
    have R1 : Hid (Reads w1 (.slice ao n cap) l) := (HR.out.alloc _).below hb1
    have B1 : Below w.heap.size w w1 := (ba (Below.refl _ _) _).trans (hb1.mono (by simp))
    have s1 : w.heap.size < w1.heap.size := by have := hb1.size; simp at this; omega
    clear hb1 hr1
    go_wp2_with fail
    refine (toDisk_any _ l _ R1.out HL.out).mono ?_
    rintro e w2 ⟨v2, rfl, ho2, hb2⟩
    obtain ⟨a2, d2, rfl⟩ := ho2.slice
    have c2 := (hb2.cell (p := ⟨w.heap.size, 0, none⟩) s1).trans c1
    have R2 : Hid (Reads w2 (.slice ao n cap) l) := R1.out.below hb2
    have B2 := B1.trans (hb2.mono B1.size)
    have s2 := Nat.lt_of_lt_of_le s1 hb2.size
    have O2 : Hid (Reads w2 (.slice a2 l.length d2) l) := ho2.reads
    clear hb2 ho2 c1 R1 B1 s1
    go_wp2_with fail
    refine (specAllKept_any O2.out (Nat.le_trans HL.out (by decide))).mono ?_
    rintro e w3 ⟨rfl, hb3⟩
    have c3 := (hb3.cell (p := ⟨w.heap.size, 0, none⟩) s2).trans c2
    have R3 : Hid (Reads w3 (.slice ao n cap) l) := R2.out.below hb3
    have B3 := B2.trans (hb3.mono B2.size)
    have s3 := Nat.lt_of_lt_of_le s2 hb3.size
    clear hb3 c2 R2 B2 s2 O2
    go_wp2_with fail
    refine (toDisk_any _ l _ R3.out HL.out).mono ?_
    rintro e w4 ⟨v4, rfl, ho4, hb4⟩
    obtain ⟨a4, d4, rfl⟩ := ho4.slice
    have c4 := (hb4.cell (p := ⟨w.heap.size, 0, none⟩) s3).trans c3
    have R4 : Hid (Reads w4 (.slice ao n cap) l) := R3.out.below hb4
    have B4 := B3.trans (hb4.mono B3.size)
    have s4 := Nat.lt_of_lt_of_le s3 hb4.size
    have O4 : Hid (Reads w4 (.slice a4 l.length d4) l) := ho4.reads
    clear hb4 ho4 c3 R3 B3 s3
    go_wp2_with fail
    refine (allKept_any (O4.out.alloc _) (Nat.le_trans HL.out (by decide))).mono ?_
    rintro e w5 ⟨rfl, hb5⟩
    have c5 : w5.cell? ⟨w.heap.size, 0, none⟩ = some (.slice ao n cap) := (hb5.cell (by simp; omega)).trans (((ba (Below.refl _ w4) _).cell s4).trans c4)
    have x5 : w5.cell? ⟨w4.heap.size, 0, none⟩ = some (.slice a4 l.length d4) := (hb5.cell (by simp)).trans (by simp [go_sem])
    have R5 : Hid (Reads w5 (.slice ao n cap) l) := (R4.out.alloc _).below hb5
    have O5 : Hid (Reads w5 (.slice a4 l.length d4) l) := (O4.out.alloc _).below hb5
    have B5 := (B4.trans (Below.mono (ba (Below.refl _ w4) _) B4.size)).trans (hb5.mono (by have := B4.size; simp; omega))
    have s5 : w.heap.size < w5.heap.size := by have := hb5.size; simp at this; omega
    have s5' : w4.heap.size < w5.heap.size := by have := hb5.size; simp at this; omega
    clear hb5 c4 R4 B4 s4 O4
    go_wp2
    go_region_held3 (fun w' => w'.cell? ⟨w.heap.size, 0, none⟩ = some (.slice ao n cap) ∧ w'.cell? ⟨w4.heap.size, 0, none⟩ = some (.slice a4 l.length d4)) ((first | exact ⟨c5, x5⟩ | exact ⟨(hb6.cell s5).trans c5, (hb6.cell s5').trans x5⟩ | exact ⟨(hb7.cell s6).trans c6, (hb7.cell s6').trans x6⟩)) ((first | (go_at_call 30; refine (toDisk_any _ l _ R5.out.drew HL.out).mono ?_; rintro e w6 ⟨v6, rfl, ho6, hb6⟩; obtain ⟨a6, d6, rfl⟩ := ho6.slice; have c6 := (hb6.cell (p := ⟨w.heap.size, 0, none⟩) s5).trans c5; have x6 := (hb6.cell (p := ⟨w4.heap.size, 0, none⟩) s5').trans x5; have s6 := Nat.lt_of_lt_of_le s5 hb6.size; have s6' := Nat.lt_of_lt_of_le s5' hb6.size) | (go_at_call 31; refine (eqDisk_any _ _ l _ (O5.out.drew.below hb6) ho6.reads (Nat.le_trans HL.out (by decide))).mono ?_; rintro e w7 ⟨rfl, hb7⟩)))
    go_wp2
    go_ret
    exact ⟨rfl, (B5.drew.trans (hb6.mono B5.size)).trans (hb7.mono (Nat.le_trans B5.size hb6.size))⟩

/-- The first file of a name. -/
def findF (l : List Fl) (s : ByteArray) : Option Fl := l.find? fun f => f.name.toList == s.toList
theorem findF_at {l : List Fl} {s : ByteArray} {k : Nat} {f : Fl} (h : l[k]? = some f) (he : (f.name.toList == s.toList) = true) (hno : ∀ (i : Nat) (g : Fl), i < k → l[i]? = some g → (g.name.toList == s.toList) = false) : findF l s = some f := by
  unfold findF
  induction l generalizing k with
  | nil => simp at h
  | cons x r ih =>
    cases k with
    | zero => simp at h; subst h; simp only [List.find?_cons, he]
    | succ k =>
      have h0 := hno 0 x (by omega) rfl
      simp only [List.find?_cons, h0]
      exact ih (by simpa using h) fun i g hi hg => hno (i + 1) g (by omega) (by simpa using hg)
theorem findF_none {l : List Fl} {s : ByteArray} (hno : ∀ (i : Nat) (g : Fl), i < l.length → l[i]? = some g → (g.name.toList == s.toList) = false) : findF l s = none := by
  unfold findF
  rw [List.find?_eq_none]
  intro f hf
  obtain ⟨i, hi⟩ := List.getElem?_of_mem hf
  simp [hno i f (List.getElem?_eq_some_iff.1 hi).1 hi]
/-- What FileAt tells. -/
def fileR (l : List Fl) (s : ByteArray) : ByteArray × Bool := match findF l s with | some f => (f.text, true) | none => (ByteArray.empty, false)

def TextsL (l : List Fl) : Prop := ∀ f ∈ l, f.text.size ≤ 1048576

set_option maxHeartbeats 1000000 in
theorem fileAt_try (ao : Option Addr) (n c : Nat) (l : List Fl) (s : ByteArray) (w : World) (hr : Reads w (.slice ao n c) l) (hn : n ≤ 1048577) (hs : TextsL l) :
    Calls Try.prog 25 #[.agg #[.slice ao n c], .string s] w fun e w' => e = .returned (.tuple #[.string (fileR l s).1, .bool (fileR l s).2]) ∧ Below w.heap.size w w' := by
  have HR : Hid (Reads w (.slice ao n c) l) := hr
  have HN : Hid (n = l.length) := hr.len
  have HS : Hid (TextsL l) := hs
  clear hr hs
  go_enter Try.func25, Try.ntmps25
  go_wp2
  go_loopw [11] (fun i wr => ∃ k : Nat, k ≤ n ∧ i = .int .i64 k ∧ Hid (∀ (i : Nat) (g : Fl), i < k → l[i]? = some g → (g.name.toList == s.toList) = false) ∧ Below w.heap.size w wr) (fun i _ => n - (intOf i).toNat)
  case atStart => exact ⟨0, Nat.zero_le _, rfl, (fun i f hi => absurd hi (by omega)), ba (Below.refl _ _) _⟩
  case round =>
    obtain ⟨k, hk, rfl, HE, hbel⟩ := hrel
    have hsz := hbel.size
    by_cases hlt : k < n
    · obtain ⟨⟨nm, tx, kp⟩, hf⟩ : ∃ f, l[k]? = some f := ⟨_, List.getElem?_eq_getElem (by rw [← HN.out]; exact hlt)⟩
      have HF : Hid (l[k]? = some ⟨nm, tx, kp⟩) := hf
      obtain ⟨b, o, rfl, hb, c0, c1, c2⟩ := fl_at (HR.out.below hbel) hf
      have hts : tx.size ≤ 1048576 := HS.out _ (List.mem_of_getElem? hf)
      clear hf
      dsimp only at c0 c1 c2
      cases he : (nm.toList == s.toList) with
      | true =>
        have HK : Hid (fileR l s = (tx, true)) := by show fileR l s = (tx, true); unfold fileR; rw [findF_at HF.out he HE.out]
        go_wp2_with (go_at_call 64; refine (clone_any _ _ hts).mono ?_; rintro e w2 ⟨rfl, hb2⟩)
        go_ret2
        exact ⟨by rw [HK.out]; rfl, hbel.trans (((ba (Below.refl _ wr) _).trans (hb2.mono (by simp))).mono hsz)⟩
      | false =>
        go_wp2
        go_roundw
        case rel => exact ⟨k + 1, by omega, by go_num, (fun i f hi hl => by
          rcases Nat.lt_succ_iff_lt_or_eq.1 hi with h | h
          · exact HE.out i f h hl
          · subst h
            have := HF.out.symm.trans hl
            simp only [Option.some.injEq] at this
            subst this
            exact he), hbel.trans ((ba (Below.refl _ wr) _).mono hsz)⟩
        case measure => simp [intOf]; omega
    · have hkn : k = n := by omega
      subst hkn
      have HK : Hid (fileR l s = (ByteArray.empty, false)) := by show fileR l s = _; unfold fileR; rw [findF_none (by rw [← HN.out]; exact HE.out)]
      go_wp2
      go_ret2
      exact ⟨by rw [HK.out]; rfl, hbel⟩

set_option maxHeartbeats 1000000 in
theorem specAt_try (ao : Option Addr) (n c : Nat) (l : List Fl) (s : ByteArray) (w : World) (hr : Reads w (.slice ao n c) l) (hn : n ≤ 1048577) :
    Calls Try.prog 70 #[.agg #[.slice ao n c], .string s] w fun e w' => ∃ r : Int, e = .returned (.int .i64 r) ∧ (r = -1 ∧ findF l s = none ∨ ∃ (k : Nat) (f : Fl), r = (k : Int) ∧ l[k]? = some f ∧ findF l s = some f) ∧ Below w.heap.size w w' := by
  have HR : Hid (Reads w (.slice ao n c) l) := hr
  have HN : Hid (n = l.length) := hr.len
  clear hr
  go_enter Try.func70, Try.ntmps70
  go_wp2
  go_loopw [5] (fun i wr => ∃ k m : Nat, k ≤ n ∧ i = .int .i64 k ∧ Hid (∀ (i : Nat) (g : Fl), i < k → l[i]? = some g → (g.name.toList == s.toList) = false) ∧ wr = (w.alloc (Obj.cells #[.slice ao n c] 26)).drewN m) (fun i _ => n - (intOf i).toNat)
  case atStart => exact ⟨0, 0, Nat.zero_le _, rfl, (fun i f hi => absurd hi (by omega)), rfl⟩
  case round =>
    obtain ⟨k, m, hk, rfl, HE, rfl⟩ := hrel
    have hb0 : Below w.heap.size w ((w.alloc (Obj.cells #[.slice ao n c] 26)).drewN m) := below_drewN (ba (Below.refl _ _) _) m
    by_cases hlt : k < n
    · obtain ⟨⟨nm, tx, kp⟩, hf⟩ : ∃ f, l[k]? = some f := ⟨_, List.getElem?_eq_getElem (by rw [← HN.out]; exact hlt)⟩
      have HF : Hid (l[k]? = some ⟨nm, tx, kp⟩) := hf
      obtain ⟨b, o, rfl, hb, c0, c1, c2⟩ := fl_at (HR.out.alloc (Obj.cells #[.slice ao n c] 26)) hf
      clear hf
      dsimp only at c0 c1 c2
      cases he : (nm.toList == s.toList) with
      | true =>
        have HK : Hid (findF l s = some ⟨nm, tx, kp⟩) := findF_at HF.out he HE.out
        go_wp2
        go_ret
        exact ⟨_, rfl, .inr ⟨k, _, rfl, HF.out, HK.out⟩, hb0⟩
      | false =>
        go_wp2
        go_roundw
        case rel => exact ⟨k + 1, m, by omega, by go_num, (fun i f hi hl => by
          rcases Nat.lt_succ_iff_lt_or_eq.1 hi with h | h
          · exact HE.out i f h hl
          · subst h
            have := HF.out.symm.trans hl
            simp only [Option.some.injEq] at this
            subst this
            exact he), rfl⟩
        case measure => simp [intOf]; omega
    · have hkn : k = n := by omega
      subst hkn
      go_wp2
      go_ret
      exact ⟨_, rfl, .inl ⟨rfl, findF_none (by rw [← HN.out]; exact HE.out)⟩, hb0⟩

set_option maxHeartbeats 1000000 in
theorem specFileAt_try (ao : Option Addr) (n c : Nat) (l : List Fl) (s : ByteArray) (w : World) (hr : Reads w (.slice ao n c) l) (hn : n ≤ 1048577) :
    Calls Try.prog 32 #[.agg #[.slice ao n c], .string s] w fun e w' => e = .returned (.tuple #[.string (fileR l s).1, .bool (fileR l s).2]) ∧ Below w.heap.size w w' := by
  have HR : Hid (Reads w (.slice ao n c) l) := hr
  have HN : Hid (n = l.length) := hr.len
  clear hr
  go_enter Try.func32, Try.ntmps32
  go_wp2_with fail
  refine (specAt_try ao n c l s _ (HR.out.alloc _) hn).mono ?_
  rintro e w2 ⟨r, rfl, hr, hb2⟩
  have hb3 : Below w.heap.size w w2 := (ba (Below.refl _ _) _).trans (hb2.mono (by simp))
  rcases hr with ⟨rfl, hnone⟩ | ⟨k, f, rfl, hf, hsome⟩
  · have HK : Hid (fileR l s = (ByteArray.empty, false)) := by show fileR l s = _; unfold fileR; rw [hnone]
    clear hnone
    go_wp2
    go_ret2
    exact ⟨by rw [HK.out]; rfl, hb3⟩
  · have HK : Hid (fileR l s = (f.text, true)) := by show fileR l s = _; unfold fileR; rw [hsome]
    have hkn : k < n := by rw [HN.out]; exact (List.getElem?_eq_some_iff.1 hf).1
    have hd0 : w2.cell? ⟨w.heap.size, 0, none⟩ = some (.slice ao n c) := (hb2.cell (by simp)).trans (by simp [go_sem])
    obtain ⟨b, o, rfl, hb, c0, c1, c2⟩ := fl_at (HR.out.below hb3) hf
    clear hsome hf
    go_wp2
    go_ret2
    exact ⟨by rw [HK.out]; rfl, hb3⟩
theorem fileAt_any {w : World} {v : Value} {l : List Fl} (s : ByteArray) (hr : Reads w v l) (hn : l.length ≤ 1048577) (hs : TextsL l) : Calls Try.prog 25 #[.agg #[v], .string s] w fun e w' => e = .returned (.tuple #[.string (fileR l s).1, .bool (fileR l s).2]) ∧ Below w.heap.size w w' := by
  obtain ⟨ao, c, rfl, _⟩ := id hr
  exact fileAt_try ao _ c l s w hr hn hs
theorem specFileAt_any {w : World} {v : Value} {l : List Fl} (s : ByteArray) (hr : Reads w v l) (hn : l.length ≤ 1048577) : Calls Try.prog 32 #[.agg #[v], .string s] w fun e w' => e = .returned (.tuple #[.string (fileR l s).1, .bool (fileR l s).2]) ∧ Below w.heap.size w w' := by
  obtain ⟨ao, c, rfl, _⟩ := id hr
  exact specFileAt_try ao _ c l s w hr hn
end Go.Proofs.Ytekflgecfcjjiaa
