/-
  The file of a name: the walks; the law on whether all is kept.
-/
import Derived.Test.YtgpojfkdcdgloaaDoorOks
import Derived.Test.YtgpojfkdcdgloaaDoorCln
namespace Go.Proofs.YtgpojfkdcdgloaaDoor
open Go Go.RowKit


/-- The first file of a name. -/
def findF (l : List Fl) (s : ByteArray) : Option Fl := l.find? fun f => f.name.toList == s.toList
theorem findF_at {l : List Fl} {s : ByteArray} {k : Nat} {f : Fl} (h : l[k]? = some f) (he : (f.name.toList == s.toList) = true) (hno : ∀ (i : Nat) (g : Fl), i < k → l[i]? = some g → (g.name.toList == s.toList) = false) : findF l s = some f := by
  unfold findF
  induction l generalizing k with
  | nil => simp at h
  | cons x r ih =>
    cases k with
    | zero => simp at h; subst h; simp only [List.find?_cons, he]
    | succ k =>
      have h0 := hno 0 x (by omega) rfl
      simp only [List.find?_cons, h0]
      exact ih (by simpa using h) fun i g hi hg => hno (i + 1) g (by omega) (by simpa using hg)
theorem findF_none {l : List Fl} {s : ByteArray} (hno : ∀ (i : Nat) (g : Fl), i < l.length → l[i]? = some g → (g.name.toList == s.toList) = false) : findF l s = none := by
  unfold findF
  rw [List.find?_eq_none]
  intro f hf
  obtain ⟨i, hi⟩ := List.getElem?_of_mem hf
  simp [hno i f (List.getElem?_eq_some_iff.1 hi).1 hi]
/-- What FileAt tells. -/
def fileR (l : List Fl) (s : ByteArray) : ByteArray × Bool := match findF l s with | some f => (f.text, true) | none => (ByteArray.empty, false)

def TextsL (l : List Fl) : Prop := ∀ f ∈ l, f.text.size ≤ 1048576

set_option maxHeartbeats 1000000 in
theorem fileAt_try (ao : Option Addr) (n c : Nat) (l : List Fl) (s : ByteArray) (w : World) (hr : Reads w (.slice ao n c) l) (hn : n ≤ 1048577) (hs : TextsL l) :
    Calls Tryd.prog 92 #[.agg #[.slice ao n c], .string s] w fun e w' => e = .returned (.tuple #[.string (fileR l s).1, .bool (fileR l s).2]) ∧ Below w.heap.size w w' := by
  have HR : Hid (Reads w (.slice ao n c) l) := hr
  have HN : Hid (n = l.length) := hr.len
  have HS : Hid (TextsL l) := hs
  clear hr hs
  go_enter Tryd.func92, Tryd.ntmps92
  go_wp2
  go_loopw [11] (fun i wr => ∃ k : Nat, k ≤ n ∧ i = .int .i64 k ∧ Hid (∀ (i : Nat) (g : Fl), i < k → l[i]? = some g → (g.name.toList == s.toList) = false) ∧ Below w.heap.size w wr) (fun i _ => n - (intOf i).toNat)
  case atStart => exact ⟨0, Nat.zero_le _, rfl, (fun i f hi => absurd hi (by omega)), ba (Below.refl _ _) _⟩
  case round =>
    obtain ⟨k, hk, rfl, HE, hbel⟩ := hrel
    have hsz := hbel.size
    by_cases hlt : k < n
    · obtain ⟨⟨nm, tx, kp⟩, hf⟩ : ∃ f, l[k]? = some f := ⟨_, List.getElem?_eq_getElem (by rw [← HN.out]; exact hlt)⟩
      have HF : Hid (l[k]? = some ⟨nm, tx, kp⟩) := hf
      obtain ⟨b, o, rfl, hb, c0, c1, c2⟩ := fl_at (HR.out.below hbel) hf
      have hts : tx.size ≤ 1048576 := HS.out _ (List.mem_of_getElem? hf)
      clear hf
      dsimp only at c0 c1 c2
      cases he : (nm.toList == s.toList) with
      | true =>
        have HK : Hid (fileR l s = (tx, true)) := by show fileR l s = (tx, true); unfold fileR; rw [findF_at HF.out he HE.out]
        go_wp2_with (go_at_call 101; refine (clone_any _ _ hts).mono ?_; rintro e w2 ⟨rfl, hb2⟩)
        go_ret2
        exact ⟨by rw [HK.out]; rfl, hbel.trans (((ba (Below.refl _ wr) _).trans (hb2.mono (by simp))).mono hsz)⟩
      | false =>
        go_wp2
        go_roundw
        case rel => exact ⟨k + 1, by omega, by go_num, (fun i f hi hl => by
          rcases Nat.lt_succ_iff_lt_or_eq.1 hi with h | h
          · exact HE.out i f h hl
          · subst h
            have := HF.out.symm.trans hl
            simp only [Option.some.injEq] at this
            subst this
            exact he), hbel.trans ((ba (Below.refl _ wr) _).mono hsz)⟩
        case measure => simp [intOf]; omega
    · have hkn : k = n := by omega
      subst hkn
      have HK : Hid (fileR l s = (ByteArray.empty, false)) := by show fileR l s = _; unfold fileR; rw [findF_none (by rw [← HN.out]; exact HE.out)]
      go_wp2
      go_ret2
      exact ⟨by rw [HK.out]; rfl, hbel⟩

set_option maxHeartbeats 1000000 in
theorem specAt_try (ao : Option Addr) (n c : Nat) (l : List Fl) (s : ByteArray) (w : World) (hr : Reads w (.slice ao n c) l) (hn : n ≤ 1048577) :
    Calls Tryd.prog 89 #[.agg #[.slice ao n c], .string s] w fun e w' => ∃ r : Int, e = .returned (.int .i64 r) ∧ (r = -1 ∧ findF l s = none ∨ ∃ (k : Nat) (f : Fl), r = (k : Int) ∧ l[k]? = some f ∧ findF l s = some f) ∧ Below w.heap.size w w' := by
  have HR : Hid (Reads w (.slice ao n c) l) := hr
  have HN : Hid (n = l.length) := hr.len
  clear hr
  go_enter Tryd.func89, Tryd.ntmps89
  go_wp2
  go_loopw [5] (fun i wr => ∃ k m : Nat, k ≤ n ∧ i = .int .i64 k ∧ Hid (∀ (i : Nat) (g : Fl), i < k → l[i]? = some g → (g.name.toList == s.toList) = false) ∧ wr = (w.alloc (Obj.cells #[.slice ao n c] 47)).drewN m) (fun i _ => n - (intOf i).toNat)
  case atStart => exact ⟨0, 0, Nat.zero_le _, rfl, (fun i f hi => absurd hi (by omega)), rfl⟩
  case round =>
    obtain ⟨k, m, hk, rfl, HE, rfl⟩ := hrel
    have hb0 : Below w.heap.size w ((w.alloc (Obj.cells #[.slice ao n c] 47)).drewN m) := bdrewF (ba (Below.refl _ _) _) m
    by_cases hlt : k < n
    · obtain ⟨⟨nm, tx, kp⟩, hf⟩ : ∃ f, l[k]? = some f := ⟨_, List.getElem?_eq_getElem (by rw [← HN.out]; exact hlt)⟩
      have HF : Hid (l[k]? = some ⟨nm, tx, kp⟩) := hf
      obtain ⟨b, o, rfl, hb, c0, c1, c2⟩ := fl_at (HR.out.alloc (Obj.cells #[.slice ao n c] 47)) hf
      clear hf
      dsimp only at c0 c1 c2
      cases he : (nm.toList == s.toList) with
      | true =>
        have HK : Hid (findF l s = some ⟨nm, tx, kp⟩) := findF_at HF.out he HE.out
        go_wp2
        go_ret
        exact ⟨_, rfl, .inr ⟨k, _, rfl, HF.out, HK.out⟩, hb0⟩
      | false =>
        go_wp2
        go_roundw
        case rel => exact ⟨k + 1, m, by omega, by go_num, (fun i f hi hl => by
          rcases Nat.lt_succ_iff_lt_or_eq.1 hi with h | h
          · exact HE.out i f h hl
          · subst h
            have := HF.out.symm.trans hl
            simp only [Option.some.injEq] at this
            subst this
            exact he), rfl⟩
        case measure => simp [intOf]; omega
    · have hkn : k = n := by omega
      subst hkn
      go_wp2
      go_ret
      exact ⟨_, rfl, .inl ⟨rfl, findF_none (by rw [← HN.out]; exact HE.out)⟩, hb0⟩

theorem fileAt_any {w : World} {v : Value} {l : List Fl} (s : ByteArray) (hr : Reads w v l) (hn : l.length ≤ 1048577) (hs : TextsL l) : Calls Tryd.prog 92 #[.agg #[v], .string s] w fun e w' => e = .returned (.tuple #[.string (fileR l s).1, .bool (fileR l s).2]) ∧ Below w.heap.size w w' := by
  obtain ⟨ao, c, rfl, _⟩ := id hr
  exact fileAt_try ao _ c l s w hr hn hs
end Go.Proofs.YtgpojfkdcdgloaaDoor
