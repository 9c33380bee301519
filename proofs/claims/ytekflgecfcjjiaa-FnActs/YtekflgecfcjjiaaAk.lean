/-
  The file of a name; whether all is kept: the walks.
-/
import Derived.Test.YtekflgecfcjjiaaLok
import Derived.Test.YtekflgecfcjjiaaShelf
namespace Go.Proofs.Ytekflgecfcjjiaa
open Go Go.RowKit

set_option maxHeartbeats 400000 in
theorem clone_any (s : ByteArray) (w : World) (hs : s.size ≤ 1048576) :
    Calls Try.prog 64 #[.string s] w fun e w' => e = .returned (.string s) ∧ Below w.heap.size w w' := by
  go_enter Try.func64, Try.ntmps64
  go_wp2_with (go_at_call 90; refine (Try.stringslite_Clone _ _ (by omega)).mono ?_; rintro e w2 ⟨rfl, hb2⟩)
  go_ret
  exact ⟨rfl, hb2⟩

theorem diskR_right {l : List Fl} (h : diskR l = true) : ∀ (i : Nat) (f : Fl), l[i]? = some f → f.right = true := by
  intro i f hf
  unfold diskR at h
  rw [Bool.and_eq_true, List.all_eq_true] at h
  have := h.2 i (List.mem_range.2 (List.getElem?_eq_some_iff.1 hf).1)
  unfold okAt at this
  rw [hf] at this
  simp only [Bool.and_eq_true] at this
  exact this.1

/-- All of each file is kept. -/
def keptR (l : List Fl) : Bool := l.all fun f => decide (f.kept = (f.text.size : Int))
theorem keptR_false {l : List Fl} {i : Nat} {f : Fl} (h : l[i]? = some f) (hf : f.kept ≠ (f.text.size : Int)) : keptR l = false := by
  unfold keptR
  rw [List.all_eq_false]
  exact ⟨f, List.mem_of_getElem? h, by simp [hf]⟩
theorem keptR_true {l : List Fl} (h : ∀ (i : Nat) (f : Fl), i < l.length → l[i]? = some f → f.kept = (f.text.size : Int)) : keptR l = true := by
  unfold keptR
  rw [List.all_eq_true]
  intro f hf
  obtain ⟨i, hi⟩ := List.getElem?_of_mem hf
  simpa using h i f (List.getElem?_eq_some_iff.1 hi).1 hi

set_option maxHeartbeats 1000000 in
theorem allKept_try (ao : Option Addr) (n c : Nat) (l : List Fl) (w : World) (hr : Reads w (.slice ao n c) l) (hn : n ≤ 1048577) :
    Calls Try.prog 18 #[.agg #[.slice ao n c]] w fun e w' => e = .returned (.bool (keptR l && diskR l)) ∧ Below w.heap.size w w' := by
  have HR : Hid (Reads w (.slice ao n c) l) := hr
  have HN : Hid (n = l.length) := hr.len
  clear hr
  go_enter Try.func18, Try.ntmps18
  go_wp2
  go_loopw [8] (fun i wr => ∃ k : Nat, k ≤ n ∧ i = .int .i64 k ∧ Hid (∀ (i : Nat) (f : Fl), i < k → l[i]? = some f → f.kept = (f.text.size : Int)) ∧ Below (w.heap.size + 1) (w.alloc (Obj.cells #[.slice ao n c] 26)) wr) (fun i _ => n - (intOf i).toNat)
  case atStart => exact ⟨0, Nat.zero_le _, rfl, (fun i f hi => absurd hi (by omega)), Below.refl _ _⟩
  case round =>
    obtain ⟨k, hk, rfl, HE, hbel⟩ := hrel
    have hsz := hbel.size
    simp only [World.size_alloc] at hsz
    have hb0 : Below w.heap.size w wr := (ba (Below.refl _ _) _).trans (hbel.mono (by omega))
    have hd0 : wr.cell? ⟨w.heap.size, 0, none⟩ = some (.slice ao n c) := (hbel.cell (by simp)).trans (by simp [go_sem])
    by_cases hlt : k < n
    · obtain ⟨⟨nm, tx, kp⟩, hf⟩ : ∃ f, l[k]? = some f := ⟨_, List.getElem?_eq_getElem (by rw [← HN.out]; exact hlt)⟩
      have HF : Hid (l[k]? = some ⟨nm, tx, kp⟩) := hf
      obtain ⟨b, o, rfl, hb, c0, c1, c2⟩ := fl_at (HR.out.below hb0) hf
      clear hf
      dsimp only at c0 c1 c2
      by_cases hkp : kp = (tx.size : Int)
      · have hkd : decide (kp = (tx.size : Int)) = true := decide_eq_true hkp
        have HK : Hid (kp = (tx.size : Int)) := hkp
        clear hkp
        go_wp2_with (go_at_call 54; refine (isAllKept_any _ _ _ _).mono ?_; rintro e w2 ⟨he, hb2⟩; rw [hkd] at he; subst he)
        go_roundw
        case rel => exact ⟨k + 1, by omega, by go_num, (fun i f hi hl => by
          rcases Nat.lt_succ_iff_lt_or_eq.1 hi with h | h
          · exact HE.out i f h hl
          · subst h
            have := HF.out.symm.trans hl
            simp only [Option.some.injEq] at this
            subst this
            exact HK.out), hbel.trans (((ba (Below.refl _ wr) _).trans (hb2.mono (by simp))).mono (by omega))⟩
        case measure => simp [intOf]; omega
      · have hkd : decide (kp = (tx.size : Int)) = false := decide_eq_false hkp
        have HK : Hid (keptR l = false) := keptR_false HF.out hkp
        clear hkp
        go_wp2_with (go_at_call 54; refine (isAllKept_any _ _ _ _).mono ?_; rintro e w2 ⟨he, hb2⟩; rw [hkd] at he; subst he)
        go_ret
        exact ⟨by rw [HK.out]; rfl, hb0.trans (((ba (Below.refl _ wr) _).trans (hb2.mono (by simp))).mono (by omega))⟩
    · have hkn : k = n := by omega
      subst hkn
      have HK : Hid (keptR l = true) := keptR_true (by rw [← HN.out]; exact HE.out)
      go_wp2_with (go_at_call 19; refine (diskOk_any (HR.out.below hb0)).mono ?_; rintro e w2 ⟨rfl, hb2⟩)
      go_ret
      exact ⟨by rw [HK.out]; rfl, hb0.trans (hb2.mono (by omega))⟩

set_option maxHeartbeats 1000000 in
theorem specAllKept_try (ao : Option Addr) (n c : Nat) (l : List Fl) (w : World) (hr : Reads w (.slice ao n c) l) (hn : n ≤ 1048577) :
    Calls Try.prog 46 #[.agg #[.slice ao n c]] w fun e w' => e = .returned (.bool (keptR l && diskR l)) ∧ Below w.heap.size w w' := by
  have HR : Hid (Reads w (.slice ao n c) l) := hr
  have HN : Hid (n = l.length) := hr.len
  clear hr
  cases hd : diskR l with
  | false =>
    go_enter Try.func46, Try.ntmps46
    go_wp2_with (go_at_call 29; refine (specDiskOk_any (HR.out.alloc _)).mono ?_; rintro e w2 ⟨he, hb2⟩; rw [hd] at he; subst he)
    go_ret
    exact ⟨by simp, (ba (Below.refl _ _) _).trans (hb2.mono (by simp))⟩
  | true =>
    have HO : Hid (∀ (i : Nat) (f : Fl), l[i]? = some f → f.right = true) := diskR_right hd
    go_enter Try.func46, Try.ntmps46
    go_wp2_with (go_at_call 29; refine (specDiskOk_any (HR.out.alloc _)).mono ?_; rintro e w2 ⟨he, hb2⟩; rw [hd] at he; subst he)
    have hb2 : Below (w.heap.size + 1) (w.alloc (Obj.cells #[.slice ao n c] 26)) w2 := hb2.mono (by simp)
    go_loopw [3] (fun i wr => ∃ k : Nat, k ≤ n ∧ i = .int .i64 k ∧ Hid (∀ (i : Nat) (f : Fl), i < k → l[i]? = some f → f.kept = (f.text.size : Int)) ∧ Below (w.heap.size + 1) (w.alloc (Obj.cells #[.slice ao n c] 26)) wr) (fun i _ => n - (intOf i).toNat)
    case atStart => exact ⟨0, Nat.zero_le _, rfl, (fun i f hi => absurd hi (by omega)), hb2⟩
    case round =>
      obtain ⟨k, hk, rfl, HE, hbel⟩ := hrel
      clear hb2
      have hsz := hbel.size
      simp only [World.size_alloc] at hsz
      have hb0 : Below w.heap.size w wr := (ba (Below.refl _ _) _).trans (hbel.mono (by omega))
      have hd0 : wr.cell? ⟨w.heap.size, 0, none⟩ = some (.slice ao n c) := (hbel.cell (by simp)).trans (by simp [go_sem])
      by_cases hlt : k < n
      · obtain ⟨⟨nm, tx, kp⟩, hf⟩ : ∃ f, l[k]? = some f := ⟨_, List.getElem?_eq_getElem (by rw [← HN.out]; exact hlt)⟩
        have HF : Hid (l[k]? = some ⟨nm, tx, kp⟩) := hf
        obtain ⟨b, o, rfl, hb, c0, c1, c2⟩ := fl_at (HR.out.below hb0) hf
        clear hf
        dsimp only at c0 c1 c2
        have hrt := right_true (HO.out k _ HF.out)
        have hle : kp ≤ (tx.size : Int) := by have := hrt.2.2; simp at this; exact this.2
        clear hrt
        by_cases hkp : kp < (tx.size : Int)
        · have hkd : decide (kp < (tx.size : Int)) = true := decide_eq_true hkp
          have HK : Hid (keptR l = false) := keptR_false HF.out (by show kp ≠ (tx.size : Int); omega)
          go_wp2
          go_quiet (fail)
          go_wp2
          go_ret
          exact ⟨by rw [HK.out]; rfl, below_drewN hb0 _⟩
        · have hkd : decide (kp < (tx.size : Int)) = false := decide_eq_false hkp
          have HK : Hid (kp = (tx.size : Int)) := by show kp = _; omega
          clear hkp
          go_wp2
          go_quiet (fail)
          go_wp2
          go_roundw
          case rel => exact ⟨k + 1, by omega, by go_num, (fun i f hi hl => by
            rcases Nat.lt_succ_iff_lt_or_eq.1 hi with h | h
            · exact HE.out i f h hl
            · subst h
              have := HF.out.symm.trans hl
              simp only [Option.some.injEq] at this
              subst this
              exact HK.out), below_drewN hbel _⟩
          case measure => simp [intOf]; omega
      · have hkn : k = n := by omega
        subst hkn
        have HK : Hid (keptR l = true) := keptR_true (by rw [← HN.out]; exact HE.out)
        go_wp2
        go_ret
        exact ⟨by rw [HK.out]; rfl, hb0⟩
theorem allKept_any {w : World} {v : Value} {l : List Fl} (hr : Reads w v l) (hn : l.length ≤ 1048577) : Calls Try.prog 18 #[.agg #[v]] w fun e w' => e = .returned (.bool (keptR l && diskR l)) ∧ Below w.heap.size w w' := by
  obtain ⟨ao, c, rfl, _⟩ := id hr
  exact allKept_try ao _ c l w hr hn
theorem specAllKept_any {w : World} {v : Value} {l : List Fl} (hr : Reads w v l) (hn : l.length ≤ 1048577) : Calls Try.prog 46 #[.agg #[v]] w fun e w' => e = .returned (.bool (keptR l && diskR l)) ∧ Below w.heap.size w w' := by
  obtain ⟨ao, c, rfl, _⟩ := id hr
  exact specAllKept_try ao _ c l w hr hn
end Go.Proofs.Ytekflgecfcjjiaa
