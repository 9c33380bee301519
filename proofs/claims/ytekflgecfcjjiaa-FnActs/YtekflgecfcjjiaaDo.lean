/-
  An act done on the files behind the map: the walk; what it comes to on the plain side.
-/
import Derived.Test.YtekflgecfcjjiaaSf
namespace Go.Proofs.Ytekflgecfcjjiaa
open Go Go.RowKit Go.Maps

theorem add_any (M B : Nat) (fs : List (Nat × Fl)) (s t : ByteArray) (w : World) (h : ShIs w M B fs) (hs : s.size ≤ 9223372036854775807) (ht : t.size ≤ 1048576) (hfl : fs.length ≤ 30) (hr : ∀ p ∈ fs, p.2.text.size ≤ 20000) :
    Calls Try.prog 84 #[.map (some M), .string s, .string t] w fun e w' => ∃ g, e = .returned (.bool (addP fs g s t).1) ∧ ShIs w' M B (addP fs g s t).2 ∧ Below B w w' := by
  cases hf : findP fs s with
  | none => exact add_none M B fs s t w h hs ht hfl hf
  | some p =>
    obtain ⟨b, nm, tx, kp⟩ := p
    exact add_some M B b nm tx kp fs s t w h hs (hr _ (findP_some hf).1) hfl hf

/-- What an act leaves. -/
def doP (fs : List (Nat × Fl)) (g : Nat) (a : Ac) : Bool × List (Nat × Fl) :=
  if (a.text ≠ ByteArray.empty ∧ a.kind ≠ 1) ∨ (a.to ≠ ByteArray.empty ∧ a.kind ≠ 3) then (false, fs)
  else if a.kind = 1 then addP fs g a.name a.text
  else if a.kind = 2 then keepP fs a.name
  else if a.kind = 3 then moveP fs a.name a.to
  else if a.kind = 4 then (fs.any (fun p => keyP p == a.name.data.toList), delP fs a.name.data.toList)
  else (false, fs)

theorem empty_iff (s : ByteArray) : s.toList.isEmpty = true ↔ s = ByteArray.empty := by
  rw [List.isEmpty_iff, Lib.toList_data]
  constructor
  · intro h; exact ByteArray.ext (Array.toList_inj.1 h)
  · intro h; rw [h]; rfl
theorem nonempty_iff {s : ByteArray} (h : s.toList.isEmpty = false) : s ≠ ByteArray.empty := fun e => by rw [(empty_iff s).2 e] at h; cases h

set_option maxHeartbeats 2000000 in
theorem do_try (M B : Nat) (fs : List (Nat × Fl)) (kind : Int) (nm tx to : ByteArray) (w : World) (h : ShIs w M B fs) (h1 : nm.size ≤ 1048576) (h2 : tx.size ≤ 1048576) (h3 : to.size ≤ 1048576) (hfl : fs.length ≤ 30) (hr : ∀ p ∈ fs, p.2.text.size ≤ 20000) :
    Calls Try.prog 62 #[.map (some M), .agg #[.int .i64 kind, .string nm, .string tx, .string to]] w fun e w' => ∃ g, e = .returned (.bool (doP fs g ⟨kind, nm, tx, to⟩).1) ∧ ShIs w' M B (doP fs g ⟨kind, nm, tx, to⟩).2 ∧ Below B w w' := by
  have HH : Hid (ShIs w M B fs) := h
  have HR : Hid (∀ p ∈ fs, p.2.text.size ≤ 20000) := hr
  have hBs := Nat.le_trans h.2.2.2.2 (Nat.le_of_lt h.lt)
  have hA := HH.out.below (ba (Below.refl _ w) (Obj.cells #[.int .i64 kind, .string nm, .string tx, .string to] 45))
  have hAb : Below B w (w.alloc (Obj.cells #[.int .i64 kind, .string nm, .string tx, .string to] 45)) := (ba (Below.refl _ w) _).mono hBs
  have HA : Hid (ShIs (w.alloc (Obj.cells #[.int .i64 kind, .string nm, .string tx, .string to] 45)) M B fs) := hA
  have HB : Hid (Below B w (w.alloc (Obj.cells #[.int .i64 kind, .string nm, .string tx, .string to] 45))) := hAb
  clear h hr hA hAb
  have no : ∀ (E : ∀ g, doP fs g ⟨kind, nm, tx, to⟩ = (false, fs)) (H : Calls Try.prog 62 #[.map (some M), .agg #[.int .i64 kind, .string nm, .string tx, .string to]] w fun e w' => e = .returned (.bool false) ∧ w' = w.alloc (Obj.cells #[.int .i64 kind, .string nm, .string tx, .string to] 45)),
      Calls Try.prog 62 #[.map (some M), .agg #[.int .i64 kind, .string nm, .string tx, .string to]] w fun e w' => ∃ g, e = .returned (.bool (doP fs g ⟨kind, nm, tx, to⟩).1) ∧ ShIs w' M B (doP fs g ⟨kind, nm, tx, to⟩).2 ∧ Below B w w' :=
    fun E H => H.mono fun e w' ⟨he, hw⟩ => ⟨0, by rw [E]; exact ⟨he, hw ▸ HA.out, hw ▸ HB.out⟩⟩
  cases hx : tx.toList.isEmpty with
  | false =>
    have hxn := nonempty_iff hx
    by_cases hk1 : kind = 1
    · cases ho : to.toList.isEmpty with
      | false =>
        have hon := nonempty_iff ho
        refine no (fun g => by unfold doP; exact if_pos (.inr ⟨hon, by simp [hk1]⟩)) ?_
        clear no hxn hon
        subst hk1
        go_enter Try.func62, Try.ntmps62
        go_wp2
        go_ret
        exact ⟨rfl, rfl⟩
      | true =>
        have hon := (empty_iff _).1 ho
        have E : ∀ g, doP fs g ⟨kind, nm, tx, to⟩ = addP fs g nm tx := fun g => by unfold doP; rw [if_neg (by simp [hk1, hon]), if_pos hk1]
        suffices H : Calls Try.prog 62 #[.map (some M), .agg #[.int .i64 kind, .string nm, .string tx, .string to]] w fun e w' => ∃ g, e = .returned (.bool (addP fs g nm tx).1) ∧ ShIs w' M B (addP fs g nm tx).2 ∧ Below B w w' from H.mono fun e w' ⟨g, h⟩ => ⟨g, by rw [E]; exact h⟩
        clear no hxn hon E
        subst hk1
        go_enter Try.func62, Try.ntmps62
        go_wp2_with (go_at_call 84; refine (add_any M B fs nm tx _ HA.out (by omega) h2 hfl HR.out).mono ?_; rintro e w2 ⟨g, rfl, hS, hb2⟩)
        go_ret
        exact ⟨g, rfl, hS, HB.out.trans hb2⟩
    · refine no (fun g => by unfold doP; exact if_pos (.inl ⟨hxn, hk1⟩)) ?_
      clear no hxn
      go_enter Try.func62, Try.ntmps62
      go_wp2
      go_ret
      exact ⟨rfl, rfl⟩
  | true =>
    have hxn := (empty_iff _).1 hx
    cases ho : to.toList.isEmpty with
    | false =>
      have hon := nonempty_iff ho
      by_cases hk3 : kind = 3
      · have E : ∀ g, doP fs g ⟨kind, nm, tx, to⟩ = moveP fs nm to := fun g => by unfold doP; rw [if_neg (by simp [hk3, hxn]), if_neg (by simp [hk3]), if_neg (by simp [hk3]), if_pos hk3]
        suffices H : Calls Try.prog 62 #[.map (some M), .agg #[.int .i64 kind, .string nm, .string tx, .string to]] w fun e w' => e = .returned (.bool (moveP fs nm to).1) ∧ ShIs w' M B (moveP fs nm to).2 ∧ Below B w w' from H.mono fun e w' h => ⟨0, by rw [E]; exact h⟩
        clear no hxn hon E
        subst hk3
        go_enter Try.func62, Try.ntmps62
        go_wp2_with (go_at_call 86; refine (move_any M B fs nm to _ HA.out (by omega) (by omega) hfl).mono ?_; rintro e w2 ⟨rfl, hS, hb2⟩)
        go_ret
        exact ⟨rfl, hS, HB.out.trans hb2⟩
      · refine no (fun g => by unfold doP; exact if_pos (.inr ⟨hon, hk3⟩)) ?_
        clear no hxn hon
        go_enter Try.func62, Try.ntmps62
        go_wp2
        go_ret
        exact ⟨rfl, rfl⟩
    | true =>
      have hon := (empty_iff _).1 ho
      have E0 : ¬ ((tx ≠ ByteArray.empty ∧ kind ≠ 1) ∨ (to ≠ ByteArray.empty ∧ kind ≠ 3)) := by simp [hxn, hon]
      by_cases hk1 : kind = 1
      · have E : ∀ g, doP fs g ⟨kind, nm, tx, to⟩ = addP fs g nm tx := fun g => by unfold doP; rw [if_neg E0, if_pos hk1]
        suffices H : Calls Try.prog 62 #[.map (some M), .agg #[.int .i64 kind, .string nm, .string tx, .string to]] w fun e w' => ∃ g, e = .returned (.bool (addP fs g nm tx).1) ∧ ShIs w' M B (addP fs g nm tx).2 ∧ Below B w w' from H.mono fun e w' ⟨g, h⟩ => ⟨g, by rw [E]; exact h⟩
        clear no hxn hon E E0
        subst hk1
        go_enter Try.func62, Try.ntmps62
        go_wp2_with (go_at_call 84; refine (add_any M B fs nm tx _ HA.out (by omega) h2 hfl HR.out).mono ?_; rintro e w2 ⟨g, rfl, hS, hb2⟩)
        go_ret
        exact ⟨g, rfl, hS, HB.out.trans hb2⟩
      · by_cases hk2 : kind = 2
        · have E : ∀ g, doP fs g ⟨kind, nm, tx, to⟩ = keepP fs nm := fun g => by unfold doP; rw [if_neg E0, if_neg hk1, if_pos hk2]
          suffices H : Calls Try.prog 62 #[.map (some M), .agg #[.int .i64 kind, .string nm, .string tx, .string to]] w fun e w' => e = .returned (.bool (keepP fs nm).1) ∧ ShIs w' M B (keepP fs nm).2 ∧ Below B w w' from H.mono fun e w' h => ⟨0, by rw [E]; exact h⟩
          clear no hxn hon E E0 hk1
          subst hk2
          go_enter Try.func62, Try.ntmps62
          go_wp2_with (go_at_call 85; refine (keep_any M B fs nm _ HA.out (by omega)).mono ?_; rintro e w2 ⟨rfl, hS, hb2⟩)
          go_ret
          exact ⟨rfl, hS, HB.out.trans hb2⟩
        · by_cases hk3 : kind = 3
          · have E : ∀ g, doP fs g ⟨kind, nm, tx, to⟩ = moveP fs nm to := fun g => by unfold doP; rw [if_neg E0, if_neg hk1, if_neg hk2, if_pos hk3]
            suffices H : Calls Try.prog 62 #[.map (some M), .agg #[.int .i64 kind, .string nm, .string tx, .string to]] w fun e w' => e = .returned (.bool (moveP fs nm to).1) ∧ ShIs w' M B (moveP fs nm to).2 ∧ Below B w w' from H.mono fun e w' h => ⟨0, by rw [E]; exact h⟩
            clear no hxn hon E E0 hk1 hk2
            subst hk3
            go_enter Try.func62, Try.ntmps62
            go_wp2_with (go_at_call 86; refine (move_any M B fs nm to _ HA.out (by omega) (by omega) hfl).mono ?_; rintro e w2 ⟨rfl, hS, hb2⟩)
            go_ret
            exact ⟨rfl, hS, HB.out.trans hb2⟩
          · by_cases hk4 : kind = 4
            · have E : ∀ g, doP fs g ⟨kind, nm, tx, to⟩ = (fs.any (fun p => keyP p == nm.data.toList), delP fs nm.data.toList) := fun g => by unfold doP; rw [if_neg E0, if_neg hk1, if_neg hk2, if_neg hk3, if_pos hk4]
              suffices H : Calls Try.prog 62 #[.map (some M), .agg #[.int .i64 kind, .string nm, .string tx, .string to]] w fun e w' => e = .returned (.bool (fs.any (fun p => keyP p == nm.data.toList))) ∧ ShIs w' M B (delP fs nm.data.toList) ∧ Below B w w' from H.mono fun e w' h => ⟨0, by rw [E]; exact h⟩
              clear no hxn hon E E0 hk1 hk2 hk3
              subst hk4
              go_enter Try.func62, Try.ntmps62
              go_wp2_with (go_at_call 87; refine (drop_any M B fs nm _ HA.out (by omega)).mono ?_; rintro e w2 ⟨rfl, hS, hb2⟩)
              go_ret
              exact ⟨rfl, hS, HB.out.trans hb2⟩
            · refine no (fun g => by unfold doP; rw [if_neg E0, if_neg hk1, if_neg hk2, if_neg hk3, if_neg hk4]) ?_
              clear no hxn hon E0
              go_enter Try.func62, Try.ntmps62
              go_wp2
              go_ret
              exact ⟨rfl, rfl⟩
end Go.Proofs.Ytekflgecfcjjiaa
