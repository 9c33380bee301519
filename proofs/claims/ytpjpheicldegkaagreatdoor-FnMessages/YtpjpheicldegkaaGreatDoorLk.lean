/- Lk -/
import Derived.Test.YtpjpheicldegkaaGreatDoorGM12
import Derived.Test.YtpjpheicldegkaaGreatDoorGM5
namespace Go.Proofs.YtpjpheicldegkaaGreatDoor
open Go Go.RowKit

def rises : Int → List En → Bool
  | _, [] => true
  | a, e :: r => okE e.term e.kind e.data && decide (a ≤ e.term) && rises e.term r
def okL (s t : Int) (l : List En) : Bool := decide (0 ≤ s) && decide (s ≤ 1000000) && decide (0 ≤ t) && decide (t ≤ 100000) && decide (l.length ≤ 60) && decide (s + l.length ≤ 1000000) && rises t l
def qsc (l : List En) : Prop := ∀ f ∈ l, f.data.size ≤ 1048576
theorem rises_at {l : List En} {k : Nat} {a : Int} {x : En} (h : l[k]? = some x) : rises a (l.drop k) = (okE x.term x.kind x.data && decide (a ≤ x.term) && rises x.term (l.drop (k + 1))) := by
  have hk : k < l.length := (List.getElem?_eq_some_iff.1 h).1
  have e : l[k] = x := by rw [List.getElem?_eq_getElem hk] at h; exact Option.some.inj h
  rw [List.drop_eq_getElem_cons hk, e]
  rfl
theorem rises_end {l : List En} {k : Nat} {a : Int} (h : k = l.length) : rises a (l.drop k) = true := by
  subst h; simp [rises]
theorem okL_0 {s t : Int} {l : List En} (h : ¬ 0 ≤ s) : okL s t l = false := by simp [okL, h]
theorem okL_1 {s t : Int} {l : List En} (h : ¬ s ≤ 1000000) : okL s t l = false := by simp [okL, h]
theorem okL_2 {s t : Int} {l : List En} (h : ¬ 0 ≤ t) : okL s t l = false := by simp [okL, h]
theorem okL_3 {s t : Int} {l : List En} (h : ¬ t ≤ 100000) : okL s t l = false := by simp [okL, h]
theorem okL_4 {s t : Int} {l : List En} (h : ¬ l.length ≤ 60) : okL s t l = false := by simp [okL, h]
theorem okL_5 {s t : Int} {l : List En} (h : ¬ s + l.length ≤ 1000000) : okL s t l = false := by simp [okL, h]
theorem okL_in {s t : Int} {l : List En} (h0 : 0 ≤ s) (h1 : s ≤ 1000000) (h2 : 0 ≤ t) (h3 : t ≤ 100000) (h4 : l.length ≤ 60) (h5 : s + l.length ≤ 1000000) : okL s t l = rises t l := by simp [okL, h0, h1, h2, h3, h4, h5]
set_option maxRecDepth 10000 in
set_option maxHeartbeats 4000000 in
theorem logOk_try (s t : Int) (ao : Option Addr) (n c : Nat) (l : List En) (w : World) (hr : Reads w (.slice ao n c) l) (hn : n ≤ 1048577) (hz : qsc l) :
    Calls Tryz.prog 156 #[.agg #[.int .i64 s, .int .i64 t, .slice ao n c]] w fun e w' => e = .returned (.bool (okL s t l)) ∧ Below w.heap.size w w' := by
  have HN : Hid (n = l.length) := hr.len
  have HR : Hid (Reads w (.slice ao n c) l) := hr
  have HZ : Hid (qsc l) := hz
  clear hr hz
  by_cases h0 : 0 ≤ s
  rotate_left
  · rw [okL_0 h0]
    go_enter Tryz.func156, Tryz.ntmps156
    go_wp2
    go_ret
    exact ⟨rfl, ba (Below.refl _ _) _⟩
  by_cases h1 : s ≤ 1000000
  rotate_left
  · rw [okL_1 h1]
    go_enter Tryz.func156, Tryz.ntmps156
    go_wp2
    go_ret
    exact ⟨rfl, ba (Below.refl _ _) _⟩
  by_cases h2 : 0 ≤ t
  rotate_left
  · rw [okL_2 h2]
    go_enter Tryz.func156, Tryz.ntmps156
    go_wp2
    go_ret
    exact ⟨rfl, ba (Below.refl _ _) _⟩
  by_cases h3 : t ≤ 100000
  rotate_left
  · rw [okL_3 h3]
    go_enter Tryz.func156, Tryz.ntmps156
    go_wp2
    go_ret
    exact ⟨rfl, ba (Below.refl _ _) _⟩
  by_cases h4 : n ≤ 60
  rotate_left
  · rw [okL_4 (by rw [← HN.out]; exact h4)]
    go_enter Tryz.func156, Tryz.ntmps156
    go_wp2
    go_ret
    exact ⟨rfl, ba (Below.refl _ _) _⟩
  by_cases h5 : s + n ≤ 1000000
  rotate_left
  · rw [okL_5 (by rw [← HN.out]; exact h5)]
    go_enter Tryz.func156, Tryz.ntmps156
    go_wp2
    go_ret
    exact ⟨rfl, ba (Below.refl _ _) _⟩
  rw [okL_in h0 h1 h2 h3 (by rw [← HN.out]; exact h4) (by rw [← HN.out]; exact h5)]
  obtain ⟨q, HQ⟩ : ∃ q, Hid (rises t l = q) := ⟨_, rfl⟩
  rw [HQ.out]
  go_enter Tryz.func156, Tryz.ntmps156
  go_wp2
  go_loopw [3, 42] (fun x i wr => ∃ (k : Nat) (a : Int), k ≤ n ∧ i = .int .i64 k ∧ x = .int .i64 a ∧ Hid (rises a (l.drop k) = q) ∧ Below w.heap.size w wr) (fun _ i _ => n - (intOf i).toNat)
  case atStart => exact ⟨0, t, Nat.zero_le _, rfl, rfl, by simpa using HQ, ba (Below.refl _ _) _⟩
  case round =>
    obtain ⟨k, a, hk, rfl, rfl, HE, hbel⟩ := hrel
    by_cases hlt : k < n
    · obtain ⟨f, hf⟩ : ∃ f, l[k]? = some f := ⟨_, List.getElem?_eq_getElem (by rw [← HN.out]; exact hlt)⟩
      have HF : Hid (l[k]? = some f) := hf
      have HM : Hid (f.data.size ≤ maxLen) := by have := HZ.out f (List.mem_of_getElem? hf); show _ ≤ maxLen; unfold maxLen; omega
      obtain ⟨b, o, rfl, hb, c0, c1, c2⟩ := en_at (HR.out.below hbel) hf
      have HS : Hid (q = (okE f.term f.kind f.data && decide (a ≤ f.term) && rises f.term (l.drop (k + 1)))) := by
        show q = _
        rw [← HE.out]; exact rises_at hf
      clear hf
      cases hq : okE f.term f.kind f.data with
      | false =>
        have e0 : Hid (q = false) := by show q = false; rw [HS.out, hq]; rfl
        go_wp2_with (go_at_call 75; refine (qzc _ _ _ _ HM.out).mono ?_; rintro e w2 ⟨rfl, hb2⟩; rw [hq])
        go_ret
        exact ⟨by rw [e0.out]; rfl, Below.on hbel (qma hb2)⟩
      | true =>
        by_cases ha : a ≤ f.term
        · have e1 : Hid (rises f.term (l.drop (k + 1)) = q) := by
            show _ = q
            rw [HS.out, hq, decide_eq_true ha]; rfl
          go_wp2_with (go_at_call 75; refine (qzc _ _ _ _ HM.out).mono ?_; rintro e w2 ⟨rfl, hb2⟩; rw [hq]; have c5 : w2.cell? ⟨wr.heap.size, 0, none⟩ = some (.int .i64 f.term) := (hb2.cell (by simp)).trans (by simp [go_sem]))
          go_roundw
          case rel => exact ⟨k + 1, f.term, by omega, by go_num, rfl, e1, Below.on hbel (qma hb2)⟩
          case measure => simp [intOf]; omega
        · have e0 : Hid (q = false) := by show q = false; rw [HS.out, hq, decide_eq_false ha]; rfl
          go_wp2_with (go_at_call 75; refine (qzc _ _ _ _ HM.out).mono ?_; rintro e w2 ⟨rfl, hb2⟩; rw [hq]; have c5 : w2.cell? ⟨wr.heap.size, 0, none⟩ = some (.int .i64 f.term) := (hb2.cell (by simp)).trans (by simp [go_sem]))
          go_ret
          exact ⟨by rw [e0.out]; rfl, Below.on hbel (qma hb2)⟩
    · have hkn : k = n := by omega
      subst hkn
      have e1 : Hid (q = true) := by show q = true; rw [← HE.out]; exact rises_end HN.out
      go_wp2
      go_ret
      exact ⟨by rw [e1.out]; rfl, hbel⟩

theorem logOk_any {s t : Int} {w : World} {v : Value} {l : List En} (hr : Reads w v l) (hn : l.length ≤ 1048577) (hz : qsc l) :
    Calls Tryz.prog 156 #[.agg #[.int .i64 s, .int .i64 t, v]] w fun e w' => e = .returned (.bool (okL s t l)) ∧ Below w.heap.size w w' := by
  obtain ⟨ao, c, rfl, _⟩ := id hr
  exact logOk_try s t ao _ c l w hr hn hz
end Go.Proofs.YtpjpheicldegkaaGreatDoor
