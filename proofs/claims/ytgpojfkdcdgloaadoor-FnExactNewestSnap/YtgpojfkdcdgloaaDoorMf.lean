/-
  Files marked, and found marked: the walks.
-/
import Derived.Test.YtgpojfkdcdgloaaDoorMt
import Derived.Test.YtgpojfkdcdgloaaDoorFls
import Derived.Test.YtgpojfkdcdgloaaDoorWd
import Derived.Deep.RegionHeld3
namespace Go.Proofs.YtgpojfkdcdgloaaDoor
open Go Go.RowKit

/-- A file of marks from x on. -/
def mkF (x : Int) : Fl := ⟨mkT x, mkT (x + 1), x + 1 + 1⟩
/-- The first j marked, the rest as they were. -/
def markedF (x : Int) (l : List Fl) (j : Nat) : List Fl := (List.range j).map (fun i : Nat => mkF (x + 3 * (i : Int))) ++ l.drop j
def marksF (x : Int) (n : Nat) : List Fl := (List.range n).map (fun i : Nat => mkF (x + 3 * (i : Int)))
theorem markedF_length {x : Int} {l : List Fl} {j : Nat} (h : j ≤ l.length) : (markedF x l j).length = l.length := by simp [markedF]; omega
theorem markedF_at {x : Int} {l : List Fl} {j : Nat} {f : Fl} (h : l[j]? = some f) : (markedF x l j)[j]? = some f := by
  unfold markedF
  rw [List.getElem?_append_right (by simp)]
  simp [h]
theorem markedF_set {x : Int} {l : List Fl} {j : Nat} {f : Fl} (h : l[j]? = some f) : (markedF x l j).set j (mkF (x + 3 * (j : Int))) = markedF x l (j + 1) := by
  have hj : j < l.length := (List.getElem?_eq_some_iff.1 h).1
  unfold markedF
  rw [List.set_append_right _ _ (by simp), List.drop_eq_getElem_cons hj, List.range_succ]
  simp
  rw [List.drop_eq_getElem_cons hj]
  rfl
theorem markedF_zero {w : World} {B : Nat} {e : TypeId} {v : Value} {x : Int} {l : List Fl} (h : Hid (ownsR w B e v l)) : Hid (ownsR w B e v (markedF x l 0)) := by
  have e : markedF x l 0 = l := by simp [markedF]
  rw [e]
  exact h
theorem markedF_all (x : Int) (l : List Fl) : markedF x l l.length = marksF x l.length := by simp [markedF, marksF]
theorem marksF_at {x : Int} {n j : Nat} (h : j < n) : (marksF x n)[j]? = some (mkF (x + 3 * (j : Int))) := by simp [marksF, h]
theorem marksF_length (x : Int) (n : Nat) : (marksF x n).length = n := by simp [marksF]

theorem fl_own {w : World} {B : Nat} {g n cap : Nat} {l : List Fl} (h : ownsR w B 84 (.slice (some ⟨g, 0, none⟩) n cap) l) {i : Nat} {x : Fl} (hi : l[i]? = some x) :
    g < w.heap.size ∧ (w.cell? ⟨g, i * 3, none⟩ = some (.string x.name) ∧ w.cell? ⟨g, i * 3 + 1, none⟩ = some (.string x.text) ∧ w.cell? ⟨g, i * 3 + 2, none⟩ = some (.int .i64 x.kept)) ∧ w.frozen? ⟨g, i * 3, none⟩ = false ∧ w.frozen? ⟨g, i * 3 + 1, none⟩ = false ∧ w.frozen? ⟨g, i * 3 + 2, none⟩ = false := by
  obtain ⟨h1, _, _, h2⟩ := h.at hi
  exact ⟨h1, ⟨(h2 0 (by decide)).1, (h2 1 (by decide)).1, (h2 2 (by decide)).1⟩, (h2 0 (by decide)).2, (h2 1 (by decide)).2, (h2 2 (by decide)).2⟩


set_option maxHeartbeats 1000000 in
theorem markFileS_none (ao : Option Addr) (c : Nat) (x : Int) (w : World) :
    Calls Tryd.prog 65 #[.slice ao 0 c, .int .i64 x] w fun e w' => e = .returned (.int .i64 x) ∧ Below w.heap.size w w' := by
  go_enter Tryd.func65, Tryd.ntmps65
  go_wp2
  refine wp_loop_rounds 1 ?_
  rw [rounds_succ]
  go_wp2
  go_ret
  exact ⟨rfl, Below.refl _ _⟩

set_option maxHeartbeats 2000000 in
theorem markFileS_some (g n c B : Nat) (x : Int) (l : List Fl) (w : World) (ho : ownsR w B 84 (.slice (some ⟨g, 0, none⟩) n c) l) (hn : n ≤ 1048577) (hx0 : 0 < x) (hx : x ≤ 100000000) :
    Calls Tryd.prog 65 #[.slice (some ⟨g, 0, none⟩) n c, .int .i64 x] w fun e w' => e = .returned (.int .i64 (x + 3 * (n : Int))) ∧ ownsR w' B 84 (.slice (some ⟨g, 0, none⟩) n c) (marksF x n) ∧ w.grownBy w' (some g) := by
  have HN : Hid (n = l.length) := ho.reads.len
  have HO : Hid (ownsR w B 84 (.slice (some ⟨g, 0, none⟩) n c) l) := ho
  clear ho
  go_enter Tryd.func65, Tryd.ntmps65
  go_wp2
  go_loopw [1, 5] (fun q i wr => ∃ k : Nat, k ≤ n ∧ i = .int .i64 k ∧ q = .int .i64 (x + 3 * (k : Int)) ∧ Hid (ownsR wr B 84 (.slice (some ⟨g, 0, none⟩) n c) (markedF x l k)) ∧ w.grownBy wr (some g)) (fun _ i _ => n - (intOf i).toNat)
  case atStart => exact ⟨0, Nat.zero_le _, rfl, by simp, markedF_zero HO, grown_refl _ _⟩
  case round =>
    obtain ⟨k, hk, rfl, rfl, HL, hbel⟩ := hrel
    by_cases hlt : k < n
    · obtain ⟨f, hf⟩ : ∃ f, l[k]? = some f := ⟨_, List.getElem?_eq_getElem (by rw [← HN.out]; exact hlt)⟩
      have HF : Hid (l[k]? = some f) := hf
      clear hf
      go_wp2_with fail
      refine (markText_int _ _ (by omega) (by omega)).mono ?_
      rintro e w2 ⟨rfl, hb2⟩
      have O2 : Hid (ownsR w2 B 84 (.slice (some ⟨g, 0, none⟩) n c) (markedF x l k)) := HL.out.all hb2
      obtain ⟨hg2, ⟨d0, d1, d2⟩, f0, f1, f2⟩ := fl_own O2.out (markedF_at HF.out)
      have O3 : Hid (ownsR (w2.setCell ⟨g, k * 3, none⟩ (.string (mkT (x + 3 * (k : Int))))) B 84 (.slice (some ⟨g, 0, none⟩) n c) ((markedF x l k).set k { f with name := mkT (x + 3 * (k : Int)) })) := O2.out.put (j := 0) (u := .string (mkT (x + 3 * (k : Int)))) { f with name := mkT (x + 3 * (k : Int)) } (markedF_at HF.out) (by decide) rfl
      clear d1 d2 f1 f2
      go_wp2_with fail
      refine (markText_int _ _ (by omega) (by omega)).mono ?_
      rintro e w4 ⟨rfl, hb4⟩
      have O4 : Hid (ownsR w4 B 84 (.slice (some ⟨g, 0, none⟩) n c) ((markedF x l k).set k { f with name := mkT (x + 3 * (k : Int)) })) := O3.out.all hb4
      have at4 : ((markedF x l k).set k { f with name := mkT (x + 3 * (k : Int)) })[k]? = some { f with name := mkT (x + 3 * (k : Int)) } := List.getElem?_set_self (by rw [markedF_length (by rw [← HN.out]; omega), ← HN.out]; exact hlt)
      obtain ⟨hg4, ⟨d0', d1, d2⟩, f0', f1, f2⟩ := fl_own O4.out at4
      have O5 : Hid (ownsR (w4.setCell ⟨g, k * 3 + 1, none⟩ (.string (mkT (x + 3 * (k : Int) + 1)))) B 84 (.slice (some ⟨g, 0, none⟩) n c) ((markedF x l k).set k { f with name := mkT (x + 3 * (k : Int)), text := mkT (x + 3 * (k : Int) + 1) })) := by
        have := O4.out.put (j := 1) (u := .string (mkT (x + 3 * (k : Int) + 1))) { f with name := mkT (x + 3 * (k : Int)), text := mkT (x + 3 * (k : Int) + 1) } at4 (by decide) rfl
        rw [List.set_set] at this
        exact this
      have at5 : ((markedF x l k).set k { f with name := mkT (x + 3 * (k : Int)), text := mkT (x + 3 * (k : Int) + 1) })[k]? = some { f with name := mkT (x + 3 * (k : Int)), text := mkT (x + 3 * (k : Int) + 1) } := List.getElem?_set_self (by rw [markedF_length (by rw [← HN.out]; omega), ← HN.out]; exact hlt)
      have O6 : Hid (ownsR ((w4.setCell ⟨g, k * 3 + 1, none⟩ (.string (mkT (x + 3 * (k : Int) + 1)))).setCell ⟨g, k * 3 + 2, none⟩ (.int .i64 (x + 3 * (k : Int) + 1 + 1))) B 84 (.slice (some ⟨g, 0, none⟩) n c) (markedF x l (k + 1))) := by
        have := O5.out.put (j := 2) (u := .int .i64 (x + 3 * (k : Int) + 1 + 1)) (mkF (x + 3 * (k : Int))) at5 (by decide) rfl
        rw [List.set_set, markedF_set HF.out] at this
        exact this
      have B4 : w.grownBy w4 (some g) := grown_trans (grown_trans (grown_trans hbel (grown_of_below hb2 _)) (grown_set _ _ _ _)) (grown_of_below hb4 _)
      clear d0' f0' at4 at5 O5 O4 O3 O2 HL d0 f0
      go_wp2
      go_roundw
      case rel => exact ⟨k + 1, by omega, by go_num, by go_num, O6, grown_trans (grown_trans B4 (grown_set _ _ _ _)) (grown_set _ _ _ _)⟩
      case measure => simp [intOf]; omega
    · have hkn : k = n := by omega
      have R : ownsR wr B 84 (.slice (some ⟨g, 0, none⟩) n c) (marksF x n) := by
        have h := HL.out
        have e := markedF_all x l
        rw [← HN.out] at e
        rw [hkn, e] at h
        exact h
      subst hkn
      go_wp2
      go_ret
      exact ⟨rfl, R, hbel⟩

theorem markFileS_any {w : World} {B : Nat} {x : Int} {v : Value} {l : List Fl} (ho : ownsR w B 84 v l) (hn : l.length ≤ 1048577) (hx0 : 0 < x) (hx : x ≤ 100000000) :
    Calls Tryd.prog 65 #[v, .int .i64 x] w fun e w' => e = .returned (.int .i64 (x + 3 * (l.length : Int))) ∧ ownsR w' B 84 v (marksF x l.length) ∧ w.grownBy w' v.ownBlock := by
  have ho2 := ho
  rcases ho.2 with ⟨rfl, h0⟩ | ⟨g, cap, cur, rfl, _⟩
  · have hl : l = [] := List.eq_nil_of_length_eq_zero h0
    subst hl
    exact (markFileS_none none 0 x w).mono fun e w' ⟨he, h⟩ => ⟨by simpa using he, ownsR_nil _ _ _, grown_of_below h _⟩
  · exact markFileS_some g l.length cap B x l w ho2 hn hx0 hx

set_option maxHeartbeats 1000000 in
theorem markDisk_any {w : World} {B : Nat} {x : Int} {v : Value} {l : List Fl} (ho : ownsR w B 84 v l) (hn : l.length ≤ 1048577) (hx0 : 0 < x) (hx : x ≤ 100000000) :
    Calls Tryd.prog 26 #[.agg #[v], .int .i64 x] w fun e w' => e = .returned (.int .i64 (x + 3 * (l.length : Int))) ∧ ownsR w' B 84 v (marksF x l.length) ∧ w.grownBy w' v.ownBlock := by
  obtain ⟨ao, c, rfl⟩ := ho.slice
  have HO : Hid (ownsR w B 84 (.slice ao l.length c) l) := ho
  clear ho
  go_enter Tryd.func26, Tryd.ntmps26
  go_wp2_with (go_at_call 65; refine (markFileS_any (HO.out.alloc _) hn hx0 hx).mono ?_; rintro e w2 ⟨rfl, ho2, hb2⟩)
  go_ret
  exact ⟨rfl, ho2, grown_trans (World.grownBy_alloc w _ _) hb2⟩

end Go.Proofs.YtgpojfkdcdgloaaDoor
