/-
  Files marked, and found marked: the walks. The law on the journal that is opened: the walk. A disk that came in as an argument, opened.
-/
import Derived.Test.YtgpojfkdcdgloaaGreatDoorMt
import Derived.Test.YtgpojfkdcdgloaaGreatDoorG16
import Derived.Test.YtgpojfkdcdgloaaGreatDoorWd
import Derived.Deep.RegionHeld3
import Derived.Test.YtgpojfkdcdgloaaGreatDoorG25
import Derived.Test.YtgpojfkdcdgloaaGreatDoorAcn
import Derived.Test.YtgpojfkdcdgloaaGreatDoorG23
import Derived.Test.YtgpojfkdcdgloaaGreatDoorG1
namespace Go.Proofs.YtgpojfkdcdgloaaGreatDoor
open Go Go.RowKit

/-- A file of marks from x on. -/
def mkF (x : Int) : Fl := ⟨mkT x, mkT (x + 1), x + 1 + 1⟩
/-- The first j marked, the rest as they were. -/
def markedF (x : Int) (l : List Fl) (j : Nat) : List Fl := (List.range j).map (fun i : Nat => mkF (x + 3 * (i : Int))) ++ l.drop j
def marksF (x : Int) (n : Nat) : List Fl := (List.range n).map (fun i : Nat => mkF (x + 3 * (i : Int)))
theorem markedF_length {x : Int} {l : List Fl} {j : Nat} (h : j ≤ l.length) : (markedF x l j).length = l.length := by simp [markedF]; omega
theorem markedF_at {x : Int} {l : List Fl} {j : Nat} {f : Fl} (h : l[j]? = some f) : (markedF x l j)[j]? = some f := by
  unfold markedF
  rw [List.getElem?_append_right (by simp)]
  simp [h]
theorem markedF_set {x : Int} {l : List Fl} {j : Nat} {f : Fl} (h : l[j]? = some f) : (markedF x l j).set j (mkF (x + 3 * (j : Int))) = markedF x l (j + 1) := by
  have hj : j < l.length := (List.getElem?_eq_some_iff.1 h).1
  unfold markedF
  rw [List.set_append_right _ _ (by simp), List.drop_eq_getElem_cons hj, List.range_succ]
  simp
  rw [List.drop_eq_getElem_cons hj]
  rfl
theorem markedF_zero {w : World} {B : Nat} {e : TypeId} {v : Value} {x : Int} {l : List Fl} (h : Hid (ownsR w B e v l)) : Hid (ownsR w B e v (markedF x l 0)) := by
  have e : markedF x l 0 = l := by simp [markedF]
  rw [e]
  exact h
theorem markedF_all (x : Int) (l : List Fl) : markedF x l l.length = marksF x l.length := by simp [markedF, marksF]
theorem marksF_at {x : Int} {n j : Nat} (h : j < n) : (marksF x n)[j]? = some (mkF (x + 3 * (j : Int))) := by simp [marksF, h]
theorem marksF_length (x : Int) (n : Nat) : (marksF x n).length = n := by simp [marksF]

theorem fl_own {w : World} {B : Nat} {g n cap : Nat} {l : List Fl} (h : ownsR w B 49 (.slice (some ⟨g, 0, none⟩) n cap) l) {i : Nat} {x : Fl} (hi : l[i]? = some x) :
    g < w.heap.size ∧ (w.cell? ⟨g, i * 3, none⟩ = some (.string x.name) ∧ w.cell? ⟨g, i * 3 + 1, none⟩ = some (.string x.text) ∧ w.cell? ⟨g, i * 3 + 2, none⟩ = some (.int .i64 x.kept)) ∧ w.frozen? ⟨g, i * 3, none⟩ = false ∧ w.frozen? ⟨g, i * 3 + 1, none⟩ = false ∧ w.frozen? ⟨g, i * 3 + 2, none⟩ = false := by
  obtain ⟨h1, _, _, h2⟩ := h.at hi
  exact ⟨h1, ⟨(h2 0 (by decide)).1, (h2 1 (by decide)).1, (h2 2 (by decide)).1⟩, (h2 0 (by decide)).2, (h2 1 (by decide)).2, (h2 2 (by decide)).2⟩


set_option maxHeartbeats 1000000 in
theorem markFileS_none (ao : Option Addr) (c : Nat) (x : Int) (w : World) :
    Calls Tryz.prog 30 #[.slice ao 0 c, .int .i64 x] w fun e w' => e = .returned (.int .i64 x) ∧ Below w.heap.size w w' := by
  go_enter Tryz.func30, Tryz.ntmps30
  go_wp2
  refine wp_loop_rounds 1 ?_
  rw [rounds_succ]
  go_wp2
  go_ret
  exact ⟨rfl, Below.refl _ _⟩

set_option maxHeartbeats 2000000 in
theorem markFileS_some (g n c B : Nat) (x : Int) (l : List Fl) (w : World) (ho : ownsR w B 49 (.slice (some ⟨g, 0, none⟩) n c) l) (hn : n ≤ 1048577) (hx0 : 0 < x) (hx : x ≤ 100000000) :
    Calls Tryz.prog 30 #[.slice (some ⟨g, 0, none⟩) n c, .int .i64 x] w fun e w' => e = .returned (.int .i64 (x + 3 * (n : Int))) ∧ ownsR w' B 49 (.slice (some ⟨g, 0, none⟩) n c) (marksF x n) ∧ w.grownBy w' (some g) := by
  have HN : Hid (n = l.length) := ho.reads.len
  have HO : Hid (ownsR w B 49 (.slice (some ⟨g, 0, none⟩) n c) l) := ho
  clear ho
  go_enter Tryz.func30, Tryz.ntmps30
  go_wp2
  go_loopw [1, 5] (fun q i wr => ∃ k : Nat, k ≤ n ∧ i = .int .i64 k ∧ q = .int .i64 (x + 3 * (k : Int)) ∧ Hid (ownsR wr B 49 (.slice (some ⟨g, 0, none⟩) n c) (markedF x l k)) ∧ w.grownBy wr (some g)) (fun _ i _ => n - (intOf i).toNat)
  case atStart => exact ⟨0, Nat.zero_le _, rfl, by simp, markedF_zero HO, grown_refl _ _⟩
  case round =>
    obtain ⟨k, hk, rfl, rfl, HL, hbel⟩ := hrel
    by_cases hlt : k < n
    · obtain ⟨f, hf⟩ : ∃ f, l[k]? = some f := ⟨_, List.getElem?_eq_getElem (by rw [← HN.out]; exact hlt)⟩
      have HF : Hid (l[k]? = some f) := hf
      clear hf
      go_wp2_with fail
      refine (markText_int _ _ (by omega) (by omega)).mono ?_
      rintro e w2 ⟨rfl, hb2⟩
      have O2 : Hid (ownsR w2 B 49 (.slice (some ⟨g, 0, none⟩) n c) (markedF x l k)) := HL.out.all hb2
      obtain ⟨hg2, ⟨d0, d1, d2⟩, f0, f1, f2⟩ := fl_own O2.out (markedF_at HF.out)
      have O3 : Hid (ownsR (w2.setCell ⟨g, k * 3, none⟩ (.string (mkT (x + 3 * (k : Int))))) B 49 (.slice (some ⟨g, 0, none⟩) n c) ((markedF x l k).set k { f with name := mkT (x + 3 * (k : Int)) })) := O2.out.put (j := 0) (u := .string (mkT (x + 3 * (k : Int)))) { f with name := mkT (x + 3 * (k : Int)) } (markedF_at HF.out) (by decide) rfl
      clear d1 d2 f1 f2
      go_wp2_with fail
      refine (markText_int _ _ (by omega) (by omega)).mono ?_
      rintro e w4 ⟨rfl, hb4⟩
      have O4 : Hid (ownsR w4 B 49 (.slice (some ⟨g, 0, none⟩) n c) ((markedF x l k).set k { f with name := mkT (x + 3 * (k : Int)) })) := O3.out.all hb4
      have at4 : ((markedF x l k).set k { f with name := mkT (x + 3 * (k : Int)) })[k]? = some { f with name := mkT (x + 3 * (k : Int)) } := List.getElem?_set_self (by rw [markedF_length (by rw [← HN.out]; omega), ← HN.out]; exact hlt)
      obtain ⟨hg4, ⟨d0', d1, d2⟩, f0', f1, f2⟩ := fl_own O4.out at4
      have O5 : Hid (ownsR (w4.setCell ⟨g, k * 3 + 1, none⟩ (.string (mkT (x + 3 * (k : Int) + 1)))) B 49 (.slice (some ⟨g, 0, none⟩) n c) ((markedF x l k).set k { f with name := mkT (x + 3 * (k : Int)), text := mkT (x + 3 * (k : Int) + 1) })) := by
        have := O4.out.put (j := 1) (u := .string (mkT (x + 3 * (k : Int) + 1))) { f with name := mkT (x + 3 * (k : Int)), text := mkT (x + 3 * (k : Int) + 1) } at4 (by decide) rfl
        rw [List.set_set] at this
        exact this
      have at5 : ((markedF x l k).set k { f with name := mkT (x + 3 * (k : Int)), text := mkT (x + 3 * (k : Int) + 1) })[k]? = some { f with name := mkT (x + 3 * (k : Int)), text := mkT (x + 3 * (k : Int) + 1) } := List.getElem?_set_self (by rw [markedF_length (by rw [← HN.out]; omega), ← HN.out]; exact hlt)
      have O6 : Hid (ownsR ((w4.setCell ⟨g, k * 3 + 1, none⟩ (.string (mkT (x + 3 * (k : Int) + 1)))).setCell ⟨g, k * 3 + 2, none⟩ (.int .i64 (x + 3 * (k : Int) + 1 + 1))) B 49 (.slice (some ⟨g, 0, none⟩) n c) (markedF x l (k + 1))) := by
        have := O5.out.put (j := 2) (u := .int .i64 (x + 3 * (k : Int) + 1 + 1)) (mkF (x + 3 * (k : Int))) at5 (by decide) rfl
        rw [List.set_set, markedF_set HF.out] at this
        exact this
      have B4 : w.grownBy w4 (some g) := grown_trans (grown_trans (grown_trans hbel (grown_of_below hb2 _)) (grown_set _ _ _ _)) (grown_of_below hb4 _)
      clear d0' f0' at4 at5 O5 O4 O3 O2 HL d0 f0
      go_wp2
      go_roundw
      case rel => exact ⟨k + 1, by omega, by go_num, by go_num, O6, grown_trans (grown_trans B4 (grown_set _ _ _ _)) (grown_set _ _ _ _)⟩
      case measure => simp [intOf]; omega
    · have hkn : k = n := by omega
      have R : ownsR wr B 49 (.slice (some ⟨g, 0, none⟩) n c) (marksF x n) := by
        have h := HL.out
        have e := markedF_all x l
        rw [← HN.out] at e
        rw [hkn, e] at h
        exact h
      subst hkn
      go_wp2
      go_ret
      exact ⟨rfl, R, hbel⟩

theorem markFileS_any {w : World} {B : Nat} {x : Int} {v : Value} {l : List Fl} (ho : ownsR w B 49 v l) (hn : l.length ≤ 1048577) (hx0 : 0 < x) (hx : x ≤ 100000000) :
    Calls Tryz.prog 30 #[v, .int .i64 x] w fun e w' => e = .returned (.int .i64 (x + 3 * (l.length : Int))) ∧ ownsR w' B 49 v (marksF x l.length) ∧ w.grownBy w' v.ownBlock := by
  have ho2 := ho
  rcases ho.2 with ⟨rfl, h0⟩ | ⟨g, cap, cur, rfl, _⟩
  · have hl : l = [] := List.eq_nil_of_length_eq_zero h0
    subst hl
    exact (markFileS_none none 0 x w).mono fun e w' ⟨he, h⟩ => ⟨by simpa using he, ownsR_nil _ _ _, grown_of_below h _⟩
  · exact markFileS_some g l.length cap B x l w ho2 hn hx0 hx

set_option maxHeartbeats 1000000 in
theorem markDisk_any {w : World} {B : Nat} {x : Int} {v : Value} {l : List Fl} (ho : ownsR w B 49 v l) (hn : l.length ≤ 1048577) (hx0 : 0 < x) (hx : x ≤ 100000000) :
    Calls Tryz.prog 11 #[.agg #[v], .int .i64 x] w fun e w' => e = .returned (.int .i64 (x + 3 * (l.length : Int))) ∧ ownsR w' B 49 v (marksF x l.length) ∧ w.grownBy w' v.ownBlock := by
  obtain ⟨ao, c, rfl⟩ := ho.slice
  have HO : Hid (ownsR w B 49 (.slice ao l.length c) l) := ho
  clear ho
  go_enter Tryz.func11, Tryz.ntmps11
  go_wp2_with (go_at_call 30; refine (markFileS_any (HO.out.alloc _) hn hx0 hx).mono ?_; rintro e w2 ⟨rfl, ho2, hb2⟩)
  go_ret
  exact ⟨rfl, ho2, grown_trans (World.grownBy_alloc w _ _) hb2⟩

end Go.Proofs.YtgpojfkdcdgloaaGreatDoor

namespace Go.Proofs.YtgpojfkdcdgloaaGreatDoor
open Go Go.RowKit

theorem apart_types {α β : Type} [Rec α] [Rec β] {w : World} {B1 B2 : Nat} {e1 e2 : TypeId} {v1 v2 : Value} {l1 : List α} {l2 : List β} (h1 : ownsR w B1 e1 v1 l1) (h2 : ownsR w B2 e2 v2 l2) (hne : e1 ≠ e2) : v1.ownBlock = none ∨ v1.ownBlock ≠ v2.ownBlock := by
  rcases h1.2 with ⟨rfl, _⟩ | ⟨g, cap, cur, rfl, _, hg, _⟩
  · exact .inl rfl
  · rcases h2.2 with ⟨rfl, _⟩ | ⟨g2, cap2, cur2, rfl, _, hg2, _⟩
    · exact .inr (by simp [Value.ownBlock])
    · refine .inr fun h => ?_
      have hh : g = g2 := by simpa [Value.ownBlock] using h
      subst hh
      rw [hg] at hg2
      simp at hg2
      exact hne hg2.2
theorem eqActS_val {w : World} {va vb : Value} {l : List Ac} (ha : Reads w va l) (hb : Reads w vb l) (hn : l.length ≤ 1048577) :
    Calls Tryz.prog 9 #[va, vb] w fun e w' => e = .returned (.bool true) ∧ Below w.heap.size w w' := by
  obtain ⟨ao, c, rfl, _⟩ := id ha
  obtain ⟨bo, d, rfl, _⟩ := id hb
  exact eqActS_any ao bo _ c d l w ha hb hn
theorem heldActS_val {w : World} {v : Value} {x : Int} {n : Nat} (hr : Reads w v (marksAc x n)) (hn : n ≤ 1048577) (hx0 : 0 < x) (hx : x ≤ 100000000) :
    Calls Tryz.prog 15 #[v, .int .i64 x] w fun e w' => e = .returned (.int .i64 (x + 4 * (n : Int))) ∧ Below w.heap.size w w' := by
  obtain ⟨ao, c, rfl, _⟩ := id hr
  rw [marksAc_length] at hr ⊢
  exact heldActS_any ao n c x w hr hn hx0 hx
theorem cells1_new {w w' : World} {a : Value} {t : TypeId} (hb : Below (w.alloc (.cells #[a] t)).heap.size (w.alloc (.cells #[a] t)) w') : w'.cell? ⟨w.heap.size, 0, none⟩ = some a :=
  (hb.cell (by simp)).trans (by simp [go_sem])
theorem specOpen_any {w : World} {v : Value} {l : List Fl} (hr : Reads w v l) (hn : l.length ≤ 9223372036854775807) : Calls Tryz.prog 5 #[.agg #[v]] w (OpP l w) := by
  obtain ⟨ao, c, rfl, _⟩ := id hr
  cases hd : diskR l with
  | false => exact specOpen_wrong ao _ c l w hr hd hn
  | true => exact specOpen_right ao _ c l w hr hd
theorem opRJ_length (l : List Fl) : (opRJ l).l.length ≤ 60 := by
  unfold opRJ
  split
  · exact rjJ_len _ _
  · exact Nat.zero_le _
theorem opRA_length (l : List Fl) : (opRA l).length ≤ 1048577 := by
  unfold opRA
  split
  · rename_i h
    unfold opB at h
    rw [Bool.and_eq_true] at h
    have h1 := disk_len h.1
    have h2 := drops_length (newN l) l
    unfold opA
    rw [List.length_append]
    split
    · simp; omega
    · have h3 : ∀ a b c, (renA a b c).length = 4 := fun _ _ _ => rfl
      rw [h3]; omega
  · exact Nat.zero_le _
set_option maxRecDepth 10000 in
set_option maxHeartbeats 4000000 in
theorem law_OpenJournal (ao : Option Addr) (n cap : Nat) (l : List Fl) (w : World) (hr : Reads w (.slice ao n cap) l) (hs : Small l) (hn : n ≤ 9223372036854775807) (hp : PowIs w) (ht : TableIs w) (he : ErrIs w) :
    Calls Tryz.prog 3 #[.agg #[.slice ao n cap]] w fun e w' => e = .returned (.bool true) ∧ Below w.heap.size w w' := by
  have HR : Hid (Reads w (.slice ao n cap) l) := hr
  have HN : Hid (n = l.length) := hr.len
  have HS : Hid (Small l) := hs
  have HP : Hid (PowIs w) := hp
  have HT : Hid (TableIs w) := ht
  have HE : Hid (ErrIs w) := he
  clear hr hs hp ht he
  obtain ⟨q, HQ⟩ : ∃ q, Hid (opB l = q) := ⟨_, rfl⟩
  obtain ⟨jn, H1⟩ : ∃ q, Hid (opRN l = q) := ⟨_, rfl⟩
  obtain ⟨jt, H2⟩ : ∃ q, Hid ((opRJ l).t = q) := ⟨_, rfl⟩
  obtain ⟨jv, H3⟩ : ∃ q, Hid ((opRJ l).v = q) := ⟨_, rfl⟩
  obtain ⟨js, H4⟩ : ∃ q, Hid ((opRJ l).s = q) := ⟨_, rfl⟩
  obtain ⟨ju, H5⟩ : ∃ q, Hid ((opRJ l).st = q) := ⟨_, rfl⟩
  obtain ⟨L, H6⟩ : ∃ q, Hid ((opRJ l).l = q) := ⟨_, rfl⟩
  obtain ⟨M, H7⟩ : ∃ q, Hid (opRA l = q) := ⟨_, rfl⟩
  have HLO : Hid (L.length ≤ 60) := by show _ ≤ _; rw [← H6.out]; exact opRJ_length l
  have HO : Hid (M.length ≤ 1048577) := by show _ ≤ _; rw [← H7.out]; exact opRA_length l
  have cv : Hid (∀ W e w', OpP l W e w' → ∃ v u, e = .returned (.tuple #[jV jn jt jv js ju v, u, .bool q]) ∧ ownsR w' W.heap.size 110 v L ∧ ownsR w' W.heap.size 57 u M ∧ Below W.heap.size W w') := fun W e w' h => by
    obtain ⟨v, u, h1, h2, h3, h4⟩ := h
    rw [HQ.out, H1.out, H2.out, H3.out, H4.out, H5.out] at h1
    rw [H6.out] at h2
    rw [H7.out] at h3
    exact ⟨v, u, h1, h2, h3, h4⟩
  go_enter Tryz.func3, Tryz.ntmps3
  go_wp2_with fail
  refine (szDisk_any _ l _ _ (HR.out.alloc _) HS.out (by decide) (by decide) (by rw [← HN.out]; exact hn)).mono ?_
  rintro e w0 ⟨r, rfl, hr, hb0⟩
  have c_a0_0 := cells1_new hb0
  have B0 := below_new hb0
  clear hb0
  rcases hr with rfl | ⟨hr0, hr1⟩
  · go_wp2
    go_ret
    exact ⟨rfl, B0⟩
  · have HL : Hid (l.length ≤ 1048576) := by show l.length ≤ 1048576; omega
    clear hr1
    have CS : Hid (∀ (W : World) (B : Nat) (x : Value), ownsR W B 49 x l → Calls Tryz.prog 5 #[.agg #[x]] W fun e w' => ∃ v u, e = .returned (.tuple #[jV jn jt jv js ju v, u, .bool q]) ∧ ownsR w' W.heap.size 110 v L ∧ ownsR w' W.heap.size 57 u M ∧ Below W.heap.size W w') := fun W B x h1 => (specOpen_any h1.reads (Nat.le_trans HL.out (by decide))).mono fun e w' h => cv.out W e w' h
    have CI : Hid (∀ (W : World) (B : Nat) (x : Value), ownsR W B 49 x l → PowIs W → TableIs W → ErrIs W → Calls Tryz.prog 7 #[.agg #[x]] W fun e w' => ∃ v u, e = .returned (.tuple #[jV jn jt jv js ju v, u, .bool q]) ∧ ownsR w' W.heap.size 110 v L ∧ ownsR w' W.heap.size 57 u M ∧ Below W.heap.size W w') := fun W B x h1 h2 h3 h4 => (openJournal_any h1.reads h2 h3 h4).mono fun e w' h => cv.out W e w' h
    clear cv HQ H1 H2 H3 H4 H5 H6 H7
    go_wp2_with fail
    refine (toDisk_any _ l _ (HR.out.below B0) HL.out).mono ?_
    rintro e w1 ⟨v1, rfl, ho1, hb1⟩
    obtain ⟨a1, n1, d1, rfl⟩ := ho1.slice3
    have ac_a_d := cell_apart c_a0_0 ho1
    have c_a0_1 := cell_up hb1 c_a0_0
    have B1 : Below w.heap.size w w1 := B0.trans (hb1.mono B0.size)
    have O_d_1 : Hid (ownsR w1 w.heap.size 49 (.slice a1 n1 d1) (l)) := ho1.mono B0.size
    clear c_a0_0 B0 hb1 ho1
    go_wp2_with fail
    refine (CS.out _ _ _ O_d_1.out).mono ?_
    rintro e w2 ⟨v2, u2, rfl, ho2, hq2, hb2⟩
    obtain ⟨a2, n2, d2, rfl⟩ := ho2.slice3
    obtain ⟨aa2, nn2, dd2, rfl⟩ := hq2.slice3
    have ap_d_w := apart_new O_d_1.out ho2
    have ap_w_d := apart_old O_d_1.out ho2
    have ac_a_w := cell_apart c_a0_1 ho2
    have ap_d_wa := apart_new O_d_1.out hq2
    have ap_wa_d := apart_old O_d_1.out hq2
    have ac_a_wa := cell_apart c_a0_1 hq2
    have ap_w_wa := apart_types ho2 hq2 (by decide)
    have ap_wa_w := apart_types hq2 ho2 (by decide)
    have c_a0_2 := cell_up hb2 c_a0_1
    have O_d_2 : Hid (ownsR w2 w.heap.size 49 (.slice a1 n1 d1) (l)) := O_d_1.out.all hb2
    have B2 : Below w.heap.size w w2 := B1.trans (hb2.mono B1.size)
    have O_w_2 : Hid (ownsR w2 w.heap.size 110 (.slice a2 n2 d2) (L)) := ho2.mono B1.size
    have O_wa_2 : Hid (ownsR w2 w.heap.size 57 (.slice aa2 nn2 dd2) (M)) := hq2.mono B1.size
    clear c_a0_1 O_d_1 B1 hb2 ho2 hq2
    have sz_a : w.heap.size < w2.heap.size := World.block_lt_of_cell? _ _ c_a0_2
    go_wp2_with fail
    refine (toDisk_any _ l _ ((HR.out.below B2).alloc _) HL.out).mono ?_
    rintro e w3 ⟨v3, rfl, ho3, hb3⟩
    obtain ⟨a3, n3, d3, rfl⟩ := ho3.slice3
    have ap_w_x := apart_new (O_w_2.out.alloc _) ho3
    have ap_x_w := apart_old (O_w_2.out.alloc _) ho3
    have ap_wa_x := apart_new (O_wa_2.out.alloc _) ho3
    have ap_x_wa := apart_old (O_wa_2.out.alloc _) ho3
    have ac_a_x := cell_apart (cell_up (ba (Below.refl _ w2) _) c_a0_2) ho3
    have ac_w_x := cell_apart (p := ⟨w2.heap.size, 0, none⟩) (u := .int .i64 jn) (w := (w2.alloc (Obj.cells #[.int .i64 jn, .int .i64 jt, .int .i64 jv, .int .i64 js, .int .i64 ju, .slice a2 n2 d2] 30))) (by simp [go_sem]) ho3
    obtain ⟨c_w0_3, c_w1_3, c_w2_3, c_w3_3, c_w4_3, c_w5_3⟩ := cells6_new hb3
    have ac_w_w := cell_apart_new O_w_2.out
    have ac_w_wa := cell_apart_new O_wa_2.out
    have hb3 := below_new hb3
    have c_a0_3 := cell_up hb3 c_a0_2
    have O_w_3 : Hid (ownsR w3 w.heap.size 110 (.slice a2 n2 d2) (L)) := O_w_2.out.all hb3
    have O_wa_3 : Hid (ownsR w3 w.heap.size 57 (.slice aa2 nn2 dd2) (M)) := O_wa_2.out.all hb3
    have B3 : Below w.heap.size w w3 := B2.trans (hb3.mono B2.size)
    have O_x_3 : Hid (ownsR w3 w.heap.size 49 (.slice a3 n3 d3) (l)) := ho3.mono (by have := B2.size; simp; omega)
    clear c_a0_2 sz_a O_w_2 O_wa_2 B2 hb3 ho3
    have sz_a : w.heap.size < w3.heap.size := World.block_lt_of_cell? _ _ c_a0_3
    have sz_w : w2.heap.size < w3.heap.size := World.block_lt_of_cell? _ _ c_w0_3
    go_wp2_with fail
    refine (CI.out _ _ _ (O_x_3.out.alloc _) ((HP.out.below B3).below (ba (Below.refl _ _) _)) ((HT.out.below B3).below (ba (Below.refl _ _) _)) ((HE.out.below B3).below (ba (Below.refl _ _) _))).mono ?_
    rintro e w4 ⟨v4, u4, rfl, ho4, hq4, hb4⟩
    obtain ⟨a4, n4, d4, rfl⟩ := ho4.slice3
    obtain ⟨aa4, nn4, dd4, rfl⟩ := hq4.slice3
    have ap_w_g := apart_new (O_w_3.out.alloc _) ho4
    have ap_g_w := apart_old (O_w_3.out.alloc _) ho4
    have ap_wa_g := apart_new (O_wa_3.out.alloc _) ho4
    have ap_g_wa := apart_old (O_wa_3.out.alloc _) ho4
    have ap_x_g := apart_new (O_x_3.out.alloc _) ho4
    have ap_g_x := apart_old (O_x_3.out.alloc _) ho4
    have ac_a_g := cell_apart (cell_up (ba (Below.refl _ w3) _) c_a0_3) ho4
    have ac_w_g := cell_apart (cell_up (ba (Below.refl _ w3) _) c_w0_3) ho4
    have ac_x_g := cell_apart (p := ⟨w3.heap.size, 0, none⟩) (u := .slice a3 n3 d3) (w := (w3.alloc (Obj.cells #[.slice a3 n3 d3] 36))) (by simp [go_sem]) ho4
    have ap_w_ga := apart_new (O_w_3.out.alloc _) hq4
    have ap_ga_w := apart_old (O_w_3.out.alloc _) hq4
    have ap_wa_ga := apart_new (O_wa_3.out.alloc _) hq4
    have ap_ga_wa := apart_old (O_wa_3.out.alloc _) hq4
    have ap_x_ga := apart_new (O_x_3.out.alloc _) hq4
    have ap_ga_x := apart_old (O_x_3.out.alloc _) hq4
    have ac_a_ga := cell_apart (cell_up (ba (Below.refl _ w3) _) c_a0_3) hq4
    have ac_w_ga := cell_apart (cell_up (ba (Below.refl _ w3) _) c_w0_3) hq4
    have ac_x_ga := cell_apart (p := ⟨w3.heap.size, 0, none⟩) (u := .slice a3 n3 d3) (w := (w3.alloc (Obj.cells #[.slice a3 n3 d3] 36))) (by simp [go_sem]) hq4
    have ap_g_ga := apart_types ho4 hq4 (by decide)
    have ap_ga_g := apart_types hq4 ho4 (by decide)
    have c_x0_4 := cells1_new hb4
    have ac_x_w := cell_apart_new O_w_3.out
    have ac_x_wa := cell_apart_new O_wa_3.out
    have ac_x_x := cell_apart_new O_x_3.out
    have hb4 := below_new hb4
    have c_a0_4 := cell_up hb4 c_a0_3
    have c_w0_4 := cell_up hb4 c_w0_3
    have c_w1_4 := cell_up hb4 c_w1_3
    have c_w2_4 := cell_up hb4 c_w2_3
    have c_w3_4 := cell_up hb4 c_w3_3
    have c_w4_4 := cell_up hb4 c_w4_3
    have c_w5_4 := cell_up hb4 c_w5_3
    have O_w_4 : Hid (ownsR w4 w.heap.size 110 (.slice a2 n2 d2) (L)) := O_w_3.out.all hb4
    have O_wa_4 : Hid (ownsR w4 w.heap.size 57 (.slice aa2 nn2 dd2) (M)) := O_wa_3.out.all hb4
    have O_x_4 : Hid (ownsR w4 w.heap.size 49 (.slice a3 n3 d3) (l)) := O_x_3.out.all hb4
    have B4 : Below w.heap.size w w4 := B3.trans (hb4.mono B3.size)
    have O_g_4 : Hid (ownsR w4 w.heap.size 110 (.slice a4 n4 d4) (L)) := ho4.mono (by have := B3.size; simp; omega)
    have O_ga_4 : Hid (ownsR w4 w.heap.size 57 (.slice aa4 nn4 dd4) (M)) := hq4.mono (by have := B3.size; simp; omega)
    clear c_a0_3 c_w0_3 c_w1_3 c_w2_3 c_w3_3 c_w4_3 c_w5_3 sz_a sz_w O_w_3 O_wa_3 O_x_3 B3 hb4 ho4 hq4
    have sz_a : w.heap.size < w4.heap.size := World.block_lt_of_cell? _ _ c_a0_4
    have sz_w : w2.heap.size < w4.heap.size := World.block_lt_of_cell? _ _ c_w0_4
    have sz_x : w3.heap.size < w4.heap.size := World.block_lt_of_cell? _ _ c_x0_4
    go_wp2_with fail
    refine (eqJournal_any jn jt jv js ju _ _ L _ (ownsR.reads (O_g_4.out.alloc _)) (ownsR.reads (O_w_4.out.alloc _)) (Nat.le_trans HLO.out (by decide))).mono ?_
    rintro e w5 ⟨rfl, hb5⟩
    obtain ⟨c_g0_5, c_g1_5, c_g2_5, c_g3_5, c_g4_5, c_g5_5⟩ := cells6_new hb5
    have ac_g_w := cell_apart_new O_w_4.out
    have ac_g_wa := cell_apart_new O_wa_4.out
    have ac_g_x := cell_apart_new O_x_4.out
    have ac_g_g := cell_apart_new O_g_4.out
    have ac_g_ga := cell_apart_new O_ga_4.out
    have hb5 := below_new hb5
    have c_a0_5 := cell_up hb5 c_a0_4
    have c_w0_5 := cell_up hb5 c_w0_4
    have c_w1_5 := cell_up hb5 c_w1_4
    have c_w2_5 := cell_up hb5 c_w2_4
    have c_w3_5 := cell_up hb5 c_w3_4
    have c_w4_5 := cell_up hb5 c_w4_4
    have c_w5_5 := cell_up hb5 c_w5_4
    have c_x0_5 := cell_up hb5 c_x0_4
    have O_w_5 : Hid (ownsR w5 w.heap.size 110 (.slice a2 n2 d2) (L)) := O_w_4.out.all hb5
    have O_wa_5 : Hid (ownsR w5 w.heap.size 57 (.slice aa2 nn2 dd2) (M)) := O_wa_4.out.all hb5
    have O_x_5 : Hid (ownsR w5 w.heap.size 49 (.slice a3 n3 d3) (l)) := O_x_4.out.all hb5
    have O_g_5 : Hid (ownsR w5 w.heap.size 110 (.slice a4 n4 d4) (L)) := O_g_4.out.all hb5
    have O_ga_5 : Hid (ownsR w5 w.heap.size 57 (.slice aa4 nn4 dd4) (M)) := O_ga_4.out.all hb5
    have B5 : Below w.heap.size w w5 := B4.trans (hb5.mono B4.size)
    clear c_a0_4 c_w0_4 c_w1_4 c_w2_4 c_w3_4 c_w4_4 c_w5_4 c_x0_4 sz_a sz_w sz_x O_w_4 O_wa_4 O_x_4 O_g_4 O_ga_4 B4 hb5
    go_wp2_with fail
    refine (eqActS_val (ownsR.reads O_ga_5.out) (ownsR.reads O_wa_5.out) HO.out).mono ?_
    rintro e w6 ⟨rfl, hb6⟩
    have c_a0_6 := cell_up hb6 c_a0_5
    have c_w0_6 := cell_up hb6 c_w0_5
    have c_w1_6 := cell_up hb6 c_w1_5
    have c_w2_6 := cell_up hb6 c_w2_5
    have c_w3_6 := cell_up hb6 c_w3_5
    have c_w4_6 := cell_up hb6 c_w4_5
    have c_w5_6 := cell_up hb6 c_w5_5
    have c_x0_6 := cell_up hb6 c_x0_5
    have c_g0_6 := cell_up hb6 c_g0_5
    have c_g1_6 := cell_up hb6 c_g1_5
    have c_g2_6 := cell_up hb6 c_g2_5
    have c_g3_6 := cell_up hb6 c_g3_5
    have c_g4_6 := cell_up hb6 c_g4_5
    have c_g5_6 := cell_up hb6 c_g5_5
    have O_w_6 : Hid (ownsR w6 w.heap.size 110 (.slice a2 n2 d2) (L)) := O_w_5.out.all hb6
    have O_wa_6 : Hid (ownsR w6 w.heap.size 57 (.slice aa2 nn2 dd2) (M)) := O_wa_5.out.all hb6
    have O_x_6 : Hid (ownsR w6 w.heap.size 49 (.slice a3 n3 d3) (l)) := O_x_5.out.all hb6
    have O_g_6 : Hid (ownsR w6 w.heap.size 110 (.slice a4 n4 d4) (L)) := O_g_5.out.all hb6
    have O_ga_6 : Hid (ownsR w6 w.heap.size 57 (.slice aa4 nn4 dd4) (M)) := O_ga_5.out.all hb6
    have B6 : Below w.heap.size w w6 := B5.trans (hb6.mono B5.size)
    clear c_a0_5 c_w0_5 c_w1_5 c_w2_5 c_w3_5 c_w4_5 c_w5_5 c_x0_5 c_g0_5 c_g1_5 c_g2_5 c_g3_5 c_g4_5 c_g5_5 O_w_5 O_wa_5 O_x_5 O_g_5 O_ga_5 B5 hb6
    have K_x0 := Below.cellOf (B := w6.heap.size) (W := w6) (p := ⟨w3.heap.size, 0, none⟩) (v := .slice a3 n3 d3) (World.block_lt_of_cell? _ _ c_x0_6) c_x0_6
    have K_a0 := Below.cellOf (B := w6.heap.size) (W := w6) (p := ⟨w.heap.size, 0, none⟩) (v := .slice ao n cap) (World.block_lt_of_cell? _ _ c_a0_6) c_a0_6
    go_wp2_with fail
    go_region_held3 (fun w' => Below w6.heap.size w6 w') ((first | exact (Below.refl _ _).drew | exact hS7 | exact hS8)) ((first | (go_at_call 6; refine (toDisk_any _ l _ (HR.out.below (Below.on B6 (by assumption))) HL.out).mono ?_; rintro e w7 ⟨v7, rfl, ho7, hb7⟩; obtain ⟨a7, n7, d7, rfl⟩ := ho7.slice3; have hS7 := keep_on (B := w6.heap.size) (W := w6) hb7 (by assumption) (Nat.le_refl _)) | (go_at_call 10; refine (eqDisk_any _ _ l _ ((ownsR.reads O_x_6.out).below hS7) ho7.reads (Nat.le_trans HL.out (by decide))).mono ?_; rintro e w8 ⟨rfl, hb8⟩; have hS8 := keep_on (B := w6.heap.size) (W := w6) hb8 hS7 (Nat.le_refl _))))
    clear ho7 hb7 hb8 hS7 K_x0 K_a0
    have c_a0_8 := cell_up hS8 c_a0_6
    have c_w0_8 := cell_up hS8 c_w0_6
    have c_w1_8 := cell_up hS8 c_w1_6
    have c_w2_8 := cell_up hS8 c_w2_6
    have c_w3_8 := cell_up hS8 c_w3_6
    have c_w4_8 := cell_up hS8 c_w4_6
    have c_w5_8 := cell_up hS8 c_w5_6
    have c_x0_8 := cell_up hS8 c_x0_6
    have c_g0_8 := cell_up hS8 c_g0_6
    have c_g1_8 := cell_up hS8 c_g1_6
    have c_g2_8 := cell_up hS8 c_g2_6
    have c_g3_8 := cell_up hS8 c_g3_6
    have c_g4_8 := cell_up hS8 c_g4_6
    have c_g5_8 := cell_up hS8 c_g5_6
    have O_w_8 : Hid (ownsR w8 w.heap.size 110 (.slice a2 n2 d2) (L)) := O_w_6.out.all hS8
    have O_wa_8 : Hid (ownsR w8 w.heap.size 57 (.slice aa2 nn2 dd2) (M)) := O_wa_6.out.all hS8
    have O_x_8 : Hid (ownsR w8 w.heap.size 49 (.slice a3 n3 d3) (l)) := O_x_6.out.all hS8
    have O_g_8 : Hid (ownsR w8 w.heap.size 110 (.slice a4 n4 d4) (L)) := O_g_6.out.all hS8
    have O_ga_8 : Hid (ownsR w8 w.heap.size 57 (.slice aa4 nn4 dd4) (M)) := O_ga_6.out.all hS8
    have B8 : Below w.heap.size w w8 := B6.trans (hS8.mono B6.size)
    clear c_a0_6 c_w0_6 c_w1_6 c_w2_6 c_w3_6 c_w4_6 c_w5_6 c_x0_6 c_g0_6 c_g1_6 c_g2_6 c_g3_6 c_g4_6 c_g5_6 O_w_6 O_wa_6 O_x_6 O_g_6 O_ga_6 B6 hS8
    go_wp2_with fail
    refine (markDisk_any (x := 1) O_x_8.out (Nat.le_trans HL.out (by decide)) (by decide) (by decide)).mono ?_
    rintro e w9 ⟨rfl, hm9, hg9⟩
    have c_a0_9 := cell_other c_a0_8 hg9 ac_a_x
    have c_w0_9 := cell_other c_w0_8 hg9 ac_w_x
    have c_w1_9 := cell_other c_w1_8 hg9 ac_w_x
    have c_w2_9 := cell_other c_w2_8 hg9 ac_w_x
    have c_w3_9 := cell_other c_w3_8 hg9 ac_w_x
    have c_w4_9 := cell_other c_w4_8 hg9 ac_w_x
    have c_w5_9 := cell_other c_w5_8 hg9 ac_w_x
    have c_x0_9 := cell_other c_x0_8 hg9 ac_x_x
    have c_g0_9 := cell_other c_g0_8 hg9 ac_g_x
    have c_g1_9 := cell_other c_g1_8 hg9 ac_g_x
    have c_g2_9 := cell_other c_g2_8 hg9 ac_g_x
    have c_g3_9 := cell_other c_g3_8 hg9 ac_g_x
    have c_g4_9 := cell_other c_g4_8 hg9 ac_g_x
    have c_g5_9 := cell_other c_g5_8 hg9 ac_g_x
    have O_w_9 : Hid (ownsR w9 w.heap.size 110 (.slice a2 n2 d2) (L)) := O_w_8.out.other hg9 ap_w_x
    have O_wa_9 : Hid (ownsR w9 w.heap.size 57 (.slice aa2 nn2 dd2) (M)) := O_wa_8.out.other hg9 ap_wa_x
    have O_g_9 : Hid (ownsR w9 w.heap.size 110 (.slice a4 n4 d4) (L)) := O_g_8.out.other hg9 ap_g_x
    have O_ga_9 : Hid (ownsR w9 w.heap.size 57 (.slice aa4 nn4 dd4) (M)) := O_ga_8.out.other hg9 ap_ga_x
    have B9 : Below w.heap.size w w9 := below_marked B8 O_x_8.out hg9
    have O_x_9 : Hid (ownsR w9 w.heap.size 49 (.slice a3 n3 d3) (marksF 1 l.length)) := hm9
    clear c_a0_8 c_w0_8 c_w1_8 c_w2_8 c_w3_8 c_w4_8 c_w5_8 c_x0_8 c_g0_8 c_g1_8 c_g2_8 c_g3_8 c_g4_8 c_g5_8 O_w_8 O_wa_8 O_g_8 O_ga_8 B8 hm9 O_x_8 hg9
    go_wp2_with fail
    refine (eqJournal_any jn jt jv js ju _ _ L _ (ownsR.reads O_g_9.out) (ownsR.reads O_w_9.out) (Nat.le_trans HLO.out (by decide))).mono ?_
    rintro e w10 ⟨rfl, hb10⟩
    have c_a0_10 := cell_up hb10 c_a0_9
    have c_w0_10 := cell_up hb10 c_w0_9
    have c_w1_10 := cell_up hb10 c_w1_9
    have c_w2_10 := cell_up hb10 c_w2_9
    have c_w3_10 := cell_up hb10 c_w3_9
    have c_w4_10 := cell_up hb10 c_w4_9
    have c_w5_10 := cell_up hb10 c_w5_9
    have c_x0_10 := cell_up hb10 c_x0_9
    have c_g0_10 := cell_up hb10 c_g0_9
    have c_g1_10 := cell_up hb10 c_g1_9
    have c_g2_10 := cell_up hb10 c_g2_9
    have c_g3_10 := cell_up hb10 c_g3_9
    have c_g4_10 := cell_up hb10 c_g4_9
    have c_g5_10 := cell_up hb10 c_g5_9
    have O_w_10 : Hid (ownsR w10 w.heap.size 110 (.slice a2 n2 d2) (L)) := O_w_9.out.all hb10
    have O_wa_10 : Hid (ownsR w10 w.heap.size 57 (.slice aa2 nn2 dd2) (M)) := O_wa_9.out.all hb10
    have O_g_10 : Hid (ownsR w10 w.heap.size 110 (.slice a4 n4 d4) (L)) := O_g_9.out.all hb10
    have O_ga_10 : Hid (ownsR w10 w.heap.size 57 (.slice aa4 nn4 dd4) (M)) := O_ga_9.out.all hb10
    have B10 : Below w.heap.size w w10 := B9.trans (hb10.mono B9.size)
    clear c_a0_9 c_w0_9 c_w1_9 c_w2_9 c_w3_9 c_w4_9 c_w5_9 c_x0_9 c_g0_9 c_g1_9 c_g2_9 c_g3_9 c_g4_9 c_g5_9 O_w_9 O_wa_9 O_g_9 O_ga_9 B9 hb10
    go_wp2_with fail
    refine (eqActS_val (ownsR.reads O_ga_10.out) (ownsR.reads O_wa_10.out) HO.out).mono ?_
    rintro e w11 ⟨rfl, hb11⟩
    have c_a0_11 := cell_up hb11 c_a0_10
    have c_w0_11 := cell_up hb11 c_w0_10
    have c_w1_11 := cell_up hb11 c_w1_10
    have c_w2_11 := cell_up hb11 c_w2_10
    have c_w3_11 := cell_up hb11 c_w3_10
    have c_w4_11 := cell_up hb11 c_w4_10
    have c_w5_11 := cell_up hb11 c_w5_10
    have c_x0_11 := cell_up hb11 c_x0_10
    have c_g0_11 := cell_up hb11 c_g0_10
    have c_g1_11 := cell_up hb11 c_g1_10
    have c_g2_11 := cell_up hb11 c_g2_10
    have c_g3_11 := cell_up hb11 c_g3_10
    have c_g4_11 := cell_up hb11 c_g4_10
    have c_g5_11 := cell_up hb11 c_g5_10
    have O_w_11 : Hid (ownsR w11 w.heap.size 110 (.slice a2 n2 d2) (L)) := O_w_10.out.all hb11
    have O_wa_11 : Hid (ownsR w11 w.heap.size 57 (.slice aa2 nn2 dd2) (M)) := O_wa_10.out.all hb11
    have O_g_11 : Hid (ownsR w11 w.heap.size 110 (.slice a4 n4 d4) (L)) := O_g_10.out.all hb11
    have O_ga_11 : Hid (ownsR w11 w.heap.size 57 (.slice aa4 nn4 dd4) (M)) := O_ga_10.out.all hb11
    have B11 : Below w.heap.size w w11 := B10.trans (hb11.mono B10.size)
    clear c_a0_10 c_w0_10 c_w1_10 c_w2_10 c_w3_10 c_w4_10 c_w5_10 c_x0_10 c_g0_10 c_g1_10 c_g2_10 c_g3_10 c_g4_10 c_g5_10 O_w_10 O_wa_10 O_g_10 O_ga_10 B10 hb11
    go_wp2_with fail
    refine (markJournal_any (n := jn) (t := jt) (v := jv) (s := js) (st := ju) (x := 1) O_g_11.out (Nat.le_trans HLO.out (by decide)) (by decide) (by decide)).mono ?_
    rintro e w12 ⟨rfl, hm12, hg12⟩
    have c_a0_12 := cell_other c_a0_11 hg12 ac_a_g
    have c_w0_12 := cell_other c_w0_11 hg12 ac_w_g
    have c_w1_12 := cell_other c_w1_11 hg12 ac_w_g
    have c_w2_12 := cell_other c_w2_11 hg12 ac_w_g
    have c_w3_12 := cell_other c_w3_11 hg12 ac_w_g
    have c_w4_12 := cell_other c_w4_11 hg12 ac_w_g
    have c_w5_12 := cell_other c_w5_11 hg12 ac_w_g
    have c_x0_12 := cell_other c_x0_11 hg12 ac_x_g
    have c_g0_12 := cell_other c_g0_11 hg12 ac_g_g
    have c_g1_12 := cell_other c_g1_11 hg12 ac_g_g
    have c_g2_12 := cell_other c_g2_11 hg12 ac_g_g
    have c_g3_12 := cell_other c_g3_11 hg12 ac_g_g
    have c_g4_12 := cell_other c_g4_11 hg12 ac_g_g
    have c_g5_12 := cell_other c_g5_11 hg12 ac_g_g
    have O_w_12 : Hid (ownsR w12 w.heap.size 110 (.slice a2 n2 d2) (L)) := O_w_11.out.other hg12 ap_w_g
    have O_wa_12 : Hid (ownsR w12 w.heap.size 57 (.slice aa2 nn2 dd2) (M)) := O_wa_11.out.other hg12 ap_wa_g
    have O_ga_12 : Hid (ownsR w12 w.heap.size 57 (.slice aa4 nn4 dd4) (M)) := O_ga_11.out.other hg12 ap_ga_g
    have B12 : Below w.heap.size w w12 := below_marked B11 O_g_11.out hg12
    have O_g_12 : Hid (ownsR w12 w.heap.size 110 (.slice a4 n4 d4) (marksEn 1 L.length)) := hm12
    clear c_a0_11 c_w0_11 c_w1_11 c_w2_11 c_w3_11 c_w4_11 c_w5_11 c_x0_11 c_g0_11 c_g1_11 c_g2_11 c_g3_11 c_g4_11 c_g5_11 O_w_11 O_wa_11 O_ga_11 B11 hm12 O_g_11 hg12
    go_wp2_with fail
    refine (markActS_any (x := 1 + 3 * (L.length : Int)) O_ga_12.out HO.out (by omega) (by have := HLO.out; omega)).mono ?_
    rintro e w13 ⟨rfl, hm13, hg13⟩
    have c_a0_13 := cell_other c_a0_12 hg13 ac_a_ga
    have c_w0_13 := cell_other c_w0_12 hg13 ac_w_ga
    have c_w1_13 := cell_other c_w1_12 hg13 ac_w_ga
    have c_w2_13 := cell_other c_w2_12 hg13 ac_w_ga
    have c_w3_13 := cell_other c_w3_12 hg13 ac_w_ga
    have c_w4_13 := cell_other c_w4_12 hg13 ac_w_ga
    have c_w5_13 := cell_other c_w5_12 hg13 ac_w_ga
    have c_x0_13 := cell_other c_x0_12 hg13 ac_x_ga
    have c_g0_13 := cell_other c_g0_12 hg13 ac_g_ga
    have c_g1_13 := cell_other c_g1_12 hg13 ac_g_ga
    have c_g2_13 := cell_other c_g2_12 hg13 ac_g_ga
    have c_g3_13 := cell_other c_g3_12 hg13 ac_g_ga
    have c_g4_13 := cell_other c_g4_12 hg13 ac_g_ga
    have c_g5_13 := cell_other c_g5_12 hg13 ac_g_ga
    have O_w_13 : Hid (ownsR w13 w.heap.size 110 (.slice a2 n2 d2) (L)) := O_w_12.out.other hg13 ap_w_ga
    have O_wa_13 : Hid (ownsR w13 w.heap.size 57 (.slice aa2 nn2 dd2) (M)) := O_wa_12.out.other hg13 ap_wa_ga
    have O_g_13 : Hid (ownsR w13 w.heap.size 110 (.slice a4 n4 d4) (marksEn 1 L.length)) := O_g_12.out.other hg13 ap_g_ga
    have B13 : Below w.heap.size w w13 := below_marked B12 O_ga_12.out hg13
    have O_ga_13 : Hid (ownsR w13 w.heap.size 57 (.slice aa4 nn4 dd4) (marksAc (1 + 3 * (L.length : Int)) M.length)) := hm13
    clear c_a0_12 c_w0_12 c_w1_12 c_w2_12 c_w3_12 c_w4_12 c_w5_12 c_x0_12 c_g0_12 c_g1_12 c_g2_12 c_g3_12 c_g4_12 c_g5_12 O_w_12 O_wa_12 O_g_12 B12 hm13 O_ga_12 hg13
    go_wp2_with fail
    refine (heldJournal_any (n := jn) (t := jt) (v := jv) (s := js) (st := ju) (x := 1) (ownsR.reads O_g_13.out) (Nat.le_trans HLO.out (by decide)) (by decide) (by decide)).mono ?_
    rintro e w14 ⟨rfl, hb14⟩
    have c_a0_14 := cell_up hb14 c_a0_13
    have c_w0_14 := cell_up hb14 c_w0_13
    have c_w1_14 := cell_up hb14 c_w1_13
    have c_w2_14 := cell_up hb14 c_w2_13
    have c_w3_14 := cell_up hb14 c_w3_13
    have c_w4_14 := cell_up hb14 c_w4_13
    have c_w5_14 := cell_up hb14 c_w5_13
    have c_x0_14 := cell_up hb14 c_x0_13
    have c_g0_14 := cell_up hb14 c_g0_13
    have c_g1_14 := cell_up hb14 c_g1_13
    have c_g2_14 := cell_up hb14 c_g2_13
    have c_g3_14 := cell_up hb14 c_g3_13
    have c_g4_14 := cell_up hb14 c_g4_13
    have c_g5_14 := cell_up hb14 c_g5_13
    have O_w_14 : Hid (ownsR w14 w.heap.size 110 (.slice a2 n2 d2) (L)) := O_w_13.out.all hb14
    have O_wa_14 : Hid (ownsR w14 w.heap.size 57 (.slice aa2 nn2 dd2) (M)) := O_wa_13.out.all hb14
    have O_g_14 : Hid (ownsR w14 w.heap.size 110 (.slice a4 n4 d4) (marksEn 1 L.length)) := O_g_13.out.all hb14
    have O_ga_14 : Hid (ownsR w14 w.heap.size 57 (.slice aa4 nn4 dd4) (marksAc (1 + 3 * (L.length : Int)) M.length)) := O_ga_13.out.all hb14
    have B14 : Below w.heap.size w w14 := B13.trans (hb14.mono B13.size)
    clear c_a0_13 c_w0_13 c_w1_13 c_w2_13 c_w3_13 c_w4_13 c_w5_13 c_x0_13 c_g0_13 c_g1_13 c_g2_13 c_g3_13 c_g4_13 c_g5_13 O_w_13 O_wa_13 O_g_13 O_ga_13 B13 hb14
    go_wp2_with fail
    refine (heldActS_val (x := 1 + 3 * (L.length : Int)) (ownsR.reads O_ga_14.out) HO.out (by omega) (by have := HLO.out; omega)).mono ?_
    rintro e w15 ⟨rfl, hb15⟩
    have c_a0_15 := cell_up hb15 c_a0_14
    have c_w0_15 := cell_up hb15 c_w0_14
    have c_w1_15 := cell_up hb15 c_w1_14
    have c_w2_15 := cell_up hb15 c_w2_14
    have c_w3_15 := cell_up hb15 c_w3_14
    have c_w4_15 := cell_up hb15 c_w4_14
    have c_w5_15 := cell_up hb15 c_w5_14
    have c_x0_15 := cell_up hb15 c_x0_14
    have c_g0_15 := cell_up hb15 c_g0_14
    have c_g1_15 := cell_up hb15 c_g1_14
    have c_g2_15 := cell_up hb15 c_g2_14
    have c_g3_15 := cell_up hb15 c_g3_14
    have c_g4_15 := cell_up hb15 c_g4_14
    have c_g5_15 := cell_up hb15 c_g5_14
    have O_w_15 : Hid (ownsR w15 w.heap.size 110 (.slice a2 n2 d2) (L)) := O_w_14.out.all hb15
    have O_wa_15 : Hid (ownsR w15 w.heap.size 57 (.slice aa2 nn2 dd2) (M)) := O_wa_14.out.all hb15
    have O_g_15 : Hid (ownsR w15 w.heap.size 110 (.slice a4 n4 d4) (marksEn 1 L.length)) := O_g_14.out.all hb15
    have O_ga_15 : Hid (ownsR w15 w.heap.size 57 (.slice aa4 nn4 dd4) (marksAc (1 + 3 * (L.length : Int)) M.length)) := O_ga_14.out.all hb15
    have B15 : Below w.heap.size w w15 := B14.trans (hb15.mono B14.size)
    clear c_a0_14 c_w0_14 c_w1_14 c_w2_14 c_w3_14 c_w4_14 c_w5_14 c_x0_14 c_g0_14 c_g1_14 c_g2_14 c_g3_14 c_g4_14 c_g5_14 O_w_14 O_wa_14 O_g_14 O_ga_14 B14 hb15
    go_wp2_with fail
    refine (toDisk_any _ l _ (HR.out.below B15) HL.out).mono ?_
    rintro e w16 ⟨v16, rfl, ho16, hb16⟩
    obtain ⟨a16, n16, d16, rfl⟩ := ho16.slice3
    have ap_w_e := apart_new O_w_15.out ho16
    have ap_e_w := apart_old O_w_15.out ho16
    have ap_wa_e := apart_new O_wa_15.out ho16
    have ap_e_wa := apart_old O_wa_15.out ho16
    have ap_g_e := apart_new O_g_15.out ho16
    have ap_e_g := apart_old O_g_15.out ho16
    have ap_ga_e := apart_new O_ga_15.out ho16
    have ap_e_ga := apart_old O_ga_15.out ho16
    have ac_a_e := cell_apart c_a0_15 ho16
    have ac_w_e := cell_apart c_w0_15 ho16
    have ac_x_e := cell_apart c_x0_15 ho16
    have ac_g_e := cell_apart c_g0_15 ho16
    have c_a0_16 := cell_up hb16 c_a0_15
    have c_w0_16 := cell_up hb16 c_w0_15
    have c_w1_16 := cell_up hb16 c_w1_15
    have c_w2_16 := cell_up hb16 c_w2_15
    have c_w3_16 := cell_up hb16 c_w3_15
    have c_w4_16 := cell_up hb16 c_w4_15
    have c_w5_16 := cell_up hb16 c_w5_15
    have c_x0_16 := cell_up hb16 c_x0_15
    have c_g0_16 := cell_up hb16 c_g0_15
    have c_g1_16 := cell_up hb16 c_g1_15
    have c_g2_16 := cell_up hb16 c_g2_15
    have c_g3_16 := cell_up hb16 c_g3_15
    have c_g4_16 := cell_up hb16 c_g4_15
    have c_g5_16 := cell_up hb16 c_g5_15
    have O_w_16 : Hid (ownsR w16 w.heap.size 110 (.slice a2 n2 d2) (L)) := O_w_15.out.all hb16
    have O_wa_16 : Hid (ownsR w16 w.heap.size 57 (.slice aa2 nn2 dd2) (M)) := O_wa_15.out.all hb16
    have O_g_16 : Hid (ownsR w16 w.heap.size 110 (.slice a4 n4 d4) (marksEn 1 L.length)) := O_g_15.out.all hb16
    have O_ga_16 : Hid (ownsR w16 w.heap.size 57 (.slice aa4 nn4 dd4) (marksAc (1 + 3 * (L.length : Int)) M.length)) := O_ga_15.out.all hb16
    have B16 : Below w.heap.size w w16 := B15.trans (hb16.mono B15.size)
    have O_e_16 : Hid (ownsR w16 w.heap.size 49 (.slice a16 n16 d16) (l)) := ho16.mono B15.size
    clear c_a0_15 c_w0_15 c_w1_15 c_w2_15 c_w3_15 c_w4_15 c_w5_15 c_x0_15 c_g0_15 c_g1_15 c_g2_15 c_g3_15 c_g4_15 c_g5_15 O_w_15 O_wa_15 O_g_15 O_ga_15 B15 hb16 ho16
    go_wp2_with fail
    refine (CI.out _ _ _ O_e_16.out (HP.out.below B16) (HT.out.below B16) (HE.out.below B16)).mono ?_
    rintro e w17 ⟨v17, u17, rfl, ho17, hq17, hb17⟩
    obtain ⟨a17, n17, d17, rfl⟩ := ho17.slice3
    obtain ⟨aa17, nn17, dd17, rfl⟩ := hq17.slice3
    have ap_w_h := apart_new O_w_16.out ho17
    have ap_h_w := apart_old O_w_16.out ho17
    have ap_wa_h := apart_new O_wa_16.out ho17
    have ap_h_wa := apart_old O_wa_16.out ho17
    have ap_g_h := apart_new O_g_16.out ho17
    have ap_h_g := apart_old O_g_16.out ho17
    have ap_ga_h := apart_new O_ga_16.out ho17
    have ap_h_ga := apart_old O_ga_16.out ho17
    have ap_e_h := apart_new O_e_16.out ho17
    have ap_h_e := apart_old O_e_16.out ho17
    have ac_a_h := cell_apart c_a0_16 ho17
    have ac_w_h := cell_apart c_w0_16 ho17
    have ac_x_h := cell_apart c_x0_16 ho17
    have ac_g_h := cell_apart c_g0_16 ho17
    have ap_w_ha := apart_new O_w_16.out hq17
    have ap_ha_w := apart_old O_w_16.out hq17
    have ap_wa_ha := apart_new O_wa_16.out hq17
    have ap_ha_wa := apart_old O_wa_16.out hq17
    have ap_g_ha := apart_new O_g_16.out hq17
    have ap_ha_g := apart_old O_g_16.out hq17
    have ap_ga_ha := apart_new O_ga_16.out hq17
    have ap_ha_ga := apart_old O_ga_16.out hq17
    have ap_e_ha := apart_new O_e_16.out hq17
    have ap_ha_e := apart_old O_e_16.out hq17
    have ac_a_ha := cell_apart c_a0_16 hq17
    have ac_w_ha := cell_apart c_w0_16 hq17
    have ac_x_ha := cell_apart c_x0_16 hq17
    have ac_g_ha := cell_apart c_g0_16 hq17
    have ap_h_ha := apart_types ho17 hq17 (by decide)
    have ap_ha_h := apart_types hq17 ho17 (by decide)
    have c_a0_17 := cell_up hb17 c_a0_16
    have c_w0_17 := cell_up hb17 c_w0_16
    have c_w1_17 := cell_up hb17 c_w1_16
    have c_w2_17 := cell_up hb17 c_w2_16
    have c_w3_17 := cell_up hb17 c_w3_16
    have c_w4_17 := cell_up hb17 c_w4_16
    have c_w5_17 := cell_up hb17 c_w5_16
    have c_x0_17 := cell_up hb17 c_x0_16
    have c_g0_17 := cell_up hb17 c_g0_16
    have c_g1_17 := cell_up hb17 c_g1_16
    have c_g2_17 := cell_up hb17 c_g2_16
    have c_g3_17 := cell_up hb17 c_g3_16
    have c_g4_17 := cell_up hb17 c_g4_16
    have c_g5_17 := cell_up hb17 c_g5_16
    have O_w_17 : Hid (ownsR w17 w.heap.size 110 (.slice a2 n2 d2) (L)) := O_w_16.out.all hb17
    have O_wa_17 : Hid (ownsR w17 w.heap.size 57 (.slice aa2 nn2 dd2) (M)) := O_wa_16.out.all hb17
    have O_g_17 : Hid (ownsR w17 w.heap.size 110 (.slice a4 n4 d4) (marksEn 1 L.length)) := O_g_16.out.all hb17
    have O_ga_17 : Hid (ownsR w17 w.heap.size 57 (.slice aa4 nn4 dd4) (marksAc (1 + 3 * (L.length : Int)) M.length)) := O_ga_16.out.all hb17
    have O_e_17 : Hid (ownsR w17 w.heap.size 49 (.slice a16 n16 d16) (l)) := O_e_16.out.all hb17
    have B17 : Below w.heap.size w w17 := B16.trans (hb17.mono B16.size)
    have O_h_17 : Hid (ownsR w17 w.heap.size 110 (.slice a17 n17 d17) (L)) := ho17.mono B16.size
    have O_ha_17 : Hid (ownsR w17 w.heap.size 57 (.slice aa17 nn17 dd17) (M)) := hq17.mono B16.size
    clear c_a0_16 c_w0_16 c_w1_16 c_w2_16 c_w3_16 c_w4_16 c_w5_16 c_x0_16 c_g0_16 c_g1_16 c_g2_16 c_g3_16 c_g4_16 c_g5_16 O_w_16 O_wa_16 O_g_16 O_ga_16 O_e_16 B16 hb17 ho17 hq17
    have sz_a : w.heap.size < w17.heap.size := World.block_lt_of_cell? _ _ c_a0_17
    have sz_w : w2.heap.size < w17.heap.size := World.block_lt_of_cell? _ _ c_w0_17
    have sz_x : w3.heap.size < w17.heap.size := World.block_lt_of_cell? _ _ c_x0_17
    have sz_g : w4.heap.size < w17.heap.size := World.block_lt_of_cell? _ _ c_g0_17
    go_wp2_with fail
    refine (eqJournal_any jn jt jv js ju _ _ L _ (ownsR.reads (O_h_17.out.alloc _)) (ownsR.reads (O_w_17.out.alloc _)) (Nat.le_trans HLO.out (by decide))).mono ?_
    rintro e w18 ⟨rfl, hb18⟩
    obtain ⟨c_h0_18, c_h1_18, c_h2_18, c_h3_18, c_h4_18, c_h5_18⟩ := cells6_new hb18
    have ac_h_w := cell_apart_new O_w_17.out
    have ac_h_wa := cell_apart_new O_wa_17.out
    have ac_h_g := cell_apart_new O_g_17.out
    have ac_h_ga := cell_apart_new O_ga_17.out
    have ac_h_h := cell_apart_new O_h_17.out
    have ac_h_ha := cell_apart_new O_ha_17.out
    have hb18 := below_new hb18
    have c_a0_18 := cell_up hb18 c_a0_17
    have c_w0_18 := cell_up hb18 c_w0_17
    have c_w1_18 := cell_up hb18 c_w1_17
    have c_w2_18 := cell_up hb18 c_w2_17
    have c_w3_18 := cell_up hb18 c_w3_17
    have c_w4_18 := cell_up hb18 c_w4_17
    have c_w5_18 := cell_up hb18 c_w5_17
    have c_x0_18 := cell_up hb18 c_x0_17
    have c_g0_18 := cell_up hb18 c_g0_17
    have c_g1_18 := cell_up hb18 c_g1_17
    have c_g2_18 := cell_up hb18 c_g2_17
    have c_g3_18 := cell_up hb18 c_g3_17
    have c_g4_18 := cell_up hb18 c_g4_17
    have c_g5_18 := cell_up hb18 c_g5_17
    have O_w_18 : Hid (ownsR w18 w.heap.size 110 (.slice a2 n2 d2) (L)) := O_w_17.out.all hb18
    have O_wa_18 : Hid (ownsR w18 w.heap.size 57 (.slice aa2 nn2 dd2) (M)) := O_wa_17.out.all hb18
    have O_g_18 : Hid (ownsR w18 w.heap.size 110 (.slice a4 n4 d4) (marksEn 1 L.length)) := O_g_17.out.all hb18
    have O_ga_18 : Hid (ownsR w18 w.heap.size 57 (.slice aa4 nn4 dd4) (marksAc (1 + 3 * (L.length : Int)) M.length)) := O_ga_17.out.all hb18
    have O_h_18 : Hid (ownsR w18 w.heap.size 110 (.slice a17 n17 d17) (L)) := O_h_17.out.all hb18
    have O_ha_18 : Hid (ownsR w18 w.heap.size 57 (.slice aa17 nn17 dd17) (M)) := O_ha_17.out.all hb18
    have B18 : Below w.heap.size w w18 := B17.trans (hb18.mono B17.size)
    clear c_a0_17 c_w0_17 c_w1_17 c_w2_17 c_w3_17 c_w4_17 c_w5_17 c_x0_17 c_g0_17 c_g1_17 c_g2_17 c_g3_17 c_g4_17 c_g5_17 sz_a sz_w sz_x sz_g O_w_17 O_wa_17 O_g_17 O_ga_17 O_h_17 O_ha_17 B17 hb18
    go_wp2_with fail
    refine (eqActS_val (ownsR.reads O_ha_18.out) (ownsR.reads O_wa_18.out) HO.out).mono ?_
    rintro e w19 ⟨rfl, hb19⟩
    have c_a0_19 := cell_up hb19 c_a0_18
    have c_w0_19 := cell_up hb19 c_w0_18
    have c_w1_19 := cell_up hb19 c_w1_18
    have c_w2_19 := cell_up hb19 c_w2_18
    have c_w3_19 := cell_up hb19 c_w3_18
    have c_w4_19 := cell_up hb19 c_w4_18
    have c_w5_19 := cell_up hb19 c_w5_18
    have c_x0_19 := cell_up hb19 c_x0_18
    have c_g0_19 := cell_up hb19 c_g0_18
    have c_g1_19 := cell_up hb19 c_g1_18
    have c_g2_19 := cell_up hb19 c_g2_18
    have c_g3_19 := cell_up hb19 c_g3_18
    have c_g4_19 := cell_up hb19 c_g4_18
    have c_g5_19 := cell_up hb19 c_g5_18
    have c_h0_19 := cell_up hb19 c_h0_18
    have c_h1_19 := cell_up hb19 c_h1_18
    have c_h2_19 := cell_up hb19 c_h2_18
    have c_h3_19 := cell_up hb19 c_h3_18
    have c_h4_19 := cell_up hb19 c_h4_18
    have c_h5_19 := cell_up hb19 c_h5_18
    have O_w_19 : Hid (ownsR w19 w.heap.size 110 (.slice a2 n2 d2) (L)) := O_w_18.out.all hb19
    have O_wa_19 : Hid (ownsR w19 w.heap.size 57 (.slice aa2 nn2 dd2) (M)) := O_wa_18.out.all hb19
    have O_g_19 : Hid (ownsR w19 w.heap.size 110 (.slice a4 n4 d4) (marksEn 1 L.length)) := O_g_18.out.all hb19
    have O_ga_19 : Hid (ownsR w19 w.heap.size 57 (.slice aa4 nn4 dd4) (marksAc (1 + 3 * (L.length : Int)) M.length)) := O_ga_18.out.all hb19
    have O_h_19 : Hid (ownsR w19 w.heap.size 110 (.slice a17 n17 d17) (L)) := O_h_18.out.all hb19
    have O_ha_19 : Hid (ownsR w19 w.heap.size 57 (.slice aa17 nn17 dd17) (M)) := O_ha_18.out.all hb19
    have B19 : Below w.heap.size w w19 := B18.trans (hb19.mono B18.size)
    clear c_a0_18 c_w0_18 c_w1_18 c_w2_18 c_w3_18 c_w4_18 c_w5_18 c_x0_18 c_g0_18 c_g1_18 c_g2_18 c_g3_18 c_g4_18 c_g5_18 c_h0_18 c_h1_18 c_h2_18 c_h3_18 c_h4_18 c_h5_18 O_w_18 O_wa_18 O_g_18 O_ga_18 O_h_18 O_ha_18 B18 hb19
    go_wp2_with fail
    refine (heldJournal_any (n := jn) (t := jt) (v := jv) (s := js) (st := ju) (x := 1) (ownsR.reads O_g_19.out) (Nat.le_trans HLO.out (by decide)) (by decide) (by decide)).mono ?_
    rintro e w20 ⟨rfl, hb20⟩
    have c_a0_20 := cell_up hb20 c_a0_19
    have c_w0_20 := cell_up hb20 c_w0_19
    have c_w1_20 := cell_up hb20 c_w1_19
    have c_w2_20 := cell_up hb20 c_w2_19
    have c_w3_20 := cell_up hb20 c_w3_19
    have c_w4_20 := cell_up hb20 c_w4_19
    have c_w5_20 := cell_up hb20 c_w5_19
    have c_x0_20 := cell_up hb20 c_x0_19
    have c_g0_20 := cell_up hb20 c_g0_19
    have c_g1_20 := cell_up hb20 c_g1_19
    have c_g2_20 := cell_up hb20 c_g2_19
    have c_g3_20 := cell_up hb20 c_g3_19
    have c_g4_20 := cell_up hb20 c_g4_19
    have c_g5_20 := cell_up hb20 c_g5_19
    have c_h0_20 := cell_up hb20 c_h0_19
    have c_h1_20 := cell_up hb20 c_h1_19
    have c_h2_20 := cell_up hb20 c_h2_19
    have c_h3_20 := cell_up hb20 c_h3_19
    have c_h4_20 := cell_up hb20 c_h4_19
    have c_h5_20 := cell_up hb20 c_h5_19
    have O_w_20 : Hid (ownsR w20 w.heap.size 110 (.slice a2 n2 d2) (L)) := O_w_19.out.all hb20
    have O_wa_20 : Hid (ownsR w20 w.heap.size 57 (.slice aa2 nn2 dd2) (M)) := O_wa_19.out.all hb20
    have O_g_20 : Hid (ownsR w20 w.heap.size 110 (.slice a4 n4 d4) (marksEn 1 L.length)) := O_g_19.out.all hb20
    have O_ga_20 : Hid (ownsR w20 w.heap.size 57 (.slice aa4 nn4 dd4) (marksAc (1 + 3 * (L.length : Int)) M.length)) := O_ga_19.out.all hb20
    have O_h_20 : Hid (ownsR w20 w.heap.size 110 (.slice a17 n17 d17) (L)) := O_h_19.out.all hb20
    have O_ha_20 : Hid (ownsR w20 w.heap.size 57 (.slice aa17 nn17 dd17) (M)) := O_ha_19.out.all hb20
    have B20 : Below w.heap.size w w20 := B19.trans (hb20.mono B19.size)
    clear c_a0_19 c_w0_19 c_w1_19 c_w2_19 c_w3_19 c_w4_19 c_w5_19 c_x0_19 c_g0_19 c_g1_19 c_g2_19 c_g3_19 c_g4_19 c_g5_19 c_h0_19 c_h1_19 c_h2_19 c_h3_19 c_h4_19 c_h5_19 O_w_19 O_wa_19 O_g_19 O_ga_19 O_h_19 O_ha_19 B19 hb20
    go_wp2_with fail
    refine (heldActS_val (x := 1 + 3 * (L.length : Int)) (ownsR.reads O_ga_20.out) HO.out (by omega) (by have := HLO.out; omega)).mono ?_
    rintro e w21 ⟨rfl, hb21⟩
    have c_a0_21 := cell_up hb21 c_a0_20
    have c_w0_21 := cell_up hb21 c_w0_20
    have c_w1_21 := cell_up hb21 c_w1_20
    have c_w2_21 := cell_up hb21 c_w2_20
    have c_w3_21 := cell_up hb21 c_w3_20
    have c_w4_21 := cell_up hb21 c_w4_20
    have c_w5_21 := cell_up hb21 c_w5_20
    have c_x0_21 := cell_up hb21 c_x0_20
    have c_g0_21 := cell_up hb21 c_g0_20
    have c_g1_21 := cell_up hb21 c_g1_20
    have c_g2_21 := cell_up hb21 c_g2_20
    have c_g3_21 := cell_up hb21 c_g3_20
    have c_g4_21 := cell_up hb21 c_g4_20
    have c_g5_21 := cell_up hb21 c_g5_20
    have c_h0_21 := cell_up hb21 c_h0_20
    have c_h1_21 := cell_up hb21 c_h1_20
    have c_h2_21 := cell_up hb21 c_h2_20
    have c_h3_21 := cell_up hb21 c_h3_20
    have c_h4_21 := cell_up hb21 c_h4_20
    have c_h5_21 := cell_up hb21 c_h5_20
    have O_w_21 : Hid (ownsR w21 w.heap.size 110 (.slice a2 n2 d2) (L)) := O_w_20.out.all hb21
    have O_wa_21 : Hid (ownsR w21 w.heap.size 57 (.slice aa2 nn2 dd2) (M)) := O_wa_20.out.all hb21
    have O_g_21 : Hid (ownsR w21 w.heap.size 110 (.slice a4 n4 d4) (marksEn 1 L.length)) := O_g_20.out.all hb21
    have O_ga_21 : Hid (ownsR w21 w.heap.size 57 (.slice aa4 nn4 dd4) (marksAc (1 + 3 * (L.length : Int)) M.length)) := O_ga_20.out.all hb21
    have O_h_21 : Hid (ownsR w21 w.heap.size 110 (.slice a17 n17 d17) (L)) := O_h_20.out.all hb21
    have O_ha_21 : Hid (ownsR w21 w.heap.size 57 (.slice aa17 nn17 dd17) (M)) := O_ha_20.out.all hb21
    have B21 : Below w.heap.size w w21 := B20.trans (hb21.mono B20.size)
    clear c_a0_20 c_w0_20 c_w1_20 c_w2_20 c_w3_20 c_w4_20 c_w5_20 c_x0_20 c_g0_20 c_g1_20 c_g2_20 c_g3_20 c_g4_20 c_g5_20 c_h0_20 c_h1_20 c_h2_20 c_h3_20 c_h4_20 c_h5_20 O_w_20 O_wa_20 O_g_20 O_ga_20 O_h_20 O_ha_20 B20 hb21
    go_wp2
    go_ret
    exact ⟨rfl, B21⟩
end Go.Proofs.YtgpojfkdcdgloaaGreatDoor

namespace Go.Proofs.YtgpojfkdcdgloaaGreatDoor
open Go Go.RowKit Go.ChangeShapes Go.WideShapes

theorem cells51 : Tryz.prog.cellsOf 24 = 1 := by kernel_rfl
theorem cells49 : Tryz.prog.cellsOf 22 = 1 := by kernel_rfl
theorem cells115 : Tryz.prog.cellsOf 72 = 3 := by kernel_rfl
theorem cells9d : Tryz.prog.cellsOf 9 = 1 := by kernel_rfl
theorem cells3d : Tryz.prog.cellsOf 3 = 1 := by kernel_rfl

theorem open_disk {H : Type} {enc : TypeId × Value → H} {W : World} {v : Value} {d : DataW H} {p : List MemPlace} (hv : ∃ cs, v = .agg cs ∧ cs.size = Tryz.prog.cellsOf 24) (h : DataW.Trod enc Tryz.prog W 0 (fun _ => true) true 24 v d p) :
    ∃ a len cap l, v = .agg #[.slice a len cap] ∧ Reads W (.slice a len cap) l ∧ Small l ∧ len ≤ 9223372036854775807 := by
  obtain ⟨cs, rfl, _⟩ := hv
  obtain ⟨fuel, hf⟩ := h
  obtain ⟨xs, n, _, _, hl, hlen, hfs⟩ := DataW.trod_struct Tryz.underlying24 hf
  rw [cells51] at hl
  have h0 := hfs 0 _ rfl
  obtain ⟨c, rfl⟩ := arr1 hl
  obtain ⟨y0, rfl⟩ := len1 hlen
  have h1 : DataW.trod enc Tryz.prog W 0 (fun _ => true) true n 22 [c] = some y0 := by simpa [Value.cells, cells49] using h0
  obtain ⟨a, len, cap, rfl⟩ : ∃ a len cap, c = .slice a len cap := by
    rcases Deep.open_slice Tryz.underlying22 h1 with ⟨hcs, _⟩ | ⟨b, len', cap', _, _, _, _, hcs, _⟩
    · exact ⟨_, _, _, by simpa using hcs⟩
    · exact ⟨_, _, _, by simpa using hcs⟩
  obtain ⟨l, hr, hG, hm⟩ := open_rows (fun f : Fl => f.name.size ≤ 9223372036854775807 ∧ f.text.size ≤ 9223372036854775807) Tryz.underlying22 cells115 (fun n cs y h => by
    obtain ⟨y0, y1, y2, m, _, hl, e0, e1, e2⟩ := Deep.trod_struct3 Tryz.underlying72 h
    rw [cells115] at hl
    obtain ⟨c0, c1, c2, rfl⟩ := len3 hl
    simp only [cells9d, cells3d, List.drop_zero, List.drop_succ_cons, List.take_succ_cons, List.take_zero] at e0 e1 e2
    obtain ⟨s0, g0, _, z0⟩ := DataW.trod_string Tryz.underlying9 e0
    obtain ⟨s1, g1, _, z1⟩ := DataW.trod_string Tryz.underlying9 e1
    obtain ⟨k2, g2, _, _⟩ := DataW.trod_int Tryz.underlying3 e2
    simp only [List.cons.injEq, and_true] at g0 g1 g2
    subst g0 g1 g2
    exact ⟨⟨s0, s1, k2⟩, rfl, z0, z1⟩) h1
  exact ⟨a, len, cap, l, rfl, hr, hG, hm⟩
end Go.Proofs.YtgpojfkdcdgloaaGreatDoor
