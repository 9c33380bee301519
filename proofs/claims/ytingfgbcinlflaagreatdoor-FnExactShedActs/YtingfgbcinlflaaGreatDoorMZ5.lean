/-
  The drops of a disk's other snapshots, and of the one that is begun: the walks. The names of a right disk rise. The newest snapshot of a disk: plain facts. The drop of a snapshot that is begun, and the adds of a text's chunks: the walks. The acts that lay a snapshot down: the walk of the program's SnapActs. The newest snapshot of a disk: the walk of the program's NewestSnap.
-/
import Derived.Test.YtingfgbcinlflaaGreatDoorMZ1
import Derived.Test.YtingfgbcinlflaaGreatDoorMZ3
import Derived.Test.YtingfgbcinlflaaGreatDoorMZ2
import Derived.Test.YtingfgbcinlflaaGreatDoorRea
import Derived.Test.YtingfgbcinlflaaGreatDoorMZ4
namespace Go.Proofs.YtingfgbcinlflaaGreatDoor
open Go Go.RowKit

theorem one_cellD {w : World} {g : Nat} {a : Value} {t : TypeId} (h : w.heap[g]? = some (.cells #[a] t)) : w.cell? ⟨g, 0, none⟩ = some a := by
  simp [World.cell?, h]
theorem blk_upD {w w' : World} {g : Nat} {o : Obj} (h : w.heap[g]? = some o) (hb : Below w.heap.size w w') : w'.heap[g]? = some o :=
  (hb.block _ (Array.getElem?_eq_some_iff.1 h).1).trans h
/-- Whether a file is a snapshot's of another index. -/
def dropSB (m : Int) (f : Fl) : Bool := decide (0 ≤ idxOf f.name) && decide (idxOf f.name ≠ m)
/-- The drops, in the order of files. -/
def dropsS (m : Int) (l : List Fl) : List Ac := (l.filter (dropSB m)).map fun f => ⟨4, f.name, ByteArray.empty, ByteArray.empty⟩
theorem dropsS_yes {m : Int} {l : List Fl} {k : Nat} {f : Fl} (h : l[k]? = some f) (hd : dropSB m f = true) : dropsS m (l.take (k + 1)) = dropsS m (l.take k) ++ [⟨4, f.name, ByteArray.empty, ByteArray.empty⟩] := by
  unfold dropsS
  rw [List.take_add_one, h]
  simp [List.filter_append, hd]
theorem dropsS_no {m : Int} {l : List Fl} {k : Nat} {f : Fl} (h : l[k]? = some f) (hd : dropSB m f = false) : dropsS m (l.take (k + 1)) = dropsS m (l.take k) := by
  unfold dropsS
  rw [List.take_add_one, h]
  simp [List.filter_append, hd]
theorem dropsS_length (m : Int) (l : List Fl) : (dropsS m l).length ≤ l.length := by
  unfold dropsS
  rw [List.length_map]
  exact List.length_filter_le _ _
theorem idxOf_name {s : ByteArray} (h : 0 ≤ idxOf s) : sname (idxOf s) = s := by
  unfold idxOf at h ⊢
  split
  · rename_i hh
    exact hh.2
  · rename_i hh
    rw [if_neg hh] at h
    omega
theorem dropSB_cases {m x : Int} {f : Fl} (hx : idxOf f.name = x) : (dropSB m f = true ∧ 0 ≤ x ∧ x ≠ m) ∨ (dropSB m f = false ∧ ¬ 0 ≤ x) ∨ (dropSB m f = false ∧ 0 ≤ x ∧ x = m) := by
  unfold dropSB
  rw [hx]
  by_cases h0 : 0 ≤ x
  · by_cases hm : x = m
    · exact .inr (.inr ⟨by simp [hm], h0, hm⟩)
    · exact .inl ⟨by simp [h0, hm], h0, hm⟩
  · exact .inr (.inl ⟨by simp [h0], h0⟩)

set_option maxRecDepth 10000 in
set_option maxHeartbeats 2000000 in
theorem otherSnapDrops_try (ao : Option Addr) (n c : Nat) (l : List Fl) (m : Int) (w : World) (hr : Reads w (.slice ao n c) l) (hn : n ≤ 30) (hs : NamesL l) (hp : PowIs w) :
    Calls Tryz.prog 20 #[.agg #[.slice ao n c], .int .i64 m] w fun e w' => ∃ v, e = .returned v ∧ ownsR w' w.heap.size 47 v (dropsS m l) ∧ Below w.heap.size w w' := by
  have HR : Hid (Reads w (.slice ao n c) l) := hr
  have HN : Hid (n = l.length) := hr.len
  have HS : Hid (NamesL l) := hs
  have HP : Hid (PowIs w) := hp
  clear hr hs hp
  go_enter Tryz.func20, Tryz.ntmps20
  go_wp2
  go_loopw [5, 13] (fun out i wr => ∃ k : Nat, k ≤ n ∧ i = .int .i64 k ∧ ownsR wr w.heap.size 47 out (dropsS m (l.take k)) ∧ Below w.heap.size w wr) (fun _ i _ => n - (intOf i).toNat)
  case atStart => exact ⟨0, Nat.zero_le _, rfl, (by have := ownsA_made (w.alloc (.cells #[.slice ao n c] 30)) w.heap.size 0 #[] (by simp) (by decide) rfl; simp only [World.size_alloc] at this; exact this), (ba (Below.refl _ _) _).alloc (by simp) _⟩
  case round =>
    obtain ⟨k, hk, rfl, hown, hbel⟩ := hrel
    have hsz := hbel.size
    by_cases hlt : k < n
    · obtain ⟨⟨nm, tx, kp⟩, hf⟩ : ∃ f, l[k]? = some f := ⟨_, List.getElem?_eq_getElem (by rw [← HN.out]; exact hlt)⟩
      have HF : Hid (l[k]? = some ⟨nm, tx, kp⟩) := hf
      obtain ⟨b, o, rfl, hb, c0, c1, c2⟩ := fl_at (HR.out.below hbel) hf
      have hts : Hid (nm.size ≤ 8) := HS.out _ (List.mem_of_getElem? hf)
      obtain ⟨x, HX⟩ : ∃ x, Hid (idxOf nm = x) := ⟨_, rfl⟩
      have CN : Hid (∀ W, Below wr.heap.size wr W → Calls Tryz.prog 32 #[.string nm] W fun e w' => e = .returned (.int .i64 x) ∧ Below W.heap.size W w') := fun W hW => by
        rw [← HX.out]
        exact indexOf_any nm W (Nat.le_trans hts.out (by decide)) ((HP.out.below hbel).below hW)
      have CC : Hid (∀ W, 0 ≤ x → Below wr.heap.size wr W → Calls Tryz.prog 35 #[.int .i64 x] W fun e w' => e = .returned (.string nm) ∧ Below W.heap.size W w') := fun W h0 hW => by
        have := snapName_any x W ((HP.out.below hbel).below hW)
        rwa [show sname x = nm by rw [← HX.out]; exact idxOf_name (by rw [HX.out]; exact h0)] at this
      clear hf
      dsimp only at c0 c1 c2
      have hlen : (dropsS m (l.take k)).length ≤ 1048576 := Nat.le_trans (dropsS_length _ _) (by rw [List.length_take]; omega)
      rcases dropSB_cases (m := m) (f := ⟨nm, tx, kp⟩) HX.out with ⟨hd, hx0, hxm⟩ | ⟨hd, hx0⟩ | ⟨hd, hx0, hxm⟩
      · have HT : Hid (dropsS m (l.take (k + 1)) = dropsS m (l.take k) ++ [⟨4, nm, ByteArray.empty, ByteArray.empty⟩]) := dropsS_yes HF.out hd
        clear hd
        go_wp2_with fail
        refine Calls.mono (CN.out _ (ba (Below.refl _ _) _)) ?_
        rintro e w2 ⟨rfl, hb2⟩
        have hb3 : Below wr.heap.size wr w2 := (ba (Below.refl _ wr) _).trans (hb2.mono (by simp))
        clear hb2
        go_wp2_with fail
        refine Calls.mono (CC.out _ hx0 hb3) ?_
        rintro e w4 ⟨rfl, hb4⟩
        have hb5 : Below wr.heap.size wr w4 := Below.on hb3 hb4
        have hown4 := hown.all hb5
        have hbel4 : Below w.heap.size w w4 := hbel.trans (hb5.mono hsz)
        have hsz4 := hbel4.size
        clear hown hbel c0 c1 c2 hb3 hb4 hb5
        go_wp2_with (at_builtin; refine wpList_append_rec _ w rfl (.tmp 27) (.tmp 31) 26 rfl w.heap.size 47 _ 56 underAc infoAc rfl _ (dropsS m (l.take k)) rfl (hown4.alloc _) (hbel4.alloc hsz4 _) w4.heap.size 1 ⟨4, nm, ByteArray.empty, ByteArray.empty⟩ rfl ?c1 ?c2 ?c3 ?c4 ?_)
        case c1 => exact cells_ac (by simp) (by simp) (by simp; rfl) (by simp; rfl)
        case c2 => exact hlen
        case c3 => omega
        case c4 => simp; omega
        intro v' w5 hown5 hbel5 _
        rw [← HT.out] at hown5
        clear hown4 hbel4
        go_wp2
        go_roundw
        case rel => exact ⟨k + 1, by omega, by go_num, hown5, hbel5⟩
        case measure => simp [intOf]; omega
      · have HT : Hid (dropsS m (l.take (k + 1)) = dropsS m (l.take k)) := dropsS_no HF.out hd
        clear hd
        go_wp2_with fail
        refine Calls.mono (CN.out _ (ba (Below.refl _ _) _)) ?_
        rintro e w2 ⟨rfl, hb2⟩
        have hb3 : Below wr.heap.size wr w2 := (ba (Below.refl _ wr) _).trans (hb2.mono (by simp))
        have hown4 := hown.all hb3
        rw [← HT.out] at hown4
        have hbel4 : Below w.heap.size w w2 := hbel.trans (hb3.mono hsz)
        clear hown hbel c0 c1 c2 hb2 hb3
        go_wp2
        go_roundw
        case rel => exact ⟨k + 1, by omega, by go_num, hown4, hbel4⟩
        case measure => simp [intOf]; omega
      · have HT : Hid (dropsS m (l.take (k + 1)) = dropsS m (l.take k)) := dropsS_no HF.out hd
        clear hd
        subst hxm
        go_wp2_with fail
        refine Calls.mono (CN.out _ (ba (Below.refl _ _) _)) ?_
        rintro e w2 ⟨rfl, hb2⟩
        have hb3 : Below wr.heap.size wr w2 := (ba (Below.refl _ wr) _).trans (hb2.mono (by simp))
        have hown4 := hown.all hb3
        rw [← HT.out] at hown4
        have hbel4 : Below w.heap.size w w2 := hbel.trans (hb3.mono hsz)
        clear hown hbel c0 c1 c2 hb2 hb3
        go_wp2
        go_roundw
        case rel => exact ⟨k + 1, by omega, by go_num, hown4, hbel4⟩
        case measure => simp [intOf]; omega
    · have hkn : k = l.length := by rw [← HN.out]; omega
      have HO : Hid (ownsR wr w.heap.size 47 u5 (dropsS m l)) := by
        have := hown
        rw [hkn, List.take_length] at this
        exact this
      clear hown hkn
      go_wp2
      go_ret
      exact ⟨_, rfl, HO.out, hbel⟩
theorem otherSnapDrops_any {w : World} {v : Value} {l : List Fl} {m : Int} (hr : Reads w v l) (hn : l.length ≤ 30) (hs : NamesL l) (hp : PowIs w) :
    Calls Tryz.prog 20 #[.agg #[v], .int .i64 m] w fun e w' => ∃ v, e = .returned v ∧ ownsR w' w.heap.size 47 v (dropsS m l) ∧ Below w.heap.size w w' := by
  obtain ⟨ao, c, rfl, _⟩ := id hr
  exact otherSnapDrops_try ao _ c l m w hr hn hs hp

set_option maxRecDepth 10000 in
set_option maxHeartbeats 2000000 in
theorem specDrops_try (ao : Option Addr) (n c : Nat) (l : List Fl) (m : Int) (w : World) (hr : Reads w (.slice ao n c) l) (hn : n ≤ 30) (hs : NamesL l) :
    Calls Tryz.prog 16 #[.agg #[.slice ao n c], .int .i64 m] w fun e w' => ∃ v, e = .returned v ∧ ownsR w' w.heap.size 47 v (dropsS m l) ∧ Below w.heap.size w w' := by
  have HN : Hid (n = l.length) := hr.len
  have HS : Hid (NamesL l) := hs
  go_enter Tryz.func16, Tryz.ntmps16
  go_wp2
  have HB : Hid (Below w.heap.size w (w.alloc (.cells #[.slice ao n c] 30))) := ba (Below.refl _ _) _
  have HR : Hid (Reads (w.alloc (.cells #[.slice ao n c] 30)) (.slice ao n c) l) := hr.alloc _
  have HD : Hid ((w.alloc (.cells #[.slice ao n c] 30)).heap[w.heap.size]? = some (.cells #[.slice ao n c] 30)) := heap_last _ _
  have H0 : Hid (ownsR ((w.alloc (.cells #[.slice ao n c] 30)).alloc (.cells #[] 47)) (w.alloc (.cells #[.slice ao n c] 30)).heap.size 47 (.slice (some ⟨w.heap.size + 1, 0, none⟩) 0 0) ([] : List Ac)) := by
    have := ownsA_made (w.alloc (.cells #[.slice ao n c] 30)) (w.alloc (.cells #[.slice ao n c] 30)).heap.size 0 #[] (Nat.le_refl _) (by decide) rfl
    rw [World.size_alloc] at this ⊢
    exact this
  clear hr hs
  generalize w.alloc (.cells #[.slice ao n c] 30) = W0 at HB HR HD H0 ⊢
  go_loopw [5, 6] (fun out i wr => ∃ k : Nat, k ≤ n ∧ i = .int .i64 k ∧ ownsR wr W0.heap.size 47 out (dropsS m (l.take k)) ∧ Below W0.heap.size W0 wr) (fun _ i _ => n - (intOf i).toNat)
  case atStart => exact ⟨0, Nat.zero_le _, rfl, H0.out, ba (Below.refl _ _) _⟩
  case round =>
    obtain ⟨k, hk, rfl, hown, hbel⟩ := hrel
    have hsz := hbel.size
    have cd := one_cellD (blk_upD HD.out hbel)
    by_cases hlt : k < n
    · obtain ⟨⟨nm, tx, kp⟩, hf⟩ : ∃ f, l[k]? = some f := ⟨_, List.getElem?_eq_getElem (by rw [← HN.out]; exact hlt)⟩
      have HF : Hid (l[k]? = some ⟨nm, tx, kp⟩) := hf
      obtain ⟨b, o, rfl, hb, c0, c1, c2⟩ := fl_at (HR.out.below hbel) hf
      have hts : Hid (nm.size ≤ 8) := HS.out _ (List.mem_of_getElem? hf)
      obtain ⟨x, HX⟩ : ∃ x, Hid (idxOf nm = x) := ⟨_, rfl⟩
      have CN : Hid (∀ W, Calls Tryz.prog 27 #[.string nm] W fun e w' => e = .returned (.int .i64 x) ∧ Below W.heap.size W w') := fun W => by
        rw [← HX.out]
        exact specIndex_any nm W (Nat.le_trans hts.out (by decide))
      clear hf
      dsimp only at c0 c1 c2
      have hlen : (dropsS m (l.take k)).length ≤ 1048576 := Nat.le_trans (dropsS_length _ _) (by rw [List.length_take]; omega)
      rcases dropSB_cases (m := m) (f := ⟨nm, tx, kp⟩) HX.out with ⟨hd, hx0, hxm⟩ | ⟨hd, hx0⟩ | ⟨hd, hx0, hxm⟩
      · have HT : Hid (dropsS m (l.take (k + 1)) = dropsS m (l.take k) ++ [⟨4, nm, ByteArray.empty, ByteArray.empty⟩]) := dropsS_yes HF.out hd
        clear hd
        go_wp2_with fail
        refine Calls.mono (CN.out _) ?_
        rintro e w2 ⟨rfl, hb2⟩
        have hown4 := hown.all hb2
        have hbel4 : Below W0.heap.size W0 w2 := Below.on hbel hb2
        have hsz4 := hbel4.size
        have hb4 : b < w2.heap.size := Nat.lt_of_lt_of_le hb hb2.size
        replace c0 := cell_up hb2 c0
        replace cd := cell_up hb2 cd
        clear hown hbel c1 c2 hb2 hb
        go_wp2_with (at_builtin; refine wpList_append_rec _ W0 rfl (.tmp 30) (.tmp 38) 26 rfl W0.heap.size 47 _ 56 underAc infoAc rfl _ (dropsS m (l.take k)) rfl (hown4.alloc _) (hbel4.alloc hsz4 _) w2.heap.size 1 ⟨4, nm, ByteArray.empty, ByteArray.empty⟩ rfl ?c1 ?c2 ?c3 ?c4 ?_)
        case c1 => exact cells_ac (by simp) (by simp) (by simp; rfl) (by simp; rfl)
        case c2 => exact hlen
        case c3 => omega
        case c4 => simp; omega
        intro v' w5 hown5 hbel5 _
        rw [← HT.out] at hown5
        clear hown4 hbel4
        go_wp2
        go_roundw
        case rel => exact ⟨k + 1, by omega, by go_num, hown5, hbel5⟩
        case measure => simp [intOf]; omega
      · have HT : Hid (dropsS m (l.take (k + 1)) = dropsS m (l.take k)) := dropsS_no HF.out hd
        clear hd
        go_wp2_with fail
        refine Calls.mono (CN.out _) ?_
        rintro e w2 ⟨rfl, hb2⟩
        have hown4 := hown.all hb2
        rw [← HT.out] at hown4
        have hbel4 : Below W0.heap.size W0 w2 := Below.on hbel hb2
        clear hown hbel c0 c1 c2 hb2 cd
        go_wp2
        go_roundw
        case rel => exact ⟨k + 1, by omega, by go_num, hown4, hbel4⟩
        case measure => simp [intOf]; omega
      · have HT : Hid (dropsS m (l.take (k + 1)) = dropsS m (l.take k)) := dropsS_no HF.out hd
        clear hd
        subst hxm
        go_wp2_with fail
        refine Calls.mono (CN.out _) ?_
        rintro e w2 ⟨rfl, hb2⟩
        have hown4 := hown.all hb2
        rw [← HT.out] at hown4
        have hbel4 : Below W0.heap.size W0 w2 := Below.on hbel hb2
        clear hown hbel c0 c1 c2 hb2 cd
        go_wp2
        go_roundw
        case rel => exact ⟨k + 1, by omega, by go_num, hown4, hbel4⟩
        case measure => simp [intOf]; omega
    · have hkn : k = l.length := by rw [← HN.out]; omega
      have HO : Hid (ownsR wr W0.heap.size 47 u5 (dropsS m l)) := by
        have := hown
        rw [hkn, List.take_length] at this
        exact this
      clear hown hkn
      go_wp2
      go_ret
      exact ⟨_, rfl, HO.out.mono HB.out.size, HB.out.trans (hbel.mono HB.out.size)⟩
theorem specDrops_any {w : World} {v : Value} {l : List Fl} {m : Int} (hr : Reads w v l) (hn : l.length ≤ 30) (hs : NamesL l) :
    Calls Tryz.prog 16 #[.agg #[v], .int .i64 m] w fun e w' => ∃ v, e = .returned v ∧ ownsR w' w.heap.size 47 v (dropsS m l) ∧ Below w.heap.size w w' := by
  obtain ⟨ao, c, rfl, _⟩ := id hr
  exact specDrops_try ao _ c l m w hr hn hs
end Go.Proofs.YtingfgbcinlflaaGreatDoor

namespace Go.Proofs.YtingfgbcinlflaaGreatDoor
open Go Go.RowKit

theorem less_trans : ∀ (x y z : List UInt8), Op.bytesLess x y = true → Op.bytesLess y z = true → Op.bytesLess x z = true
  | _, [], _, h, _ => by cases ‹List UInt8› <;> simp [Op.bytesLess] at h
  | _, _ :: _, [], _, h => by simp [Op.bytesLess] at h
  | [], _ :: _, _ :: _, _, _ => by simp [Op.bytesLess]
  | a :: x, b :: y, c :: z, h, h2 => by
    simp only [Op.bytesLess, Bool.or_eq_true, decide_eq_true_eq, Bool.and_eq_true, beq_iff_eq] at h h2 ⊢
    rcases h with h | ⟨rfl, h⟩
    · rcases h2 with h2 | ⟨rfl, h2⟩
      · exact .inl (UInt8.lt_trans h h2)
      · exact .inl h
    · rcases h2 with h2 | ⟨rfl, h2⟩
      · exact .inl h2
      · exact .inr ⟨rfl, less_trans x y z h h2⟩
theorem less_irrefl : ∀ x : List UInt8, Op.bytesLess x x = false
  | [] => rfl
  | a :: x => by simp [Op.bytesLess, less_irrefl x]
theorem diskR_at {l : List Fl} (h : diskR l = true) (i : Nat) (hi : i < l.length) : okAt l i = true := by
  unfold diskR at h
  rw [Bool.and_eq_true] at h
  exact List.all_eq_true.1 h.2 i (List.mem_range.2 hi)
theorem names_rise {l : List Fl} (h : diskR l = true) : ∀ (d i : Nat) (f g : Fl), l[i]? = some f → l[i + 1 + d]? = some g → ltB f.name g.name = true
  | 0, i, f, g, hf, hg => by
    have := diskR_at h (i + 1) (List.getElem?_eq_some_iff.1 hg).1
    rw [okAt_next hg hf, Bool.and_eq_true] at this
    exact this.2
  | d + 1, i, f, g, hf, hg => by
    have hlt := (List.getElem?_eq_some_iff.1 hg).1
    obtain ⟨m, hm⟩ : ∃ m, l[i + 1 + d]? = some m := ⟨_, List.getElem?_eq_getElem (by omega)⟩
    have h1 := names_rise h d i f m hf hm
    have := diskR_at h (i + 1 + d + 1) hlt
    rw [okAt_next (show l[i + 1 + d + 1]? = some g from hg) hm, Bool.and_eq_true] at this
    exact less_trans _ _ _ h1 this.2
end Go.Proofs.YtingfgbcinlflaaGreatDoor

namespace Go.Proofs.YtingfgbcinlflaaGreatDoor
open Go Go.RowKit

/-- The best snapshot so far, and one file more: as the specification does it. -/
def nstep (r : Rsd) (f : Fl) : Rsd := if 0 ≤ idxOf f.name ∧ (rsP f.text).z = true ∧ (rsP f.text).i = idxOf f.name ∧ r.i < idxOf f.name then rsP f.text else r
def noneS : Rsd := ⟨-1, 0, [], ByteArray.empty, false⟩
def newS (l : List Fl) : Rsd := l.foldl nstep noneS
/-- As the program does it. -/
def pstep (r : Rsd) (f : Fl) : Rsd := if idxOf f.name < r.i then r else if (rsP f.text).z = true ∧ (rsP f.text).i = idxOf f.name then rsP f.text else r
def newP (l : List Fl) : Rsd := l.foldl pstep zeroS
def progOf (r : Rsd) : Rsd := if r.z = true then r else zeroS
/-- The newest snapshot of a disk. -/
def nsP (l : List Fl) : Rsd := if diskR l = true then newP l else zeroS
theorem newS_take {l : List Fl} {k : Nat} {f : Fl} (h : l[k]? = some f) : newS (l.take (k + 1)) = nstep (newS (l.take k)) f := by
  unfold newS
  rw [List.take_add_one, h, List.foldl_append]
  rfl
theorem newP_take {l : List Fl} {k : Nat} {f : Fl} (h : l[k]? = some f) : newP (l.take (k + 1)) = pstep (newP (l.take k)) f := by
  unfold newP
  rw [List.take_add_one, h, List.foldl_append]
  rfl
theorem newS_sound (l : List Fl) : ∀ k, k ≤ l.length → ((newS (l.take k)).z = false ∧ newS (l.take k) = noneS) ∨ ((newS (l.take k)).z = true ∧ 0 ≤ (newS (l.take k)).i ∧ ∃ (j : Nat) (g : Fl), j < k ∧ l[j]? = some g ∧ idxOf g.name = (newS (l.take k)).i)
  | 0, _ => .inl ⟨rfl, rfl⟩
  | k + 1, hk => by
    obtain ⟨f, hf⟩ : ∃ f, l[k]? = some f := ⟨_, List.getElem?_eq_getElem (by omega)⟩
    rw [newS_take hf]
    unfold nstep
    split
    · rename_i h
      exact .inr ⟨h.2.1, by rw [h.2.2.1]; exact h.1, k, f, Nat.lt_succ_self k, hf, h.2.2.1.symm⟩
    · rcases newS_sound l k (by omega) with h | ⟨h1, h2, j, g, hj, hg, he⟩
      · exact .inl h
      · exact .inr ⟨h1, h2, j, g, by omega, hg, he⟩
theorem newP_eq {l : List Fl} (hd : diskR l = true) : ∀ k, k ≤ l.length → newP (l.take k) = progOf (newS (l.take k))
  | 0, _ => rfl
  | k + 1, hk => by
    obtain ⟨f, hf⟩ : ∃ f, l[k]? = some f := ⟨_, List.getElem?_eq_getElem (by omega)⟩
    rw [newS_take hf, newP_take hf, newP_eq hd k (by omega)]
    have hsd := newS_sound l k (by omega)
    generalize hr : newS (l.take k) = r at hsd ⊢
    rcases hsd with ⟨h1, rfl⟩ | ⟨h1, h2, j, g, hj, hg, he⟩
    · have e0 : progOf noneS = zeroS := rfl
      rw [e0]
      unfold pstep nstep
      by_cases h0 : idxOf f.name < 0
      · rw [if_pos (show idxOf f.name < zeroS.i from h0), if_neg (fun h => by omega)]
        rfl
      · rw [if_neg (show ¬ idxOf f.name < zeroS.i from h0)]
        by_cases hs : (rsP f.text).z = true ∧ (rsP f.text).i = idxOf f.name
        · rw [if_pos hs, if_pos ⟨by omega, hs.1, hs.2, show (-1 : Int) < _ by omega⟩]
          unfold progOf
          rw [if_pos hs.1]
        · rw [if_neg hs, if_neg (fun h => hs ⟨h.2.1, h.2.2.1⟩)]
          rfl
    · have e0 : progOf r = r := by unfold progOf; rw [if_pos h1]
      have hne : idxOf f.name ≠ r.i := fun e => by
        have hlt := names_rise hd (k - 1 - j) j g f hg (by rw [show j + 1 + (k - 1 - j) = k by omega]; exact hf)
        have e1 := idxOf_name (s := g.name) (by rw [he]; exact h2)
        have e2 := idxOf_name (s := f.name) (by rw [e]; exact h2)
        rw [he] at e1
        rw [e, e1] at e2
        unfold ltB at hlt
        rw [e2, less_irrefl] at hlt
        cases hlt
      rw [e0]
      unfold pstep nstep
      by_cases h0 : idxOf f.name < r.i
      · rw [if_pos h0, if_neg (fun h => by omega)]
        exact e0.symm
      · rw [if_neg h0]
        by_cases hs : (rsP f.text).z = true ∧ (rsP f.text).i = idxOf f.name
        · rw [if_pos hs, if_pos ⟨by omega, hs.1, hs.2, by omega⟩]
          unfold progOf
          rw [if_pos hs.1]
        · rw [if_neg hs, if_neg (fun h => hs ⟨h.2.1, h.2.2.1⟩)]
          exact e0.symm
theorem nsP_spec {l : List Fl} (hd : diskR l = true) : nsP l = progOf (newS l) := by
  unfold nsP
  rw [if_pos hd]
  have := newP_eq hd l.length (Nat.le_refl _)
  rwa [List.take_length] at this
theorem rsP_len4 (s : ByteArray) : (rsP s).l.length ≤ 4 := by
  unfold rsP
  dsimp only
  unfold rsF
  split
  · exact confT_len _
  · exact Nat.zero_le _
theorem newP_len (l : List Fl) : ∀ k, k ≤ l.length → (newP (l.take k)).l.length ≤ 4
  | 0, _ => Nat.zero_le _
  | k + 1, hk => by
    obtain ⟨f, hf⟩ : ∃ f, l[k]? = some f := ⟨_, List.getElem?_eq_getElem (by omega)⟩
    rw [newP_take hf]
    unfold pstep
    split
    · exact newP_len l k (by omega)
    · split
      · exact rsP_len4 _
      · exact newP_len l k (by omega)
theorem nsP_len (l : List Fl) : (nsP l).l.length ≤ 4 := by
  unfold nsP
  split
  · have := newP_len l l.length (Nat.le_refl _)
    rwa [List.take_length] at this
  · exact Nat.zero_le _
end Go.Proofs.YtingfgbcinlflaaGreatDoor

namespace Go.Proofs.YtingfgbcinlflaaGreatDoor
open Go Go.RowKit

def nameSN : ByteArray := ⟨#[115, 43]⟩
/-- The drop of the snapshot that is begun, if it is there. -/
def newDrop (l : List Fl) : List Ac := if (findF l nameSN).isSome then [⟨4, nameSN, ByteArray.empty, ByteArray.empty⟩] else []
theorem fileR_some (l : List Fl) (s : ByteArray) : (fileR l s).2 = (findF l s).isSome := by
  unfold fileR
  cases findF l s <;> rfl
theorem newDrop_yes {l : List Fl} (h : (findF l nameSN).isSome = true) : newDrop l = [⟨4, nameSN, ByteArray.empty, ByteArray.empty⟩] := by unfold newDrop; rw [if_pos h]
theorem newDrop_no {l : List Fl} (h : (findF l nameSN).isSome = false) : newDrop l = [] := by unfold newDrop; rw [if_neg (by rw [h]; decide)]

set_option maxRecDepth 10000 in
set_option maxHeartbeats 1000000 in
theorem newSnapDrops_any {w : World} {v : Value} {l : List Fl} (hr : Reads w v l) (hn : l.length ≤ 1048577) (hs : TextsL l) :
    Calls Tryz.prog 19 #[.agg #[v]] w fun e w' => ∃ v, e = .returned v ∧ ownsR w' w.heap.size 47 v (newDrop l) ∧ Below w.heap.size w w' := by
  obtain ⟨ao, c, rfl, _⟩ := id hr
  have HR : Hid (Reads w (.slice ao l.length c) l) := hr
  have HL : Hid (l.length ≤ 1048577) := hn
  have HS : Hid (TextsL l) := hs
  clear hr hn hs
  obtain ⟨q, HQ⟩ : ∃ q, Hid ((findF l nameSN).isSome = q) := ⟨_, rfl⟩
  obtain ⟨t, HT⟩ : ∃ t, Hid ((fileR l nameSN).1 = t) := ⟨_, rfl⟩
  go_enter Tryz.func19, Tryz.ntmps19
  go_wp2_with fail
  have B0 : Hid (Below w.heap.size w ((w.alloc (.cells #[.slice ao l.length c] 30)).alloc (.cells #[] 47))) := ba (ba (Below.refl _ _) _) _
  have O0 : Hid (ownsR ((w.alloc (.cells #[.slice ao l.length c] 30)).alloc (.cells #[] 47)) w.heap.size 47 (.slice (some ⟨w.heap.size + 1, 0, none⟩) 0 0) ([] : List Ac)) := by
    have := ownsA_made (w.alloc (.cells #[.slice ao l.length c] 30)) w.heap.size 0 #[] (by simp) (by decide) rfl
    rw [World.size_alloc] at this
    exact this
  have CF := fileAt_any nameSN (HR.out.below B0.out) HL.out HS.out
  rw [fileR_some, HQ.out, HT.out] at CF
  refine Calls.mono CF ?_
  clear CF
  rintro e w1 ⟨rfl, hb1⟩
  have B1 : Below w.heap.size w w1 := B0.out.trans (hb1.mono B0.out.size)
  have O1 := O0.out.all hb1
  clear hb1 O0 B0
  cases q with
  | false =>
    have HE : Hid (newDrop l = []) := newDrop_no HQ.out
    go_wp2
    go_ret
    exact ⟨_, rfl, by rw [HE.out]; exact O1, B1⟩
  | true =>
    have HE : Hid (newDrop l = [⟨4, nameSN, ByteArray.empty, ByteArray.empty⟩]) := newDrop_yes HQ.out
    have hsz1 := B1.size
    go_wp2_with (at_builtin; refine wpList_append_rec _ w rfl (.tmp 13) (.tmp 15) 26 rfl w.heap.size 47 _ 56 underAc infoAc rfl _ ([] : List Ac) rfl (O1.alloc _) (B1.alloc hsz1 _) w1.heap.size 1 ⟨4, nameSN, ByteArray.empty, ByteArray.empty⟩ rfl ?c1 ?c2 ?c3 ?c4 ?_)
    case c1 => exact cells_ac (by simp) (by simp; rfl) (by simp; rfl) (by simp; rfl)
    case c2 => simp
    case c3 => omega
    case c4 => simp; omega
    intro v' w5 hown5 hbel5 _
    clear O1 B1
    go_wp2
    go_ret
    exact ⟨_, rfl, by rw [HE.out]; exact hown5, hbel5⟩

theorem ownsA_one (w : World) (B : Nat) (x : Ac) (hb : B ≤ w.heap.size) :
    ownsR (w.alloc (.cells #[.int .i64 x.kind, .string x.name, .string x.text, .string x.to] 47)) B 47 (.slice (some ⟨w.heap.size, 0, none⟩) 1 1) [x] :=
  ⟨rfl, .inr ⟨w.heap.size, 1, _, rfl, hb, heap_last w _, Nat.le_refl 1, by decide, rfl, rfl⟩⟩
set_option maxRecDepth 10000 in
set_option maxHeartbeats 1000000 in
theorem specNew_any {w : World} {v : Value} {l : List Fl} (hr : Reads w v l) (hn : l.length ≤ 1048577) :
    Calls Tryz.prog 15 #[.agg #[v]] w fun e w' => ∃ v, e = .returned v ∧ ownsR w' w.heap.size 47 v (newDrop l) ∧ Below w.heap.size w w' := by
  obtain ⟨ao, c, rfl, _⟩ := id hr
  have HR : Hid (Reads w (.slice ao l.length c) l) := hr
  have HL : Hid (l.length ≤ 1048577) := hn
  clear hr hn
  go_enter Tryz.func15, Tryz.ntmps15
  go_wp2_with fail
  refine Calls.mono (specAt_try ao _ c l nameSN _ (HR.out.alloc _) HL.out) ?_
  rintro e w1 ⟨r, rfl, hr, hb1⟩
  have B1 := below_new hb1
  clear hb1
  rcases hr with ⟨rfl, hf⟩ | ⟨k, f, rfl, _, hf⟩
  · have HE : Hid (newDrop l = []) := newDrop_no (by rw [hf]; rfl)
    clear hf
    go_wp2
    go_ret
    exact ⟨_, rfl, by rw [HE.out]; exact ownsA_made w1 w.heap.size 0 #[] B1.size (by decide) rfl, ba B1 _⟩
  · have HE : Hid (newDrop l = [⟨4, nameSN, ByteArray.empty, ByteArray.empty⟩]) := newDrop_yes (by rw [hf]; rfl)
    have hk0 : (0 : Int) ≤ (k : Int) := by omega
    clear hf
    go_wp2
    go_ret
    exact ⟨_, rfl, by rw [HE.out]; exact ownsA_one w1 w.heap.size ⟨4, nameSN, ByteArray.empty, ByteArray.empty⟩ B1.size, ba B1 _⟩

/-- The add of one chunk. -/
def chunkN (t : ByteArray) (k : Nat) : Ac := ⟨1, nameSN, t.extract (60 * k) (min (60 * k + 60) t.size), ByteArray.empty⟩
/-- The adds of a text's chunks. -/
def chunksT (t : ByteArray) : List Ac := (List.range ((t.size + 59) / 60)).map (chunkN t)
theorem chunks_more (t : ByteArray) (k : Nat) : (List.range (k + 1)).map (chunkN t) = (List.range k).map (chunkN t) ++ [chunkN t k] := by
  rw [List.range_succ, List.map_append]
  rfl
theorem chunksT_length (t : ByteArray) : (chunksT t).length = (t.size + 59) / 60 := by unfold chunksT; simp

end Go.Proofs.YtingfgbcinlflaaGreatDoor

namespace Go.Proofs.YtingfgbcinlflaaGreatDoor
open Go Go.RowKit

def twoA (nm : ByteArray) : List Ac := [⟨2, nameSN, ByteArray.empty, ByteArray.empty⟩, ⟨3, nameSN, ByteArray.empty, nm⟩]
/-- The acts that lay a snapshot down. -/
def actsS (l : List Fl) (i : Int) (tx : ByteArray) : List Ac := newDrop l ++ chunksT tx ++ twoA (sname i) ++ dropsS i l
def saB (l : List Fl) (i t : Int) (cl : List Int) (b : ByteArray) : Bool := okS i t cl b && diskR l
def saL (l : List Fl) (i t : Int) (cl : List Int) (b : ByteArray) : List Ac := if saB l i t cl b then actsS l i (textS i t cl b) else []
theorem saB_no1 {l : List Fl} {i t : Int} {cl : List Int} {b : ByteArray} (h : okS i t cl b = false) : saB l i t cl b = false := by simp [saB, h]
theorem saL_no {l : List Fl} {i t : Int} {cl : List Int} {b : ByteArray} (h : saB l i t cl b = false) : saL l i t cl b = [] := by simp [saL, h]
theorem saL_yes {l : List Fl} {i t : Int} {cl : List Int} {b : ByteArray} (h : saB l i t cl b = true) : saL l i t cl b = actsS l i (textS i t cl b) := by simp [saL, h]
theorem newDrop_length (l : List Fl) : (newDrop l).length ≤ 1 := by
  unfold newDrop
  split <;> simp
theorem textS_le {i t : Int} {cl : List Int} {b : ByteArray} : (textS i t cl b).size ≤ 20000 := by
  unfold textS
  split
  · rename_i h
    have := (okS_out h).2.2.2.2
    unfold sealT
    rw [ByteArray.size_append, tail4_size]
    omega
  · exact Nat.zero_le _

theorem diskR_len {l : List Fl} (h : diskR l = true) : l.length ≤ 30 := by
  unfold diskR at h
  simp only [Bool.and_eq_true, decide_eq_true_eq] at h
  exact h.1
theorem texts_right {l : List Fl} (h : diskR l = true) : TextsL l := fun f hf => by
  obtain ⟨i, hi⟩ := List.getElem?_of_mem hf
  have := (right_true (diskR_right h i f hi)).2.1
  omega
end Go.Proofs.YtingfgbcinlflaaGreatDoor

namespace Go.Proofs.YtingfgbcinlflaaGreatDoor
open Go Go.RowKit

/-- What NewestSnap comes to. -/
def NsP (l : List Fl) (w : World) (e : Ending) (w' : World) : Prop := ∃ v, e = .returned (rsV (nsP l) v) ∧ ownsR w' w.heap.size 3 v (nsP l).l ∧ Below w.heap.size w w'
theorem nsP_no {l : List Fl} (h : diskR l = false) : nsP l = zeroS := by unfold nsP; rw [if_neg (by rw [h]; decide)]
theorem nsP_yes {l : List Fl} (h : diskR l = true) : nsP l = newP l := by unfold nsP; rw [if_pos h]
theorem pstep_less {P : Rsd} {f : Fl} {x : Int} (hx : idxOf f.name = x) (h : x < P.i) : pstep P f = P := by unfold pstep; rw [hx, if_pos h]
theorem pstep_not {P r : Rsd} {f : Fl} {x : Int} (hx : idxOf f.name = x) (hr : rsP f.text = r) (h : ¬ x < P.i) (hn : r.z = false ∨ r.i ≠ x) : pstep P f = P := by
  unfold pstep
  rw [hx, if_neg h, hr, if_neg]
  rintro ⟨h1, h2⟩
  rcases hn with h3 | h3
  · rw [h1] at h3; cases h3
  · exact h3 h2
theorem pstep_new {P r : Rsd} {f : Fl} {x : Int} (hx : idxOf f.name = x) (hr : rsP f.text = r) (h : ¬ x < P.i) (h1 : r.z = true) (h2 : r.i = x) : pstep P f = r := by
  unfold pstep
  rw [hx, if_neg h, hr, if_pos ⟨h1, h2⟩]

set_option maxRecDepth 10000 in
set_option maxHeartbeats 2000000 in
theorem newestSnap_no (ao : Option Addr) (n c : Nat) (l : List Fl) (w : World) (hd : diskR l = false) (CD : Hid (∀ W, Below w.heap.size w W → Calls Tryz.prog 31 #[.agg #[.slice ao n c]] W fun e w' => e = .returned (.bool false) ∧ Below W.heap.size W w')) :
    Calls Tryz.prog 18 #[.agg #[.slice ao n c]] w (NsP l w) := by
  have HZ : Hid (nsP l = zeroS) := nsP_no hd
  clear hd
  go_enter Tryz.func18, Tryz.ntmps18
  go_wp2_with fail
  refine Calls.mono (CD.out _ (ba (ba (Below.refl _ _) _) _)) ?_
  rintro e w1 ⟨rfl, hb1⟩
  have B1 : Below w.heap.size w w1 := (ba (ba (Below.refl _ _) _) _).trans (hb1.mono (by simp; omega))
  have G1 := blk_upD (heap_next w (.cells #[.slice ao n c] 30) (.cells #[.int .i64 0, .int .i64 0, .slice none 0 0, .string { data := #[] }] 40)) hb1
  clear hb1
  obtain ⟨c0, c1, c2, c3⟩ := sb_cells G1
  have f1 := sb_frozen G1
  go_wp2
  have F1 := sb_set3 (sb_set2 (sb_set1 (sb_set0 G1 (.int .i64 0)) (.int .i64 0)) (.slice none 0 0)) (.string { data := #[] })
  have FB := (((B1.setCell (p := ⟨w.heap.size + 1, 0, none⟩) (Nat.le_succ _) (.int .i64 0)).setCell (p := ⟨w.heap.size + 1, 1, none⟩) (Nat.le_succ _) (.int .i64 0)).setCell (p := ⟨w.heap.size + 1, 2, none⟩) (Nat.le_succ _) (.slice none 0 0)).setCell (p := ⟨w.heap.size + 1, 3, none⟩) (Nat.le_succ _) (.string { data := #[] })
  exact bodyPost_ret (ret_snap2 rfl rfl rfl F1) rfl ⟨_, by rw [HZ.out]; rfl, by rw [HZ.out]; exact ownsR_nil _ _ _, FB⟩

set_option maxRecDepth 10000 in
set_option maxHeartbeats 4000000 in
theorem newestSnap_go (ao : Option Addr) (n c : Nat) (l : List Fl) (w : World) (hr : Reads w (.slice ao n c) l) (hd : diskR l = true) (hp : PowIs w) (ht : TableIs w) (CD : Hid (∀ W, Below w.heap.size w W → Calls Tryz.prog 31 #[.agg #[.slice ao n c]] W fun e w' => e = .returned (.bool true) ∧ Below W.heap.size W w')) :
    Calls Tryz.prog 18 #[.agg #[.slice ao n c]] w (NsP l w) := by
  have HR : Hid (Reads w (.slice ao n c) l) := hr
  have HN : Hid (n = l.length) := hr.len
  have hn : n ≤ 30 := by rw [hr.len]; exact diskR_len hd
  have HM : Hid (NamesL l) := names_right hd
  have HX : Hid (TextsL l) := texts_right hd
  have HZ : Hid (nsP l = newP l) := nsP_yes hd
  have HP : Hid (PowIs w) := hp
  have HT : Hid (TableIs w) := ht
  clear hr hd hp ht
  go_enter Tryz.func18, Tryz.ntmps18
  go_wp2_with fail
  refine Calls.mono (CD.out _ (ba (ba (Below.refl _ _) _) _)) ?_
  rintro e w1 ⟨rfl, hb1⟩
  have B1 : Below w.heap.size w w1 := (ba (ba (Below.refl _ _) _) _).trans (hb1.mono (by simp; omega))
  have G1 := blk_upD (heap_next w (.cells #[.slice ao n c] 30) (.cells #[.int .i64 0, .int .i64 0, .slice none 0 0, .string { data := #[] }] 40)) hb1
  have d0 := one_cellD (blk_upD (heap_old (heap_last w (.cells #[.slice ao n c] 30)) (.cells #[.int .i64 0, .int .i64 0, .slice none 0 0, .string { data := #[] }] 40)) hb1)
  have hwg : w.heap.size + 1 < w1.heap.size := (Array.getElem?_eq_some_iff.1 G1).1
  have hwg0 : w.heap.size < w1.heap.size := by omega
  clear hb1
  go_wp2
  clear hwg0
  have GP : Hid ((w1.alloc (.cells #[.int .i64 0, .int .i64 0, .slice none 0 0, .string { data := #[] }] 40)).heap[w.heap.size + 1]? = some (.cells #[.int .i64 0, .int .i64 0, .slice none 0 0, .string { data := #[] }] 40)) := heap_old G1 _
  have GH : Hid ((w1.alloc (.cells #[.int .i64 0, .int .i64 0, .slice none 0 0, .string { data := #[] }] 40)).heap[w1.heap.size]? = some (.cells #[.int .i64 0, .int .i64 0, .slice none 0 0, .string { data := #[] }] 40)) := heap_last _ _
  have BB : Hid (Below w.heap.size w (w1.alloc (.cells #[.int .i64 0, .int .i64 0, .slice none 0 0, .string { data := #[] }] 40))) := ba B1 _
  generalize w1.heap.size = g at hwg GH ⊢
  generalize w1.alloc (.cells #[.int .i64 0, .int .i64 0, .slice none 0 0, .string { data := #[] }] 40) = W1 at GP GH BB ⊢
  clear B1 G1 d0
  go_loopw [5, 19] (fun fo i wr => ∃ k : Nat, k ≤ n ∧ i = .int .i64 k ∧ ∃ (P : Rsd) (v : Value), fo = .bool P.z ∧ newP (l.take k) = P ∧ wr.heap[g]? = some (.cells #[.int .i64 P.i, .int .i64 P.t, v, .string P.b] 40) ∧ wr.heap[w.heap.size + 1]? = some (.cells #[.int .i64 0, .int .i64 0, .slice none 0 0, .string { data := #[] }] 40) ∧ ownsR wr (g + 1) 3 v P.l ∧ Below w.heap.size w wr) (fun _ i _ => n - (intOf i).toNat)
  case atStart => exact ⟨0, Nat.zero_le _, rfl, zeroS, .slice none 0 0, rfl, rfl, GH.out, GP.out, ownsR_nil _ _ _, BB.out⟩
  case round =>
    obtain ⟨k, hk, rfl, ⟨Pi, Pt, Pl, Pb, Pz⟩, v, rfl, hP, gh, gp, ow, hbel⟩ := hrel
    dsimp only at gh ow ⊢
    obtain ⟨va, vn, vc, rfl⟩ := ow.slice3
    have hsz := hbel.size
    have HPP : Hid (newP (l.take k) = ⟨Pi, Pt, Pl, Pb, Pz⟩) := hP
    have hgw : g < wr.heap.size := (Array.getElem?_eq_some_iff.1 gh).1
    clear hP
    by_cases hlt : k < n
    · obtain ⟨⟨nm, tx, kp⟩, hf⟩ : ∃ f, l[k]? = some f := ⟨_, List.getElem?_eq_getElem (by rw [← HN.out]; exact hlt)⟩
      have HF : Hid (l[k]? = some ⟨nm, tx, kp⟩) := hf
      obtain ⟨b, o, rfl, hb, c0, c1, c2⟩ := fl_at (HR.out.below hbel) hf
      have hts : Hid (nm.size ≤ 8) := HM.out _ (List.mem_of_getElem? hf)
      have htt : Hid (tx.size ≤ 1048576) := HX.out _ (List.mem_of_getElem? hf)
      obtain ⟨x, HXX⟩ : ∃ x, Hid (idxOf nm = x) := ⟨_, rfl⟩
      have HNN : Hid (newP (l.take (k + 1)) = pstep ⟨Pi, Pt, Pl, Pb, Pz⟩ ⟨nm, tx, kp⟩) := by show _ = _; rw [newP_take HF.out, HPP.out]
      have CN : Hid (∀ W, Below wr.heap.size wr W → Calls Tryz.prog 32 #[.string nm] W fun e w' => e = .returned (.int .i64 x) ∧ Below W.heap.size W w') := fun W hW => by
        rw [← HXX.out]
        exact indexOf_any nm W (Nat.le_trans hts.out (by decide)) ((HP.out.below hbel).below hW)
      have CR : Hid (∀ W, Below wr.heap.size wr W → Calls Tryz.prog 33 #[.string tx] W (RsP tx W)) := fun W hW => readSnap_any tx W htt.out ((HT.out.below hbel).below hW)
      clear hf
      dsimp only at c0 c1 c2
      go_wp2_with fail
      refine Calls.mono (CN.out _ (ba (Below.refl _ _) _)) ?_
      rintro e w2 ⟨rfl, hb2⟩
      have hb3 : Below wr.heap.size wr w2 := (ba (Below.refl _ wr) _).trans (hb2.mono (by simp))
      have fb := blk_upD (heap_last wr (.cells #[.string nm, .string tx, .int .i64 kp] 56)) hb2
      have gh2 := blk_upD gh hb3
      have gp2 := blk_upD gp hb3
      have ow2 := ow.all hb3
      have hbel2 : Below w.heap.size w w2 := hbel.trans (hb3.mono hsz)
      have hgw2 : g < w2.heap.size := Nat.lt_of_lt_of_le hgw hb3.size
      clear gh gp ow hbel hb2 c0 c1 c2
      obtain ⟨fb0, fb1, fb2, fbf⟩ := cur_cells fb
      obtain ⟨h0, h1, h2, h3⟩ := sb_cells gh2
      by_cases hless : x < Pi
      · have HE : Hid (newP (l.take (k + 1)) = ⟨Pi, Pt, Pl, Pb, Pz⟩) := HNN.out.trans (pstep_less HXX.out hless)
        have hk1 : k + 1 ≤ n := by omega
        clear CR
        go_wp2
        go_roundw
        case rel => exact ⟨k + 1, hk1, by go_num, ⟨Pi, Pt, Pl, Pb, Pz⟩, _, rfl, HE.out, gh2, gp2, ow2, hbel2⟩
        case measure => simp [intOf]; omega
      · go_wp2_with fail
        refine Calls.mono (CR.out _ hb3) ?_
        rintro e w3 ⟨v3, rfl, o3, hb4⟩
        obtain ⟨oa, on, oc, rfl⟩ := o3.slice3
        rcases hrs : rsP tx with ⟨si, st, sl, sb, sz⟩
        rw [hrs] at o3
        have HRS : Hid (rsP tx = ⟨si, st, sl, sb, sz⟩) := hrs
        clear hrs
        unfold rsV
        dsimp only at o3 ⊢
        have gh3 := blk_upD gh2 hb4
        have gp3 := blk_upD gp2 hb4
        have ow3 := ow2.all hb4
        have hbel3 := Below.on hbel2 hb4
        have o3 : Hid (ownsR w3 (g + 1) 3 (.slice oa on oc) sl) := o3.mono hgw2
        have hgw3 : g < w3.heap.size := Nat.lt_of_lt_of_le hgw2 hb4.size
        have hk1 : k + 1 ≤ n := by omega
        clear gh2 gp2 ow2 hbel2 hb4 h0 h1 h2 h3 fb0 fb1 fb2 fbf fb hb3
        by_cases hnew : sz = true ∧ si = x
        · obtain ⟨rfl, rfl⟩ := hnew
          have HE : Hid (newP (l.take (k + 1)) = ⟨si, st, sl, sb, true⟩) := HNN.out.trans (pstep_new HXX.out HRS.out (by show ¬ si < Pi; omega) rfl rfl)
          have gs := heap_last w3 (.cells #[.int .i64 si, .int .i64 st, .slice oa on oc, .string sb] 40)
          have gh4 := heap_old gh3 (.cells #[.int .i64 si, .int .i64 st, .slice oa on oc, .string sb] 40)
          have gp4 := heap_old gp3 (.cells #[.int .i64 si, .int .i64 st, .slice oa on oc, .string sb] 40)
          have o4 := o3.out.alloc (.cells #[.int .i64 si, .int .i64 st, .slice oa on oc, .string sb] 40)
          have b4 := ba hbel3 (.cells #[.int .i64 si, .int .i64 st, .slice oa on oc, .string sb] 40)
          obtain ⟨WX, hWX⟩ : ∃ WX, w3.alloc (.cells #[.int .i64 si, .int .i64 st, .slice oa on oc, .string sb] 40) = WX := ⟨_, rfl⟩
          rw [hWX] at gs gh4 gp4 o4 b4
          obtain ⟨s0, s1, s2, s3⟩ := sb_cells gs
          obtain ⟨h0, h1, h2, h3⟩ := sb_cells gh4
          have hf := sb_frozen gh4
          clear ow3 gh3 gp3 hbel3 o3
          go_wp2
          have hlt1 : g < g + 1 := by omega
          have hgl : w.heap.size ≤ g := by omega
          have hgn : g ≠ w.heap.size + 1 := by omega
          have FH := sb_set3 (sb_set2 (sb_set1 (sb_set0 gh4 (.int .i64 si)) (.int .i64 st)) (.slice oa on oc)) (.string sb)
          have FP := heap_far (heap_far (heap_far (heap_far gp4 (p := ⟨g, 0, none⟩) hgn (.int .i64 si)) (p := ⟨g, 1, none⟩) hgn (.int .i64 st)) (p := ⟨g, 2, none⟩) hgn (.slice oa on oc)) (p := ⟨g, 3, none⟩) hgn (.string sb)
          have FO := (((o4.setBelow (a := ⟨g, 0, none⟩) hlt1 (.int .i64 si)).setBelow (a := ⟨g, 1, none⟩) hlt1 (.int .i64 st)).setBelow (a := ⟨g, 2, none⟩) hlt1 (.slice oa on oc)).setBelow (a := ⟨g, 3, none⟩) hlt1 (.string sb)
          have FB := (((b4.setCell (p := ⟨g, 0, none⟩) hgl (.int .i64 si)).setCell (p := ⟨g, 1, none⟩) hgl (.int .i64 st)).setCell (p := ⟨g, 2, none⟩) hgl (.slice oa on oc)).setCell (p := ⟨g, 3, none⟩) hgl (.string sb)
          go_roundw
          case rel => exact ⟨k + 1, hk1, by go_num, ⟨si, st, sl, sb, true⟩, _, rfl, HE.out, FH, FP, FO, FB⟩
          case measure => simp [intOf]; omega
        · have hnot : sz = false ∨ si ≠ x := by
            cases sz with
            | false => exact .inl rfl
            | true => exact .inr fun e => hnew ⟨rfl, e⟩
          have HE : Hid (newP (l.take (k + 1)) = ⟨Pi, Pt, Pl, Pb, Pz⟩) := HNN.out.trans (pstep_not HXX.out HRS.out (by show ¬ x < Pi; omega) hnot)
          have gh4 := heap_old gh3 (.cells #[.int .i64 si, .int .i64 st, .slice oa on oc, .string sb] 40)
          have gp4 := heap_old gp3 (.cells #[.int .i64 si, .int .i64 st, .slice oa on oc, .string sb] 40)
          have o4 := ow3.alloc (.cells #[.int .i64 si, .int .i64 st, .slice oa on oc, .string sb] 40)
          have b4 := ba hbel3 (.cells #[.int .i64 si, .int .i64 st, .slice oa on oc, .string sb] 40)
          clear ow3 gh3 gp3 hbel3 o3 hnew
          cases sz with
          | false =>
            clear hnot
            go_wp2
            go_roundw
            case rel => exact ⟨k + 1, hk1, by go_num, ⟨Pi, Pt, Pl, Pb, Pz⟩, _, rfl, HE.out, gh4, gp4, o4, b4⟩
            case measure => simp [intOf]; omega
          | true =>
            have hne : ¬ si = x := hnot.resolve_left (fun h => by cases h)
            have hne2 : (si == x) = false := by rw [beq_eq_false_iff_ne]; exact hne
            clear hnot
            go_wp2
            go_roundw
            case rel => exact ⟨k + 1, hk1, by go_num, ⟨Pi, Pt, Pl, Pb, Pz⟩, _, rfl, HE.out, gh4, gp4, o4, b4⟩
            case measure => simp [intOf]; omega
    · have hkn : k = n := by omega
      have HE : Hid (nsP l = ⟨Pi, Pt, Pl, Pb, Pz⟩) := by
        show nsP l = _
        rw [HZ.out]
        have := HPP.out
        rwa [hkn, HN.out, List.take_length] at this
      obtain ⟨h0, h1, h2, h3⟩ := sb_cells gh
      obtain ⟨p0, p1, p2, p3⟩ := sb_cells gp
      have pf := sb_frozen gp
      subst hkn
      go_wp2
      have F1 := sb_set3 (sb_set2 (sb_set1 (sb_set0 gp (.int .i64 Pi)) (.int .i64 Pt)) (.slice va vn vc)) (.string Pb)
      have hlt1 : w.heap.size + 1 < g + 1 := by omega
      have FO := (((ow.setBelow (a := ⟨w.heap.size + 1, 0, none⟩) hlt1 (.int .i64 Pi)).setBelow (a := ⟨w.heap.size + 1, 1, none⟩) hlt1 (.int .i64 Pt)).setBelow (a := ⟨w.heap.size + 1, 2, none⟩) hlt1 (.slice va vn vc)).setBelow (a := ⟨w.heap.size + 1, 3, none⟩) hlt1 (.string Pb)
      have FB := (((hbel.setCell (p := ⟨w.heap.size + 1, 0, none⟩) (Nat.le_succ _) (.int .i64 Pi)).setCell (p := ⟨w.heap.size + 1, 1, none⟩) (Nat.le_succ _) (.int .i64 Pt)).setCell (p := ⟨w.heap.size + 1, 2, none⟩) (Nat.le_succ _) (.slice va vn vc)).setCell (p := ⟨w.heap.size + 1, 3, none⟩) (Nat.le_succ _) (.string Pb)
      exact bodyPost_ret (ret_snap2 rfl rfl rfl F1) rfl ⟨_, by rw [HE.out]; rfl, by rw [HE.out]; exact FO.mono (by omega), FB⟩
/-- The program's NewestSnap. -/
theorem newestSnap_any {w : World} {v : Value} {l : List Fl} (hr : Reads w v l) (hp : PowIs w) (ht : TableIs w) : Calls Tryz.prog 18 #[.agg #[v]] w (NsP l w) := by
  obtain ⟨ao, c, rfl, _⟩ := id hr
  have CD : Hid (∀ W, Below w.heap.size w W → Calls Tryz.prog 31 #[.agg #[.slice ao l.length c]] W fun e w' => e = .returned (.bool (diskR l)) ∧ Below W.heap.size W w') := fun W h => diskOk_any (hr.below h)
  cases hd : diskR l with
  | false => rw [hd] at CD; exact newestSnap_no ao _ c l w hd CD
  | true => rw [hd] at CD; exact newestSnap_go ao _ c l w hr hd hp ht CD
end Go.Proofs.YtingfgbcinlflaaGreatDoor
