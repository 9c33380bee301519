/-
  The drops of a disk's other snapshots, and of the one that is begun: the walks. The drop of a snapshot that is begun, and the adds of a text's chunks: the walks. The acts that lay a snapshot down: the walk of the program's SnapActs. The names of a right disk rise. The newest snapshot of a disk: plain facts.
-/
import Derived.Test.YtgpojfkdcdgloaaDoorSn
import Derived.Test.YtgpojfkdcdgloaaDoorT5
import Derived.Test.YtgpojfkdcdgloaaDoorRea
import Derived.Test.YtgpojfkdcdgloaaDoorT0
import Derived.Test.YtgpojfkdcdgloaaDoorD1
import Derived.Test.YtgpojfkdcdgloaaDoorP1
namespace Go.Proofs.YtgpojfkdcdgloaaDoor
open Go Go.RowKit

theorem one_cellD {w : World} {g : Nat} {a : Value} {t : TypeId} (h : w.heap[g]? = some (.cells #[a] t)) : w.cell? ⟨g, 0, none⟩ = some a := by
  simp [World.cell?, h]
theorem blk_upD {w w' : World} {g : Nat} {o : Obj} (h : w.heap[g]? = some o) (hb : Below w.heap.size w w') : w'.heap[g]? = some o :=
  (hb.block _ (Array.getElem?_eq_some_iff.1 h).1).trans h
/-- Whether a file is a snapshot's of another index. -/
def dropSB (m : Int) (f : Fl) : Bool := decide (0 ≤ idxOf f.name) && decide (idxOf f.name ≠ m)
/-- The drops, in the order of files. -/
def dropsS (m : Int) (l : List Fl) : List Ac := (l.filter (dropSB m)).map fun f => ⟨4, f.name, ByteArray.empty, ByteArray.empty⟩
theorem dropsS_yes {m : Int} {l : List Fl} {k : Nat} {f : Fl} (h : l[k]? = some f) (hd : dropSB m f = true) : dropsS m (l.take (k + 1)) = dropsS m (l.take k) ++ [⟨4, f.name, ByteArray.empty, ByteArray.empty⟩] := by
  unfold dropsS
  rw [List.take_add_one, h]
  simp [List.filter_append, hd]
theorem dropsS_no {m : Int} {l : List Fl} {k : Nat} {f : Fl} (h : l[k]? = some f) (hd : dropSB m f = false) : dropsS m (l.take (k + 1)) = dropsS m (l.take k) := by
  unfold dropsS
  rw [List.take_add_one, h]
  simp [List.filter_append, hd]
theorem dropsS_length (m : Int) (l : List Fl) : (dropsS m l).length ≤ l.length := by
  unfold dropsS
  rw [List.length_map]
  exact List.length_filter_le _ _
theorem idxOf_name {s : ByteArray} (h : 0 ≤ idxOf s) : sname (idxOf s) = s := by
  unfold idxOf at h ⊢
  split
  · rename_i hh
    exact hh.2
  · rename_i hh
    rw [if_neg hh] at h
    omega
theorem dropSB_cases {m x : Int} {f : Fl} (hx : idxOf f.name = x) : (dropSB m f = true ∧ 0 ≤ x ∧ x ≠ m) ∨ (dropSB m f = false ∧ ¬ 0 ≤ x) ∨ (dropSB m f = false ∧ 0 ≤ x ∧ x = m) := by
  unfold dropSB
  rw [hx]
  by_cases h0 : 0 ≤ x
  · by_cases hm : x = m
    · exact .inr (.inr ⟨by simp [hm], h0, hm⟩)
    · exact .inl ⟨by simp [h0, hm], h0, hm⟩
  · exact .inr (.inl ⟨by simp [h0], h0⟩)

set_option maxRecDepth 10000 in
set_option maxHeartbeats 2000000 in
theorem otherSnapDrops_try (ao : Option Addr) (n c : Nat) (l : List Fl) (m : Int) (w : World) (hr : Reads w (.slice ao n c) l) (hn : n ≤ 30) (hs : NamesL l) (hp : PowIs w) :
    Calls Tryd.prog 62 #[.agg #[.slice ao n c], .int .i64 m] w fun e w' => ∃ v, e = .returned v ∧ ownsR w' w.heap.size 75 v (dropsS m l) ∧ Below w.heap.size w w' := by
  have HR : Hid (Reads w (.slice ao n c) l) := hr
  have HN : Hid (n = l.length) := hr.len
  have HS : Hid (NamesL l) := hs
  have HP : Hid (PowIs w) := hp
  clear hr hs hp
  go_enter Tryd.func62, Tryd.ntmps62
  go_wp2
  go_loopw [5, 13] (fun out i wr => ∃ k : Nat, k ≤ n ∧ i = .int .i64 k ∧ ownsR wr w.heap.size 75 out (dropsS m (l.take k)) ∧ Below w.heap.size w wr) (fun _ i _ => n - (intOf i).toNat)
  case atStart => exact ⟨0, Nat.zero_le _, rfl, (by have := ownsA_made (w.alloc (.cells #[.slice ao n c] 47)) w.heap.size 0 #[] (by simp) (by decide) rfl; simp only [World.size_alloc] at this; exact this), (ba (Below.refl _ _) _).alloc (by simp) _⟩
  case round =>
    obtain ⟨k, hk, rfl, hown, hbel⟩ := hrel
    have hsz := hbel.size
    by_cases hlt : k < n
    · obtain ⟨⟨nm, tx, kp⟩, hf⟩ : ∃ f, l[k]? = some f := ⟨_, List.getElem?_eq_getElem (by rw [← HN.out]; exact hlt)⟩
      have HF : Hid (l[k]? = some ⟨nm, tx, kp⟩) := hf
      obtain ⟨b, o, rfl, hb, c0, c1, c2⟩ := fl_at (HR.out.below hbel) hf
      have hts : Hid (nm.size ≤ 8) := HS.out _ (List.mem_of_getElem? hf)
      obtain ⟨x, HX⟩ : ∃ x, Hid (idxOf nm = x) := ⟨_, rfl⟩
      have CN : Hid (∀ W, Below wr.heap.size wr W → Calls Tryd.prog 68 #[.string nm] W fun e w' => e = .returned (.int .i64 x) ∧ Below W.heap.size W w') := fun W hW => by
        rw [← HX.out]
        exact indexOf_any nm W (Nat.le_trans hts.out (by decide)) ((HP.out.below hbel).below hW)
      have CC : Hid (∀ W, 0 ≤ x → Below wr.heap.size wr W → Calls Tryd.prog 10 #[.int .i64 x] W fun e w' => e = .returned (.string nm) ∧ Below W.heap.size W w') := fun W h0 hW => by
        have := snapName_any x W ((HP.out.below hbel).below hW)
        rwa [show sname x = nm by rw [← HX.out]; exact idxOf_name (by rw [HX.out]; exact h0)] at this
      clear hf
      dsimp only at c0 c1 c2
      have hlen : (dropsS m (l.take k)).length ≤ 1048576 := Nat.le_trans (dropsS_length _ _) (by rw [List.length_take]; omega)
      rcases dropSB_cases (m := m) (f := ⟨nm, tx, kp⟩) HX.out with ⟨hd, hx0, hxm⟩ | ⟨hd, hx0⟩ | ⟨hd, hx0, hxm⟩
      · have HT : Hid (dropsS m (l.take (k + 1)) = dropsS m (l.take k) ++ [⟨4, nm, ByteArray.empty, ByteArray.empty⟩]) := dropsS_yes HF.out hd
        clear hd
        go_wp2_with fail
        refine Calls.mono (CN.out _ (ba (Below.refl _ _) _)) ?_
        rintro e w2 ⟨rfl, hb2⟩
        have hb3 : Below wr.heap.size wr w2 := (ba (Below.refl _ wr) _).trans (hb2.mono (by simp))
        clear hb2
        go_wp2_with fail
        refine Calls.mono (CC.out _ hx0 hb3) ?_
        rintro e w4 ⟨rfl, hb4⟩
        have hb5 : Below wr.heap.size wr w4 := Below.on hb3 hb4
        have hown4 := hown.all hb5
        have hbel4 : Below w.heap.size w w4 := hbel.trans (hb5.mono hsz)
        have hsz4 := hbel4.size
        clear hown hbel c0 c1 c2 hb3 hb4 hb5
        go_wp2_with (at_builtin; refine wpList_append_rec _ w rfl (.tmp 27) (.tmp 31) 42 rfl w.heap.size 75 _ 56 underAc infoAc rfl _ (dropsS m (l.take k)) rfl (hown4.alloc _) (hbel4.alloc hsz4 _) w4.heap.size 1 ⟨4, nm, ByteArray.empty, ByteArray.empty⟩ rfl ?c1 ?c2 ?c3 ?c4 ?_)
        case c1 => exact cells_ac (by simp) (by simp) (by simp; rfl) (by simp; rfl)
        case c2 => exact hlen
        case c3 => omega
        case c4 => simp; omega
        intro v' w5 hown5 hbel5 _
        rw [← HT.out] at hown5
        clear hown4 hbel4
        go_wp2
        go_roundw
        case rel => exact ⟨k + 1, by omega, by go_num, hown5, hbel5⟩
        case measure => simp [intOf]; omega
      · have HT : Hid (dropsS m (l.take (k + 1)) = dropsS m (l.take k)) := dropsS_no HF.out hd
        clear hd
        go_wp2_with fail
        refine Calls.mono (CN.out _ (ba (Below.refl _ _) _)) ?_
        rintro e w2 ⟨rfl, hb2⟩
        have hb3 : Below wr.heap.size wr w2 := (ba (Below.refl _ wr) _).trans (hb2.mono (by simp))
        have hown4 := hown.all hb3
        rw [← HT.out] at hown4
        have hbel4 : Below w.heap.size w w2 := hbel.trans (hb3.mono hsz)
        clear hown hbel c0 c1 c2 hb2 hb3
        go_wp2
        go_roundw
        case rel => exact ⟨k + 1, by omega, by go_num, hown4, hbel4⟩
        case measure => simp [intOf]; omega
      · have HT : Hid (dropsS m (l.take (k + 1)) = dropsS m (l.take k)) := dropsS_no HF.out hd
        clear hd
        subst hxm
        go_wp2_with fail
        refine Calls.mono (CN.out _ (ba (Below.refl _ _) _)) ?_
        rintro e w2 ⟨rfl, hb2⟩
        have hb3 : Below wr.heap.size wr w2 := (ba (Below.refl _ wr) _).trans (hb2.mono (by simp))
        have hown4 := hown.all hb3
        rw [← HT.out] at hown4
        have hbel4 : Below w.heap.size w w2 := hbel.trans (hb3.mono hsz)
        clear hown hbel c0 c1 c2 hb2 hb3
        go_wp2
        go_roundw
        case rel => exact ⟨k + 1, by omega, by go_num, hown4, hbel4⟩
        case measure => simp [intOf]; omega
    · have hkn : k = l.length := by rw [← HN.out]; omega
      have HO : Hid (ownsR wr w.heap.size 75 u5 (dropsS m l)) := by
        have := hown
        rw [hkn, List.take_length] at this
        exact this
      clear hown hkn
      go_wp2
      go_ret
      exact ⟨_, rfl, HO.out, hbel⟩
theorem otherSnapDrops_any {w : World} {v : Value} {l : List Fl} {m : Int} (hr : Reads w v l) (hn : l.length ≤ 30) (hs : NamesL l) (hp : PowIs w) :
    Calls Tryd.prog 62 #[.agg #[v], .int .i64 m] w fun e w' => ∃ v, e = .returned v ∧ ownsR w' w.heap.size 75 v (dropsS m l) ∧ Below w.heap.size w w' := by
  obtain ⟨ao, c, rfl, _⟩ := id hr
  exact otherSnapDrops_try ao _ c l m w hr hn hs hp

set_option maxRecDepth 10000 in
set_option maxHeartbeats 2000000 in
theorem specDrops_try (ao : Option Addr) (n c : Nat) (l : List Fl) (m : Int) (w : World) (hr : Reads w (.slice ao n c) l) (hn : n ≤ 30) (hs : NamesL l) :
    Calls Tryd.prog 57 #[.agg #[.slice ao n c], .int .i64 m] w fun e w' => ∃ v, e = .returned v ∧ ownsR w' w.heap.size 75 v (dropsS m l) ∧ Below w.heap.size w w' := by
  have HN : Hid (n = l.length) := hr.len
  have HS : Hid (NamesL l) := hs
  go_enter Tryd.func57, Tryd.ntmps57
  go_wp2
  have HB : Hid (Below w.heap.size w (w.alloc (.cells #[.slice ao n c] 47))) := ba (Below.refl _ _) _
  have HR : Hid (Reads (w.alloc (.cells #[.slice ao n c] 47)) (.slice ao n c) l) := hr.alloc _
  have HD : Hid ((w.alloc (.cells #[.slice ao n c] 47)).heap[w.heap.size]? = some (.cells #[.slice ao n c] 47)) := heap_last _ _
  have H0 : Hid (ownsR ((w.alloc (.cells #[.slice ao n c] 47)).alloc (.cells #[] 75)) (w.alloc (.cells #[.slice ao n c] 47)).heap.size 75 (.slice (some ⟨w.heap.size + 1, 0, none⟩) 0 0) ([] : List Ac)) := by
    have := ownsA_made (w.alloc (.cells #[.slice ao n c] 47)) (w.alloc (.cells #[.slice ao n c] 47)).heap.size 0 #[] (Nat.le_refl _) (by decide) rfl
    rw [World.size_alloc] at this ⊢
    exact this
  clear hr hs
  generalize w.alloc (.cells #[.slice ao n c] 47) = W0 at HB HR HD H0 ⊢
  go_loopw [5, 6] (fun out i wr => ∃ k : Nat, k ≤ n ∧ i = .int .i64 k ∧ ownsR wr W0.heap.size 75 out (dropsS m (l.take k)) ∧ Below W0.heap.size W0 wr) (fun _ i _ => n - (intOf i).toNat)
  case atStart => exact ⟨0, Nat.zero_le _, rfl, H0.out, ba (Below.refl _ _) _⟩
  case round =>
    obtain ⟨k, hk, rfl, hown, hbel⟩ := hrel
    have hsz := hbel.size
    have cd := one_cellD (blk_upD HD.out hbel)
    by_cases hlt : k < n
    · obtain ⟨⟨nm, tx, kp⟩, hf⟩ : ∃ f, l[k]? = some f := ⟨_, List.getElem?_eq_getElem (by rw [← HN.out]; exact hlt)⟩
      have HF : Hid (l[k]? = some ⟨nm, tx, kp⟩) := hf
      obtain ⟨b, o, rfl, hb, c0, c1, c2⟩ := fl_at (HR.out.below hbel) hf
      have hts : Hid (nm.size ≤ 8) := HS.out _ (List.mem_of_getElem? hf)
      obtain ⟨x, HX⟩ : ∃ x, Hid (idxOf nm = x) := ⟨_, rfl⟩
      have CN : Hid (∀ W, Calls Tryd.prog 67 #[.string nm] W fun e w' => e = .returned (.int .i64 x) ∧ Below W.heap.size W w') := fun W => by
        rw [← HX.out]
        exact specIndex_any nm W (Nat.le_trans hts.out (by decide))
      clear hf
      dsimp only at c0 c1 c2
      have hlen : (dropsS m (l.take k)).length ≤ 1048576 := Nat.le_trans (dropsS_length _ _) (by rw [List.length_take]; omega)
      rcases dropSB_cases (m := m) (f := ⟨nm, tx, kp⟩) HX.out with ⟨hd, hx0, hxm⟩ | ⟨hd, hx0⟩ | ⟨hd, hx0, hxm⟩
      · have HT : Hid (dropsS m (l.take (k + 1)) = dropsS m (l.take k) ++ [⟨4, nm, ByteArray.empty, ByteArray.empty⟩]) := dropsS_yes HF.out hd
        clear hd
        go_wp2_with fail
        refine Calls.mono (CN.out _) ?_
        rintro e w2 ⟨rfl, hb2⟩
        have hown4 := hown.all hb2
        have hbel4 : Below W0.heap.size W0 w2 := Below.on hbel hb2
        have hsz4 := hbel4.size
        have hb4 : b < w2.heap.size := Nat.lt_of_lt_of_le hb hb2.size
        replace c0 := cell_up hb2 c0
        replace cd := cell_up hb2 cd
        clear hown hbel c1 c2 hb2 hb
        go_wp2_with (at_builtin; refine wpList_append_rec _ W0 rfl (.tmp 30) (.tmp 38) 42 rfl W0.heap.size 75 _ 56 underAc infoAc rfl _ (dropsS m (l.take k)) rfl (hown4.alloc _) (hbel4.alloc hsz4 _) w2.heap.size 1 ⟨4, nm, ByteArray.empty, ByteArray.empty⟩ rfl ?c1 ?c2 ?c3 ?c4 ?_)
        case c1 => exact cells_ac (by simp) (by simp) (by simp; rfl) (by simp; rfl)
        case c2 => exact hlen
        case c3 => omega
        case c4 => simp; omega
        intro v' w5 hown5 hbel5 _
        rw [← HT.out] at hown5
        clear hown4 hbel4
        go_wp2
        go_roundw
        case rel => exact ⟨k + 1, by omega, by go_num, hown5, hbel5⟩
        case measure => simp [intOf]; omega
      · have HT : Hid (dropsS m (l.take (k + 1)) = dropsS m (l.take k)) := dropsS_no HF.out hd
        clear hd
        go_wp2_with fail
        refine Calls.mono (CN.out _) ?_
        rintro e w2 ⟨rfl, hb2⟩
        have hown4 := hown.all hb2
        rw [← HT.out] at hown4
        have hbel4 : Below W0.heap.size W0 w2 := Below.on hbel hb2
        clear hown hbel c0 c1 c2 hb2 cd
        go_wp2
        go_roundw
        case rel => exact ⟨k + 1, by omega, by go_num, hown4, hbel4⟩
        case measure => simp [intOf]; omega
      · have HT : Hid (dropsS m (l.take (k + 1)) = dropsS m (l.take k)) := dropsS_no HF.out hd
        clear hd
        subst hxm
        go_wp2_with fail
        refine Calls.mono (CN.out _) ?_
        rintro e w2 ⟨rfl, hb2⟩
        have hown4 := hown.all hb2
        rw [← HT.out] at hown4
        have hbel4 : Below W0.heap.size W0 w2 := Below.on hbel hb2
        clear hown hbel c0 c1 c2 hb2 cd
        go_wp2
        go_roundw
        case rel => exact ⟨k + 1, by omega, by go_num, hown4, hbel4⟩
        case measure => simp [intOf]; omega
    · have hkn : k = l.length := by rw [← HN.out]; omega
      have HO : Hid (ownsR wr W0.heap.size 75 u5 (dropsS m l)) := by
        have := hown
        rw [hkn, List.take_length] at this
        exact this
      clear hown hkn
      go_wp2
      go_ret
      exact ⟨_, rfl, HO.out.mono HB.out.size, HB.out.trans (hbel.mono HB.out.size)⟩
theorem specDrops_any {w : World} {v : Value} {l : List Fl} {m : Int} (hr : Reads w v l) (hn : l.length ≤ 30) (hs : NamesL l) :
    Calls Tryd.prog 57 #[.agg #[v], .int .i64 m] w fun e w' => ∃ v, e = .returned v ∧ ownsR w' w.heap.size 75 v (dropsS m l) ∧ Below w.heap.size w w' := by
  obtain ⟨ao, c, rfl, _⟩ := id hr
  exact specDrops_try ao _ c l m w hr hn hs
end Go.Proofs.YtgpojfkdcdgloaaDoor

namespace Go.Proofs.YtgpojfkdcdgloaaDoor
open Go Go.RowKit

def nameSN : ByteArray := ⟨#[115, 43]⟩
/-- The drop of the snapshot that is begun, if it is there. -/
def newDrop (l : List Fl) : List Ac := if (findF l nameSN).isSome then [⟨4, nameSN, ByteArray.empty, ByteArray.empty⟩] else []
theorem fileR_some (l : List Fl) (s : ByteArray) : (fileR l s).2 = (findF l s).isSome := by
  unfold fileR
  cases findF l s <;> rfl
theorem newDrop_yes {l : List Fl} (h : (findF l nameSN).isSome = true) : newDrop l = [⟨4, nameSN, ByteArray.empty, ByteArray.empty⟩] := by unfold newDrop; rw [if_pos h]
theorem newDrop_no {l : List Fl} (h : (findF l nameSN).isSome = false) : newDrop l = [] := by unfold newDrop; rw [if_neg (by rw [h]; decide)]

set_option maxRecDepth 10000 in
set_option maxHeartbeats 1000000 in
theorem newSnapDrops_any {w : World} {v : Value} {l : List Fl} (hr : Reads w v l) (hn : l.length ≤ 1048577) (hs : TextsL l) :
    Calls Tryd.prog 60 #[.agg #[v]] w fun e w' => ∃ v, e = .returned v ∧ ownsR w' w.heap.size 75 v (newDrop l) ∧ Below w.heap.size w w' := by
  obtain ⟨ao, c, rfl, _⟩ := id hr
  have HR : Hid (Reads w (.slice ao l.length c) l) := hr
  have HL : Hid (l.length ≤ 1048577) := hn
  have HS : Hid (TextsL l) := hs
  clear hr hn hs
  obtain ⟨q, HQ⟩ : ∃ q, Hid ((findF l nameSN).isSome = q) := ⟨_, rfl⟩
  obtain ⟨t, HT⟩ : ∃ t, Hid ((fileR l nameSN).1 = t) := ⟨_, rfl⟩
  go_enter Tryd.func60, Tryd.ntmps60
  go_wp2_with fail
  have B0 : Hid (Below w.heap.size w ((w.alloc (.cells #[.slice ao l.length c] 47)).alloc (.cells #[] 75))) := ba (ba (Below.refl _ _) _) _
  have O0 : Hid (ownsR ((w.alloc (.cells #[.slice ao l.length c] 47)).alloc (.cells #[] 75)) w.heap.size 75 (.slice (some ⟨w.heap.size + 1, 0, none⟩) 0 0) ([] : List Ac)) := by
    have := ownsA_made (w.alloc (.cells #[.slice ao l.length c] 47)) w.heap.size 0 #[] (by simp) (by decide) rfl
    rw [World.size_alloc] at this
    exact this
  have CF := fileAt_any nameSN (HR.out.below B0.out) HL.out HS.out
  rw [fileR_some, HQ.out, HT.out] at CF
  refine Calls.mono CF ?_
  clear CF
  rintro e w1 ⟨rfl, hb1⟩
  have B1 : Below w.heap.size w w1 := B0.out.trans (hb1.mono B0.out.size)
  have O1 := O0.out.all hb1
  clear hb1 O0 B0
  cases q with
  | false =>
    have HE : Hid (newDrop l = []) := newDrop_no HQ.out
    go_wp2
    go_ret
    exact ⟨_, rfl, by rw [HE.out]; exact O1, B1⟩
  | true =>
    have HE : Hid (newDrop l = [⟨4, nameSN, ByteArray.empty, ByteArray.empty⟩]) := newDrop_yes HQ.out
    have hsz1 := B1.size
    go_wp2_with (at_builtin; refine wpList_append_rec _ w rfl (.tmp 13) (.tmp 15) 42 rfl w.heap.size 75 _ 56 underAc infoAc rfl _ ([] : List Ac) rfl (O1.alloc _) (B1.alloc hsz1 _) w1.heap.size 1 ⟨4, nameSN, ByteArray.empty, ByteArray.empty⟩ rfl ?c1 ?c2 ?c3 ?c4 ?_)
    case c1 => exact cells_ac (by simp) (by simp; rfl) (by simp; rfl) (by simp; rfl)
    case c2 => simp
    case c3 => omega
    case c4 => simp; omega
    intro v' w5 hown5 hbel5 _
    clear O1 B1
    go_wp2
    go_ret
    exact ⟨_, rfl, by rw [HE.out]; exact hown5, hbel5⟩

theorem ownsA_one (w : World) (B : Nat) (x : Ac) (hb : B ≤ w.heap.size) :
    ownsR (w.alloc (.cells #[.int .i64 x.kind, .string x.name, .string x.text, .string x.to] 75)) B 75 (.slice (some ⟨w.heap.size, 0, none⟩) 1 1) [x] :=
  ⟨rfl, .inr ⟨w.heap.size, 1, _, rfl, hb, heap_last w _, Nat.le_refl 1, by decide, rfl, rfl⟩⟩
set_option maxRecDepth 10000 in
set_option maxHeartbeats 1000000 in
theorem specNew_any {w : World} {v : Value} {l : List Fl} (hr : Reads w v l) (hn : l.length ≤ 1048577) :
    Calls Tryd.prog 56 #[.agg #[v]] w fun e w' => ∃ v, e = .returned v ∧ ownsR w' w.heap.size 75 v (newDrop l) ∧ Below w.heap.size w w' := by
  obtain ⟨ao, c, rfl, _⟩ := id hr
  have HR : Hid (Reads w (.slice ao l.length c) l) := hr
  have HL : Hid (l.length ≤ 1048577) := hn
  clear hr hn
  go_enter Tryd.func56, Tryd.ntmps56
  go_wp2_with fail
  refine Calls.mono (specAt_try ao _ c l nameSN _ (HR.out.alloc _) HL.out) ?_
  rintro e w1 ⟨r, rfl, hr, hb1⟩
  have B1 := below_new hb1
  clear hb1
  rcases hr with ⟨rfl, hf⟩ | ⟨k, f, rfl, _, hf⟩
  · have HE : Hid (newDrop l = []) := newDrop_no (by rw [hf]; rfl)
    clear hf
    go_wp2
    go_ret
    exact ⟨_, rfl, by rw [HE.out]; exact ownsA_made w1 w.heap.size 0 #[] B1.size (by decide) rfl, ba B1 _⟩
  · have HE : Hid (newDrop l = [⟨4, nameSN, ByteArray.empty, ByteArray.empty⟩]) := newDrop_yes (by rw [hf]; rfl)
    have hk0 : (0 : Int) ≤ (k : Int) := by omega
    clear hf
    go_wp2
    go_ret
    exact ⟨_, rfl, by rw [HE.out]; exact ownsA_one w1 w.heap.size ⟨4, nameSN, ByteArray.empty, ByteArray.empty⟩ B1.size, ba B1 _⟩

/-- The add of one chunk. -/
def chunkN (t : ByteArray) (k : Nat) : Ac := ⟨1, nameSN, t.extract (60 * k) (min (60 * k + 60) t.size), ByteArray.empty⟩
/-- The adds of a text's chunks. -/
def chunksT (t : ByteArray) : List Ac := (List.range ((t.size + 59) / 60)).map (chunkN t)
theorem chunks_more (t : ByteArray) (k : Nat) : (List.range (k + 1)).map (chunkN t) = (List.range k).map (chunkN t) ++ [chunkN t k] := by
  rw [List.range_succ, List.map_append]
  rfl
theorem chunksT_length (t : ByteArray) : (chunksT t).length = (t.size + 59) / 60 := by unfold chunksT; simp

set_option maxRecDepth 10000 in
set_option maxHeartbeats 1000000 in
theorem chunkAdds_any (t : ByteArray) (w : World) (hs : t.size ≤ 1048576) :
    Calls Tryd.prog 61 #[.string t] w fun e w' => ∃ v, e = .returned v ∧ ownsR w' w.heap.size 75 v (chunksT t) ∧ Below w.heap.size w w' := by
  have hz : (t.size : Int) ≤ 1048576 := by omega
  go_enter Tryd.func61, Tryd.ntmps61
  go_wp2
  go_loopw [3, 4] (fun out i wr => ∃ k : Nat, k ≤ (t.size + 59) / 60 ∧ i = .int .i64 ((60 * k : Nat) : Int) ∧ ownsR wr w.heap.size 75 out ((List.range k).map (chunkN t)) ∧ Below w.heap.size w wr) (fun _ i _ => t.size + 60 - (intOf i).toNat)
  case atStart => exact ⟨0, Nat.zero_le _, rfl, ownsA_made w w.heap.size 0 #[] (Nat.le_refl _) (by decide) rfl, ba (Below.refl _ _) _⟩
  case round =>
    obtain ⟨k, hk, rfl, hown, hbel⟩ := hrel
    have hsz := hbel.size
    obtain ⟨a, ha⟩ : ∃ a, 60 * k = a := ⟨_, rfl⟩
    by_cases hlt : a < t.size
    · obtain ⟨x, hx⟩ : ∃ x, t.extract a (min (a + 60) t.size) = x := ⟨_, rfl⟩
      have HC : Hid (chunkN t k = ⟨1, nameSN, x, ByteArray.empty⟩) := by show chunkN t k = _; unfold chunkN; rw [ha, hx]
      have hsl : ∀ wx, (Instr.slice 9 (.string t) (some (.int .i64 (a : Int))) (some (.int .i64 (min ((a : Int) + 60) (t.size : Int)))) none).run Tryd.prog wx = .ok (.string x) wx := fun wx => by
        have := run_slice_string (P := Tryd.prog) wx 9 t .i64 .i64 (a : Int) (min ((a : Int) + 60) (t.size : Int)) Tryd.underlying9 (by omega) (by omega) (by omega)
        rw [show (min ((a : Int) + 60) (t.size : Int)).toNat = min (a + 60) t.size by omega, Int.toNat_natCast, hx] at this
        exact this
      have hlen : ((List.range k).map (chunkN t)).length ≤ 1048576 := by simp; omega
      have HK : Hid (60 * k = a) := ha
      rw [ha]
      clear ha hx
      go_wp2_with (at_builtin; refine wpList_append_rec _ w rfl (.tmp 21) (.tmp 24) 42 rfl w.heap.size 75 _ 56 underAc infoAc rfl _ ((List.range k).map (chunkN t)) rfl (hown.alloc _) (hbel.alloc hsz _) wr.heap.size 1 ⟨1, nameSN, x, ByteArray.empty⟩ rfl ?c1 ?c2 ?c3 ?c4 ?_)
      case c1 => exact cells_ac (by simp) (by simp; rfl) (by simp) (by simp; rfl)
      case c2 => exact hlen
      case c3 => omega
      case c4 => simp; omega
      intro v' w5 hown5 hbel5 _
      have HO : Hid (ownsR w5 w.heap.size 75 v' ((List.range (k + 1)).map (chunkN t))) := by
        show ownsR _ _ _ _ _
        rw [chunks_more, HC.out]
        exact hown5
      have hk1 : k + 1 ≤ (t.size + 59) / 60 := by have := HK.out; omega
      have hk2 : ((60 * (k + 1) : Nat) : Int) = (a : Int) + 60 := by have := HK.out; omega
      clear hown hbel hown5 hsl
      go_wp2
      go_roundw
      case rel => exact ⟨k + 1, hk1, by rw [hk2], HO.out, hbel5⟩
      case measure => simp [intOf]; omega
    · have hkn : k = (t.size + 59) / 60 := by omega
      have HO : Hid (ownsR wr w.heap.size 75 u3 (chunksT t)) := by
        have := hown
        rw [hkn] at this
        exact this
      rw [ha]
      clear hown hkn ha
      go_wp2
      go_ret
      exact ⟨_, rfl, HO.out, hbel⟩
end Go.Proofs.YtgpojfkdcdgloaaDoor

namespace Go.Proofs.YtgpojfkdcdgloaaDoor
open Go Go.RowKit

def twoA (nm : ByteArray) : List Ac := [⟨2, nameSN, ByteArray.empty, ByteArray.empty⟩, ⟨3, nameSN, ByteArray.empty, nm⟩]
/-- The acts that lay a snapshot down. -/
def actsS (l : List Fl) (i : Int) (tx : ByteArray) : List Ac := newDrop l ++ chunksT tx ++ twoA (sname i) ++ dropsS i l
def saB (l : List Fl) (i t : Int) (cl : List Int) (b : ByteArray) : Bool := okS i t cl b && diskR l
def saL (l : List Fl) (i t : Int) (cl : List Int) (b : ByteArray) : List Ac := if saB l i t cl b then actsS l i (textS i t cl b) else []
theorem saB_no1 {l : List Fl} {i t : Int} {cl : List Int} {b : ByteArray} (h : okS i t cl b = false) : saB l i t cl b = false := by simp [saB, h]
theorem saL_no {l : List Fl} {i t : Int} {cl : List Int} {b : ByteArray} (h : saB l i t cl b = false) : saL l i t cl b = [] := by simp [saL, h]
theorem saL_yes {l : List Fl} {i t : Int} {cl : List Int} {b : ByteArray} (h : saB l i t cl b = true) : saL l i t cl b = actsS l i (textS i t cl b) := by simp [saL, h]
theorem newDrop_length (l : List Fl) : (newDrop l).length ≤ 1 := by
  unfold newDrop
  split <;> simp
theorem textS_le {i t : Int} {cl : List Int} {b : ByteArray} : (textS i t cl b).size ≤ 20000 := by
  unfold textS
  split
  · rename_i h
    have := (okS_out h).2.2.2.2
    unfold sealT
    rw [ByteArray.size_append, tail4_size]
    omega
  · exact Nat.zero_le _

set_option maxRecDepth 10000 in
set_option maxHeartbeats 2000000 in
theorem snapActs_no (ao bo : Option Addr) (n c k d : Nat) (i t : Int) (b tx : ByteArray) (q : Bool) (w : World)
    (CS : Hid (∀ W, Below w.heap.size w W → Calls Tryd.prog 14 #[.agg #[.int .i64 i, .int .i64 t, .slice bo k d, .string b]] W fun e w' => e = .returned (.tuple #[.string tx, .bool q]) ∧ Below W.heap.size W w'))
    (CD : Hid (∀ W, Below w.heap.size w W → Calls Tryd.prog 59 #[.agg #[.slice ao n c]] W fun e w' => e = .returned (.bool false) ∧ Below W.heap.size W w') ∨ q = false) :
    Calls Tryd.prog 23 #[.agg #[.slice ao n c], .agg #[.int .i64 i, .int .i64 t, .slice bo k d, .string b]] w fun e w' => ∃ x, e = .returned (.tuple #[x, .bool false]) ∧ ownsR w' w.heap.size 75 x ([] : List Ac) ∧ Below w.heap.size w w' := by
  go_enter Tryd.func23, Tryd.ntmps23
  go_wp2_with fail
  refine Calls.mono (CS.out _ (ba (ba (Below.refl _ _) _) _)) ?_
  rintro e w1 ⟨rfl, hb1⟩
  have B1 : Below w.heap.size w w1 := (ba (ba (Below.refl _ _) _) _).trans (hb1.mono (by simp; omega))
  have H1 := one_cellD (blk_upD (heap_old (heap_last w (.cells #[.slice ao n c] 47)) (.cells #[.int .i64 i, .int .i64 t, .slice bo k d, .string b] 30)) hb1)
  clear hb1
  cases q with
  | false =>
    clear CD
    go_wp2
    go_ret2
    exact ⟨_, rfl, ownsA_made w1 w.heap.size 0 #[] B1.size (by decide) rfl, ba B1 _⟩
  | true =>
    have CD := CD.resolve_right (fun h => by cases h)
    go_wp2_with fail
    refine Calls.mono (CD.out _ B1) ?_
    rintro e w2 ⟨rfl, hb2⟩
    have B2 := Below.on B1 hb2
    clear hb2 B1 H1
    go_wp2
    go_ret2
    exact ⟨_, rfl, ownsA_made w2 w.heap.size 0 #[] B2.size (by decide) rfl, ba B2 _⟩

set_option maxRecDepth 10000 in
set_option maxHeartbeats 4000000 in
theorem snapActs_go (ao bo : Option Addr) (n c k d : Nat) (l : List Fl) (i t : Int) (b tx nm : ByteArray) (w : World) (hr : Reads w (.slice ao n c) l) (hn : n ≤ 30) (hnm : NamesL l) (htx : TextsL l) (hp : PowIs w) (hs : tx.size ≤ 20000) (hsn : sname i = nm)
    (CS : Hid (∀ W, Below w.heap.size w W → Calls Tryd.prog 14 #[.agg #[.int .i64 i, .int .i64 t, .slice bo k d, .string b]] W fun e w' => e = .returned (.tuple #[.string tx, .bool true]) ∧ Below W.heap.size W w'))
    (CD : Hid (∀ W, Below w.heap.size w W → Calls Tryd.prog 59 #[.agg #[.slice ao n c]] W fun e w' => e = .returned (.bool true) ∧ Below W.heap.size W w')) :
    Calls Tryd.prog 23 #[.agg #[.slice ao n c], .agg #[.int .i64 i, .int .i64 t, .slice bo k d, .string b]] w fun e w' => ∃ x, e = .returned (.tuple #[x, .bool true]) ∧ ownsR w' w.heap.size 75 x (actsS l i tx) ∧ Below w.heap.size w w' := by
  have HR : Hid (Reads w (.slice ao n c) l) := hr
  have HN : Hid (l.length ≤ 30) := by show _ ≤ _; rw [← hr.len]; exact hn
  have HM : Hid (NamesL l) := hnm
  have HX : Hid (TextsL l) := htx
  have HP : Hid (PowIs w) := hp
  have HZ : Hid (tx.size ≤ 20000) := hs
  have CN : Hid (∀ W, Below w.heap.size w W → Calls Tryd.prog 10 #[.int .i64 i] W fun e w' => e = .returned (.string nm) ∧ Below W.heap.size W w') := fun W h => by
    have := snapName_any i W (hp.below h)
    rwa [hsn] at this
  have HSN : Hid (sname i = nm) := hsn
  clear hr hn hnm htx hp hs hsn
  go_enter Tryd.func23, Tryd.ntmps23
  go_wp2_with fail
  have D0 : Hid (((w.alloc (.cells #[.slice ao n c] 47)).alloc (.cells #[.int .i64 i, .int .i64 t, .slice bo k d, .string b] 30)).heap[w.heap.size]? = some (.cells #[.slice ao n c] 47)) := heap_old (heap_last _ _) _
  have S0 : Hid (((w.alloc (.cells #[.slice ao n c] 47)).alloc (.cells #[.int .i64 i, .int .i64 t, .slice bo k d, .string b] 30)).heap[w.heap.size + 1]? = some (.cells #[.int .i64 i, .int .i64 t, .slice bo k d, .string b] 30)) := heap_next _ _ _
  have B0 : Hid (Below w.heap.size w ((w.alloc (.cells #[.slice ao n c] 47)).alloc (.cells #[.int .i64 i, .int .i64 t, .slice bo k d, .string b] 30))) := ba (ba (Below.refl _ _) _) _
  generalize (w.alloc (.cells #[.slice ao n c] 47)).alloc (.cells #[.int .i64 i, .int .i64 t, .slice bo k d, .string b] 30) = W0 at D0 S0 B0 ⊢
  refine Calls.mono (CS.out _ B0.out) ?_
  rintro e w1 ⟨rfl, K1⟩
  have d0 := one_cellD (blk_upD D0.out K1)
  go_wp2_with fail
  refine Calls.mono (CD.out _ (B0.out.trans (K1.mono B0.out.size))) ?_
  rintro e w2 ⟨rfl, hb2⟩
  have K2 := Below.on K1 hb2
  clear d0 K1 hb2
  have d0 := one_cellD (blk_upD D0.out K2)
  go_wp2_with fail
  refine Calls.mono (newSnapDrops_any (HR.out.below (B0.out.trans (K2.mono B0.out.size))) (Nat.le_trans HN.out (by decide)) HX.out) ?_
  rintro e w3 ⟨v3, rfl, o3, hb3⟩
  obtain ⟨a3, n3, e3, rfl⟩ := o3.slice3
  have K3 := Below.on K2 hb3
  have O3 : Hid (ownsR w3 W0.heap.size 75 (.slice a3 n3 e3) (newDrop l)) := o3.mono K2.size
  clear d0 K2 hb3 o3
  go_wp2_with fail
  refine Calls.mono (chunkAdds_any tx _ (Nat.le_trans HZ.out (by decide))) ?_
  rintro e w4 ⟨v4, rfl, o4, hb4⟩
  obtain ⟨a4, n4, e4, rfl⟩ := o4.slice3
  have K4 := Below.on K3 hb4
  have O4 := O3.out.all hb4
  have R4 := o4.reads
  clear K3 hb4 o4 O3
  have hl4 : (newDrop l).length + (chunksT tx).length ≤ 1048577 := by
    have h1 := newDrop_length l
    have h2 := chunksT_length tx
    have h3 := HZ.out
    omega
  go_wp2_with (at_builtin; refine wpList_append_recs rfl (.tmp 23) (.tmp 25) 42 rfl W0.heap.size 75 _ 56 underAc infoAc rfl (.slice a3 n3 e3) (.slice a4 n4 e4) (newDrop l) (chunksT tx) (by rfl) (by rfl) O4 R4 (ac_one _) hl4 (by decide) K4.size ?_)
  intro v5 w5 o5 hg5
  obtain ⟨a5, n5, e5, rfl⟩ := o5.slice3
  have K5 : Below W0.heap.size W0 w5 := K4.grown hg5 K4.size fun k hk => (O4.lt k hk).1
  obtain ⟨L5, E5⟩ : ∃ L, Hid (newDrop l ++ chunksT tx = L) := ⟨_, rfl⟩
  have O5 : Hid (ownsR w5 W0.heap.size 75 (.slice a5 n5 e5) L5) := by show ownsR _ _ _ _ _; rw [← E5.out]; exact o5
  have Z5 : Hid (L5.length ≤ 400) := by
    show L5.length ≤ 400
    rw [← E5.out, List.length_append]
    have h1 := newDrop_length l
    have h2 := chunksT_length tx
    have h3 := HZ.out
    omega
  clear K4 O4 R4 hl4 hg5 o5
  obtain ⟨s0, s1, s2, s3⟩ := sb_cells (blk_upD S0.out K5)
  go_wp2_with fail
  refine Calls.mono (CN.out _ (B0.out.trans (K5.mono B0.out.size))) ?_
  rintro e w6 ⟨rfl, hb6⟩
  have K6 := Below.on K5 hb6
  have O6 := O5.out.all hb6
  clear K5 hb6 O5 s0 s1 s2 s3
  have hl6 : L5.length + (twoA nm).length ≤ 1048577 := by
    have := Z5.out
    show L5.length + 2 ≤ _
    omega
  go_wp2_with (at_builtin; refine wpList_append_recs rfl (.tmp 27) (.tmp 33) 42 rfl W0.heap.size 75 _ 56 underAc infoAc rfl (.slice a5 n5 e5) (.slice (some ⟨w6.heap.size, 0, none⟩) 2 2) L5 (twoA nm) (by rfl) (by rfl) (O6.alloc _) (reads_acts2 (heap_last _ _)) (ac_one _) hl6 (by decide) (ba K6 _).size ?_)
  intro v7 w7 o7 hg7
  obtain ⟨a7, n7, e7, rfl⟩ := o7.slice3
  have K7 : Below W0.heap.size W0 w7 := (ba K6 _).grown hg7 (ba K6 _).size fun k hk => (O6.lt k hk).1
  obtain ⟨L7, E7⟩ : ∃ L, Hid (L5 ++ twoA nm = L) := ⟨_, rfl⟩
  have O7 : Hid (ownsR w7 W0.heap.size 75 (.slice a7 n7 e7) L7) := by show ownsR _ _ _ _ _; rw [← E7.out]; exact o7
  have Z7 : Hid (L7.length ≤ 402) := by
    show L7.length ≤ 402
    rw [← E7.out, List.length_append]
    have := Z5.out
    show L5.length + 2 ≤ _
    omega
  clear K6 O6 hl6 hg7 o7
  obtain ⟨s0, s1, s2, s3⟩ := sb_cells (blk_upD S0.out K7)
  have d0 := one_cellD (blk_upD D0.out K7)
  go_wp2_with fail
  refine Calls.mono (otherSnapDrops_any (HR.out.below (B0.out.trans (K7.mono B0.out.size))) HN.out HM.out (HP.out.below (B0.out.trans (K7.mono B0.out.size)))) ?_
  rintro e w8 ⟨v8, rfl, o8, hb8⟩
  obtain ⟨a8, n8, e8, rfl⟩ := o8.slice3
  have K8 := Below.on K7 hb8
  have O8 := O7.out.all hb8
  have R8 := o8.reads
  clear K7 hb8 o8 O7 s0 s1 s2 s3 d0
  have hl8 : L7.length + (dropsS i l).length ≤ 1048577 := by
    have h3 := Z7.out
    have h4 := dropsS_length i l
    have h5 := HN.out
    omega
  go_wp2_with (at_builtin; refine wpList_append_recs rfl (.tmp 35) (.tmp 39) 42 rfl W0.heap.size 75 _ 56 underAc infoAc rfl (.slice a7 n7 e7) (.slice a8 n8 e8) L7 (dropsS i l) (by rfl) (by rfl) O8 R8 (ac_one _) hl8 (by decide) K8.size ?_)
  intro v9 w9 o9 hg9
  have K9 : Below W0.heap.size W0 w9 := K8.grown hg9 K8.size fun k hk => (O8.lt k hk).1
  have O9 : Hid (ownsR w9 W0.heap.size 75 v9 (actsS l i tx)) := by
    show ownsR _ _ _ _ _
    unfold actsS
    rw [HSN.out, E5.out, E7.out]
    exact o9
  clear K8 O8 R8 hl8 hg9 o9
  go_wp2
  go_ret2
  exact ⟨_, rfl, O9.out.mono B0.out.size, B0.out.trans (K9.mono B0.out.size)⟩

theorem diskR_len {l : List Fl} (h : diskR l = true) : l.length ≤ 30 := by
  unfold diskR at h
  simp only [Bool.and_eq_true, decide_eq_true_eq] at h
  exact h.1
theorem texts_right {l : List Fl} (h : diskR l = true) : TextsL l := fun f hf => by
  obtain ⟨i, hi⟩ := List.getElem?_of_mem hf
  have := (right_true (diskR_right h i f hi)).2.1
  omega
/-- The program's SnapActs. -/
theorem snapActs_any {w : World} {v u : Value} {l : List Fl} {i t : Int} {cl : List Int} {b : ByteArray} (hr : Reads w v l) (hu : Reads w u cl) (hn : cl.length ≤ 1048577) (hb : b.size ≤ 1048576) (hp : PowIs w) (ht : TableIs w) :
    Calls Tryd.prog 23 #[.agg #[v], .agg #[.int .i64 i, .int .i64 t, u, .string b]] w fun e w' => ∃ x, e = .returned (.tuple #[x, .bool (saB l i t cl b)]) ∧ ownsR w' w.heap.size 75 x (saL l i t cl b) ∧ Below w.heap.size w w' := by
  obtain ⟨ao, c, rfl, _⟩ := id hr
  obtain ⟨bo, d, rfl, _⟩ := id hu
  have CS : Hid (∀ W, Below w.heap.size w W → Calls Tryd.prog 14 #[.agg #[.int .i64 i, .int .i64 t, .slice bo cl.length d, .string b]] W fun e w' => e = .returned (.tuple #[.string (textS i t cl b), .bool (okS i t cl b)]) ∧ Below W.heap.size W w') := fun W h => snapText_any (hu.below h) hn hb (ht.below h)
  have CD : Hid (∀ W, Below w.heap.size w W → Calls Tryd.prog 59 #[.agg #[.slice ao l.length c]] W fun e w' => e = .returned (.bool (diskR l)) ∧ Below W.heap.size W w') := fun W h => diskOk_any (hr.below h)
  by_cases hno : saB l i t cl b = true
  · have h2 := hno
    unfold saB at h2
    rw [Bool.and_eq_true] at h2
    rw [hno, saL_yes hno]
    rw [h2.1] at CS
    rw [h2.2] at CD
    exact snapActs_go ao bo _ c _ d l i t b _ _ w hr (diskR_len h2.2) (names_right h2.2) (texts_right h2.2) hp textS_le rfl CS CD
  · have hno : saB l i t cl b = false := by simpa using hno
    rw [hno, saL_no hno]
    refine snapActs_no ao bo _ c _ d i t b _ _ w CS ?_
    unfold saB at hno
    cases hk : okS i t cl b with
    | false => exact .inr rfl
    | true =>
      rw [hk, Bool.true_and] at hno
      rw [hno] at CD
      exact .inl CD
end Go.Proofs.YtgpojfkdcdgloaaDoor

namespace Go.Proofs.YtgpojfkdcdgloaaDoor
open Go Go.RowKit

theorem less_trans : ∀ (x y z : List UInt8), Op.bytesLess x y = true → Op.bytesLess y z = true → Op.bytesLess x z = true
  | _, [], _, h, _ => by cases ‹List UInt8› <;> simp [Op.bytesLess] at h
  | _, _ :: _, [], _, h => by simp [Op.bytesLess] at h
  | [], _ :: _, _ :: _, _, _ => by simp [Op.bytesLess]
  | a :: x, b :: y, c :: z, h, h2 => by
    simp only [Op.bytesLess, Bool.or_eq_true, decide_eq_true_eq, Bool.and_eq_true, beq_iff_eq] at h h2 ⊢
    rcases h with h | ⟨rfl, h⟩
    · rcases h2 with h2 | ⟨rfl, h2⟩
      · exact .inl (UInt8.lt_trans h h2)
      · exact .inl h
    · rcases h2 with h2 | ⟨rfl, h2⟩
      · exact .inl h2
      · exact .inr ⟨rfl, less_trans x y z h h2⟩
theorem less_irrefl : ∀ x : List UInt8, Op.bytesLess x x = false
  | [] => rfl
  | a :: x => by simp [Op.bytesLess, less_irrefl x]
theorem diskR_at {l : List Fl} (h : diskR l = true) (i : Nat) (hi : i < l.length) : okAt l i = true := by
  unfold diskR at h
  rw [Bool.and_eq_true] at h
  exact List.all_eq_true.1 h.2 i (List.mem_range.2 hi)
theorem names_rise {l : List Fl} (h : diskR l = true) : ∀ (d i : Nat) (f g : Fl), l[i]? = some f → l[i + 1 + d]? = some g → ltB f.name g.name = true
  | 0, i, f, g, hf, hg => by
    have := diskR_at h (i + 1) (List.getElem?_eq_some_iff.1 hg).1
    rw [okAt_next hg hf, Bool.and_eq_true] at this
    exact this.2
  | d + 1, i, f, g, hf, hg => by
    have hlt := (List.getElem?_eq_some_iff.1 hg).1
    obtain ⟨m, hm⟩ : ∃ m, l[i + 1 + d]? = some m := ⟨_, List.getElem?_eq_getElem (by omega)⟩
    have h1 := names_rise h d i f m hf hm
    have := diskR_at h (i + 1 + d + 1) hlt
    rw [okAt_next (show l[i + 1 + d + 1]? = some g from hg) hm, Bool.and_eq_true] at this
    exact less_trans _ _ _ h1 this.2
end Go.Proofs.YtgpojfkdcdgloaaDoor

namespace Go.Proofs.YtgpojfkdcdgloaaDoor
open Go Go.RowKit

/-- The best snapshot so far, and one file more: as the specification does it. -/
def nstep (r : Rsd) (f : Fl) : Rsd := if 0 ≤ idxOf f.name ∧ (rsP f.text).z = true ∧ (rsP f.text).i = idxOf f.name ∧ r.i < idxOf f.name then rsP f.text else r
def noneS : Rsd := ⟨-1, 0, [], ByteArray.empty, false⟩
def newS (l : List Fl) : Rsd := l.foldl nstep noneS
/-- As the program does it. -/
def pstep (r : Rsd) (f : Fl) : Rsd := if idxOf f.name < r.i then r else if (rsP f.text).z = true ∧ (rsP f.text).i = idxOf f.name then rsP f.text else r
def newP (l : List Fl) : Rsd := l.foldl pstep zeroS
def progOf (r : Rsd) : Rsd := if r.z = true then r else zeroS
/-- The newest snapshot of a disk. -/
def nsP (l : List Fl) : Rsd := if diskR l = true then newP l else zeroS
theorem newS_take {l : List Fl} {k : Nat} {f : Fl} (h : l[k]? = some f) : newS (l.take (k + 1)) = nstep (newS (l.take k)) f := by
  unfold newS
  rw [List.take_add_one, h, List.foldl_append]
  rfl
theorem newP_take {l : List Fl} {k : Nat} {f : Fl} (h : l[k]? = some f) : newP (l.take (k + 1)) = pstep (newP (l.take k)) f := by
  unfold newP
  rw [List.take_add_one, h, List.foldl_append]
  rfl
theorem newS_sound (l : List Fl) : ∀ k, k ≤ l.length → ((newS (l.take k)).z = false ∧ newS (l.take k) = noneS) ∨ ((newS (l.take k)).z = true ∧ 0 ≤ (newS (l.take k)).i ∧ ∃ (j : Nat) (g : Fl), j < k ∧ l[j]? = some g ∧ idxOf g.name = (newS (l.take k)).i)
  | 0, _ => .inl ⟨rfl, rfl⟩
  | k + 1, hk => by
    obtain ⟨f, hf⟩ : ∃ f, l[k]? = some f := ⟨_, List.getElem?_eq_getElem (by omega)⟩
    rw [newS_take hf]
    unfold nstep
    split
    · rename_i h
      exact .inr ⟨h.2.1, by rw [h.2.2.1]; exact h.1, k, f, Nat.lt_succ_self k, hf, h.2.2.1.symm⟩
    · rcases newS_sound l k (by omega) with h | ⟨h1, h2, j, g, hj, hg, he⟩
      · exact .inl h
      · exact .inr ⟨h1, h2, j, g, by omega, hg, he⟩
theorem newP_eq {l : List Fl} (hd : diskR l = true) : ∀ k, k ≤ l.length → newP (l.take k) = progOf (newS (l.take k))
  | 0, _ => rfl
  | k + 1, hk => by
    obtain ⟨f, hf⟩ : ∃ f, l[k]? = some f := ⟨_, List.getElem?_eq_getElem (by omega)⟩
    rw [newS_take hf, newP_take hf, newP_eq hd k (by omega)]
    have hsd := newS_sound l k (by omega)
    generalize hr : newS (l.take k) = r at hsd ⊢
    rcases hsd with ⟨h1, rfl⟩ | ⟨h1, h2, j, g, hj, hg, he⟩
    · have e0 : progOf noneS = zeroS := rfl
      rw [e0]
      unfold pstep nstep
      by_cases h0 : idxOf f.name < 0
      · rw [if_pos (show idxOf f.name < zeroS.i from h0), if_neg (fun h => by omega)]
        rfl
      · rw [if_neg (show ¬ idxOf f.name < zeroS.i from h0)]
        by_cases hs : (rsP f.text).z = true ∧ (rsP f.text).i = idxOf f.name
        · rw [if_pos hs, if_pos ⟨by omega, hs.1, hs.2, show (-1 : Int) < _ by omega⟩]
          unfold progOf
          rw [if_pos hs.1]
        · rw [if_neg hs, if_neg (fun h => hs ⟨h.2.1, h.2.2.1⟩)]
          rfl
    · have e0 : progOf r = r := by unfold progOf; rw [if_pos h1]
      have hne : idxOf f.name ≠ r.i := fun e => by
        have hlt := names_rise hd (k - 1 - j) j g f hg (by rw [show j + 1 + (k - 1 - j) = k by omega]; exact hf)
        have e1 := idxOf_name (s := g.name) (by rw [he]; exact h2)
        have e2 := idxOf_name (s := f.name) (by rw [e]; exact h2)
        rw [he] at e1
        rw [e, e1] at e2
        unfold ltB at hlt
        rw [e2, less_irrefl] at hlt
        cases hlt
      rw [e0]
      unfold pstep nstep
      by_cases h0 : idxOf f.name < r.i
      · rw [if_pos h0, if_neg (fun h => by omega)]
        exact e0.symm
      · rw [if_neg h0]
        by_cases hs : (rsP f.text).z = true ∧ (rsP f.text).i = idxOf f.name
        · rw [if_pos hs, if_pos ⟨by omega, hs.1, hs.2, by omega⟩]
          unfold progOf
          rw [if_pos hs.1]
        · rw [if_neg hs, if_neg (fun h => hs ⟨h.2.1, h.2.2.1⟩)]
          exact e0.symm
theorem nsP_spec {l : List Fl} (hd : diskR l = true) : nsP l = progOf (newS l) := by
  unfold nsP
  rw [if_pos hd]
  have := newP_eq hd l.length (Nat.le_refl _)
  rwa [List.take_length] at this
theorem rsP_len4 (s : ByteArray) : (rsP s).l.length ≤ 4 := by
  unfold rsP
  dsimp only
  unfold rsF
  split
  · exact confT_len _
  · exact Nat.zero_le _
theorem newP_len (l : List Fl) : ∀ k, k ≤ l.length → (newP (l.take k)).l.length ≤ 4
  | 0, _ => Nat.zero_le _
  | k + 1, hk => by
    obtain ⟨f, hf⟩ : ∃ f, l[k]? = some f := ⟨_, List.getElem?_eq_getElem (by omega)⟩
    rw [newP_take hf]
    unfold pstep
    split
    · exact newP_len l k (by omega)
    · split
      · exact rsP_len4 _
      · exact newP_len l k (by omega)
theorem nsP_len (l : List Fl) : (nsP l).l.length ≤ 4 := by
  unfold nsP
  split
  · have := newP_len l l.length (Nat.le_refl _)
    rwa [List.take_length] at this
  · exact Nat.zero_le _
end Go.Proofs.YtgpojfkdcdgloaaDoor
