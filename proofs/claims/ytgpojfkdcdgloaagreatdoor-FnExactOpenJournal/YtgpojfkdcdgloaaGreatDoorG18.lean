/-
  The file of a name: the walks; the law on whether all is kept. The greatest number of a disk's journals: the walk of newestNumber. The drops of a disk's other journals: the walk of otherDrops. A journal with another number, its entries anew: the walk of withNumber. Journals: the text of a right one, as the program makes it: the walk. The acts by which a journal is written as a new file, as the program makes them: the walk of renewedActs. A journal with its entries anew, as the model makes it: the walk of l07Copy.
-/
import Derived.Test.YtgpojfkdcdgloaaGreatDoorG17
import Derived.Test.YtgpojfkdcdgloaaGreatDoorG7
import Derived.Test.YtgpojfkdcdgloaaGreatDoorG15
import Derived.Test.YtgpojfkdcdgloaaGreatDoorAcn
import Derived.Test.YtgpojfkdcdgloaaGreatDoorG14
import Derived.Test.YtgpojfkdcdgloaaGreatDoorG5
import Derived.Deep.QuietTactic
import Derived.BigQuiet
namespace Go.Proofs.YtgpojfkdcdgloaaGreatDoor
open Go Go.RowKit


/-- The first file of a name. -/
def findF (l : List Fl) (s : ByteArray) : Option Fl := l.find? fun f => f.name.toList == s.toList
theorem findF_at {l : List Fl} {s : ByteArray} {k : Nat} {f : Fl} (h : l[k]? = some f) (he : (f.name.toList == s.toList) = true) (hno : ∀ (i : Nat) (g : Fl), i < k → l[i]? = some g → (g.name.toList == s.toList) = false) : findF l s = some f := by
  unfold findF
  induction l generalizing k with
  | nil => simp at h
  | cons x r ih =>
    cases k with
    | zero => simp at h; subst h; simp only [List.find?_cons, he]
    | succ k =>
      have h0 := hno 0 x (by omega) rfl
      simp only [List.find?_cons, h0]
      exact ih (by simpa using h) fun i g hi hg => hno (i + 1) g (by omega) (by simpa using hg)
theorem findF_none {l : List Fl} {s : ByteArray} (hno : ∀ (i : Nat) (g : Fl), i < l.length → l[i]? = some g → (g.name.toList == s.toList) = false) : findF l s = none := by
  unfold findF
  rw [List.find?_eq_none]
  intro f hf
  obtain ⟨i, hi⟩ := List.getElem?_of_mem hf
  simp [hno i f (List.getElem?_eq_some_iff.1 hi).1 hi]
/-- What FileAt tells. -/
def fileR (l : List Fl) (s : ByteArray) : ByteArray × Bool := match findF l s with | some f => (f.text, true) | none => (ByteArray.empty, false)

def TextsL (l : List Fl) : Prop := ∀ f ∈ l, f.text.size ≤ 1048576

set_option maxHeartbeats 1000000 in
theorem fileAt_try (ao : Option Addr) (n c : Nat) (l : List Fl) (s : ByteArray) (w : World) (hr : Reads w (.slice ao n c) l) (hn : n ≤ 1048577) (hs : TextsL l) :
    Calls Tryz.prog 48 #[.agg #[.slice ao n c], .string s] w fun e w' => e = .returned (.tuple #[.string (fileR l s).1, .bool (fileR l s).2]) ∧ Below w.heap.size w w' := by
  have HR : Hid (Reads w (.slice ao n c) l) := hr
  have HN : Hid (n = l.length) := hr.len
  have HS : Hid (TextsL l) := hs
  clear hr hs
  go_enter Tryz.func48, Tryz.ntmps48
  go_wp2
  go_loopw [11] (fun i wr => ∃ k : Nat, k ≤ n ∧ i = .int .i64 k ∧ Hid (∀ (i : Nat) (g : Fl), i < k → l[i]? = some g → (g.name.toList == s.toList) = false) ∧ Below w.heap.size w wr) (fun i _ => n - (intOf i).toNat)
  case atStart => exact ⟨0, Nat.zero_le _, rfl, (fun i f hi => absurd hi (by omega)), ba (Below.refl _ _) _⟩
  case round =>
    obtain ⟨k, hk, rfl, HE, hbel⟩ := hrel
    have hsz := hbel.size
    by_cases hlt : k < n
    · obtain ⟨⟨nm, tx, kp⟩, hf⟩ : ∃ f, l[k]? = some f := ⟨_, List.getElem?_eq_getElem (by rw [← HN.out]; exact hlt)⟩
      have HF : Hid (l[k]? = some ⟨nm, tx, kp⟩) := hf
      obtain ⟨b, o, rfl, hb, c0, c1, c2⟩ := fl_at (HR.out.below hbel) hf
      have hts : tx.size ≤ 1048576 := HS.out _ (List.mem_of_getElem? hf)
      clear hf
      dsimp only at c0 c1 c2
      cases he : (nm.toList == s.toList) with
      | true =>
        have HK : Hid (fileR l s = (tx, true)) := by show fileR l s = (tx, true); unfold fileR; rw [findF_at HF.out he HE.out]
        go_wp2_with (go_at_call 73; refine (clone_any _ _ hts).mono ?_; rintro e w2 ⟨rfl, hb2⟩)
        go_ret2
        exact ⟨by rw [HK.out]; rfl, hbel.trans (((ba (Below.refl _ wr) _).trans (hb2.mono (by simp))).mono hsz)⟩
      | false =>
        go_wp2
        go_roundw
        case rel => exact ⟨k + 1, by omega, by go_num, (fun i f hi hl => by
          rcases Nat.lt_succ_iff_lt_or_eq.1 hi with h | h
          · exact HE.out i f h hl
          · subst h
            have := HF.out.symm.trans hl
            simp only [Option.some.injEq] at this
            subst this
            exact he), hbel.trans ((ba (Below.refl _ wr) _).mono hsz)⟩
        case measure => simp [intOf]; omega
    · have hkn : k = n := by omega
      subst hkn
      have HK : Hid (fileR l s = (ByteArray.empty, false)) := by show fileR l s = _; unfold fileR; rw [findF_none (by rw [← HN.out]; exact HE.out)]
      go_wp2
      go_ret2
      exact ⟨by rw [HK.out]; rfl, hbel⟩

set_option maxHeartbeats 1000000 in
theorem specAt_try (ao : Option Addr) (n c : Nat) (l : List Fl) (s : ByteArray) (w : World) (hr : Reads w (.slice ao n c) l) (hn : n ≤ 1048577) :
    Calls Tryz.prog 22 #[.agg #[.slice ao n c], .string s] w fun e w' => ∃ r : Int, e = .returned (.int .i64 r) ∧ (r = -1 ∧ findF l s = none ∨ ∃ (k : Nat) (f : Fl), r = (k : Int) ∧ l[k]? = some f ∧ findF l s = some f) ∧ Below w.heap.size w w' := by
  have HR : Hid (Reads w (.slice ao n c) l) := hr
  have HN : Hid (n = l.length) := hr.len
  clear hr
  go_enter Tryz.func22, Tryz.ntmps22
  go_wp2
  go_loopw [5] (fun i wr => ∃ k m : Nat, k ≤ n ∧ i = .int .i64 k ∧ Hid (∀ (i : Nat) (g : Fl), i < k → l[i]? = some g → (g.name.toList == s.toList) = false) ∧ wr = (w.alloc (Obj.cells #[.slice ao n c] 36)).drewN m) (fun i _ => n - (intOf i).toNat)
  case atStart => exact ⟨0, 0, Nat.zero_le _, rfl, (fun i f hi => absurd hi (by omega)), rfl⟩
  case round =>
    obtain ⟨k, m, hk, rfl, HE, rfl⟩ := hrel
    have hb0 : Below w.heap.size w ((w.alloc (Obj.cells #[.slice ao n c] 36)).drewN m) := bdrewF (ba (Below.refl _ _) _) m
    by_cases hlt : k < n
    · obtain ⟨⟨nm, tx, kp⟩, hf⟩ : ∃ f, l[k]? = some f := ⟨_, List.getElem?_eq_getElem (by rw [← HN.out]; exact hlt)⟩
      have HF : Hid (l[k]? = some ⟨nm, tx, kp⟩) := hf
      obtain ⟨b, o, rfl, hb, c0, c1, c2⟩ := fl_at (HR.out.alloc (Obj.cells #[.slice ao n c] 36)) hf
      clear hf
      dsimp only at c0 c1 c2
      cases he : (nm.toList == s.toList) with
      | true =>
        have HK : Hid (findF l s = some ⟨nm, tx, kp⟩) := findF_at HF.out he HE.out
        go_wp2
        go_ret
        exact ⟨_, rfl, .inr ⟨k, _, rfl, HF.out, HK.out⟩, hb0⟩
      | false =>
        go_wp2
        go_roundw
        case rel => exact ⟨k + 1, m, by omega, by go_num, (fun i f hi hl => by
          rcases Nat.lt_succ_iff_lt_or_eq.1 hi with h | h
          · exact HE.out i f h hl
          · subst h
            have := HF.out.symm.trans hl
            simp only [Option.some.injEq] at this
            subst this
            exact he), rfl⟩
        case measure => simp [intOf]; omega
    · have hkn : k = n := by omega
      subst hkn
      go_wp2
      go_ret
      exact ⟨_, rfl, .inl ⟨rfl, findF_none (by rw [← HN.out]; exact HE.out)⟩, hb0⟩

set_option maxHeartbeats 1000000 in
theorem specFileAt_try (ao : Option Addr) (n c : Nat) (l : List Fl) (s : ByteArray) (w : World) (hr : Reads w (.slice ao n c) l) (hn : n ≤ 1048577) :
    Calls Tryz.prog 19 #[.agg #[.slice ao n c], .string s] w fun e w' => e = .returned (.tuple #[.string (fileR l s).1, .bool (fileR l s).2]) ∧ Below w.heap.size w w' := by
  have HR : Hid (Reads w (.slice ao n c) l) := hr
  have HN : Hid (n = l.length) := hr.len
  clear hr
  go_enter Tryz.func19, Tryz.ntmps19
  go_wp2_with fail
  refine (specAt_try ao n c l s _ (HR.out.alloc _) hn).mono ?_
  rintro e w2 ⟨r, rfl, hr, hb2⟩
  have hb3 : Below w.heap.size w w2 := (ba (Below.refl _ _) _).trans (hb2.mono (by simp))
  rcases hr with ⟨rfl, hnone⟩ | ⟨k, f, rfl, hf, hsome⟩
  · have HK : Hid (fileR l s = (ByteArray.empty, false)) := by show fileR l s = _; unfold fileR; rw [hnone]
    clear hnone
    go_wp2
    go_ret2
    exact ⟨by rw [HK.out]; rfl, hb3⟩
  · have HK : Hid (fileR l s = (f.text, true)) := by show fileR l s = _; unfold fileR; rw [hsome]
    have hkn : k < n := by rw [HN.out]; exact (List.getElem?_eq_some_iff.1 hf).1
    have hd0 : w2.cell? ⟨w.heap.size, 0, none⟩ = some (.slice ao n c) := (hb2.cell (by simp)).trans (by simp [go_sem])
    obtain ⟨b, o, rfl, hb, c0, c1, c2⟩ := fl_at (HR.out.below hb3) hf
    clear hsome hf
    go_wp2
    go_ret2
    exact ⟨by rw [HK.out]; rfl, hb3⟩
theorem fileAt_any {w : World} {v : Value} {l : List Fl} (s : ByteArray) (hr : Reads w v l) (hn : l.length ≤ 1048577) (hs : TextsL l) : Calls Tryz.prog 48 #[.agg #[v], .string s] w fun e w' => e = .returned (.tuple #[.string (fileR l s).1, .bool (fileR l s).2]) ∧ Below w.heap.size w w' := by
  obtain ⟨ao, c, rfl, _⟩ := id hr
  exact fileAt_try ao _ c l s w hr hn hs
theorem specFileAt_any {w : World} {v : Value} {l : List Fl} (s : ByteArray) (hr : Reads w v l) (hn : l.length ≤ 1048577) : Calls Tryz.prog 19 #[.agg #[v], .string s] w fun e w' => e = .returned (.tuple #[.string (fileR l s).1, .bool (fileR l s).2]) ∧ Below w.heap.size w w' := by
  obtain ⟨ao, c, rfl, _⟩ := id hr
  exact specFileAt_try ao _ c l s w hr hn
end Go.Proofs.YtgpojfkdcdgloaaGreatDoor

namespace Go.Proofs.YtgpojfkdcdgloaaGreatDoor
open Go Go.RowKit

/-- The greatest number of a JournalName among files, or -1. -/
def newN (l : List Fl) : Int := l.foldl (fun a f => max a (numOf f.name)) (-1)
theorem newN_take {l : List Fl} {k : Nat} {f : Fl} (h : l[k]? = some f) : newN (l.take (k + 1)) = max (newN (l.take k)) (numOf f.name) := by
  unfold newN
  rw [List.take_add_one, h, List.foldl_append]
  rfl
/-- The names of files are short. -/
def NamesL (l : List Fl) : Prop := ∀ f ∈ l, f.name.size ≤ 8
theorem names_right {l : List Fl} (h : diskR l = true) : NamesL l := fun f hf => by
  obtain ⟨i, hi⟩ := List.getElem?_of_mem hf
  have := (right_true (diskR_right h i f hi)).1
  simp [nameR] at this
  exact this.2
theorem numOf_ge (s : ByteArray) : -1 ≤ numOf s := by
  unfold numOf
  split
  · rename_i h
    unfold rd at h ⊢
    split <;> (try omega)
    split <;> (try omega)
    split <;> (try omega)
    split <;> (try omega)
  · omega

set_option maxRecDepth 10000 in
set_option maxHeartbeats 1000000 in
theorem newestNumber_try (ao : Option Addr) (n c : Nat) (l : List Fl) (w : World) (hr : Reads w (.slice ao n c) l) (hn : n ≤ 1048577) (hs : NamesL l) (hp : PowIs w) :
    Calls Tryz.prog 47 #[.agg #[.slice ao n c]] w fun e w' => e = .returned (.int .i64 (newN l)) ∧ Below w.heap.size w w' := by
  have HR : Hid (Reads w (.slice ao n c) l) := hr
  have HN : Hid (n = l.length) := hr.len
  have HS : Hid (NamesL l) := hs
  have HP : Hid (PowIs w) := hp
  clear hr hs hp
  go_enter Tryz.func47, Tryz.ntmps47
  go_wp2
  go_loopw [3, 9] (fun m i wr => ∃ k : Nat, k ≤ n ∧ i = .int .i64 k ∧ (∃ x : Int, m = .int .i64 x ∧ Hid (x = newN (l.take k))) ∧ Below w.heap.size w wr) (fun _ i _ => n - (intOf i).toNat)
  case atStart => exact ⟨0, Nat.zero_le _, rfl, ⟨_, rfl, rfl⟩, ba (Below.refl _ _) _⟩
  case round =>
    obtain ⟨k, hk, rfl, ⟨x, rfl, HX⟩, hbel⟩ := hrel
    have hsz := hbel.size
    by_cases hlt : k < n
    · obtain ⟨⟨nm, tx, kp⟩, hf⟩ : ∃ f, l[k]? = some f := ⟨_, List.getElem?_eq_getElem (by rw [← HN.out]; exact hlt)⟩
      have HF : Hid (l[k]? = some ⟨nm, tx, kp⟩) := hf
      obtain ⟨b, o, rfl, hb, c0, c1, c2⟩ := fl_at (HR.out.below hbel) hf
      have hts : Hid (nm.size ≤ 9223372036854775807) := Nat.le_trans (HS.out _ (List.mem_of_getElem? hf)) (by decide)
      have CN : Hid (∀ W, Below wr.heap.size wr W → Calls Tryz.prog 72 #[.string nm] W fun e w' => e = .returned (.int .i64 (numOf nm)) ∧ Below W.heap.size W w') := fun W hW => numberOf_any nm W hts.out ((HP.out.below hbel).below hW)
      clear hf
      dsimp only at c0 c1 c2
      go_wp2_with fail
      refine Calls.mono (CN.out _ (ba (Below.refl _ _) _)) ?_
      rintro e w2 ⟨rfl, hb2⟩
      have hb3 : Below w.heap.size w w2 := hbel.trans (((ba (Below.refl _ wr) _).trans (hb2.mono (by simp))).mono hsz)
      go_wp2
      go_roundw
      case rel => exact ⟨k + 1, by omega, by go_num, ⟨_, rfl, by show _ = _; rw [newN_take HF.out, HX.out]⟩, hb3⟩
      case measure => simp [intOf]; omega
    · have hkn : k = n := by omega
      subst hkn
      have HK : Hid (x = newN l) := by show x = _; rw [HX.out, HN.out, List.take_length]
      go_wp2
      go_ret
      exact ⟨by rw [HK.out]; rfl, hbel⟩
theorem newestNumber_any {w : World} {v : Value} {l : List Fl} (hr : Reads w v l) (hn : l.length ≤ 1048577) (hs : NamesL l) (hp : PowIs w) :
    Calls Tryz.prog 47 #[.agg #[v]] w fun e w' => e = .returned (.int .i64 (newN l)) ∧ Below w.heap.size w w' := by
  obtain ⟨ao, c, rfl, _⟩ := id hr
  exact newestNumber_try ao _ c l w hr hn hs hp
end Go.Proofs.YtgpojfkdcdgloaaGreatDoor

namespace Go.Proofs.YtgpojfkdcdgloaaGreatDoor
open Go Go.RowKit

/-- Whether a file is dropped when the journal of this number is opened. -/
def dropB (m : Int) (f : Fl) : Bool := (f.name.toList == ([106, 43] : List UInt8)) || (decide (0 ≤ numOf f.name) && decide (numOf f.name ≠ m))
/-- The drops, in the order of files. -/
def dropsOf (m : Int) (l : List Fl) : List Ac := (l.filter (dropB m)).map fun f => ⟨4, f.name, ByteArray.empty, ByteArray.empty⟩
theorem drops_yes {m : Int} {l : List Fl} {k : Nat} {f : Fl} (h : l[k]? = some f) (hd : dropB m f = true) : dropsOf m (l.take (k + 1)) = dropsOf m (l.take k) ++ [⟨4, f.name, ByteArray.empty, ByteArray.empty⟩] := by
  unfold dropsOf
  rw [List.take_add_one, h]
  simp [List.filter_append, hd]
theorem drops_no {m : Int} {l : List Fl} {k : Nat} {f : Fl} (h : l[k]? = some f) (hd : dropB m f = false) : dropsOf m (l.take (k + 1)) = dropsOf m (l.take k) := by
  unfold dropsOf
  rw [List.take_add_one, h]
  simp [List.filter_append, hd]
theorem drops_length (m : Int) (l : List Fl) : (dropsOf m l).length ≤ l.length := by
  unfold dropsOf
  rw [List.length_map]
  exact List.length_filter_le _ _
theorem cells_ac {b : Nat} {x : Ac} {w : World} (h0 : w.cell? ⟨b, 0, none⟩ = some (.int .i64 x.kind)) (h1 : w.cell? ⟨b, 1, none⟩ = some (.string x.name)) (h2 : w.cell? ⟨b, 2, none⟩ = some (.string x.text)) (h3 : w.cell? ⟨b, 3, none⟩ = some (.string x.to)) :
    ∀ j u, (Rec.cells x)[j]? = some u → w.cell? ⟨b, j, none⟩ = some u ∧ u.oneCell' = true := by
  intro j u hj
  match j, hj with
  | 0, hj =>
    have : Value.int .i64 x.kind = u := by simpa [Rec.cells] using hj
    subst this
    exact ⟨h0, rfl⟩
  | 1, hj =>
    have : Value.string x.name = u := by simpa [Rec.cells] using hj
    subst this
    exact ⟨h1, rfl⟩
  | 2, hj =>
    have : Value.string x.text = u := by simpa [Rec.cells] using hj
    subst this
    exact ⟨h2, rfl⟩
  | 3, hj =>
    have : Value.string x.to = u := by simpa [Rec.cells] using hj
    subst this
    exact ⟨h3, rfl⟩
theorem ownsA_made (w : World) (B cap : Nat) (cur : Array Value) (hb : B ≤ w.heap.size) (hm : cap ≤ maxLen) (hs : cur.size = cap * 4) :
    ownsR (w.alloc (.cells cur 57)) B 57 (.slice (some ⟨w.heap.size, 0, none⟩) 0 cap) ([] : List Ac) :=
  World.ownsRow_made w cur cap hb hm (by simp [Rec.width]; omega)

set_option maxRecDepth 10000 in
set_option maxHeartbeats 2000000 in
theorem otherDrops_try (ao : Option Addr) (n c : Nat) (l : List Fl) (m : Int) (w : World) (hr : Reads w (.slice ao n c) l) (hn : n ≤ 30) (hs : NamesL l) (hp : PowIs w) :
    Calls Tryz.prog 51 #[.agg #[.slice ao n c], .int .i64 m] w fun e w' => ∃ v, e = .returned v ∧ ownsR w' w.heap.size 57 v (dropsOf m l) ∧ Below w.heap.size w w' := by
  have HR : Hid (Reads w (.slice ao n c) l) := hr
  have HN : Hid (n = l.length) := hr.len
  have HS : Hid (NamesL l) := hs
  have HP : Hid (PowIs w) := hp
  clear hr hs hp
  go_enter Tryz.func51, Tryz.ntmps51
  go_wp2
  go_loopw [5, 13] (fun out i wr => ∃ k : Nat, k ≤ n ∧ i = .int .i64 k ∧ ownsR wr w.heap.size 57 out (dropsOf m (l.take k)) ∧ Below w.heap.size w wr) (fun _ i _ => n - (intOf i).toNat)
  case atStart => exact ⟨0, Nat.zero_le _, rfl, (by have := ownsA_made (w.alloc (.cells #[.slice ao n c] 36)) w.heap.size 0 #[] (by simp) (by decide) rfl; simp only [World.size_alloc] at this; exact this), (ba (Below.refl _ _) _).alloc (by simp) _⟩
  case round =>
    obtain ⟨k, hk, rfl, hown, hbel⟩ := hrel
    have hsz := hbel.size
    by_cases hlt : k < n
    · obtain ⟨⟨nm, tx, kp⟩, hf⟩ : ∃ f, l[k]? = some f := ⟨_, List.getElem?_eq_getElem (by rw [← HN.out]; exact hlt)⟩
      have HF : Hid (l[k]? = some ⟨nm, tx, kp⟩) := hf
      obtain ⟨b, o, rfl, hb, c0, c1, c2⟩ := fl_at (HR.out.below hbel) hf
      have hts : Hid (nm.size ≤ 8) := HS.out _ (List.mem_of_getElem? hf)
      obtain ⟨x, HX⟩ : ∃ x, Hid (numOf nm = x) := ⟨_, rfl⟩
      have CN : Hid (∀ W, Below wr.heap.size wr W → Calls Tryz.prog 72 #[.string nm] W fun e w' => e = .returned (.int .i64 x) ∧ Below W.heap.size W w') := fun W hW => by
        rw [← HX.out]
        exact numberOf_any nm W (Nat.le_trans hts.out (by decide)) ((HP.out.below hbel).below hW)
      have CC : Hid (∀ W, Calls Tryz.prog 73 #[.string nm] W fun e w' => e = .returned (.string nm) ∧ Below W.heap.size W w') := fun W => clone_any nm W (Nat.le_trans hts.out (by decide))
      clear hf
      dsimp only at c0 c1 c2
      have hlen : (dropsOf m (l.take k)).length ≤ 1048576 := Nat.le_trans (drops_length _ _) (by rw [List.length_take]; omega)
      cases hd : dropB m ⟨nm, tx, kp⟩ with
      | true =>
        have HT : Hid (dropsOf m (l.take (k + 1)) = dropsOf m (l.take k) ++ [⟨4, nm, ByteArray.empty, ByteArray.empty⟩]) := drops_yes HF.out hd
        have hcase : (nm.toList == ([106, 43] : List UInt8)) = true ∨ (nm.toList == ([106, 43] : List UInt8)) = false ∧ 0 ≤ x ∧ x ≠ m := by
          unfold dropB at hd
          rw [HX.out] at hd
          cases h : (nm.toList == ([106, 43] : List UInt8)) with
          | true => exact .inl rfl
          | false =>
            dsimp only at hd
            rw [h] at hd
            simp at hd
            exact .inr ⟨rfl, hd.1, hd.2⟩
        clear hd
        rcases hcase with he | ⟨he, hx0, hxm⟩
        · go_wp2_with fail
          refine Calls.mono (CN.out _ (ba (Below.refl _ _) _)) ?_
          rintro e w2 ⟨rfl, hb2⟩
          have hb3 : Below wr.heap.size wr w2 := (ba (Below.refl _ wr) _).trans (hb2.mono (by simp))
          have c20 : w2.cell? ⟨wr.heap.size, 0, none⟩ = some (.string nm) := by rw [hb2.cell (by simp)]; simp
          have hsz2 := hb2.size
          have hsz2' : wr.heap.size < w2.heap.size := by have := hsz2; simp at this; omega
          clear hsz2
          go_wp2_with fail
          refine Calls.mono (CC.out _) ?_
          rintro e w4 ⟨rfl, hb4⟩
          have hb5 : Below wr.heap.size wr w4 := hb3.trans (hb4.mono (by omega))
          have hown4 := hown.all hb5
          have hbel4 : Below w.heap.size w w4 := hbel.trans (hb5.mono hsz)
          have hsz4 := hbel4.size
          clear hown hbel c0 c1 c2 hb2 hb3 hb4 hb5 c20
          go_wp2_with (at_builtin; refine wpList_append_rec _ w rfl (.tmp 32) (.tmp 37) 31 rfl w.heap.size 57 _ 56 underAc infoAc rfl _ (dropsOf m (l.take k)) rfl (hown4.alloc _) (hbel4.alloc hsz4 _) w4.heap.size 1 ⟨4, nm, ByteArray.empty, ByteArray.empty⟩ rfl ?c1 ?c2 ?c3 ?c4 ?_)
          case c1 => exact cells_ac (by simp) (by simp) (by simp; rfl) (by simp; rfl)
          case c2 => exact hlen
          case c3 => omega
          case c4 => simp; omega
          intro v' w5 hown5 hbel5 _
          rw [← HT.out] at hown5
          clear hown4 hbel4
          go_wp2
          go_roundw
          case rel => exact ⟨k + 1, by omega, by go_num, hown5, hbel5⟩
          case measure => simp [intOf]; omega
        · go_wp2_with fail
          refine Calls.mono (CN.out _ (ba (Below.refl _ _) _)) ?_
          rintro e w2 ⟨rfl, hb2⟩
          have hb3 : Below wr.heap.size wr w2 := (ba (Below.refl _ wr) _).trans (hb2.mono (by simp))
          have c20 : w2.cell? ⟨wr.heap.size, 0, none⟩ = some (.string nm) := by rw [hb2.cell (by simp)]; simp
          have hsz2 := hb2.size
          have hsz2' : wr.heap.size < w2.heap.size := by have := hsz2; simp at this; omega
          clear hsz2
          go_wp2_with fail
          refine Calls.mono (CC.out _) ?_
          rintro e w4 ⟨rfl, hb4⟩
          have hb5 : Below wr.heap.size wr w4 := hb3.trans (hb4.mono (by omega))
          have hown4 := hown.all hb5
          have hbel4 : Below w.heap.size w w4 := hbel.trans (hb5.mono hsz)
          have hsz4 := hbel4.size
          clear hown hbel c0 c1 c2 hb2 hb3 hb4 hb5 c20
          go_wp2_with (at_builtin; refine wpList_append_rec _ w rfl (.tmp 32) (.tmp 37) 31 rfl w.heap.size 57 _ 56 underAc infoAc rfl _ (dropsOf m (l.take k)) rfl (hown4.alloc _) (hbel4.alloc hsz4 _) w4.heap.size 1 ⟨4, nm, ByteArray.empty, ByteArray.empty⟩ rfl ?c1 ?c2 ?c3 ?c4 ?_)
          case c1 => exact cells_ac (by simp) (by simp) (by simp; rfl) (by simp; rfl)
          case c2 => exact hlen
          case c3 => omega
          case c4 => simp; omega
          intro v' w5 hown5 hbel5 _
          rw [← HT.out] at hown5
          clear hown4 hbel4
          go_wp2
          go_roundw
          case rel => exact ⟨k + 1, by omega, by go_num, hown5, hbel5⟩
          case measure => simp [intOf]; omega
      | false =>
        have HT : Hid (dropsOf m (l.take (k + 1)) = dropsOf m (l.take k)) := drops_no HF.out hd
        have hcase : (nm.toList == ([106, 43] : List UInt8)) = false ∧ (¬ 0 ≤ x ∨ 0 ≤ x ∧ x = m) := by
          unfold dropB at hd
          rw [HX.out] at hd
          cases h : (nm.toList == ([106, 43] : List UInt8)) with
          | true =>
            dsimp only at hd
            rw [h] at hd
            cases hd
          | false =>
            dsimp only at hd
            rw [h] at hd
            simp at hd
            refine ⟨rfl, ?_⟩
            by_cases h0 : 0 ≤ x
            · exact .inr ⟨h0, hd h0⟩
            · exact .inl h0
        clear hd
        obtain ⟨he, hx⟩ := hcase
        rcases hx with hx0 | ⟨hx0, hxm⟩
        · go_wp2_with fail
          refine Calls.mono (CN.out _ (ba (Below.refl _ _) _)) ?_
          rintro e w2 ⟨rfl, hb2⟩
          have hb3 : Below wr.heap.size wr w2 := (ba (Below.refl _ wr) _).trans (hb2.mono (by simp))
          have c20 : w2.cell? ⟨wr.heap.size, 0, none⟩ = some (.string nm) := by rw [hb2.cell (by simp)]; simp
          have hown4 := hown.all hb3
          rw [← HT.out] at hown4
          have hbel4 : Below w.heap.size w w2 := hbel.trans (hb3.mono hsz)
          clear hown hbel c0 c1 c2 hb2 hb3
          go_wp2
          go_roundw
          case rel => exact ⟨k + 1, by omega, by go_num, hown4, hbel4⟩
          case measure => simp [intOf]; omega
        · subst hxm
          go_wp2_with fail
          refine Calls.mono (CN.out _ (ba (Below.refl _ _) _)) ?_
          rintro e w2 ⟨rfl, hb2⟩
          have hb3 : Below wr.heap.size wr w2 := (ba (Below.refl _ wr) _).trans (hb2.mono (by simp))
          have c20 : w2.cell? ⟨wr.heap.size, 0, none⟩ = some (.string nm) := by rw [hb2.cell (by simp)]; simp
          have hown4 := hown.all hb3
          rw [← HT.out] at hown4
          have hbel4 : Below w.heap.size w w2 := hbel.trans (hb3.mono hsz)
          clear hown hbel c0 c1 c2 hb2 hb3
          go_wp2
          go_roundw
          case rel => exact ⟨k + 1, by omega, by go_num, hown4, hbel4⟩
          case measure => simp [intOf]; omega
    · have hkn : k = l.length := by rw [← HN.out]; omega
      have HO : Hid (ownsR wr w.heap.size 57 u5 (dropsOf m l)) := by
        have := hown
        rw [hkn, List.take_length] at this
        exact this
      clear hown hkn
      go_wp2
      go_ret
      exact ⟨_, rfl, HO.out, hbel⟩
end Go.Proofs.YtgpojfkdcdgloaaGreatDoor

namespace Go.Proofs.YtgpojfkdcdgloaaGreatDoor
open Go Go.RowKit

set_option maxRecDepth 10000 in
set_option maxHeartbeats 4000000 in
theorem withNumber_try (n t v s st m : Int) (ao : Option Addr) (k c : Nat) (l : List En) (w : World) (hr : Reads w (.slice ao k c) l) (hn : l.length ≤ 1048576) (hz : SizedE l) :
    Calls Tryz.prog 78 #[jV n t v s st (.slice ao k c), .int .i64 m] w fun e w' => ∃ y, e = .returned (jV m t v s st y) ∧ ownsR w' w.heap.size 110 y l ∧ Below w.heap.size w w' := by
  have CM : Hid (∀ W, Below w.heap.size w W → Calls Tryz.prog 101 #[.slice ao k c] W fun e w' => ∃ v, e = .returned v ∧ ownsR w' W.heap.size 110 v l ∧ Below W.heap.size W w') := fun W hb => moved_any (hr.below hb) hn hz
  clear hr hn hz
  go_enter Tryz.func78, Tryz.ntmps78
  have J0 := (B6.new w (.int .i64 n) (.int .i64 t) (.int .i64 v) (.int .i64 s) (.int .i64 st) (.slice ao k c)).alloc (.cells #[.int .i64 0, .int .i64 0, .int .i64 0, .int .i64 0, .int .i64 0, .slice none 0 0] 30)
  have Z0 : B6 ((w.alloc (.cells #[.int .i64 n, .int .i64 t, .int .i64 v, .int .i64 s, .int .i64 st, .slice ao k c] 30)).alloc (.cells #[.int .i64 0, .int .i64 0, .int .i64 0, .int .i64 0, .int .i64 0, .slice none 0 0] 30)) (w.heap.size + 1) (.int .i64 0) (.int .i64 0) (.int .i64 0) (.int .i64 0) (.int .i64 0) (.slice none 0 0) := by
    have := B6.new (w.alloc (.cells #[.int .i64 n, .int .i64 t, .int .i64 v, .int .i64 s, .int .i64 st, .slice ao k c] 30)) (.int .i64 0) (.int .i64 0) (.int .i64 0) (.int .i64 0) (.int .i64 0) (.slice none 0 0)
    simpa using this
  have B0 : Below w.heap.size w ((w.alloc (.cells #[.int .i64 n, .int .i64 t, .int .i64 v, .int .i64 s, .int .i64 st, .slice ao k c] 30)).alloc (.cells #[.int .i64 0, .int .i64 0, .int .i64 0, .int .i64 0, .int .i64 0, .slice none 0 0] 30)) := ba (ba (Below.refl _ _) _) _
  go_wp2
  obtain ⟨WX, hWX⟩ : ∃ WX, (w.alloc (.cells #[.int .i64 n, .int .i64 t, .int .i64 v, .int .i64 s, .int .i64 st, .slice ao k c] 30)).alloc (.cells #[.int .i64 0, .int .i64 0, .int .i64 0, .int .i64 0, .int .i64 0, .slice none 0 0] 30) = WX := ⟨_, rfl⟩
  rw [hWX] at J0 Z0 B0 ⊢
  clear hWX
  have hgX := J0.lt
  have K3 := Below.cellOf (B := WX.heap.size) (W := WX) (p := ⟨w.heap.size, 3, none⟩) (v := .int .i64 s) hgX J0.c3
  have K4 := Below.cellOf (B := WX.heap.size) (W := WX) (p := ⟨w.heap.size, 4, none⟩) (v := .int .i64 st) hgX J0.c4
  have K5 := Below.cellOf (B := WX.heap.size) (W := WX) (p := ⟨w.heap.size, 5, none⟩) (v := .slice ao k c) hgX J0.c5
  have CP2 : Hid (∀ W, Below WX.heap.size WX W → Calls Tryz.prog 101 #[.slice ao k c] W fun e w' => ∃ v, e = .returned v ∧ ownsR w' W.heap.size 110 v l ∧ Below W.heap.size W w') := fun W hb => CM.out W (Below.on B0 hb)
  refine wp_puts (α := Nat × Option Addr × Nat × Nat) (fun x => [(6, .pointer (some ⟨w.heap.size, 3, none⟩)), (7, .pointer (some ⟨w.heap.size, 3, none⟩)), (8, .int .i64 s), (9, .pointer (some ⟨w.heap.size, 3, none⟩)), (10, .pointer (some ⟨w.heap.size, 4, none⟩)), (11, .int .i64 st), (12, .pointer (some ⟨w.heap.size, 3, none⟩)), (13, .pointer (some ⟨w.heap.size, 5, none⟩)), (14, .slice ao k c), (15, .slice x.2.1 x.2.2.1 x.2.2.2), (16, .agg #[.int .i64 s, .int .i64 st, .slice x.2.1 x.2.2.1 x.2.2.2]), (5, .pointer (some ⟨x.1, 0, none⟩))]) (fun x w' => WX.heap.size ≤ x.1 ∧ w'.heap[x.1]? = some (.cells #[.int .i64 s, .int .i64 st, .slice x.2.1 x.2.2.1 x.2.2.2] 28) ∧ ownsR w' WX.heap.size 110 (.slice x.2.1 x.2.2.1 x.2.2.2) l ∧ Below WX.heap.size WX w') ?_ ?_
  · go_region_held3 (fun w' => Below WX.heap.size WX w') ((first | assumption | exact (Below.refl _ _).drew | exact hS5 | exact Below.alloc hS5 hS5.size _ | exact Below.alloc (by assumption) (Below.size (by assumption)) _ | exact ((Below.setCell hS5 (Nat.le_refl _) _).setCell (Nat.le_refl _) _).setCell (Nat.le_refl _) _)) ((go_at_call 101; refine (CP2.out _ (by assumption)).mono ?_; rintro e w3 ⟨v5, rfl, ho5, hb5⟩; obtain ⟨a5, k5, c5, rfl⟩ := ho5.slice3; have hS5 := keep_on (B := WX.heap.size) (W := WX) hb5 (by assumption) (Nat.le_refl _); (try (have hE0 := heap_new hb5; obtain ⟨p0, p1, p2, pf⟩ := cur_cells hE0)); (try (have hE0 := heap_newd hb5; obtain ⟨p0, p1, p2, pf⟩ := cur_cells hE0))))
    all_goals first | refine ⟨rfl, (w3.heap.size, a5, k5, c5), ?_, hS5.size, heap_last _ _, (ho5.mono (Nat.le_refl _)).alloc _, Below.alloc hS5 hS5.size _⟩ | refine ⟨rfl, (WX.heap.size, a5, k5, c5), ?_, Nat.le_refl _, cur_set2 (cur_set1 (cur_set0 hE0 _) _) _, ownsR.mono (ownsR.setBelow (ownsR.setBelow (ownsR.setBelow ho5 (by show WX.heap.size < (WX.alloc _).heap.size; simp) _) (by show WX.heap.size < (WX.alloc _).heap.size; simp) _) (by show WX.heap.size < (WX.alloc _).heap.size; simp) _) (by show WX.heap.size ≤ (WX.alloc _).heap.size; simp), ((Below.setCell hS5 (p := ⟨WX.heap.size, 0, none⟩) (Nat.le_refl _) _).setCell (p := ⟨WX.heap.size, 1, none⟩) (Nat.le_refl _) _).setCell (p := ⟨WX.heap.size, 2, none⟩) (Nat.le_refl _) _⟩
    all_goals kernel_rfl
  rintro ⟨E, av, kv, cv⟩ w3 ⟨hE, E3, ho3, hb3⟩
  simp only at hE E3 ho3
  simp only [putAll]
  have B3 := Below.on B0 hb3
  have J3 := J0.up hb3
  have Z3 := Z0.up hb3
  have HO3 : Hid (ownsR w3 w.heap.size 110 (.slice av kv cv) l) := ho3.mono B0.size
  clear hb3 K3 K4 K5 CM CP2 ho3 J0 Z0 B0
  obtain ⟨f0, f1, f2, ff⟩ := cur_cells E3
  have y1 := J3.c1
  have y2 := J3.c2
  have z0 := Z3.c0
  have z1 := Z3.c1
  have z2 := Z3.c2
  have z3 := Z3.c3
  have z4 := Z3.c4
  have z5 := Z3.c5
  have zf := Z3.fr
  have Z4 := Z3.set (.int .i64 m) (.int .i64 t) (.int .i64 v) (.int .i64 s) (.int .i64 st) (.slice av kv cv)
  have B4 := below_set6 (b := w.heap.size + 1) B3 (by omega) (.int .i64 m) (.int .i64 t) (.int .i64 v) (.int .i64 s) (.int .i64 st) (.slice av kv cv)
  have O4 := ownsR_set6 (b := w.heap.size + 1) HO3.out (not_row6 Z3 HO3.out) (.int .i64 m) (.int .i64 t) (.int .i64 v) (.int .i64 s) (.int .i64 st) (.slice av kv cv)
  go_wp2
  refine bodyPost_ret (ret_jou rfl rfl Z4.c0 Z4.c1 Z4.c2 Z4.c3 Z4.c4 Z4.c5) rfl ⟨_, rfl, O4, B4⟩
end Go.Proofs.YtgpojfkdcdgloaaGreatDoor

namespace Go.Proofs.YtgpojfkdcdgloaaGreatDoor
open Go Go.RowKit

/-- The box of a journal. -/
structure Jb (W : World) (b : Nat) (n t v s st : Int) (x : Value) : Prop where
  c0 : W.cell? ⟨b, 0, none⟩ = some (.int .i64 n)
  c1 : W.cell? ⟨b, 1, none⟩ = some (.int .i64 t)
  c2 : W.cell? ⟨b, 2, none⟩ = some (.int .i64 v)
  c3 : W.cell? ⟨b, 3, none⟩ = some (.int .i64 s)
  c4 : W.cell? ⟨b, 4, none⟩ = some (.int .i64 st)
  c5 : W.cell? ⟨b, 5, none⟩ = some x
theorem Jb.belowB {B b : Nat} {W W' : World} {n t v s st : Int} {x : Value} (h : Jb W b n t v s st x) (hb : Below B W W') (hB : b < B) : Jb W' b n t v s st x :=
  ⟨(hb.cell (p := ⟨b, 0, none⟩) hB).trans h.c0, (hb.cell (p := ⟨b, 1, none⟩) hB).trans h.c1, (hb.cell (p := ⟨b, 2, none⟩) hB).trans h.c2, (hb.cell (p := ⟨b, 3, none⟩) hB).trans h.c3, (hb.cell (p := ⟨b, 4, none⟩) hB).trans h.c4, (hb.cell (p := ⟨b, 5, none⟩) hB).trans h.c5⟩
theorem Jb.lt {b : Nat} {W : World} {n t v s st : Int} {x : Value} (h : Jb W b n t v s st x) : b < W.heap.size := World.block_lt_of_cell? W _ h.c0
theorem Jb.up {b : Nat} {W W' : World} {n t v s st : Int} {x : Value} (h : Jb W b n t v s st x) (hb : Below W.heap.size W W') : Jb W' b n t v s st x := h.belowB hb h.lt
theorem Jb.new (w : World) (n t v s st : Int) (x : Value) (T : TypeId) : Jb (w.alloc (.cells #[.int .i64 n, .int .i64 t, .int .i64 v, .int .i64 s, .int .i64 st, x] T)) w.heap.size n t v s st x := by
  refine ⟨?_, ?_, ?_, ?_, ?_, ?_⟩ <;> simp [go_sem]

set_option maxRecDepth 10000 in
set_option maxHeartbeats 4000000 in
theorem journalText1_ok (n : Int) (t v s st : Nat) (ao : Option Addr) (k c : Nat) (l : List En) (w : World) (hp : PowIs w) (ht : TableIs w) (hr : Reads w (.slice ao k c) l) (hc : k ≤ c) (hk : k ≤ 1048577) (hz : SizedE l) (hj : jokB n t v s st l = true) :
    Calls Tryz.prog 79 #[jV n t v s st (.slice ao k c)] w fun e w' => e = .returned (if (jRaw t v s st l).size ≤ 20000 then .tuple #[.string (jRaw t v s st l), .nilIface] else .tuple #[.string ByteArray.empty, faultV 6]) ∧ Below w.heap.size w w' := by
  have HR : Hid (Reads w (.slice ao k c) l) := hr
  have HZ : Hid (SizedE l) := hz
  have HJ : Hid (jokB n t v s st l = true) := hj
  have HT : Hid (TableIs w) := ht
  obtain ⟨-, ⟨-, b1, -, b2⟩, hok⟩ := jok_all hj
  obtain ⟨-, b3, -, b4, -, -, -⟩ := okL_all hok
  have HOK : Hid (okL s st l = true) := hok
  have HW : Hid (jRaw t v s st l = ByteArray.empty ++ frameT (pairT 66 s st) ++ frameT (pairT 72 t v) ++ entsT ((s : Int) + 1) l) := by
    show _ = _
    unfold jRaw
    rw [ByteArray.empty_append]
    simp only [Int.toNat_natCast]
  obtain ⟨R, HRW⟩ : ∃ R, Hid (jRaw t v s st l = R) := ⟨_, rfl⟩
  rw [HRW.out]
  obtain ⟨ans, HA⟩ : ∃ ans : Value, Hid ((if R.size ≤ 20000 then Value.tuple #[.string R, .nilIface] else Value.tuple #[.string ByteArray.empty, faultV 6]) = ans) := ⟨_, rfl⟩
  rw [HA.out]
  have hps := pairT_size (m := 66) (a := s) (b := st) (by omega) (by omega)
  have hps2 := pairT_size (m := 72) (a := t) (b := v) (by omega) (by omega)
  have hz1 := frameT_le (r := pairT 66 s st) (by omega)
  have hz2 := frameT_le (r := pairT 72 t v) (by omega)
  clear hr hz hj hok ht
  go_enter Tryz.func79, Tryz.ntmps79
  go_wp2_with fail
  refine Calls.mono (journalOk_try n t v s st ao k c l _ (hp.below (ba (Below.refl _ _) _)) (HR.out.alloc _) hk HZ.out) ?_
  rw [HJ.out]
  rintro e w1 ⟨rfl, hb1⟩
  have J1 : Jb w1 w.heap.size n t v s st (.slice ao k c) := (Jb.new w n t v s st (.slice ao k c) _).up hb1
  have B1 := below_new hb1
  have q3 := J1.c3
  have q4 := J1.c4
  have hg : w.heap.size < w1.heap.size := J1.lt
  clear hb1
  go_wp2_with fail
  have F1 := Ft.new w1
  have J2 := J1.up (ba (Below.refl _ w1) (.cells #[.slice none 0 0, .nilIface] 161))
  have B2 := ba B1 (.cells #[.slice none 0 0, .nilIface] 161)
  obtain ⟨WA, hWA⟩ : ∃ WA, w1.alloc (.cells #[.slice none 0 0, .nilIface] 161) = WA := ⟨_, rfl⟩
  rw [hWA] at F1 J2 B2 ⊢
  obtain ⟨g, HG⟩ : ∃ g, Hid (w1.heap.size = g) := ⟨_, rfl⟩
  rw [HG.out] at F1 hg ⊢
  clear hWA q3 q4 J1 B1
  refine Calls.mono (pairText_ok 66 s st _ (by omega) (by omega)) ?_
  rintro e w2 ⟨rfl, hb2⟩
  have F2 := F1.up hb2
  have J3 := J2.up hb2
  have B3 := Below.on B2 hb2
  clear hb2 F1 J2 B2
  go_wp2_with fail
  refine Calls.mono (put_ok g _ _ _ (HT.out.below B3) F2 (by omega) (by omega) (by show 0 ≤ _; omega)) ?_
  rintro e w3 ⟨rfl, F3, hb3⟩
  have J4 := J3.belowB hb3 hg
  have B4 := B3.trans (hb3.mono (Nat.le_of_lt hg))
  clear hb3 F2 J3 B3
  have q0 := J4.c0
  have q1 := J4.c1
  have q2 := J4.c2
  have q3 := J4.c3
  have q4 := J4.c4
  have q5 := J4.c5
  go_wp2_with fail
  refine Calls.mono (putHead_ok g _ _ _ _ t v _ _ (HT.out.below B4) F3 (by omega) (by omega) (by rw [ByteArray.empty_append]; omega)) ?_
  rintro e w4 ⟨rfl, F4, hb4⟩
  have J5 := J4.belowB hb4 hg
  have B5 := B4.trans (hb4.mono (Nat.le_of_lt hg))
  clear hb4 F3 J4 B4 q0 q1 q2 q3 q4 q5
  have q3 := J5.c3
  have q4 := J5.c4
  have q5 := J5.c5
  go_wp2_with fail
  refine Calls.mono (putEntries_ok g _ s st ao k c l w _ HT.out F4 HOK.out HR.out B5 (Nat.le_of_lt hg) hc (by rw [ByteArray.empty_append, ByteArray.size_append]; omega)) ?_
  rintro e w5 ⟨rfl, F5, hb5⟩
  have B6 := B5.trans (hb5.mono (Nat.le_of_lt hg))
  rw [← HW.out, HRW.out] at F5
  clear hb5 F4 J5 B5 q3 q4 q5
  obtain ⟨x, hx, hox⟩ := F5
  obtain ⟨a, d, rfl, _⟩ := hox.slice
  obtain ⟨c0, c1, f0, f1⟩ := ft_cells hx
  by_cases hlen : R.size ≤ 20000
  · have ha : ans = .tuple #[.string R, .nilIface] := by rw [← HA.out, if_pos hlen]
    subst ha
    go_wp2
    have hcx : ∀ x : Wd w5, (convert 100 9 (.slice a R.size d)).run Tryz.prog x.at' = .ok (.string R) x.at' := fun x => run_own_text (hox.all x.ok)
    have k0 := Wd.cell c0
    have k1 := Wd.cell c1
    refine wp_region_wd (by kernel_rfl) (by kernel_rfl) ?_
    repeat (go_big_quiet_step (fail))
    refine wpQuiet_nil ?_
    rintro _ ⟨x1, rfl⟩
    go_wp2
    go_ret2
    exact ⟨rfl, Below.on B6 x1.ok⟩
  · have ha : ans = .tuple #[.string ByteArray.empty, faultV 6] := by rw [← HA.out, if_neg hlen]
    subst ha
    have hl2 : (20000 : Int) < (R.size : Int) := by omega
    go_wp2
    go_ret2
    exact ⟨rfl, B6⟩
end Go.Proofs.YtgpojfkdcdgloaaGreatDoor

namespace Go.Proofs.YtgpojfkdcdgloaaGreatDoor
open Go Go.RowKit

/-- What journalText answers beside the text. -/
def jtE (n t v s st : Int) (l : List En) : Value := if jtB n t v s st l then .nilIface else faultV (if jokB n t v s st l then 6 else 1)
theorem journalText1_any (n t v s st : Int) (ao : Option Addr) (k c : Nat) (l : List En) (w : World) (hp : PowIs w) (ht : TableIs w) (hr : Reads w (.slice ao k c) l) (hc : k ≤ c) (hk : k ≤ 1048577) (hz : SizedE l) :
    Calls Tryz.prog 79 #[jV n t v s st (.slice ao k c)] w fun e w' => e = .returned (.tuple #[.string (jtX n t v s st l), jtE n t v s st l]) ∧ Below w.heap.size w w' := by
  cases hj : jokB n t v s st l with
  | false =>
    have e1 := jtB_no hj
    unfold jtX jtE
    rw [e1, hj]
    exact journalText1_no n t v s st ao k c l w hp hr hk hz hj
  | true =>
    obtain ⟨-, ⟨b0, -, b2, -⟩, hok⟩ := jok_all hj
    obtain ⟨b3, -, b4, -, -, -, -⟩ := okL_all hok
    obtain ⟨t, rfl⟩ := Int.eq_ofNat_of_zero_le b0
    obtain ⟨v, rfl⟩ := Int.eq_ofNat_of_zero_le b2
    obtain ⟨s, rfl⟩ := Int.eq_ofNat_of_zero_le b3
    obtain ⟨st, rfl⟩ := Int.eq_ofNat_of_zero_le b4
    have := journalText1_ok n t v s st ao k c l w hp ht hr hc hk hz hj
    by_cases h : (jRaw t v s st l).size ≤ 20000
    · rw [if_pos h] at this
      unfold jtX jtE
      rw [jtB_yes hj h]
      exact this
    · rw [if_neg h] at this
      unfold jtX jtE
      rw [jtB_long (by omega), hj]
      exact this

/-- The name of a file that is begun. -/
abbrev nameNew : ByteArray := ⟨#[106, 43]⟩
/-- The four acts by which a journal is written as a new file. -/
def renA (tx a b : ByteArray) : List Ac := [⟨1, nameNew, tx, ByteArray.empty⟩, ⟨2, nameNew, ByteArray.empty, ByteArray.empty⟩, ⟨3, nameNew, ByteArray.empty, a⟩, ⟨4, b, ByteArray.empty, ByteArray.empty⟩]
theorem ownsA_four (w : World) (B : Nat) (tx a b : ByteArray) (hb : B ≤ w.heap.size) :
    ownsR (w.alloc (.cells #[.int .i64 1, .string nameNew, .string tx, .string ByteArray.empty, .int .i64 2, .string nameNew, .string ByteArray.empty, .string ByteArray.empty, .int .i64 3, .string nameNew, .string ByteArray.empty, .string a, .int .i64 4, .string b, .string ByteArray.empty, .string ByteArray.empty] 57)) B 57 (.slice (some ⟨w.heap.size, 0, none⟩) 4 4) (renA tx a b) :=
  ⟨rfl, .inr ⟨w.heap.size, 4, _, rfl, hb, heap_alloc_new w _, Nat.le_refl 4, by decide, rfl, rfl⟩⟩
theorem ret_tjt {fn : Func} {p u u2 : Tmp} {w : World} {g : Nat} {a b c d e f x y : Value} {tmps : Array Value} (h : fn.results = #[.tmp u, .cell p 30, .tmp u2]) (hp : tmps.getD p undef = .pointer (some ⟨g, 0, none⟩)) (hu : tmps.getD u undef = x) (hu2 : tmps.getD u2 undef = y) (hb : B6 w g a b c d e f) :
    (results fn tmps).run Tryz.prog w = .ok (.tuple #[x, .agg #[a, b, c, d, e, f], y]) w := by
  have hp' : tmps[p]?.getD undef = .pointer (some ⟨g, 0, none⟩) := by simpa using hp
  have hu' : tmps[u]?.getD undef = x := by simpa using hu
  have hu2' : tmps[u2]?.getD undef = y := by simpa using hu2
  simp [results, h, hp', hu', hu2', hb.c0, hb.c1, hb.c2, hb.c3, hb.c4, hb.c5, asAddr, go_sem]
theorem not_row6a {w : World} {B b : Nat} {v : Value} {l : List Ac} {x0 x1 x2 x3 x4 x5 : Value} (h : B6 w b x0 x1 x2 x3 x4 x5) (ho : ownsR w B 57 v l) : some b ≠ v.ownBlock := by
  intro he
  obtain ⟨_, h2⟩ := ho
  rcases h2 with ⟨rfl, _⟩ | ⟨g', cap, cur, rfl, _, hg, _⟩
  · simp [Value.ownBlock] at he
  · simp only [Value.ownBlock, Option.some.injEq] at he
    subst he
    rw [show w.heap[b]? = _ from h] at hg
    simp only [Option.some.injEq, Obj.cells.injEq] at hg
    exact absurd hg.2.1 (by decide)

set_option maxRecDepth 10000 in
set_option maxHeartbeats 4000000 in
theorem renewedActs_try (m n t v s st : Int) (ao : Option Addr) (k c : Nat) (l : List En) (w : World) (hr : Reads w (.slice ao k c) l) (hn : l.length ≤ 1048576) (hz : SizedE l) (hm0 : 0 ≤ m) (hm1 : m ≤ 999) (hp : PowIs w) (ht : TableIs w) :
    Calls Tryz.prog 53 #[.int .i64 m, jV n t v s st (.slice ao k c)] w fun e w' => ∃ a y, e = .returned (.tuple #[a, jV (m + 1) t v s st y, jtE (m + 1) t v s st l]) ∧ ownsR w' w.heap.size 57 a (renA (jtX (m + 1) t v s st l) (jname (m + 1)) (jname m)) ∧ ownsR w' w.heap.size 110 y l ∧ Below w.heap.size w w' := by
  have CW : Hid (∀ W, Below w.heap.size w W → Calls Tryz.prog 78 #[jV n t v s st (.slice ao k c), .int .i64 (m + 1)] W fun e w' => ∃ y, e = .returned (jV (m + 1) t v s st y) ∧ ownsR w' W.heap.size 110 y l ∧ Below W.heap.size W w') := fun W hb => withNumber_try n t v s st (m + 1) ao k c l W (hr.below hb) hn hz
  have CJ1 : Hid (∀ W, Below w.heap.size w W → Calls Tryz.prog 49 #[.int .i64 (m + 1)] W fun e w' => e = .returned (.string (jname (m + 1))) ∧ Below W.heap.size W w') := fun W hb => journalName_any _ W (hp.below hb)
  have CJ2 : Hid (∀ W, Below w.heap.size w W → Calls Tryz.prog 49 #[.int .i64 m] W fun e w' => e = .returned (.string (jname m)) ∧ Below W.heap.size W w') := fun W hb => journalName_any _ W (hp.below hb)
  have CT : Hid (∀ (W : World) (a : Option Addr) (k' c' : Nat), Below w.heap.size w W → Reads W (.slice a k' c') l → k' ≤ c' → k' ≤ 1048577 → Calls Tryz.prog 79 #[jV (m + 1) t v s st (.slice a k' c')] W fun e w' => e = .returned (.tuple #[.string (jtX (m + 1) t v s st l), jtE (m + 1) t v s st l]) ∧ Below W.heap.size W w') := fun W a k' c' hb hr' hc' hk' => journalText1_any _ _ _ _ _ a k' c' l W (hp.below hb) (ht.below hb) hr' hc' hk' hz
  have HN : Hid (l.length ≤ 1048576) := hn
  obtain ⟨X, HX⟩ : ∃ X, Hid (jtX (m + 1) t v s st l = X) := ⟨_, rfl⟩
  obtain ⟨E, HE⟩ : ∃ E, Hid (jtE (m + 1) t v s st l = E) := ⟨_, rfl⟩
  obtain ⟨ja, HJA⟩ : ∃ X, Hid (jname (m + 1) = X) := ⟨_, rfl⟩
  obtain ⟨jb, HJB⟩ : ∃ X, Hid (jname m = X) := ⟨_, rfl⟩
  rw [HX.out, HE.out] at CT
  rw [HJA.out] at CJ1
  rw [HJB.out] at CJ2
  rw [HX.out, HE.out, HJA.out, HJB.out]
  clear hr hn hz hp ht
  go_enter Tryz.func53, Tryz.ntmps53
  have Z0 : B6 ((w.alloc (.cells #[.int .i64 n, .int .i64 t, .int .i64 v, .int .i64 s, .int .i64 st, .slice ao k c] 30)).alloc (.cells #[.int .i64 0, .int .i64 0, .int .i64 0, .int .i64 0, .int .i64 0, .slice none 0 0] 30)) (w.heap.size + 1) (.int .i64 0) (.int .i64 0) (.int .i64 0) (.int .i64 0) (.int .i64 0) (.slice none 0 0) := by
    have := B6.new (w.alloc (.cells #[.int .i64 n, .int .i64 t, .int .i64 v, .int .i64 s, .int .i64 st, .slice ao k c] 30)) (.int .i64 0) (.int .i64 0) (.int .i64 0) (.int .i64 0) (.int .i64 0) (.slice none 0 0)
    simpa using this
  have B0 : Below w.heap.size w ((w.alloc (.cells #[.int .i64 n, .int .i64 t, .int .i64 v, .int .i64 s, .int .i64 st, .slice ao k c] 30)).alloc (.cells #[.int .i64 0, .int .i64 0, .int .i64 0, .int .i64 0, .int .i64 0, .slice none 0 0] 30)) := ba (ba (Below.refl _ _) _) _
  go_wp2_with fail
  refine Calls.mono (CW.out _ B0) ?_
  rintro e w1 ⟨y, rfl, ho1, hb1⟩
  have Z1 := Z0.up hb1
  have B1 := Below.on B0 hb1
  have ho1' := ho1.mono B0.size
  obtain ⟨a, c', rfl, hc'⟩ := ho1'.cap
  clear Z0 hb1 B0 ho1
  go_wp2_with fail
  refine Calls.mono (CT.out _ a _ c' (ba B1 _) (ho1'.alloc _).reads hc' (by have := HN.out; omega)) ?_
  rintro e w2 ⟨rfl, hb2⟩
  have N2 := (B6.new w1 (.int .i64 (m + 1)) (.int .i64 t) (.int .i64 v) (.int .i64 s) (.int .i64 st) (.slice a l.length c')).up hb2
  have Z2 := (Z1.alloc (.cells #[.int .i64 (m + 1), .int .i64 t, .int .i64 v, .int .i64 s, .int .i64 st, .slice a l.length c'] 30)).up hb2
  have B2 := Below.on (ba B1 _) hb2
  have O2 := (ho1'.alloc (.cells #[.int .i64 (m + 1), .int .i64 t, .int .i64 v, .int .i64 s, .int .i64 st, .slice a l.length c'] 30)).all hb2
  have hsz1 := Z1.lt
  have hsz2 := N2.lt
  clear Z1 B1 ho1' hb2
  obtain ⟨g, hg⟩ : ∃ g, w1.heap.size = g := ⟨_, rfl⟩
  rw [hg] at N2 hsz1 hsz2 ⊢
  clear hg
  have n0 := N2.c0
  go_wp2_with fail
  refine Calls.mono (CJ1.out _ B2) ?_
  rintro e w3 ⟨rfl, hb3⟩
  go_wp2_with fail
  refine Calls.mono (CJ2.out _ (Below.on B2 hb3)) ?_
  rintro e w4 ⟨rfl, hb4⟩
  have hb5 : Below w2.heap.size w2 w4 := Below.on hb3 hb4
  have N4 := N2.up hb5
  have Z4 := Z2.up hb5
  have B4 := Below.on B2 hb5
  have O4 := O2.all hb5
  clear n0 N2 Z2 B2 O2 hb3 hb4 hb5
  have hsz4 := N4.lt
  go_wp2
  have N5 := N4.alloc (.cells #[.int .i64 1, .string nameNew, .string X, .string ByteArray.empty, .int .i64 2, .string nameNew, .string ByteArray.empty, .string ByteArray.empty, .int .i64 3, .string nameNew, .string ByteArray.empty, .string ja, .int .i64 4, .string jb, .string ByteArray.empty, .string ByteArray.empty] 57)
  have Z5 := Z4.alloc (.cells #[.int .i64 1, .string nameNew, .string X, .string ByteArray.empty, .int .i64 2, .string nameNew, .string ByteArray.empty, .string ByteArray.empty, .int .i64 3, .string nameNew, .string ByteArray.empty, .string ja, .int .i64 4, .string jb, .string ByteArray.empty, .string ByteArray.empty] 57)
  have A5 := ownsA_four w4 w.heap.size X ja jb B4.size
  have B5 := ba B4 (.cells #[.int .i64 1, .string nameNew, .string X, .string ByteArray.empty, .int .i64 2, .string nameNew, .string ByteArray.empty, .string ByteArray.empty, .int .i64 3, .string nameNew, .string ByteArray.empty, .string ja, .int .i64 4, .string jb, .string ByteArray.empty, .string ByteArray.empty] 57)
  have O5 := O4.alloc (.cells #[.int .i64 1, .string nameNew, .string X, .string ByteArray.empty, .int .i64 2, .string nameNew, .string ByteArray.empty, .string ByteArray.empty, .int .i64 3, .string nameNew, .string ByteArray.empty, .string ja, .int .i64 4, .string jb, .string ByteArray.empty, .string ByteArray.empty] 57)
  obtain ⟨w5, hw5⟩ : ∃ w5, w4.alloc (.cells #[.int .i64 1, .string nameNew, .string X, .string ByteArray.empty, .int .i64 2, .string nameNew, .string ByteArray.empty, .string ByteArray.empty, .int .i64 3, .string nameNew, .string ByteArray.empty, .string ja, .int .i64 4, .string jb, .string ByteArray.empty, .string ByteArray.empty] 57) = w5 := ⟨_, rfl⟩
  rw [hw5] at N5 Z5 A5 B5 O5
  first | rw [hw5] | (erw [hw5])
  clear hw5 N4 Z4 B4 O4
  have n0 := N5.c0
  have n1 := N5.c1
  have n2 := N5.c2
  have n3 := N5.c3
  have n4 := N5.c4
  have n5 := N5.c5
  have z0 := Z5.c0
  have z1 := Z5.c1
  have z2 := Z5.c2
  have z3 := Z5.c3
  have z4 := Z5.c4
  have z5 := Z5.c5
  have zf := Z5.fr
  have Z6 : B6 (set6 w5 (w.heap.size + 1) (.int .i64 (m + 1)) (.int .i64 t) (.int .i64 v) (.int .i64 s) (.int .i64 st) (.slice a l.length c')).drew (w.heap.size + 1) (.int .i64 (m + 1)) (.int .i64 t) (.int .i64 v) (.int .i64 s) (.int .i64 st) (.slice a l.length c') := (Z5.set _ _ _ _ _ _).drew
  have B6' : Below w.heap.size w (set6 w5 (w.heap.size + 1) (.int .i64 (m + 1)) (.int .i64 t) (.int .i64 v) (.int .i64 s) (.int .i64 st) (.slice a l.length c')).drew := Below.drew (below_set6 B5 (Nat.le_succ _) _ _ _ _ _ _)
  have O6 : ownsR (set6 w5 (w.heap.size + 1) (.int .i64 (m + 1)) (.int .i64 t) (.int .i64 v) (.int .i64 s) (.int .i64 st) (.slice a l.length c')).drew w.heap.size 110 (.slice a l.length c') l := ownsR.drew (ownsR_set6 O5 (not_row6 Z5 O5) _ _ _ _ _ _)
  have A6 : ownsR (set6 w5 (w.heap.size + 1) (.int .i64 (m + 1)) (.int .i64 t) (.int .i64 v) (.int .i64 s) (.int .i64 st) (.slice a l.length c')).drew w.heap.size 57 (.slice (some ⟨w4.heap.size, 0, none⟩) 4 4) (renA X ja jb) := ownsR.drew (ownsR_set6 A5 (not_row6a Z5 A5) _ _ _ _ _ _)
  go_region
  obtain ⟨w6, hw6⟩ : ∃ w6, (set6 w5 (w.heap.size + 1) (.int .i64 (m + 1)) (.int .i64 t) (.int .i64 v) (.int .i64 s) (.int .i64 st) (.slice a l.length c')).drew = w6 := ⟨_, rfl⟩
  rw [hw6] at Z6 B6' O6 A6 ⊢
  clear hw6
  go_wp2
  exact bodyPost_ret (ret_tjt rfl rfl rfl rfl Z6) rfl ⟨_, _, rfl, A6, O6, B6'⟩
end Go.Proofs.YtgpojfkdcdgloaaGreatDoor

namespace Go.Proofs.YtgpojfkdcdgloaaGreatDoor
open Go Go.RowKit

theorem B6.grown {W W' : World} {b : Nat} {x0 x1 x2 x3 x4 x5 : Value} {r : Option Nat} (h : B6 W b x0 x1 x2 x3 x4 x5) (hg : W.grownBy W' r) (hr : some b ≠ r) : B6 W' b x0 x1 x2 x3 x4 x5 := (hg.block b h.lt hr).trans h

set_option maxRecDepth 10000 in
set_option maxHeartbeats 4000000 in
theorem l07Copy_try (n t v s st : Int) (ao : Option Addr) (k c : Nat) (l : List En) (w : World) (hr : Reads w (.slice ao k c) l) (hn : l.length ≤ 1048576) :
    Calls Tryz.prog 23 #[jV n t v s st (.slice ao k c)] w fun e w' => ∃ y, e = .returned (jV n t v s st y) ∧ ownsR w' w.heap.size 110 y l ∧ Below w.heap.size w w' := by
  have HR : Hid (Reads w (.slice ao k c) l) := hr
  have HL : Hid (([] : List En).length + l.length ≤ 1048577) := by show _ ≤ _; simp; omega
  clear hr hn
  go_enter Tryz.func23, Tryz.ntmps23
  have J0 := ((B6.new w (.int .i64 n) (.int .i64 t) (.int .i64 v) (.int .i64 s) (.int .i64 st) (.slice ao k c)).alloc (.cells #[.int .i64 0, .int .i64 0, .int .i64 0, .int .i64 0, .int .i64 0, .slice none 0 0] 30)).alloc (.cells #[] 110)
  have Z0 : B6 (((w.alloc (.cells #[.int .i64 n, .int .i64 t, .int .i64 v, .int .i64 s, .int .i64 st, .slice ao k c] 30)).alloc (.cells #[.int .i64 0, .int .i64 0, .int .i64 0, .int .i64 0, .int .i64 0, .slice none 0 0] 30)).alloc (.cells #[] 110)) (w.heap.size + 1) (.int .i64 0) (.int .i64 0) (.int .i64 0) (.int .i64 0) (.int .i64 0) (.slice none 0 0) := by
    have := (B6.new (w.alloc (.cells #[.int .i64 n, .int .i64 t, .int .i64 v, .int .i64 s, .int .i64 st, .slice ao k c] 30)) (.int .i64 0) (.int .i64 0) (.int .i64 0) (.int .i64 0) (.int .i64 0) (.slice none 0 0)).alloc (.cells #[] 110)
    simpa using this
  have B0 : Below w.heap.size w (((w.alloc (.cells #[.int .i64 n, .int .i64 t, .int .i64 v, .int .i64 s, .int .i64 st, .slice ao k c] 30)).alloc (.cells #[.int .i64 0, .int .i64 0, .int .i64 0, .int .i64 0, .int .i64 0, .slice none 0 0] 30)).alloc (.cells #[] 110)) := ba (ba (ba (Below.refl _ _) _) _) _
  have O0 : ownsR (((w.alloc (.cells #[.int .i64 n, .int .i64 t, .int .i64 v, .int .i64 s, .int .i64 st, .slice ao k c] 30)).alloc (.cells #[.int .i64 0, .int .i64 0, .int .i64 0, .int .i64 0, .int .i64 0, .slice none 0 0] 30)).alloc (.cells #[] 110)) w.heap.size 110 (.slice (some ⟨w.heap.size + 1 + 1, 0, none⟩) 0 0) ([] : List En) := by
    have := ownsR_made0 (α := En) ((w.alloc (.cells #[.int .i64 n, .int .i64 t, .int .i64 v, .int .i64 s, .int .i64 st, .slice ao k c] 30)).alloc (.cells #[.int .i64 0, .int .i64 0, .int .i64 0, .int .i64 0, .int .i64 0, .slice none 0 0] 30)) w.heap.size 110 (by simp; omega)
    simpa using this
  have R0 := HR.out.below B0
  go_wp2_with (at_builtin; refine wpList_append_recs rfl (.tmp 3) (.tmp 6) 26 rfl w.heap.size 110 _ 32 underEn infoEn rfl _ (.slice ao k c) [] l (by rfl) (by rfl) O0 R0 (en_one _) HL.out (by decide) B0.size ?_)
  intro v5 w5 ho5 hg5
  obtain ⟨a5, k5, c5, rfl⟩ := ho5.slice3
  have J5 := J0.grown hg5 (by simp [Value.ownBlock]; omega)
  have Z5 := Z0.grown hg5 (by simp [Value.ownBlock])
  have B5 := B0.grown hg5 B0.size (by simp [Value.ownBlock]; omega)
  clear J0 Z0 B0 O0 R0 hg5
  have j0 := J5.c0
  have j1 := J5.c1
  have j2 := J5.c2
  have j3 := J5.c3
  have j4 := J5.c4
  have j5 := J5.c5
  have jf := J5.fr
  have z0 := Z5.c0
  have z1 := Z5.c1
  have z2 := Z5.c2
  have z3 := Z5.c3
  have z4 := Z5.c4
  have z5 := Z5.c5
  have zf := Z5.fr
  have J6 := J5.s5 (.slice a5 k5 c5)
  have Z6 := Z5.far (p := ⟨w.heap.size, 5, none⟩) (by simp) (.slice a5 k5 c5)
  have B6' := Below.setCell (p := ⟨w.heap.size, 5, none⟩) B5 (Nat.le_refl _) (.slice a5 k5 c5)
  have O6 : ownsR (w5.setCell ⟨w.heap.size, 5, none⟩ (.slice a5 k5 c5)) w.heap.size 110 (.slice a5 k5 c5) l := World.ownsRow.kept ho5 (grown_set _ _ _ _) (.inr (fun h => not_row6 J5 ho5 h.symm))
  have Z7 := Z6.set (.int .i64 n) (.int .i64 t) (.int .i64 v) (.int .i64 s) (.int .i64 st) (.slice a5 k5 c5)
  have B7 := below_set6 (b := w.heap.size + 1) B6' (by omega) (.int .i64 n) (.int .i64 t) (.int .i64 v) (.int .i64 s) (.int .i64 st) (.slice a5 k5 c5)
  have O7 := ownsR_set6 (b := w.heap.size + 1) O6 (not_row6 Z6 O6) (.int .i64 n) (.int .i64 t) (.int .i64 v) (.int .i64 s) (.int .i64 st) (.slice a5 k5 c5)
  go_wp2
  refine bodyPost_ret (ret_jou rfl rfl Z7.c0 Z7.c1 Z7.c2 Z7.c3 Z7.c4 Z7.c5) rfl ⟨_, rfl, O7, B7⟩
end Go.Proofs.YtgpojfkdcdgloaaGreatDoor
