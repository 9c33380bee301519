/-
  Acts done one by one: the program's walk.
-/
import Derived.Test.YtekflgecfcjjiaaSd
namespace Go.Proofs.Ytekflgecfcjjiaa
open Go Go.RowKit Go.Maps

instance : Rec Ac := ⟨4, fun a => [.int .i64 a.kind, .string a.name, .string a.text, .string a.to], fun _ => rfl, by decide⟩
theorem ac_at {w : World} {ao : Option Addr} {n cap : Nat} {l : List Ac} (h : Reads w (.slice ao n cap) l) {k : Nat} {f : Ac} (hk : l[k]? = some f) :
    ∃ b o, ao = some ⟨b, o, none⟩ ∧ b < w.heap.size ∧ w.cell? ⟨b, o + k * 4, none⟩ = some (.int .i64 f.kind) ∧ w.cell? ⟨b, o + k * 4 + 1, none⟩ = some (.string f.name) ∧ w.cell? ⟨b, o + k * 4 + 2, none⟩ = some (.string f.text) ∧ w.cell? ⟨b, o + k * 4 + 3, none⟩ = some (.string f.to) := by
  obtain ⟨b, o, rfl, hlt, hc⟩ := h.at hk
  exact ⟨b, o, rfl, hlt, hc 0 _ rfl, hc 1 _ rfl, hc 2 _ rfl, hc 3 _ rfl⟩
def SizedA (l : List Ac) : Prop := ∀ a ∈ l, a.name.size ≤ 1048576 ∧ a.text.size ≤ 1048576 ∧ a.to.size ≤ 1048576

theorem ownsR.slice3 {α : Type} [Rec α] {w : World} {B : Nat} {e : TypeId} {v : Value} {l : List α} (h : ownsR w B e v l) : ∃ a n c, v = .slice a n c := by
  obtain ⟨a, c, rfl⟩ := h.slice
  exact ⟨a, _, c, rfl⟩

/-- The first k acts are done and leave o; the next one, if there is one, is not to be done. -/
def Ends (l : List Fl) (acts : List Ac) (k : Nat) (o : List Fl) : Prop := (acts.take k).foldlM actL l = some o ∧ k ≤ acts.length ∧ ∀ a, acts[k]? = some a → actL o a = none
theorem fold_next {l o : List Fl} {acts : List Ac} {k : Nat} {a : Ac} (h : (acts.take k).foldlM actL l = some o) (ha : acts[k]? = some a) : (acts.take (k + 1)).foldlM actL l = actL o a := by
  rw [take_next ha, List.foldlM_append, h]
  simp
theorem fold_some {l o : List Fl} {acts : List Ac} {k : Nat} (h : (acts.take k).foldlM actL l = some o) : ∀ {j : Nat}, j ≤ k → ∃ o', (acts.take j).foldlM actL l = some o' := by
  intro j hj
  have e : acts.take k = acts.take j ++ (acts.take k).drop j := by
    have := List.take_append_drop j (acts.take k)
    rw [List.take_take, Nat.min_eq_left hj] at this
    exact this.symm
  rw [e, List.foldlM_append] at h
  cases hc : (acts.take j).foldlM actL l with
  | none => rw [hc] at h; cases h
  | some o' => exact ⟨o', rfl⟩
theorem Ends.not_lt {l o o' : List Fl} {acts : List Ac} {k k' : Nat} (h : Ends l acts k o) (h' : Ends l acts k' o') : ¬ k < k' := by
  intro hlt
  obtain ⟨o2, h2⟩ := fold_some h'.1 (j := k + 1) hlt
  obtain ⟨a, ha⟩ : ∃ a, acts[k]? = some a := ⟨_, List.getElem?_eq_getElem (Nat.lt_of_lt_of_le hlt h'.2.1)⟩
  rw [fold_next h.1 ha, h.2.2 a ha] at h2
  cases h2
theorem Ends.uniq {l o o' : List Fl} {acts : List Ac} {k k' : Nat} (h : Ends l acts k o) (h' : Ends l acts k' o') : k = k' ∧ o = o' := by
  have h1 := h.not_lt h'
  have h2 := h'.not_lt h
  have e : k = k' := by omega
  subst e
  have := h.1.symm.trans h'.1
  exact ⟨rfl, by injection this⟩
theorem actL_bad {l : List Fl} {a : Ac} (h : diskR l = false) : actL l a = none := by
  unfold actL
  exact if_pos (.inl h)
theorem ends_bad {l : List Fl} {acts : List Ac} (h : diskR l = false) : Ends l acts 0 l := ⟨rfl, Nat.zero_le _, fun _ _ => actL_bad h⟩

theorem do_act (M B : Nat) (fs : List (Nat × Fl)) (kind : Int) (nm tx to : ByteArray) (w : World) (h : ShIs w M B fs) (h1 : nm.size ≤ 1048576) (h2 : tx.size ≤ 1048576) (h3 : to.size ≤ 1048576) (hd : diskR (fs.map Prod.snd) = true) :
    Calls Try.prog 62 #[.map (some M), .agg #[.int .i64 kind, .string nm, .string tx, .string to]] w fun e w' => ∃ fs', e = .returned (.bool (actL (fs.map Prod.snd) ⟨kind, nm, tx, to⟩).isSome) ∧ ShIs w' M B fs' ∧ fs'.map Prod.snd = (actL (fs.map Prod.snd) ⟨kind, nm, tx, to⟩).getD (fs.map Prod.snd) ∧ Below B w w' := by
  obtain ⟨hl, hr, _⟩ := diskR_iff.1 hd
  refine (do_try M B fs kind nm tx to w h h1 h2 h3 (by simpa using hl) (fun p hp => (right_parts (hr _ (List.mem_map.2 ⟨p, hp, rfl⟩))).1)).mono ?_
  rintro e w' ⟨g, rfl, hS, hb⟩
  obtain ⟨c1, c2⟩ := do_comes fs g ⟨kind, nm, tx, to⟩ hd
  refine ⟨_, ?_, hS, ?_, hb⟩
  · rw [c1]
    cases (doP fs g ⟨kind, nm, tx, to⟩).1 <;> rfl
  · rw [c1]
    cases hx : (doP fs g ⟨kind, nm, tx, to⟩).1 with
    | false => exact c2 hx
    | true => rfl

set_option maxRecDepth 10000 in
set_option maxHeartbeats 2000000 in
theorem doActs_wrong (ao bo : Option Addr) (n c m bc : Nat) (l : List Fl) (acts : List Ac) (w : World) (hr : Reads w (.slice ao n c) l) (hd : diskR l = false) (hn : n ≤ 1048576) (hs : Sized l) :
    Calls Try.prog 22 #[.agg #[.slice ao n c], .slice bo m bc] w fun e w' => ∃ k o v, Ends l acts k o ∧ e = .returned (.tuple #[.agg #[v], .int .i64 (k : Int)]) ∧ ownsR w' w.heap.size 36 v o ∧ Below w.heap.size w w' := by
  have HR : Hid (Reads w (.slice ao n c) l) := hr
  have HS : Hid (Sized l) := hs
  have HE : Hid (Ends l acts 0 l) := ends_bad hd
  clear hr hs
  go_enter Try.func22, Try.ntmps22
  go_wp2_with (first | (go_at_call 19; refine (diskOk_any ((HR.out.alloc _).alloc _)).mono ?_; rintro e w1 ⟨he, hb1⟩; rw [hd] at he; subst he; have s1 : w.heap.size + 1 < w1.heap.size := (by have := hb1.size; simp at this; omega); have d0 : w1.cell? ⟨w.heap.size, 0, none⟩ = some (.slice ao n c) := (hb1.cell (by simp; omega)).trans (by simp [go_sem]); have q1 : w1.cell? ⟨w.heap.size + 1, 0, none⟩ = some (.slice none 0 0) := (hb1.cell (by simp)).trans (by simp [go_sem]); have z1 : w1.frozen? ⟨w.heap.size + 1, 0, none⟩ = false := (hb1.frozen (by simp)).trans (by simp [go_sem]); have hb0 : Below w.heap.size w w1 := (ba (ba (Below.refl _ _) _) _).trans (hb1.mono (by simp; omega))) | (go_at_call 60; refine (clonedD_any _ _ _ _ _ (HR.out.below hb0) hn HS.out).mono ?_; rintro e w2 ⟨v, rfl, hown, hb2⟩; obtain ⟨va, vn, vc, rfl⟩ := hown.slice3; have q2 : w2.cell? ⟨w.heap.size + 1, 0, none⟩ = some (.slice none 0 0) := (hb2.cell (by simp; omega)).trans q1; have z2 : w2.frozen? ⟨w.heap.size + 1, 0, none⟩ = false := (hb2.frozen (by simp; omega)).trans z1))
  refine bodyPost_ret (ret_disk2 rfl rfl rfl (World.cell?_setCell_same' _ _ _ (by simp [q2]))) rfl ?_
  exact ⟨0, l, _, HE.out, rfl, (hown.setBelow (by show w.heap.size + 1 < _; omega) _).mono (by omega), (hb0.trans (hb2.mono (by omega))).setCell (p := ⟨w.heap.size + 1, 0, none⟩) (by simp) _⟩

set_option maxRecDepth 10000 in
set_option maxHeartbeats 2000000 in
theorem doActs_right (ao bo : Option Addr) (n c m bc : Nat) (l : List Fl) (acts : List Ac) (w : World) (hr : Reads w (.slice ao n c) l) (ha : Reads w (.slice bo m bc) acts) (hd : diskR l = true) (hm : m ≤ 1048576) (hs : SizedA acts) :
    Calls Try.prog 22 #[.agg #[.slice ao n c], .slice bo m bc] w fun e w' => ∃ k o v, Ends l acts k o ∧ e = .returned (.tuple #[.agg #[v], .int .i64 (k : Int)]) ∧ ownsR w' w.heap.size 36 v o ∧ Below w.heap.size w w' := by
  have HR : Hid (Reads w (.slice ao n c) l) := hr
  have HA : Hid (Reads w (.slice bo m bc) acts) := ha
  have HM : Hid (m = acts.length) := ha.len
  have HS : Hid (SizedA acts) := hs
  clear hr hs ha
  go_enter Try.func22, Try.ntmps22
  go_wp2_with (first | (go_at_call 19; refine (diskOk_any ((HR.out.alloc _).alloc _)).mono ?_; rintro e w1 ⟨he, hb1⟩; rw [hd] at he; subst he; have s1 : w.heap.size + 1 < w1.heap.size := (by have := hb1.size; simp at this; omega); have d0 : w1.cell? ⟨w.heap.size, 0, none⟩ = some (.slice ao n c) := (hb1.cell (by simp; omega)).trans (by simp [go_sem]); have q1 : w1.cell? ⟨w.heap.size + 1, 0, none⟩ = some (.slice none 0 0) := (hb1.cell (by simp)).trans (by simp [go_sem]); have z1 : w1.frozen? ⟨w.heap.size + 1, 0, none⟩ = false := (hb1.frozen (by simp)).trans (by simp [go_sem]); have hb0 : Below w.heap.size w w1 := (ba (ba (Below.refl _ _) _) _).trans (hb1.mono (by simp; omega))) | (go_at_call 61; refine (shelfOf_try _ _ _ _ _ (HR.out.below hb0) hd).mono ?_; rintro e w2 ⟨M, fs0, rfl, hS0, hf0, hb2⟩; have q2 : w2.cell? ⟨w.heap.size + 1, 0, none⟩ = some (.slice none 0 0) := (hb2.cell (by simp; omega)).trans q1; have z2 : w2.frozen? ⟨w.heap.size + 1, 0, none⟩ = false := (hb2.frozen (by simp; omega)).trans z1))
  have B2 : Below w.heap.size w w2 := hb0.trans (hb2.mono (by omega))
  have s2 := hb2.size
  have HF0 : Hid (fs0.map Prod.snd = l) := hf0
  have HS0 : Hid (ShIs w2 M w1.heap.size fs0) := hS0
  clear hf0 hS0 d0 q1 z1
  go_loopw [7] (fun i wr => ∃ (k : Nat), k ≤ m ∧ i = .int .i64 k ∧ Hid (∃ fs, ShIs wr M w1.heap.size fs ∧ diskR (fs.map Prod.snd) = true ∧ (acts.take k).foldlM actL l = some (fs.map Prod.snd)) ∧ Below w1.heap.size w2 wr) (fun i _ => m - (intOf i).toNat)
  case atStart => exact ⟨0, Nat.zero_le _, rfl, ⟨fs0, HS0.out, by rw [HF0.out]; exact hd, by rw [HF0.out]; rfl⟩, Below.refl _ _⟩
  case round =>
    clear HF0 HS0
    obtain ⟨k, hk, rfl, HF, hbel⟩ := hrel
    obtain ⟨fs, hS, hdf, hfold⟩ := HF.out
    have HH : Hid (ShIs wr M w1.heap.size fs) := hS
    have HD : Hid (diskR (fs.map Prod.snd) = true) := hdf
    have HO : Hid ((acts.take k).foldlM actL l = some (fs.map Prod.snd)) := hfold
    clear hS hdf hfold HF
    have hws := hbel.size
    have q3 : wr.cell? ⟨w.heap.size + 1, 0, none⟩ = some (.slice none 0 0) := (hbel.cell (by simp; omega)).trans q2
    have z3 : wr.frozen? ⟨w.heap.size + 1, 0, none⟩ = false := (hbel.frozen (by simp; omega)).trans z2
    by_cases hlt : k < m
    · obtain ⟨⟨kind, nm, tx, to⟩, hf⟩ : ∃ f, acts[k]? = some f := ⟨_, List.getElem?_eq_getElem (by rw [← HM.out]; exact hlt)⟩
      obtain ⟨b, o, rfl, hb, c0, c1, c2, c3⟩ := ac_at (HA.out.below (B2.trans (hbel.mono (by omega)))) hf
      obtain ⟨t1, t2, t3⟩ := HS.out _ (List.mem_of_getElem? hf)
      have HN := fold_next HO.out hf
      have HK : Hid (acts[k]? = some ⟨kind, nm, tx, to⟩) := hf
      clear hf
      dsimp only at c0 c1 c2 c3 t1 t2 t3
      cases hac : actL (fs.map Prod.snd) ⟨kind, nm, tx, to⟩ with
      | some o2 =>
        rw [hac] at HN
        have HN2 : Hid ((acts.take (k + 1)).foldlM actL l = some o2) := HN
        have HD2 : Hid (diskR o2 = true) := actL_diskR hac
        clear HN HO HK
        go_wp2_with (go_at_call 62; refine (do_act _ _ _ _ _ _ _ _ HH.out t1 t2 t3 HD.out).mono ?_; rintro e w3 ⟨fs', he, hS', hm', hb3⟩; rw [hac] at he hm'; simp only [Option.isSome_some, Option.getD_some] at he hm'; subst he)
        have HF3 : Hid (∃ fs, ShIs w3 M w1.heap.size fs ∧ diskR (fs.map Prod.snd) = true ∧ (acts.take (k + 1)).foldlM actL l = some (fs.map Prod.snd)) := ⟨fs', hS', by rw [hm']; exact HD2.out, by rw [hm']; exact HN2.out⟩
        clear hS' hm'
        go_roundw
        case rel => exact ⟨k + 1, by omega, by go_num, HF3, hbel.trans hb3⟩
        case measure => simp [intOf]; omega
      | none =>
        clear HN
        go_wp2_with (first | (go_at_call 62; refine (do_act _ _ _ _ _ _ _ _ HH.out t1 t2 t3 HD.out).mono ?_; rintro e w3 ⟨fs', he, hS', hm', hb3⟩; rw [hac] at he hm'; simp only [Option.isSome_none, Option.getD_none] at he hm'; subst he; have hd' : diskR (fs'.map Prod.snd) = true := (by rw [hm']; exact HD.out); have hws3 := hb3.size) | (go_at_call 63; refine (diskOf_try _ _ _ _ hS' hd').mono ?_; rintro e w4 ⟨v, rfl, hown, hb4⟩; obtain ⟨va, vn, vc, rfl⟩ := hown.slice3; have q4 : w4.cell? ⟨w.heap.size + 1, 0, none⟩ = some (.slice none 0 0) := (hb4.cell (by simp; omega)).trans ((hb3.cell (by simp; omega)).trans q3); have z4 : w4.frozen? ⟨w.heap.size + 1, 0, none⟩ = false := (hb4.frozen (by simp; omega)).trans ((hb3.frozen (by simp; omega)).trans z3)))
        refine bodyPost_ret (ret_disk2 rfl rfl rfl (World.cell?_setCell_same' _ _ _ (by simp [q4]))) rfl ?_
        rw [hm'] at hown
        refine ⟨k, _, _, ⟨HO.out, by rw [← HM.out]; exact hk, fun a ha => ?_⟩, rfl, (hown.setBelow (by show w.heap.size + 1 < _; omega) _).mono (by omega), (((B2.trans (hbel.mono (by omega))).trans (hb3.mono (by omega))).trans (hb4.mono (by omega))).setCell (p := ⟨w.heap.size + 1, 0, none⟩) (by simp) _⟩
        rw [HK.out] at ha
        cases ha
        exact hac
    · have hkm : k = m := by omega
      go_wp2_with (go_at_call 63; refine (diskOf_try _ _ _ _ HH.out HD.out).mono ?_; rintro e w4 ⟨v, rfl, hown, hb4⟩; obtain ⟨va, vn, vc, rfl⟩ := hown.slice3; have q4 : w4.cell? ⟨w.heap.size + 1, 0, none⟩ = some (.slice none 0 0) := (hb4.cell (by simp; omega)).trans q3; have z4 : w4.frozen? ⟨w.heap.size + 1, 0, none⟩ = false := (hb4.frozen (by simp; omega)).trans z3)
      refine bodyPost_ret (ret_disk2 rfl rfl rfl (World.cell?_setCell_same' _ _ _ (by simp [q4]))) rfl ?_
      refine ⟨k, _, _, ⟨HO.out, by rw [← HM.out]; exact hk, fun a ha => ?_⟩, by rw [hkm]; rfl, (hown.setBelow (by show w.heap.size + 1 < _; omega) _).mono (by omega), ((B2.trans (hbel.mono (by omega))).trans (hb4.mono (by omega))).setCell (p := ⟨w.heap.size + 1, 0, none⟩) (by simp) _⟩
      have := (List.getElem?_eq_some_iff.1 ha).1
      rw [← HM.out] at this
      omega
theorem doActs_any (ao bo : Option Addr) (n c m bc : Nat) (l : List Fl) (acts : List Ac) (w : World) (hr : Reads w (.slice ao n c) l) (ha : Reads w (.slice bo m bc) acts) (hn : n ≤ 1048576) (hm : m ≤ 1048576) (hl : Sized l) (hs : SizedA acts) :
    Calls Try.prog 22 #[.agg #[.slice ao n c], .slice bo m bc] w fun e w' => ∃ k o v, Ends l acts k o ∧ e = .returned (.tuple #[.agg #[v], .int .i64 (k : Int)]) ∧ ownsR w' w.heap.size 36 v o ∧ Below w.heap.size w w' := by
  cases hd : diskR l with
  | true => exact doActs_right ao bo n c m bc l acts w hr ha hd hm hs
  | false => exact doActs_wrong ao bo n c m bc l acts w hr hd hn hl
end Go.Proofs.Ytekflgecfcjjiaa
