/-
  Whether a disk is right: the walks. Whether a disk is right, as the specification tells it: the walk.
-/
import Derived.Test.YtgpojfkdcdgloaaGreatDoorG16
import Derived.Laws.Cover1
import Derived.Test.YtgpojfkdcdgloaaGreatDoorWd
namespace Go.Proofs.YtgpojfkdcdgloaaGreatDoor
open Go Go.RowKit

/-- Texts in their order, as the program compares them. -/
def ltB (a b : ByteArray) : Bool := Op.bytesLess a.toList b.toList
/-- The i-th file is right, and its name is behind that of the one ahead of it. -/
def okAt (l : List Fl) (i : Nat) : Bool :=
  match l[i]? with
  | none => true
  | some f => f.right && (match i with
    | 0 => true
    | j + 1 => match l[j]? with
      | none => true
      | some p => ltB p.name f.name)
/-- A disk that is right. -/
def diskR (l : List Fl) : Bool := decide (l.length ≤ 30) && (List.range l.length).all (okAt l)
theorem diskR_false {l : List Fl} {i : Nat} (h : i < l.length) (hf : okAt l i = false) : diskR l = false := by
  unfold diskR
  have : (List.range l.length).all (okAt l) = false := by
    rw [List.all_eq_false]
    exact ⟨i, List.mem_range.2 h, by simp [hf]⟩
  simp [this]
theorem diskR_long {l : List Fl} (h : 30 < l.length) : diskR l = false := by
  unfold diskR
  rw [decide_eq_false (by omega)]
  rfl
theorem diskR_true {l : List Fl} (h : l.length ≤ 30) (hf : ∀ i, i < l.length → okAt l i = true) : diskR l = true := by
  unfold diskR
  rw [decide_eq_true h, Bool.true_and, List.all_eq_true]
  exact fun i hi => hf i (List.mem_range.1 hi)
theorem okAt_wrong {l : List Fl} {k : Nat} {f : Fl} (h : l[k]? = some f) (hr : f.right = false) : okAt l k = false := by simp [okAt, h, hr]
theorem okAt_first {l : List Fl} {f : Fl} (h : l[0]? = some f) : okAt l 0 = f.right := by simp [okAt, h]
theorem okAt_next {l : List Fl} {k : Nat} {f p : Fl} (h : l[k + 1]? = some f) (hp : l[k]? = some p) : okAt l (k + 1) = (f.right && ltB p.name f.name) := by simp [okAt, h, hp]

set_option maxHeartbeats 2000000 in
theorem diskOk_try (ao : Option Addr) (n c : Nat) (l : List Fl) (w : World) (hr : Reads w (.slice ao n c) l) :
    Calls Tryz.prog 46 #[.agg #[.slice ao n c]] w fun e w' => e = .returned (.bool (diskR l)) ∧ Below w.heap.size w w' := by
  have HR : Hid (Reads w (.slice ao n c) l) := hr
  have HN : Hid (n = l.length) := hr.len
  clear hr
  by_cases h30 : (30 : Int) < (n : Int)
  · have HD : Hid (diskR l = false) := diskR_long (by rw [← HN.out]; omega)
    go_enter Tryz.func46, Tryz.ntmps46
    go_wp2
    go_ret
    exact ⟨by rw [HD.out]; rfl, ba (Below.refl _ _) _⟩
  · go_enter Tryz.func46, Tryz.ntmps46
    go_wp2
    go_loopw [12] (fun i wr => ∃ k : Nat, k ≤ n ∧ i = .int .i64 k ∧ Hid (∀ i, i < k → okAt l i = true) ∧ Below (w.heap.size + 1) (w.alloc (Obj.cells #[.slice ao n c] 36)) wr) (fun i _ => n - (intOf i).toNat)
    case atStart => exact ⟨0, Nat.zero_le _, rfl, (fun i hi => absurd hi (by omega)), Below.refl _ _⟩
    case round =>
      obtain ⟨k, hk, rfl, HE, hbel⟩ := hrel
      have hsz := hbel.size
      simp only [World.size_alloc] at hsz
      have hb0 : Below w.heap.size w wr := (ba (Below.refl _ _) _).trans (hbel.mono (by omega))
      by_cases hlt : k < n
      · obtain ⟨⟨nm, tx, kp⟩, hf⟩ : ∃ f, l[k]? = some f := ⟨_, List.getElem?_eq_getElem (by rw [← HN.out]; exact hlt)⟩
        have HF : Hid (l[k]? = some ⟨nm, tx, kp⟩) := hf
        obtain ⟨b, o, rfl, hb, c0, c1, c2⟩ := fl_at (HR.out.below hb0) hf
        have hd0 : wr.cell? ⟨w.heap.size, 0, none⟩ = some (.slice (some ⟨b, o, none⟩) n c) := (hbel.cell (by simp)).trans (by simp [go_sem])
        clear hf
        dsimp only at c0 c1 c2
        have hba : Below wr.heap.size wr (wr.alloc (Obj.cells #[.string nm, .string tx, .int .i64 kp] 49)) := (Below.refl _ wr).alloc (Nat.le_refl _) _
        have g0 : (wr.alloc (Obj.cells #[.string nm, .string tx, .int .i64 kp] 49)).cell? ⟨wr.heap.size, 0, none⟩ = some (.string nm) := by simp [go_sem]
        have g1 : (wr.alloc (Obj.cells #[.string nm, .string tx, .int .i64 kp] 49)).cell? ⟨wr.heap.size, 1, none⟩ = some (.string tx) := by simp [go_sem]
        have g2 : (wr.alloc (Obj.cells #[.string nm, .string tx, .int .i64 kp] 49)).cell? ⟨wr.heap.size, 2, none⟩ = some (.int .i64 kp) := by simp [go_sem]
        have g3 : (wr.alloc (Obj.cells #[.string nm, .string tx, .int .i64 kp] 49)).cell? ⟨w.heap.size, 0, none⟩ = some (.slice (some ⟨b, o, none⟩) n c) := (hba.cell (p := ⟨w.heap.size, 0, none⟩) (by show w.heap.size < wr.heap.size; omega)).trans hd0
        have q0 := Wd.cell g0
        have q1 := Wd.cell g1
        have q2 := Wd.cell g2
        have q3 := Wd.cell g3
        have fin : ∀ x : Wd (wr.alloc (Obj.cells #[.string nm, .string tx, .int .i64 kp] 49)), Below w.heap.size w x.at' := fun x => hb0.trans ((hba.trans (x.ok.mono (by simp))).mono (by omega))
        have fin2 : ∀ x : Wd (wr.alloc (Obj.cells #[.string nm, .string tx, .int .i64 kp] 49)), Below (w.heap.size + 1) (w.alloc (Obj.cells #[.slice (some ⟨b, o, none⟩) n c] 36)) x.at' := fun x => hbel.trans ((hba.trans (x.ok.mono (by simp))).mono (by omega))
        cases hfr : Fl.right ⟨nm, tx, kp⟩ with
        | false =>
          have HB : Hid (okAt l k = false) := okAt_wrong HF.out hfr
          go_wp2
          refine wp_region_wd (by kernel_rfl) (by kernel_rfl) ?_
          repeat (go_big_quiet_step ((go_at_call 71; refine calls_wd (v := .bool false) ?_; rw [← hfr]; exact fileRight_any _ _ _ _)))
          refine wpQuiet_nil ?_
          rintro _ ⟨x, rfl⟩
          go_wp2
          go_ret
          exact ⟨by rw [diskR_false (by rw [← HN.out]; exact hlt) HB.out]; rfl, fin x⟩
        | true =>
          rcases Nat.eq_zero_or_pos k with hk0 | hk0
          · have HB : Hid (okAt l k = true) := by show okAt l k = true; rw [hk0]; exact (okAt_first (hk0 ▸ HF.out)).trans hfr
            have HK : Hid (k = 0) := hk0
            have hg0 : decide ((0 : Int) < (k : Int)) = false := decide_eq_false (by omega)
            have hg1 : decide (0 < k) = false := decide_eq_false (by omega)
            clear hk0
            go_wp2
            refine wp_region_wd (by kernel_rfl) (by kernel_rfl) ?_
            repeat (go_big_quiet_step ((go_at_call 71; refine calls_wd (v := .bool true) ?_; rw [← hfr]; exact fileRight_any _ _ _ _)))
            refine wpQuiet_nil ?_
            rintro _ ⟨x, rfl⟩
            go_wp2
            go_roundw
            case rel => exact ⟨k + 1, by omega, by go_num, (fun i hi => (show i = k by have := HK.out; omega) ▸ HB.out), fin2 x⟩
            case measure => simp [intOf]; omega
          · obtain ⟨j, rfl⟩ : ∃ j, k = j + 1 := ⟨k - 1, by omega⟩
            obtain ⟨⟨pn, pt, pk⟩, hp⟩ : ∃ p, l[j]? = some p := ⟨_, List.getElem?_eq_getElem (by rw [← HN.out]; omega)⟩
            have HP : Hid (l[j]? = some ⟨pn, pt, pk⟩) := hp
            obtain ⟨b', o', hbo, -, p0, -, -⟩ := fl_at (HR.out.below hb0) hp
            clear hp
            simp only [Option.some.injEq, Addr.mk.injEq, and_true] at hbo
            obtain ⟨rfl, rfl⟩ := hbo
            dsimp only at p0
            have g4 := (hba.cell (p := ⟨b, o + j * 3, none⟩) hb).trans p0
            have q4 := Wd.cell g4
            cases hlb : Op.bytesLess pn.toList nm.toList with
            | false =>
              have HB : Hid (okAt l (j + 1) = false) := by show okAt l (j + 1) = false; rw [okAt_next HF.out HP.out]; simp [ltB, hlb]
              go_wp2
              refine wp_region_wd (by kernel_rfl) (by kernel_rfl) ?_
              repeat (go_big_quiet_step ((go_at_call 71; refine calls_wd (v := .bool true) ?_; rw [← hfr]; exact fileRight_any _ _ _ _)))
              refine wpQuiet_nil ?_
              rintro _ ⟨x, rfl⟩
              go_wp2
              go_ret
              exact ⟨by rw [diskR_false (by rw [← HN.out]; exact hlt) HB.out]; rfl, fin x⟩
            | true =>
              have HB : Hid (okAt l (j + 1) = true) := by show okAt l (j + 1) = true; rw [okAt_next HF.out HP.out]; simp [ltB, hlb, hfr]
              go_wp2
              refine wp_region_wd (by kernel_rfl) (by kernel_rfl) ?_
              repeat (go_big_quiet_step ((go_at_call 71; refine calls_wd (v := .bool true) ?_; rw [← hfr]; exact fileRight_any _ _ _ _)))
              refine wpQuiet_nil ?_
              rintro _ ⟨x, rfl⟩
              go_wp2
              go_roundw
              case rel => exact ⟨j + 2, by omega, by go_num, (fun i hi => by
                rcases Nat.lt_succ_iff_lt_or_eq.1 hi with h | h
                · exact HE.out i h
                · subst h; exact HB.out), fin2 x⟩
              case measure => simp [intOf]; omega
      · have hkn : k = n := by omega
        subst hkn
        have HD : Hid (diskR l = true) := diskR_true (by rw [← HN.out]; omega) (by rw [← HN.out]; exact HE.out)
        go_wp2
        go_ret
        exact ⟨by rw [HD.out]; rfl, hb0⟩
end Go.Proofs.YtgpojfkdcdgloaaGreatDoor

namespace Go.Proofs.YtgpojfkdcdgloaaGreatDoor
open Go Go.RowKit

theorem right_false {f : Fl} (h : f.right = false) : nameR f.name = false ∨ nameR f.name = true ∧ ((20000 : Int) < (f.text.size : Int) ∨ (f.text.size : Int) ≤ 20000 ∧ (decide (0 ≤ f.kept) && decide (f.kept ≤ (f.text.size : Int))) = false) := by
  unfold Fl.right at h
  cases h1 : nameR f.name with
  | false => exact .inl rfl
  | true =>
    refine .inr ⟨rfl, ?_⟩
    rw [h1, Bool.true_and] at h
    by_cases h2 : (f.text.size : Int) ≤ 20000
    · rw [decide_eq_true h2, Bool.true_and] at h
      exact .inr ⟨h2, h⟩
    · exact .inl (by omega)
theorem right_true {f : Fl} (h : f.right = true) : nameR f.name = true ∧ (f.text.size : Int) ≤ 20000 ∧ (decide (0 ≤ f.kept) && decide (f.kept ≤ (f.text.size : Int))) = true := by
  unfold Fl.right at h
  simp only [Bool.and_eq_true, decide_eq_true_eq] at h
  exact ⟨h.1, h.2.1, by simp [h.2.2.1, h.2.2.2]⟩

set_option maxHeartbeats 2000000 in
theorem specDiskOk_try (ao : Option Addr) (n c : Nat) (l : List Fl) (w : World) (hr : Reads w (.slice ao n c) l) :
    Calls Tryz.prog 17 #[.agg #[.slice ao n c]] w fun e w' => e = .returned (.bool (diskR l)) ∧ Below w.heap.size w w' := by
  have HR : Hid (Reads w (.slice ao n c) l) := hr
  have HN : Hid (n = l.length) := hr.len
  clear hr
  by_cases h30 : (30 : Int) < (n : Int)
  · have HD : Hid (diskR l = false) := diskR_long (by rw [← HN.out]; omega)
    go_enter Tryz.func17, Tryz.ntmps17
    go_wp2
    go_ret
    exact ⟨by rw [HD.out]; rfl, ba (Below.refl _ _) _⟩
  · go_enter Tryz.func17, Tryz.ntmps17
    go_wp2
    go_loopw [3] (fun i wr => ∃ k : Nat, k ≤ n ∧ i = .int .i64 k ∧ Hid (∀ i, i < k → okAt l i = true) ∧ Below (w.heap.size + 1) (w.alloc (Obj.cells #[.slice ao n c] 36)) wr) (fun i _ => n - (intOf i).toNat)
    case atStart => exact ⟨0, Nat.zero_le _, rfl, (fun i hi => absurd hi (by omega)), Below.refl _ _⟩
    case round =>
      obtain ⟨k, hk, rfl, HE, hbel⟩ := hrel
      have hsz := hbel.size
      simp only [World.size_alloc] at hsz
      have hb0 : Below w.heap.size w wr := (ba (Below.refl _ _) _).trans (hbel.mono (by omega))
      have hd0 : wr.cell? ⟨w.heap.size, 0, none⟩ = some (.slice ao n c) := (hbel.cell (by simp)).trans (by simp [go_sem])
      by_cases hlt : k < n
      · obtain ⟨⟨nm, tx, kp⟩, hf⟩ : ∃ f, l[k]? = some f := ⟨_, List.getElem?_eq_getElem (by rw [← HN.out]; exact hlt)⟩
        have HF : Hid (l[k]? = some ⟨nm, tx, kp⟩) := hf
        obtain ⟨b, o, rfl, hb, c0, c1, c2⟩ := fl_at (HR.out.below hb0) hf
        clear hf
        dsimp only at c0 c1 c2
        have hba : Below wr.heap.size wr (wr.alloc (Obj.cells #[.string nm, .string tx, .int .i64 kp] 49)) := (Below.refl _ wr).alloc (Nat.le_refl _) _
        have g0 : (wr.alloc (Obj.cells #[.string nm, .string tx, .int .i64 kp] 49)).cell? ⟨wr.heap.size, 0, none⟩ = some (.string nm) := by simp [go_sem]
        have g1 : (wr.alloc (Obj.cells #[.string nm, .string tx, .int .i64 kp] 49)).cell? ⟨wr.heap.size, 1, none⟩ = some (.string tx) := by simp [go_sem]
        have g2 : (wr.alloc (Obj.cells #[.string nm, .string tx, .int .i64 kp] 49)).cell? ⟨wr.heap.size, 2, none⟩ = some (.int .i64 kp) := by simp [go_sem]
        have g3 : (wr.alloc (Obj.cells #[.string nm, .string tx, .int .i64 kp] 49)).cell? ⟨w.heap.size, 0, none⟩ = some (.slice (some ⟨b, o, none⟩) n c) := (hba.cell (p := ⟨w.heap.size, 0, none⟩) (by show w.heap.size < wr.heap.size; omega)).trans hd0
        have q0 := Wd.cell g0
        have q1 := Wd.cell g1
        have q2 := Wd.cell g2
        have q3 := Wd.cell g3
        have fin : ∀ x : Wd (wr.alloc (Obj.cells #[.string nm, .string tx, .int .i64 kp] 49)), Below w.heap.size w x.at' := fun x => hb0.trans ((hba.trans (x.ok.mono (by simp))).mono (by omega))
        have fin2 : ∀ x : Wd (wr.alloc (Obj.cells #[.string nm, .string tx, .int .i64 kp] 49)), Below (w.heap.size + 1) (w.alloc (Obj.cells #[.slice (some ⟨b, o, none⟩) n c] 36)) x.at' := fun x => hbel.trans ((hba.trans (x.ok.mono (by simp))).mono (by omega))
        cases hfr : Fl.right ⟨nm, tx, kp⟩ with
        | false =>
          have HB : Hid (okAt l k = false) := okAt_wrong HF.out hfr
          rcases right_false hfr with h1 | ⟨h1, h2 | ⟨h2, h3⟩⟩
          · dsimp only at h1
            go_wp2
            refine wp_region_wd (by kernel_rfl) (by kernel_rfl) ?_
            repeat (go_big_quiet_step ((go_at_call 35; refine calls_wd_same (v := .bool false) ?_; rw [← h1]; exact specName_any _ _)))
            refine wpQuiet_nil ?_
            rintro _ ⟨x, rfl⟩
            go_wp2
            go_ret
            exact ⟨by rw [diskR_false (by rw [← HN.out]; exact hlt) HB.out]; rfl, fin x⟩
          · dsimp only at h1 h2
            have h2' : decide ((20000 : Int) < (tx.size : Int)) = true := decide_eq_true h2
            go_wp2
            refine wp_region_wd (by kernel_rfl) (by kernel_rfl) ?_
            repeat (go_big_quiet_step ((go_at_call 35; refine calls_wd_same (v := .bool true) ?_; rw [← h1]; exact specName_any _ _)))
            refine wpQuiet_nil ?_
            rintro _ ⟨x, rfl⟩
            go_wp2
            go_ret
            exact ⟨by rw [diskR_false (by rw [← HN.out]; exact hlt) HB.out]; rfl, fin x⟩
          · dsimp only at h1 h2 h3
            have h2' : decide ((20000 : Int) < (tx.size : Int)) = false := decide_eq_false (by omega)
            go_wp2
            refine wp_region_wd (by kernel_rfl) (by kernel_rfl) ?_
            repeat (go_big_quiet_step ((first | (go_at_call 35; refine calls_wd_same (v := .bool true) ?_; rw [← h1]; exact specName_any _ _) | (go_at_call 36; refine calls_wd_same (v := .bool false) ?_; rw [← h3]; exact inF_any _ _ _ _))))
            refine wpQuiet_nil ?_
            rintro _ ⟨x, rfl⟩
            go_wp2
            go_ret
            exact ⟨by rw [diskR_false (by rw [← HN.out]; exact hlt) HB.out]; rfl, fin x⟩
        | true =>
          obtain ⟨h1, h2, h3⟩ := right_true hfr
          dsimp only at h1 h2 h3
          have h2' : decide ((20000 : Int) < (tx.size : Int)) = false := decide_eq_false (by omega)
          rcases Nat.eq_zero_or_pos k with hk0 | hk0
          · have HB : Hid (okAt l k = true) := by show okAt l k = true; rw [hk0]; exact (okAt_first (hk0 ▸ HF.out)).trans hfr
            have HK : Hid (k = 0) := hk0
            have hg0 : decide ((0 : Int) < (k : Int)) = false := decide_eq_false (by omega)
            have hg1 : decide (0 < k) = false := decide_eq_false (by omega)
            clear hk0
            go_wp2
            refine wp_region_wd (by kernel_rfl) (by kernel_rfl) ?_
            repeat (go_big_quiet_step ((first | (go_at_call 35; refine calls_wd_same (v := .bool true) ?_; rw [← h1]; exact specName_any _ _) | (go_at_call 36; refine calls_wd_same (v := .bool true) ?_; rw [← h3]; exact inF_any _ _ _ _))))
            refine wpQuiet_nil ?_
            rintro _ ⟨x, rfl⟩
            go_wp2
            go_roundw
            case rel => exact ⟨k + 1, by omega, by go_num, (fun i hi => (show i = k by have := HK.out; omega) ▸ HB.out), fin2 x⟩
            case measure => simp [intOf]; omega
          · obtain ⟨j, rfl⟩ : ∃ j, k = j + 1 := ⟨k - 1, by omega⟩
            obtain ⟨⟨pn, pt, pk⟩, hp⟩ : ∃ p, l[j]? = some p := ⟨_, List.getElem?_eq_getElem (by rw [← HN.out]; omega)⟩
            have HP : Hid (l[j]? = some ⟨pn, pt, pk⟩) := hp
            obtain ⟨b', o', hbo, -, p0, -, -⟩ := fl_at (HR.out.below hb0) hp
            clear hp
            simp only [Option.some.injEq, Addr.mk.injEq, and_true] at hbo
            obtain ⟨rfl, rfl⟩ := hbo
            dsimp only at p0
            have g4 := (hba.cell (p := ⟨b, o + j * 3, none⟩) hb).trans p0
            have q4 := Wd.cell g4
            cases hlb : Op.bytesLess pn.toList nm.toList with
            | false =>
              have HB : Hid (okAt l (j + 1) = false) := by show okAt l (j + 1) = false; rw [okAt_next HF.out HP.out]; simp [ltB, hlb]
              go_wp2
              refine wp_region_wd (by kernel_rfl) (by kernel_rfl) ?_
              repeat (go_big_quiet_step ((first | (go_at_call 35; refine calls_wd_same (v := .bool true) ?_; rw [← h1]; exact specName_any _ _) | (go_at_call 36; refine calls_wd_same (v := .bool true) ?_; rw [← h3]; exact inF_any _ _ _ _))))
              refine wpQuiet_nil ?_
              rintro _ ⟨x, rfl⟩
              go_wp2
              go_ret
              exact ⟨by rw [diskR_false (by rw [← HN.out]; exact hlt) HB.out]; rfl, fin x⟩
            | true =>
              have HB : Hid (okAt l (j + 1) = true) := by show okAt l (j + 1) = true; rw [okAt_next HF.out HP.out]; simp [ltB, hlb, hfr]
              go_wp2
              refine wp_region_wd (by kernel_rfl) (by kernel_rfl) ?_
              repeat (go_big_quiet_step ((first | (go_at_call 35; refine calls_wd_same (v := .bool true) ?_; rw [← h1]; exact specName_any _ _) | (go_at_call 36; refine calls_wd_same (v := .bool true) ?_; rw [← h3]; exact inF_any _ _ _ _))))
              refine wpQuiet_nil ?_
              rintro _ ⟨x, rfl⟩
              go_wp2
              go_roundw
              case rel => exact ⟨j + 2, by omega, by go_num, (fun i hi => by
                rcases Nat.lt_succ_iff_lt_or_eq.1 hi with h | h
                · exact HE.out i h
                · subst h; exact HB.out), fin2 x⟩
              case measure => simp [intOf]; omega
      · have hkn : k = n := by omega
        subst hkn
        have HD : Hid (diskR l = true) := diskR_true (by rw [← HN.out]; omega) (by rw [← HN.out]; exact HE.out)
        go_wp2
        go_ret
        exact ⟨by rw [HD.out]; rfl, hb0⟩

theorem diskOk_any {w : World} {v : Value} {l : List Fl} (hr : Reads w v l) : Calls Tryz.prog 46 #[.agg #[v]] w fun e w' => e = .returned (.bool (diskR l)) ∧ Below w.heap.size w w' := by
  obtain ⟨ao, c, rfl, _⟩ := id hr
  exact diskOk_try ao _ c l w hr
theorem specDiskOk_any {w : World} {v : Value} {l : List Fl} (hr : Reads w v l) : Calls Tryz.prog 17 #[.agg #[v]] w fun e w' => e = .returned (.bool (diskR l)) ∧ Below w.heap.size w w' := by
  obtain ⟨ao, c, rfl, _⟩ := id hr
  exact specDiskOk_try ao _ c l w hr

theorem diskR_right {l : List Fl} (h : diskR l = true) : ∀ (i : Nat) (f : Fl), l[i]? = some f → f.right = true := by
  intro i f hf
  unfold diskR at h
  rw [Bool.and_eq_true, List.all_eq_true] at h
  have := h.2 i (List.mem_range.2 (List.getElem?_eq_some_iff.1 hf).1)
  unfold okAt at this
  rw [hf] at this
  simp only [Bool.and_eq_true] at this
  exact this.1
end Go.Proofs.YtgpojfkdcdgloaaGreatDoor
