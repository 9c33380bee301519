/-
  Files as values: small functions on one file: the walks. Rows of files: sizes, copies, held against each other: the walks.
-/
import Derived.Test.YtgpojfkdcdgloaaGreatDoorInf
import Derived.Test.YtgpojfkdcdgloaaGreatDoorAid
import Derived.Test.YtgpojfkdcdgloaaGreatDoorGn
import Derived.Deep.QuietTactic
import Derived.BigQuiet
import Derived.Deep.RegionHeld
import Derived.Handy
import Derived.Test.YtgpojfkdcdgloaaGreatDoorRec
namespace Go.Proofs.YtgpojfkdcdgloaaGreatDoor
open Go Go.RowKit

theorem bdrewF {B : Nat} {w w' : World} (h : Below B w w') : ∀ n, Below B w (w'.drewN n)
  | 0 => h
  | n + 1 => (bdrewF h n).drew

/-- A file as a plain record. -/
structure Fl where
  name : ByteArray
  text : ByteArray
  kept : Int
instance : Inhabited Fl := ⟨⟨ByteArray.empty, ByteArray.empty, 0⟩⟩
def Fl.cells (f : Fl) : List Value := [.string f.name, .string f.text, .int .i64 f.kept]

set_option maxHeartbeats 400000 in
theorem toFile_any (n t : ByteArray) (k : Int) (w : World) :
    Calls Tryz.prog 45 #[.agg #[.string n, .string t, .int .i64 k]] w fun e w' => e = .returned (.agg #[.string n, .string t, .int .i64 k]) ∧ Below w.heap.size w w' := by
  go_enter Tryz.func45, Tryz.ntmps45
  go_wp2
  go_returns
  exact ⟨rfl, ba (ba (ba (Below.refl _ _) _) _) _⟩

set_option maxHeartbeats 400000 in
theorem inF_any (x lo hi : Int) (w : World) :
    Calls Tryz.prog 36 #[.int .i64 x, .int .i64 lo, .int .i64 hi] w fun e w' => e = .returned (.bool (decide (lo ≤ x) && decide (x ≤ hi))) ∧ w' = w := by
  by_cases h1 : lo ≤ x
  · have h2 : decide (lo ≤ x) = true := decide_eq_true h1
    go_enter Tryz.func36, Tryz.ntmps36
    go_wp2
    go_ret
    exact ⟨by simp [h1], rfl⟩
  · have h2 : decide (lo ≤ x) = false := decide_eq_false h1
    go_enter Tryz.func36, Tryz.ntmps36
    go_wp2
    go_ret
    exact ⟨by simp, rfl⟩

/-- A name that is right. -/
def nameR (s : ByteArray) : Bool := decide (1 ≤ s.size) && decide (s.size ≤ 8)

set_option maxHeartbeats 400000 in
theorem isName_any (s : ByteArray) (w : World) :
    Calls Tryz.prog 85 #[.string s] w fun e w' => e = .returned (.bool (nameR s)) ∧ w' = w := by
  by_cases h1 : (1 : Int) ≤ (s.size : Int)
  · have h2 : decide ((1 : Int) ≤ (s.size : Int)) = true := decide_eq_true h1
    go_enter Tryz.func85, Tryz.ntmps85
    go_wp2
    go_ret
    refine ⟨?_, rfl⟩
    have : (1 : Nat) ≤ s.size := by omega
    simp [nameR, this]
    by_cases h3 : s.size ≤ 8
    · simp [h3]; omega
    · simp [h3]; omega
  · have h2 : decide ((1 : Int) ≤ (s.size : Int)) = false := decide_eq_false h1
    go_enter Tryz.func85, Tryz.ntmps85
    go_wp2
    go_ret
    refine ⟨?_, rfl⟩
    have : ¬ (1 : Nat) ≤ s.size := by omega
    simp [nameR]; omega

set_option maxHeartbeats 400000 in
theorem specName_any (s : ByteArray) (w : World) :
    Calls Tryz.prog 35 #[.string s] w fun e w' => e = .returned (.bool (nameR s)) ∧ w' = w := by
  go_enter Tryz.func35, Tryz.ntmps35
  go_wp2_with (go_at_call 36; refine (inF_any _ _ _ _).mono ?_; rintro e w2 ⟨rfl, rfl⟩)
  go_ret
  refine ⟨?_, rfl⟩
  have e1 : decide ((1 : Int) ≤ (s.size : Int)) = decide (1 ≤ s.size) := by rw [decide_eq_decide]; omega
  have e2 : decide ((s.size : Int) ≤ 8) = decide (s.size ≤ 8) := by rw [decide_eq_decide]; omega
  simp [nameR]
  rw [e1, e2]

set_option maxHeartbeats 400000 in
theorem szFile_any (n t : ByteArray) (k left : Int) (w : World) (hn : n.size ≤ 9223372036854775807) (ht : t.size ≤ 9223372036854775807) (hl : left ≤ 1048576) (h0 : 0 ≤ left) :
    Calls Tryz.prog 34 #[.agg #[.string n, .string t, .int .i64 k], .int .i64 left] w fun e w' => ∃ r : Int, e = .returned (.int .i64 r) ∧ (r = -1 ∨ 0 ≤ r ∧ r = left - n.size - t.size) ∧ Below w.heap.size w w' := by
  by_cases h1 : left - n.size < 0
  · go_enter Tryz.func34, Tryz.ntmps34
    go_wp2
    go_ret
    exact ⟨_, rfl, .inl rfl, ba (Below.refl _ _) _⟩
  · by_cases h2 : left - n.size - t.size < 0
    · go_enter Tryz.func34, Tryz.ntmps34
      go_wp2
      go_ret
      exact ⟨_, rfl, .inl rfl, ba (Below.refl _ _) _⟩
    · go_enter Tryz.func34, Tryz.ntmps34
      go_wp2
      go_ret
      exact ⟨_, rfl, .inr ⟨by omega, rfl⟩, ba (Below.refl _ _) _⟩

set_option maxHeartbeats 400000 in
theorem eqFile_any (n t : ByteArray) (k : Int) (w : World) :
    Calls Tryz.prog 55 #[.agg #[.string n, .string t, .int .i64 k], .agg #[.string n, .string t, .int .i64 k]] w fun e w' => e = .returned (.bool true) ∧ Below w.heap.size w w' := by
  go_enter Tryz.func55, Tryz.ntmps55
  go_wp2
  go_ret
  exact ⟨rfl, ba (ba (Below.refl _ _) _) _⟩

/-- A file that is right. -/
def Fl.right (f : Fl) : Bool := nameR f.name && (decide ((f.text.size : Int) ≤ 20000) && (decide (0 ≤ f.kept) && decide (f.kept ≤ (f.text.size : Int))))

set_option maxHeartbeats 800000 in
theorem fileRight_any (n t : ByteArray) (k : Int) (w : World) :
    Calls Tryz.prog 71 #[.agg #[.string n, .string t, .int .i64 k]] w fun e w' => e = .returned (.bool (Fl.right ⟨n, t, k⟩)) ∧ Below w.heap.size w w' := by
  unfold Fl.right
  simp only []
  by_cases h1 : nameR n = true
  · by_cases h2 : (t.size : Int) ≤ 20000
    · by_cases h3 : 0 ≤ k
      · go_enter Tryz.func71, Tryz.ntmps71
        go_wp2_with (go_at_call 85; refine (isName_any _ _).mono ?_; rintro e w2 ⟨rfl, rfl⟩)
        go_ret
        exact ⟨by simp [h1, h2, h3], ba (Below.refl _ _) _⟩
      · go_enter Tryz.func71, Tryz.ntmps71
        go_wp2_with (go_at_call 85; refine (isName_any _ _).mono ?_; rintro e w2 ⟨rfl, rfl⟩)
        go_ret
        exact ⟨by simp; omega, ba (Below.refl _ _) _⟩
    · go_enter Tryz.func71, Tryz.ntmps71
      go_wp2_with (go_at_call 85; refine (isName_any _ _).mono ?_; rintro e w2 ⟨rfl, rfl⟩)
      go_ret
      exact ⟨by simp; omega, ba (Below.refl _ _) _⟩
  · have h1' : nameR n = false := by simpa using h1
    go_enter Tryz.func71, Tryz.ntmps71
    go_wp2_with (go_at_call 85; refine (isName_any _ _).mono ?_; rintro e w2 ⟨rfl, rfl⟩)
    go_ret
    exact ⟨by simp [h1'], ba (Below.refl _ _) _⟩
end Go.Proofs.YtgpojfkdcdgloaaGreatDoor

namespace Go.Proofs.YtgpojfkdcdgloaaGreatDoor
open Go Go.RowKit

instance : Rec Fl := ⟨3, Fl.cells, fun _ => rfl, by decide⟩
theorem fl_width : Rec.width Fl = 3 := rfl
/-- The three cells of the k-th file. -/
theorem fl_at {w : World} {ao : Option Addr} {n cap : Nat} {l : List Fl} (h : Reads w (.slice ao n cap) l) {k : Nat} {f : Fl} (hk : l[k]? = some f) :
    ∃ b o, ao = some ⟨b, o, none⟩ ∧ b < w.heap.size ∧ w.cell? ⟨b, o + k * 3, none⟩ = some (.string f.name) ∧ w.cell? ⟨b, o + k * 3 + 1, none⟩ = some (.string f.text) ∧ w.cell? ⟨b, o + k * 3 + 2, none⟩ = some (.int .i64 f.kept) := by
  obtain ⟨b, o, rfl, hlt, hc⟩ := h.at hk
  exact ⟨b, o, rfl, hlt, hc 0 _ rfl, hc 1 _ rfl, hc 2 _ rfl⟩

/-- How much a list of files is. -/
def sizeL : List Fl → Nat
  | [] => 0
  | f :: r => f.name.size + f.text.size + sizeL r

theorem sizeL_take {l : List Fl} {k : Nat} {f : Fl} (h : l[k]? = some f) : sizeL (l.take (k + 1)) = sizeL (l.take k) + (f.name.size + f.text.size) := by
  induction l generalizing k with
  | nil => simp at h
  | cons x r ih =>
    cases k with
    | zero => simp at h; subst h; simp [sizeL]
    | succ k => simp at h; simp [sizeL, ih h]; omega

def Small (l : List Fl) : Prop := ∀ f ∈ l, f.name.size ≤ 9223372036854775807 ∧ f.text.size ≤ 9223372036854775807

set_option maxHeartbeats 1000000 in
theorem szFileS_any (ao : Option Addr) (n cap : Nat) (l : List Fl) (left : Int) (w : World) (hr : Reads w (.slice ao n cap) l) (hs : Small l) (hl : left ≤ 1048576) (h0 : 0 ≤ left) (hn : n ≤ 9223372036854775807) :
    Calls Tryz.prog 16 #[.slice ao n cap, .int .i64 left] w fun e w' => ∃ r : Int, e = .returned (.int .i64 r) ∧ (r = -1 ∨ 0 ≤ r ∧ r = left - n - sizeL l) ∧ Below w.heap.size w w' := by
  have hnl := hr.len
  by_cases h1 : left - n < 0
  · go_enter Tryz.func16, Tryz.ntmps16
    go_wp2
    go_ret
    exact ⟨_, rfl, .inl rfl, Below.refl _ _⟩
  · have HR : Hid (Reads w (.slice ao n cap) l) := hr
    have HS : Hid (Small l) := hs
    have HN : Hid (n = l.length) := hnl
    clear hr hs hnl
    go_enter Tryz.func16, Tryz.ntmps16
    go_wp2
    go_loopw [1, 5] (fun c i wr => ∃ (k : Nat) (r : Int), k ≤ n ∧ i = .int .i64 k ∧ c = .int .i64 r ∧ 0 ≤ r ∧ Hid (r = left - n - sizeL (l.take k)) ∧ r ≤ 1048576 ∧ Below w.heap.size w wr) (fun _ i _ => n - (intOf i).toNat)
    case atStart => exact ⟨0, _, Nat.zero_le _, rfl, rfl, by omega, by simp [Hid, sizeL], by omega, Below.refl _ _⟩
    case round =>
      obtain ⟨k, r, hk, rfl, rfl, hr0, HE, hr1, hbel⟩ := hrel
      by_cases hlt : k < n
      · obtain ⟨f, hf⟩ : ∃ f, l[k]? = some f := ⟨_, List.getElem?_eq_getElem (by rw [← HN.out]; exact hlt)⟩
        have HF : Hid (l[k]? = some f) := hf
        obtain ⟨b, o, rfl, hb, c0, c1, c2⟩ := fl_at (HR.out.below hbel) hf
        obtain ⟨s1, s2⟩ := HS.out f (List.mem_of_getElem? hf)
        clear hf
        go_wp2_with (go_at_call 34; refine (szFile_any _ _ _ _ _ s1 s2 hr1 hr0).mono ?_; rintro e w2 ⟨r2, rfl, h2, hb2⟩)
        · go_ret
          exact ⟨-1, rfl, .inl rfl, hbel.trans (hb2.mono hbel.size)⟩
        · go_roundw
          case rel => exact ⟨k + 1, r2, by omega, by go_num, rfl, by omega, (by have e := sizeL_take HF.out; have e2 := HE.out; show r2 = _; rw [e]; omega), by omega, hbel.trans (hb2.mono hbel.size)⟩
          case measure => simp [intOf]; omega
      · have hkn : k = n := by omega
        subst hkn
        go_wp2
        go_ret
        refine ⟨r, rfl, .inr ⟨hr0, ?_⟩, hbel⟩
        have e := HE.out
        rw [List.take_of_length_le (by rw [HN.out]; exact Nat.le_refl _)] at e
        exact e

set_option maxHeartbeats 1000000 in
theorem szDisk_any (v : Value) (l : List Fl) (left : Int) (w : World) (hr : Reads w v l) (hs : Small l) (hl : left ≤ 1048576) (h0 : 0 ≤ left) (hn : l.length ≤ 9223372036854775807) :
    Calls Tryz.prog 4 #[.agg #[v], .int .i64 left] w fun e w' => ∃ r : Int, e = .returned (.int .i64 r) ∧ (r = -1 ∨ 0 ≤ r ∧ r = left - l.length - sizeL l) ∧ Below w.heap.size w w' := by
  obtain ⟨ao, cap, rfl, _⟩ := id hr
  have HR : Hid (Reads w (.slice ao l.length cap) l) := hr
  clear hr
  go_enter Tryz.func4, Tryz.ntmps4
  go_wp2_with (go_at_call 16; refine (szFileS_any ao l.length cap l left _ (HR.out.alloc _) hs hl h0 hn).mono ?_; rintro e w2 ⟨r2, rfl, h2, hb2⟩)
  · go_ret
    exact ⟨-1, rfl, .inl rfl, (ba (Below.refl _ _) _).trans (hb2.mono (by simp))⟩
  · go_ret
    exact ⟨r2, rfl, h2, (ba (Below.refl _ _) _).trans (hb2.mono (by simp))⟩

theorem infoFl : (Tryz.prog.info? 49).map (fun i => (i.zero, i.size, i.bytes)) = some (some (.agg #[.string ByteArray.empty, .string ByteArray.empty, .int .i64 0]), 3, 40) := by kernel_rfl
theorem underFl : Tryz.prog.underlying 34 = some (.slice 49) := by kernel_rfl

theorem made_zero (n : Nat) : (madeCells (Value.cells (.agg #[.string ByteArray.empty, .string ByteArray.empty, .int .i64 0])) (n * 3)).toList = (List.replicate n (default : Fl)).flatMap Rec.cells := by
  apply List.ext_getElem?
  intro m
  have hm := Nat.div_add_mod m 3
  have h3 : m % 3 < 3 := Nat.mod_lt _ (by decide)
  have e := flat_at (List.replicate n (default : Fl)) (m / 3) (m % 3) h3
  rw [fl_width, show m / 3 * 3 + m % 3 = m by omega] at e
  rw [e]
  simp only [madeCells, Value.cells, Array.toList_map, Array.toList_range, List.getElem?_map, List.getElem?_replicate]
  by_cases hlt : m / 3 < n
  · rw [if_pos hlt, List.getElem?_range (by omega)]
    match hx : m % 3, h3 with
    | 0, _ => simp [hx]; rfl
    | 1, _ => simp [hx]; rfl
    | 2, _ => simp [hx]; rfl
  · rw [if_neg hlt, List.getElem?_eq_none (by simp; omega)]
    rfl

/-- The first k copied, the rest as it was made. -/
def filled (l : List Fl) (k : Nat) : List Fl := l.take k ++ List.replicate (l.length - k) default
theorem filled_at {l : List Fl} {k : Nat} (h : k < l.length) : (filled l k)[k]? = some default := by
  unfold filled
  rw [List.getElem?_append_right (by simp; omega), List.getElem?_replicate, if_pos (by simp; omega)]
theorem filled_set {l : List Fl} {k : Nat} {f : Fl} (h : l[k]? = some f) : (filled l k).set k f = filled l (k + 1) := by
  have hk : k < l.length := (List.getElem?_eq_some_iff.1 h).1
  unfold filled
  rw [List.take_add_one, h, List.set_append_right _ _ (by simp; omega)]
  have e : k - (List.take k l).length = 0 := by simp; omega
  rw [e, show l.length - k = (l.length - (k + 1)) + 1 by omega, List.replicate_succ]
  simp
theorem filled_all (l : List Fl) : filled l l.length = l := by simp [filled]
theorem filled_length {l : List Fl} {k : Nat} (h : k ≤ l.length) : (filled l k).length = l.length := by simp [filled]; omega
theorem filled_none (l : List Fl) : filled l 0 = List.replicate l.length default := by simp [filled]

/-- A whole file is stored into an owned row. -/
theorem fl_put {w : World} {B : Nat} {g n cap : Nat} {l : List Fl} (h : ownsR w B 49 (.slice (some ⟨g, 0, none⟩) n cap) l) {i : Nat} {y : Fl} (f : Fl) (hi : l[i]? = some y) :
    ownsR (((w.setCell ⟨g, i * 3, none⟩ (.string f.name)).setCell ⟨g, i * 3 + 1, none⟩ (.string f.text)).setCell ⟨g, i * 3 + 2, none⟩ (.int .i64 f.kept)) B 49 (.slice (some ⟨g, 0, none⟩) n cap) (l.set i f) := by
  have hil : i < l.length := (List.getElem?_eq_some_iff.1 hi).1
  have h1 := h.put (j := 0) (u := .string f.name) { y with name := f.name } hi (by decide) rfl
  have h2 := h1.put (i := i) (j := 1) (u := .string f.text) { y with name := f.name, text := f.text } (List.getElem?_set_self hil) (by decide) rfl
  have h3 := h2.put (i := i) (j := 2) (u := .int .i64 f.kept) f (List.getElem?_set_self (by simpa using hil)) (by decide) rfl
  simpa only [fl_width, Nat.add_zero, List.set_set] using h3

set_option maxRecDepth 8000 in
set_option maxHeartbeats 1000000 in
theorem toFileS_any (ao : Option Addr) (n cap : Nat) (l : List Fl) (w : World) (hr : Reads w (.slice ao n cap) l) (hn : n ≤ 1048576) :
    Calls Tryz.prog 25 #[.slice ao n cap] w fun e w' => ∃ v, e = .returned v ∧ ownsR w' w.heap.size 49 v l ∧ Below w.heap.size w w' := by
  obtain ⟨i0, hi0, hz0, hz1, hz2⟩ := info_parts infoFl
  have hnl := hr.len
  have HR : Hid (Reads w (.slice ao n cap) l) := hr
  have HN : Hid (n = l.length) := hnl
  clear hr hnl
  go_enter Tryz.func25, Tryz.ntmps25
  go_wp2_with (at_make; refine wpList_make_full _ rfl _ _ 34 rfl w.heap.size 49 i0 _ 3 underFl hi0 hz0 hz1 .i64 .i64 _ _ n rfl rfl rfl rfl (by rw [hz2]; omega) (by unfold maxLen; omega) (Nat.le_refl _) ?_; intro w1 ho hg)
  rw [made_zero, HN.out, ← filled_none, ← HN.out] at ho
  have ho : ownsR w1 w.heap.size 49 (.slice (some ⟨w.heap.size, 0, none⟩) n n) (filled l 0) := by unfold ownsR; rw [filled_length (Nat.zero_le _), ← HN.out]; exact ho
  have hbel1 : Below w.heap.size w w1 := (Below.refl _ w).grown hg (Nat.le_refl _) (fun j hj => by cases hj)
  generalize hB : w.heap.size = B at *
  go_loopw [4] (fun i wr => ∃ k : Nat, k ≤ n ∧ i = .int .i64 k ∧ ownsR wr B 49 (.slice (some ⟨B, 0, none⟩) n n) (filled l k) ∧ Below B w wr) (fun i _ => n - (intOf i).toNat)
  case atStart => exact ⟨0, Nat.zero_le _, rfl, ho, hbel1⟩
  case round =>
    obtain ⟨k, hk, rfl, hown, hbel⟩ := hrel
    clear ho hbel1
    by_cases hlt : k < n
    · obtain ⟨f, hf⟩ : ∃ f, l[k]? = some f := ⟨_, List.getElem?_eq_getElem (by rw [← HN.out]; exact hlt)⟩
      have HF : Hid (l[k]? = some f) := hf
      obtain ⟨b, o, rfl, hb, c0, c1, c2⟩ := fl_at (HR.out.below (hB ▸ hbel)) hf
      clear hf
      have HO : Hid (ownsR wr B 49 (.slice (some ⟨B, 0, none⟩) n n) (filled l k)) := hown
      clear hown
      obtain ⟨hgs, -, -, hat⟩ := HO.out.at (filled_at (l := l) (k := k) (by rw [← HN.out]; exact hlt))
      have d0 : wr.cell? ⟨B, k * 3, none⟩ = some (.string ByteArray.empty) := (hat 0 (by decide)).1
      have d1 : wr.cell? ⟨B, k * 3 + 1, none⟩ = some (.string ByteArray.empty) := (hat 1 (by decide)).1
      have d2 : wr.cell? ⟨B, k * 3 + 2, none⟩ = some (.int .i64 0) := (hat 2 (by decide)).1
      have f0 : wr.frozen? ⟨B, k * 3, none⟩ = false := (hat 0 (by decide)).2
      have f1 : wr.frozen? ⟨B, k * 3 + 1, none⟩ = false := (hat 1 (by decide)).2
      have f2 : wr.frozen? ⟨B, k * 3 + 2, none⟩ = false := (hat 2 (by decide)).2
      clear hat
      go_wp2_with (go_at_call 45; refine (toFile_any _ _ _ _).mono ?_; rintro e w2 ⟨rfl, hb2⟩; have d0' := (hb2.cell (p := ⟨B, k * 3, none⟩) hgs).trans d0; have d1' := (hb2.cell (p := ⟨B, k * 3 + 1, none⟩) hgs).trans d1; have d2' := (hb2.cell (p := ⟨B, k * 3 + 2, none⟩) hgs).trans d2; have f0' := (hb2.frozen (p := ⟨B, k * 3, none⟩) hgs).trans f0; have f1' := (hb2.frozen (p := ⟨B, k * 3 + 1, none⟩) hgs).trans f1; have f2' := (hb2.frozen (p := ⟨B, k * 3 + 2, none⟩) hgs).trans f2)
      have R := fl_put (HO.out.all hb2) f (filled_at (l := l) (k := k) (by rw [← HN.out]; exact hlt))
      rw [filled_set HF.out] at R
      clear d0 d1 d2 f0 f1 f2 d0' d1' d2' f0' f1' f2'
      go_roundw
      case rel => exact ⟨k + 1, by omega, by go_num, R, (((hbel.trans (hb2.mono (by omega))).setCell (p := ⟨B, k * 3, none⟩) (Nat.le_refl _) _).setCell (p := ⟨B, k * 3 + 1, none⟩) (Nat.le_refl _) _).setCell (p := ⟨B, k * 3 + 2, none⟩) (Nat.le_refl _) _⟩
      case measure => simp [intOf]; omega
    · have hkn : k = n := by omega
      have R : ownsR wr B 49 (.slice (some ⟨B, 0, none⟩) n n) l := by rw [hkn, HN.out, filled_all] at hown; rw [HN.out]; exact hown
      clear hown
      go_wp2
      go_ret
      subst hB
      exact ⟨_, rfl, R, hbel⟩

theorem ret_disk {fn : Func} {p : Tmp} {w : World} {g : Nat} {v : Value} {tmps : Array Value} (h : fn.results = #[.cell p 36]) (hp : tmps.getD p undef = .pointer (some ⟨g, 0, none⟩)) (hc : w.cell? ⟨g, 0, none⟩ = some v) :
    (results fn tmps).run Tryz.prog w = .ok (.agg #[v]) w := by
  have hp' : tmps[p]?.getD undef = .pointer (some ⟨g, 0, none⟩) := by simpa using hp
  simp [results, h, hp', hc, asAddr, go_sem]
theorem ret_disk2 {fn : Func} {p u : Tmp} {w : World} {g : Nat} {v x : Value} {tmps : Array Value} (h : fn.results = #[.cell p 36, .tmp u]) (hp : tmps.getD p undef = .pointer (some ⟨g, 0, none⟩)) (hu : tmps.getD u undef = x) (hc : w.cell? ⟨g, 0, none⟩ = some v) :
    (results fn tmps).run Tryz.prog w = .ok (.tuple #[.agg #[v], x]) w := by
  have hp' : tmps[p]?.getD undef = .pointer (some ⟨g, 0, none⟩) := by simpa using hp
  have hu' : tmps[u]?.getD undef = x := by simpa using hu
  simp [results, h, hp', hu', hc, asAddr, go_sem]
set_option maxHeartbeats 1000000 in
theorem toDisk_any (v : Value) (l : List Fl) (w : World) (hr : Reads w v l) (hn : l.length ≤ 1048576) :
    Calls Tryz.prog 6 #[.agg #[v]] w fun e w' => ∃ v', e = .returned (.agg #[v']) ∧ ownsR w' w.heap.size 49 v' l ∧ Below w.heap.size w w' := by
  obtain ⟨ao, cap, rfl, _⟩ := id hr
  have HR : Hid (Reads w (.slice ao l.length cap) l) := hr
  clear hr
  go_enter Tryz.func6, Tryz.ntmps6
  go_wp2_with (go_at_call 25; refine (toFileS_any ao l.length cap l _ (((HR.out.alloc _).alloc _).alloc _) hn).mono ?_; rintro e w2 ⟨v2, rfl, h2, hb2⟩; obtain ⟨ao2, cap2, rfl⟩ := h2.slice; have q2 : w2.cell? ⟨w.heap.size + 1 + 1, 0, none⟩ = some (.slice none 0 0) := (hb2.cell (by simp)).trans (by simp [go_sem]); have q1 : w2.cell? ⟨w.heap.size + 1, 0, none⟩ = some (.slice none 0 0) := (hb2.cell (by simp)).trans (by simp [go_sem]); have z2 : w2.frozen? ⟨w.heap.size + 1 + 1, 0, none⟩ = false := (hb2.frozen (by simp)).trans (by simp [go_sem]); have z1 : w2.frozen? ⟨w.heap.size + 1, 0, none⟩ = false := (hb2.frozen (by simp)).trans (by simp [go_sem]))
  refine bodyPost_ret (ret_disk rfl rfl (World.cell?_setCell_same' _ _ _ (by simp [go_sem, q1]))) rfl ?_
  have hb3 : Below w.heap.size w w2 := (ba (ba (ba (Below.refl _ _) _) _) _).trans (hb2.mono (by simp; omega))
  refine ⟨_, rfl, ?_, (hb3.setCell (by simp; omega) _).setCell (by simp) _⟩
  exact ownsR.mono ((ownsR.setBelow h2 (by simp) _).setBelow (by simp) _) (by simp; omega)

set_option maxHeartbeats 1000000 in
theorem eqFileS_any (ao bo : Option Addr) (n c d : Nat) (l : List Fl) (w : World) (ha : Reads w (.slice ao n c) l) (hb : Reads w (.slice bo n d) l) (hn : n ≤ 1048577) :
    Calls Tryz.prog 29 #[.slice ao n c, .slice bo n d] w fun e w' => e = .returned (.bool true) ∧ Below w.heap.size w w' := by
  have HN : Hid (n = l.length) := ha.len
  have HA : Hid (Reads w (.slice ao n c) l) := ha
  have HB : Hid (Reads w (.slice bo n d) l) := hb
  clear ha hb
  go_enter Tryz.func29, Tryz.ntmps29
  go_wp2
  go_loopw [5] (fun i wr => ∃ k : Nat, k ≤ n ∧ i = .int .i64 k ∧ Below w.heap.size w wr) (fun i _ => n - (intOf i).toNat)
  case atStart => exact ⟨0, Nat.zero_le _, rfl, Below.refl _ _⟩
  case round =>
    obtain ⟨k, hk, rfl, hbel⟩ := hrel
    by_cases hlt : k < n
    · obtain ⟨f, hf⟩ : ∃ f, l[k]? = some f := ⟨_, List.getElem?_eq_getElem (by rw [← HN.out]; exact hlt)⟩
      obtain ⟨a, oa, rfl, hga, a0, a1, a2⟩ := fl_at (HA.out.below hbel) hf
      obtain ⟨b, ob, rfl, hgb, b0, b1, b2⟩ := fl_at (HB.out.below hbel) hf
      clear hf
      go_wp2
      go_region_held (fun w' => w'.cell? ⟨a, oa + k * 3, none⟩ = some (.string f.name) ∧ w'.cell? ⟨a, oa + k * 3 + 1, none⟩ = some (.string f.text) ∧ w'.cell? ⟨a, oa + k * 3 + 2, none⟩ = some (.int .i64 f.kept) ∧ w'.cell? ⟨b, ob + k * 3, none⟩ = some (.string f.name) ∧ w'.cell? ⟨b, ob + k * 3 + 1, none⟩ = some (.string f.text) ∧ w'.cell? ⟨b, ob + k * 3 + 2, none⟩ = some (.int .i64 f.kept)) ((first | exact ⟨a0, a1, a2, b0, b1, b2⟩ | exact ⟨(hb2.cell hga).trans a0, (hb2.cell hga).trans a1, (hb2.cell hga).trans a2, (hb2.cell hgb).trans b0, (hb2.cell hgb).trans b1, (hb2.cell hgb).trans b2⟩)) ((go_at_call 55; refine (eqFile_any _ _ _ _).mono ?_; rintro e w2 ⟨rfl, hb2⟩))
      go_wp2
      go_roundw
      case rel => exact ⟨k + 1, by omega, by go_num, hbel.trans (((Below.refl _ _).drew.trans hb2).mono hbel.size)⟩
      case measure => simp [intOf]; omega
    · go_wp2
      go_ret
      exact ⟨rfl, hbel⟩

set_option maxHeartbeats 1000000 in
theorem eqDisk_any (va vb : Value) (l : List Fl) (w : World) (ha : Reads w va l) (hb : Reads w vb l) (hn : l.length ≤ 1048577) :
    Calls Tryz.prog 10 #[.agg #[va], .agg #[vb]] w fun e w' => e = .returned (.bool true) ∧ Below w.heap.size w w' := by
  obtain ⟨ao, c, rfl, _⟩ := id ha
  obtain ⟨bo, d, rfl, _⟩ := id hb
  have HA : Hid (Reads w (.slice ao l.length c) l) := ha
  have HB : Hid (Reads w (.slice bo l.length d) l) := hb
  clear ha hb
  go_enter Tryz.func10, Tryz.ntmps10
  go_wp2_with (go_at_call 29; refine (eqFileS_any ao bo l.length c d l _ ((HA.out.alloc _).alloc _) ((HB.out.alloc _).alloc _) hn).mono ?_; rintro e w2 ⟨rfl, hb2⟩)
  go_ret
  exact ⟨rfl, (ba (ba (Below.refl _ _) _) _).trans (hb2.mono (by simp; omega))⟩

end Go.Proofs.YtgpojfkdcdgloaaGreatDoor
