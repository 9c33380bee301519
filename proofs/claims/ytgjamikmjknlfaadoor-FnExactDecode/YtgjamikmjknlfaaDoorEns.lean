/-
  Rows of records of one kind (Entry): sizes, copies, held against each other, marked: the walks of the law's helpers.
-/
import Derived.Test.YtgjamikmjknlfaaDoorGn
import Derived.Test.YtgjamikmjknlfaaDoorMt
import Derived.Test.YtgjamikmjknlfaaDoorEn
namespace Go.Proofs.YtgjamikmjknlfaaDoor
open Go Go.RowKit

structure En where
  term : Int
  kind : Int
  data : ByteArray
instance : Inhabited En := ⟨⟨0, 0, ByteArray.empty⟩⟩
instance : Rec En := ⟨3, fun a => [.int .i64 a.term, .int .i64 a.kind, .string a.data], fun _ => rfl, by decide⟩
theorem en_width : Rec.width En = 3 := rfl
theorem en_at {w : World} {ao : Option Addr} {n cap : Nat} {l : List En} (h : Reads w (.slice ao n cap) l) {k : Nat} {f : En} (hk : l[k]? = some f) :
    ∃ b o, ao = some ⟨b, o, none⟩ ∧ b < w.heap.size ∧ w.cell? ⟨b, o + k * 3, none⟩ = some (.int .i64 f.term) ∧ w.cell? ⟨b, o + k * 3 + 1, none⟩ = some (.int .i64 f.kind) ∧ w.cell? ⟨b, o + k * 3 + 2, none⟩ = some (.string f.data) := by
  obtain ⟨b, o, rfl, hlt, hc⟩ := h.at hk
  exact ⟨b, o, rfl, hlt, hc 0 _ rfl, hc 1 _ rfl, hc 2 _ rfl⟩
def sizeEn : List En → Nat
  | [] => 0
  | f :: r => f.data.size + sizeEn r
theorem sizeEn_take {l : List En} {k : Nat} {f : En} (h : l[k]? = some f) : sizeEn (l.take (k + 1)) = sizeEn (l.take k) + (f.data.size) := by
  induction l generalizing k with
  | nil => simp at h
  | cons x r ih =>
    cases k with
    | zero => simp at h; subst h; simp [sizeEn]
    | succ k => simp at h; simp [sizeEn, ih h]; omega
theorem sizeEn_mem {l : List En} {f : En} (h : f ∈ l) : f.data.size ≤ sizeEn l := by
  induction l with
  | nil => simp at h
  | cons x r ih =>
    rcases List.mem_cons.1 h with rfl | h
    · simp [sizeEn]
    · have := ih h; simp [sizeEn]; omega
def SmallEn (l : List En) : Prop := ∀ f ∈ l, f.data.size ≤ 9223372036854775807

set_option maxHeartbeats 400000 in
theorem szEntry_any (term : Int) (kind : Int) (data : ByteArray) (left : Int) (w : World) (zdata : data.size ≤ 9223372036854775807) (hl : left ≤ 1048576) (h0 : 0 ≤ left) :
    Calls Tryd.prog 45 #[.agg #[.int .i64 term, .int .i64 kind, .string data], .int .i64 left] w fun e w' => ∃ r : Int, e = .returned (.int .i64 r) ∧ (r = -1 ∨ 0 ≤ r ∧ r = left - data.size) ∧ Below w.heap.size w w' := by
  by_cases h1 : left - data.size < 0
  · go_enter Tryd.func45, Tryd.ntmps45
    go_wp2
    go_ret
    exact ⟨_, rfl, .inl rfl, ba (Below.refl _ _) _⟩
  · go_enter Tryd.func45, Tryd.ntmps45
    go_wp2
    go_ret
    exact ⟨_, rfl, .inr ⟨by omega, rfl⟩, ba (Below.refl _ _) _⟩

set_option maxHeartbeats 1000000 in
theorem szEntryS_any (ao : Option Addr) (n cap : Nat) (l : List En) (left : Int) (w : World) (hr : Reads w (.slice ao n cap) l) (hs : SmallEn l) (hl : left ≤ 1048576) (h0 : 0 ≤ left) (hn : n ≤ 9223372036854775807) :
    Calls Tryd.prog 14 #[.slice ao n cap, .int .i64 left] w fun e w' => ∃ r : Int, e = .returned (.int .i64 r) ∧ (r = -1 ∨ 0 ≤ r ∧ r = left - n - sizeEn l) ∧ Below w.heap.size w w' := by
  have hnl := hr.len
  by_cases h1 : left - n < 0
  · go_enter Tryd.func14, Tryd.ntmps14
    go_wp2
    go_ret
    exact ⟨_, rfl, .inl rfl, Below.refl _ _⟩
  · have HR : Hid (Reads w (.slice ao n cap) l) := hr
    have HS : Hid (SmallEn l) := hs
    have HN : Hid (n = l.length) := hnl
    clear hr hs hnl
    go_enter Tryd.func14, Tryd.ntmps14
    go_wp2
    go_loopw [1, 5] (fun c i wr => ∃ (k : Nat) (r : Int), k ≤ n ∧ i = .int .i64 k ∧ c = .int .i64 r ∧ 0 ≤ r ∧ Hid (r = left - n - sizeEn (l.take k)) ∧ r ≤ 1048576 ∧ Below w.heap.size w wr) (fun _ i _ => n - (intOf i).toNat)
    case atStart => exact ⟨0, _, Nat.zero_le _, rfl, rfl, by omega, by simp [Hid, sizeEn], by omega, Below.refl _ _⟩
    case round =>
      obtain ⟨k, r, hk, rfl, rfl, hr0, HE, hr1, hbel⟩ := hrel
      by_cases hlt : k < n
      · obtain ⟨f, hf⟩ : ∃ f, l[k]? = some f := ⟨_, List.getElem?_eq_getElem (by rw [← HN.out]; exact hlt)⟩
        have HF : Hid (l[k]? = some f) := hf
        obtain ⟨b, o, rfl, hb, c0, c1, c2⟩ := en_at (HR.out.below hbel) hf
        obtain s0 := HS.out f (List.mem_of_getElem? hf)
        clear hf
        go_wp2_with (go_at_call 45; refine (szEntry_any _ _ _ _ _ s0 hr1 hr0).mono ?_; rintro e w2 ⟨r2, rfl, h2, hb2⟩)
        · go_ret
          exact ⟨-1, rfl, .inl rfl, hbel.trans (hb2.mono hbel.size)⟩
        · go_roundw
          case rel => exact ⟨k + 1, r2, by omega, by go_num, rfl, by omega, (by have e := sizeEn_take HF.out; have e2 := HE.out; show r2 = _; rw [e]; omega), by omega, hbel.trans (hb2.mono hbel.size)⟩
          case measure => simp [intOf]; omega
      · have hkn : k = n := by omega
        subst hkn
        go_wp2
        go_ret
        refine ⟨r, rfl, .inr ⟨hr0, ?_⟩, hbel⟩
        have e := HE.out
        rw [List.take_of_length_le (by rw [HN.out]; exact Nat.le_refl _)] at e
        exact e

theorem infoEn : (Tryd.prog.info? 47).map (fun i => (i.zero, i.size, i.bytes)) = some (some (.agg #[.int .i64 0, .int .i64 0, .string ByteArray.empty]), 3, 32) := by kernel_rfl
theorem underEn : Tryd.prog.underlying 29 = some (.slice 47) := by kernel_rfl
theorem madeEn (n : Nat) : (madeCells (Value.cells (.agg #[.int .i64 0, .int .i64 0, .string ByteArray.empty])) (n * 3)).toList = (List.replicate n (default : En)).flatMap Rec.cells := by
  apply List.ext_getElem?
  intro m
  have hm := Nat.div_add_mod m 3
  have h3 : m % 3 < 3 := Nat.mod_lt _ (by decide)
  have e := flat_at (List.replicate n (default : En)) (m / 3) (m % 3) h3
  rw [en_width, show m / 3 * 3 + m % 3 = m by omega] at e
  rw [e]
  simp only [madeCells, Value.cells, Array.toList_map, Array.toList_range, List.getElem?_map, List.getElem?_replicate]
  by_cases hlt : m / 3 < n
  · rw [if_pos hlt, List.getElem?_range (by omega)]
    match hx : m % 3, h3 with
    | 0, _ => simp [hx]; rfl
    | 1, _ => simp [hx]; rfl
    | 2, _ => simp [hx]; rfl
  · rw [if_neg hlt, List.getElem?_eq_none (by simp; omega)]
    rfl

theorem en_put {w : World} {B : Nat} {g n cap : Nat} {l : List En} (h : ownsR w B 47 (.slice (some ⟨g, 0, none⟩) n cap) l) {i : Nat} {y : En} (f : En) (hi : l[i]? = some y) :
    ownsR (((w.setCell ⟨g, i * 3, none⟩ (.int .i64 f.term)).setCell ⟨g, i * 3 + 1, none⟩ (.int .i64 f.kind)).setCell ⟨g, i * 3 + 2, none⟩ (.string f.data)) B 47 (.slice (some ⟨g, 0, none⟩) n cap) (l.set i f) := by
  have hil : i < l.length := (List.getElem?_eq_some_iff.1 hi).1
  have h1 := h.put (j := 0) (u := .int .i64 f.term) { y with term := f.term } hi (by decide) rfl
  have h2 := h1.put (i := i) (j := 1) (u := .int .i64 f.kind) { y with term := f.term, kind := f.kind } (List.getElem?_set_self (by simpa using hil)) (by decide) rfl
  have h3 := h2.put (i := i) (j := 2) (u := .string f.data) f (List.getElem?_set_self (by simpa using hil)) (by decide) rfl
  simpa only [en_width, Nat.add_zero, List.set_set] using h3

set_option maxRecDepth 8000 in
set_option maxHeartbeats 1000000 in
theorem toEntryS_any (ao : Option Addr) (n cap : Nat) (l : List En) (w : World) (hr : Reads w (.slice ao n cap) l) (hn : n ≤ 1048576) :
    Calls Tryd.prog 22 #[.slice ao n cap] w fun e w' => ∃ v, e = .returned v ∧ ownsR w' w.heap.size 47 v l ∧ Below w.heap.size w w' := by
  obtain ⟨i0, hi0, hz0, hz1, hz2⟩ := info_parts infoEn
  have hnl := hr.len
  have HR : Hid (Reads w (.slice ao n cap) l) := hr
  have HN : Hid (n = l.length) := hnl
  clear hr hnl
  go_enter Tryd.func22, Tryd.ntmps22
  go_wp2_with (at_make; refine wpList_make_full _ rfl _ _ 29 rfl w.heap.size 47 i0 _ 3 underEn hi0 hz0 hz1 .i64 .i64 _ _ n rfl rfl rfl rfl (by rw [hz2]; omega) (by unfold maxLen; omega) (Nat.le_refl _) ?_; intro w1 ho hg)
  rw [madeEn, HN.out, ← filledR_none, ← HN.out] at ho
  have ho : ownsR w1 w.heap.size 47 (.slice (some ⟨w.heap.size, 0, none⟩) n n) (filledR l 0) := by unfold ownsR; rw [filledR_length (Nat.zero_le _), ← HN.out]; exact ho
  have hbel1 : Below w.heap.size w w1 := (Below.refl _ w).grown hg (Nat.le_refl _) (fun j hj => by cases hj)
  generalize hB : w.heap.size = B at *
  go_loopw [4] (fun i wr => ∃ k : Nat, k ≤ n ∧ i = .int .i64 k ∧ ownsR wr B 47 (.slice (some ⟨B, 0, none⟩) n n) (filledR l k) ∧ Below B w wr) (fun i _ => n - (intOf i).toNat)
  case atStart => exact ⟨0, Nat.zero_le _, rfl, ho, hbel1⟩
  case round =>
    obtain ⟨k, hk, rfl, hown, hbel⟩ := hrel
    clear ho hbel1
    by_cases hlt : k < n
    · obtain ⟨f, hf⟩ : ∃ f, l[k]? = some f := ⟨_, List.getElem?_eq_getElem (by rw [← HN.out]; exact hlt)⟩
      have HF : Hid (l[k]? = some f) := hf
      obtain ⟨b, o, rfl, hb, c0, c1, c2⟩ := en_at (HR.out.below (hB ▸ hbel)) hf
      clear hf
      have HO : Hid (ownsR wr B 47 (.slice (some ⟨B, 0, none⟩) n n) (filledR l k)) := hown
      clear hown
      obtain ⟨hgs, -, -, hat⟩ := HO.out.at (filledR_at (l := l) (k := k) (by rw [← HN.out]; exact hlt))
      have d0 : wr.cell? ⟨B, k * 3, none⟩ = some (.int .i64 0) := (hat 0 (by decide)).1
      have f0 : wr.frozen? ⟨B, k * 3, none⟩ = false := (hat 0 (by decide)).2
      have d1 : wr.cell? ⟨B, k * 3 + 1, none⟩ = some (.int .i64 0) := (hat 1 (by decide)).1
      have f1 : wr.frozen? ⟨B, k * 3 + 1, none⟩ = false := (hat 1 (by decide)).2
      have d2 : wr.cell? ⟨B, k * 3 + 2, none⟩ = some (.string ByteArray.empty) := (hat 2 (by decide)).1
      have f2 : wr.frozen? ⟨B, k * 3 + 2, none⟩ = false := (hat 2 (by decide)).2
      clear hat
      go_wp2_with (go_at_call 49; refine (toEntry_any _ _ _ _).mono ?_; rintro e w2 ⟨rfl, hb2⟩; have d0' := (hb2.cell (p := ⟨B, k * 3, none⟩) hgs).trans d0; have f0' := (hb2.frozen (p := ⟨B, k * 3, none⟩) hgs).trans f0; have d1' := (hb2.cell (p := ⟨B, k * 3 + 1, none⟩) hgs).trans d1; have f1' := (hb2.frozen (p := ⟨B, k * 3 + 1, none⟩) hgs).trans f1; have d2' := (hb2.cell (p := ⟨B, k * 3 + 2, none⟩) hgs).trans d2; have f2' := (hb2.frozen (p := ⟨B, k * 3 + 2, none⟩) hgs).trans f2)
      have R := en_put (HO.out.all hb2) f (filledR_at (l := l) (k := k) (by rw [← HN.out]; exact hlt))
      rw [filledR_set HF.out] at R
      clear d0 f0 d0' f0' d1 f1 d1' f1' d2 f2 d2' f2'
      go_roundw
      case rel => exact ⟨k + 1, by omega, by go_num, R, ((((hbel.trans (hb2.mono (by omega))).setCell (p := ⟨B, k * 3, none⟩) (Nat.le_refl _) _).setCell (p := ⟨B, k * 3 + 1, none⟩) (Nat.le_refl _) _).setCell (p := ⟨B, k * 3 + 2, none⟩) (Nat.le_refl _) _)⟩
      case measure => simp [intOf]; omega
    · have hkn : k = n := by omega
      have R : ownsR wr B 47 (.slice (some ⟨B, 0, none⟩) n n) l := by rw [hkn, HN.out, filledR_all] at hown; rw [HN.out]; exact hown
      clear hown
      go_wp2
      go_ret
      subst hB
      exact ⟨_, rfl, R, hbel⟩

set_option maxRecDepth 8000 in
set_option maxHeartbeats 2000000 in
theorem eqEntryS_any (ao bo : Option Addr) (n c d : Nat) (l : List En) (w : World) (ha : Reads w (.slice ao n c) l) (hb : Reads w (.slice bo n d) l) (hn : n ≤ 1048577) :
    Calls Tryd.prog 32 #[.slice ao n c, .slice bo n d] w fun e w' => e = .returned (.bool true) ∧ Below w.heap.size w w' := by
  have HN : Hid (n = l.length) := ha.len
  have HA : Hid (Reads w (.slice ao n c) l) := ha
  have HB : Hid (Reads w (.slice bo n d) l) := hb
  clear ha hb
  go_enter Tryd.func32, Tryd.ntmps32
  go_wp2
  go_loopw [5] (fun i wr => ∃ k : Nat, k ≤ n ∧ i = .int .i64 k ∧ Below w.heap.size w wr) (fun i _ => n - (intOf i).toNat)
  case atStart => exact ⟨0, Nat.zero_le _, rfl, Below.refl _ _⟩
  case round =>
    obtain ⟨k, hk, rfl, hbel⟩ := hrel
    by_cases hlt : k < n
    · obtain ⟨f, hf⟩ : ∃ f, l[k]? = some f := ⟨_, List.getElem?_eq_getElem (by rw [← HN.out]; exact hlt)⟩
      obtain ⟨a, oa, rfl, hga, a0, a1, a2⟩ := en_at (HA.out.below hbel) hf
      obtain ⟨b, ob, rfl, hgb, b0, b1, b2⟩ := en_at (HB.out.below hbel) hf
      clear hf
      go_wp2
      go_region_held (fun w' => w'.cell? ⟨a, oa + k * 3, none⟩ = some (.int .i64 f.term) ∧ w'.cell? ⟨a, oa + k * 3 + 1, none⟩ = some (.int .i64 f.kind) ∧ w'.cell? ⟨a, oa + k * 3 + 2, none⟩ = some (.string f.data) ∧ w'.cell? ⟨b, ob + k * 3, none⟩ = some (.int .i64 f.term) ∧ w'.cell? ⟨b, ob + k * 3 + 1, none⟩ = some (.int .i64 f.kind) ∧ w'.cell? ⟨b, ob + k * 3 + 2, none⟩ = some (.string f.data)) ((first | exact ⟨a0, a1, a2, b0, b1, b2⟩ | exact ⟨(hb2.cell hga).trans a0, (hb2.cell hga).trans a1, (hb2.cell hga).trans a2, (hb2.cell hgb).trans b0, (hb2.cell hgb).trans b1, (hb2.cell hgb).trans b2⟩)) ((go_at_call 61; refine (eqEntry_any _ _ _ _).mono ?_; rintro e w2 ⟨rfl, hb2⟩))
      go_wp2
      go_roundw
      case rel => exact ⟨k + 1, by omega, by go_num, hbel.trans (((Below.refl _ _).drew.trans hb2).mono hbel.size)⟩
      case measure => simp [intOf]; omega
    · go_wp2
      go_ret
      exact ⟨rfl, hbel⟩

def mkEn (x : Int) : En := ⟨x, x + 1, mkT (x + 1 + 1)⟩
def marksEn (x : Int) (n : Nat) : List En := marksR mkEn 3 x n
theorem en_own {w : World} {B : Nat} {g n cap : Nat} {l : List En} (h : ownsR w B 47 (.slice (some ⟨g, 0, none⟩) n cap) l) {i : Nat} {x : En} (hi : l[i]? = some x) :
    g < w.heap.size ∧ (w.cell? ⟨g, i * 3, none⟩ = some (.int .i64 x.term) ∧ w.cell? ⟨g, i * 3 + 1, none⟩ = some (.int .i64 x.kind) ∧ w.cell? ⟨g, i * 3 + 2, none⟩ = some (.string x.data)) ∧ w.frozen? ⟨g, i * 3, none⟩ = false ∧ w.frozen? ⟨g, i * 3 + 1, none⟩ = false ∧ w.frozen? ⟨g, i * 3 + 2, none⟩ = false := by
  obtain ⟨h1, _, _, h2⟩ := h.at hi
  exact ⟨h1, ⟨(h2 0 (by decide)).1, (h2 1 (by decide)).1, (h2 2 (by decide)).1⟩, (h2 0 (by decide)).2, (h2 1 (by decide)).2, (h2 2 (by decide)).2⟩

set_option maxHeartbeats 1000000 in
theorem markEntryS_none (ao : Option Addr) (c : Nat) (x : Int) (w : World) :
    Calls Tryd.prog 41 #[.slice ao 0 c, .int .i64 x] w fun e w' => e = .returned (.int .i64 x) ∧ Below w.heap.size w w' := by
  go_enter Tryd.func41, Tryd.ntmps41
  go_wp2
  refine wp_loop_rounds 1 ?_
  rw [rounds_succ]
  go_wp2
  go_ret
  exact ⟨rfl, Below.refl _ _⟩

set_option maxRecDepth 8000 in
set_option maxHeartbeats 4000000 in
theorem markEntryS_some (g n c B : Nat) (x : Int) (l : List En) (w : World) (ho : ownsR w B 47 (.slice (some ⟨g, 0, none⟩) n c) l) (hn : n ≤ 1048577) (hx0 : 0 < x) (hx : x ≤ 100000000) :
    Calls Tryd.prog 41 #[.slice (some ⟨g, 0, none⟩) n c, .int .i64 x] w fun e w' => e = .returned (.int .i64 (x + 3 * (n : Int))) ∧ ownsR w' B 47 (.slice (some ⟨g, 0, none⟩) n c) (marksEn x n) ∧ w.grownBy w' (some g) := by
  have HN : Hid (n = l.length) := ho.reads.len
  have HO : Hid (ownsR w B 47 (.slice (some ⟨g, 0, none⟩) n c) l) := ho
  clear ho
  go_enter Tryd.func41, Tryd.ntmps41
  go_wp2
  go_loopw [1, 5] (fun q i wr => ∃ k : Nat, k ≤ n ∧ i = .int .i64 k ∧ q = .int .i64 (x + 3 * (k : Int)) ∧ Hid (ownsR wr B 47 (.slice (some ⟨g, 0, none⟩) n c) (markedR mkEn 3 x l k)) ∧ w.grownBy wr (some g)) (fun _ i _ => n - (intOf i).toNat)
  case atStart => exact ⟨0, Nat.zero_le _, rfl, by simp, markedR_zero HO, grown_refl _ _⟩
  case round =>
    obtain ⟨k, hk, rfl, rfl, HL, hbel⟩ := hrel
    by_cases hlt : k < n
    · obtain ⟨f, hf⟩ : ∃ f, l[k]? = some f := ⟨_, List.getElem?_eq_getElem (by rw [← HN.out]; exact hlt)⟩
      have HF : Hid (l[k]? = some f) := hf
      clear hf
      obtain ⟨hg0, ⟨d0_0, d0_1, d0_2⟩, f0_0, f0_1, f0_2⟩ := en_own HL.out (markedR_at HF.out)
      clear d0_2 f0_2
      have P0 : Hid (ownsR (wr.setCell ⟨g, k * 3, none⟩ (.int .i64 (x + 3 * (k : Int)))) B 47 (.slice (some ⟨g, 0, none⟩) n c) ((markedR mkEn 3 x l k).set k { f with term := x + 3 * (k : Int) })) := by
        have := HL.out.put (j := 0) (u := .int .i64 (x + 3 * (k : Int))) { f with term := x + 3 * (k : Int) } (markedR_at HF.out) (by decide) rfl
        exact this
      have at0 : ((markedR mkEn 3 x l k).set k { f with term := x + 3 * (k : Int) })[k]? = some { f with term := x + 3 * (k : Int) } := List.getElem?_set_self (by rw [markedR_length (by rw [← HN.out]; omega), ← HN.out]; exact hlt)
      have P1 : Hid (ownsR ((wr.setCell ⟨g, k * 3, none⟩ (.int .i64 (x + 3 * (k : Int)))).setCell ⟨g, k * 3 + 1, none⟩ (.int .i64 (x + 3 * (k : Int) + 1))) B 47 (.slice (some ⟨g, 0, none⟩) n c) ((markedR mkEn 3 x l k).set k { f with term := x + 3 * (k : Int), kind := x + 3 * (k : Int) + 1 })) := by
        have := P0.out.put (j := 1) (u := .int .i64 (x + 3 * (k : Int) + 1)) { f with term := x + 3 * (k : Int), kind := x + 3 * (k : Int) + 1 } at0 (by decide) rfl
        rw [List.set_set] at this
        exact this
      have at1 : ((markedR mkEn 3 x l k).set k { f with term := x + 3 * (k : Int), kind := x + 3 * (k : Int) + 1 })[k]? = some { f with term := x + 3 * (k : Int), kind := x + 3 * (k : Int) + 1 } := List.getElem?_set_self (by rw [markedR_length (by rw [← HN.out]; omega), ← HN.out]; exact hlt)
      go_wp2_with fail
      refine (markText_int _ _ (by omega) (by omega)).mono ?_
      rintro e w1 ⟨rfl, hb1⟩
      have O1 : Hid (ownsR w1 B 47 (.slice (some ⟨g, 0, none⟩) n c) ((markedR mkEn 3 x l k).set k { f with term := x + 3 * (k : Int), kind := x + 3 * (k : Int) + 1 })) := P1.out.all hb1
      obtain ⟨hg1, ⟨d1_0, d1_1, d1_2⟩, f1_0, f1_1, f1_2⟩ := en_own O1.out at1
      clear d1_0 f1_0 d1_1 f1_1
      have P2 : Hid (ownsR (w1.setCell ⟨g, k * 3 + 2, none⟩ (.string (mkT (x + 3 * (k : Int) + 1 + 1)))) B 47 (.slice (some ⟨g, 0, none⟩) n c) (markedR mkEn 3 x l (k + 1))) := by
        have := O1.out.put (j := 2) (u := .string (mkT (x + 3 * (k : Int) + 1 + 1))) (mkEn (x + 3 * (k : Int))) at1 (by decide) rfl
        rw [List.set_set, markedR_set HF.out] at this
        exact this
      have BG : w.grownBy (w1.setCell ⟨g, k * 3 + 2, none⟩ (.string (mkT (x + 3 * (k : Int) + 1 + 1)))) (some g) := (grown_trans (grown_trans (grown_trans (grown_trans hbel (grown_set _ _ _ _)) (grown_set _ _ _ _)) (grown_of_below hb1 _)) (grown_set _ _ _ _))
      clear hbel
      go_wp2
      go_roundw
      case rel => exact ⟨k + 1, by omega, by go_num, by go_num, P2, BG⟩
      case measure => simp [intOf]; omega
    · have hkn : k = n := by omega
      have R : ownsR wr B 47 (.slice (some ⟨g, 0, none⟩) n c) (marksEn x n) := by
        have h := HL.out
        have e := markedR_all mkEn 3 x l
        rw [← HN.out] at e
        rw [hkn, e] at h
        exact h
      subst hkn
      go_wp2
      go_ret
      exact ⟨rfl, R, hbel⟩
theorem markEntryS_any {w : World} {B : Nat} {x : Int} {v : Value} {l : List En} (ho : ownsR w B 47 v l) (hn : l.length ≤ 1048577) (hx0 : 0 < x) (hx : x ≤ 100000000) :
    Calls Tryd.prog 41 #[v, .int .i64 x] w fun e w' => e = .returned (.int .i64 (x + 3 * (l.length : Int))) ∧ ownsR w' B 47 v (marksEn x l.length) ∧ w.grownBy w' v.ownBlock := by
  have ho2 := ho
  rcases ho.2 with ⟨rfl, h0⟩ | ⟨g, cap, cur, rfl, _⟩
  · have hl : l = [] := List.eq_nil_of_length_eq_zero h0
    subst hl
    exact (markEntryS_none none 0 x w).mono fun e w' ⟨he, h⟩ => ⟨by simpa using he, ownsR_nil _ _ _, grown_of_below h _⟩
  · exact markEntryS_some g l.length cap B x l w ho2 hn hx0 hx

end Go.Proofs.YtgjamikmjknlfaaDoor
