/-
  Rows of records of one kind (Act): sizes, copies, held against each other, marked: the walks of the law's helpers.
-/
import Derived.Test.YtekflgecfcjjiaaAh
import Derived.Test.YtekflgecfcjjiaaRg
import Derived.Test.YtekflgecfcjjiaaMf
namespace Go.Proofs.Ytekflgecfcjjiaa
open Go Go.RowKit

theorem ac_width : Rec.width Ac = 4 := rfl
def sizeAc : List Ac → Nat
  | [] => 0
  | f :: r => f.name.size + f.text.size + f.to.size + sizeAc r
theorem sizeAc_take {l : List Ac} {k : Nat} {f : Ac} (h : l[k]? = some f) : sizeAc (l.take (k + 1)) = sizeAc (l.take k) + (f.name.size + f.text.size + f.to.size) := by
  induction l generalizing k with
  | nil => simp at h
  | cons x r ih =>
    cases k with
    | zero => simp at h; subst h; simp [sizeAc]
    | succ k => simp at h; simp [sizeAc, ih h]; omega
theorem sizeAc_mem {l : List Ac} {f : Ac} (h : f ∈ l) : f.name.size + f.text.size + f.to.size ≤ sizeAc l := by
  induction l with
  | nil => simp at h
  | cons x r ih =>
    rcases List.mem_cons.1 h with rfl | h
    · simp [sizeAc]
    · have := ih h; simp [sizeAc]; omega
def SmallAc (l : List Ac) : Prop := ∀ f ∈ l, f.name.size ≤ 9223372036854775807 ∧ f.text.size ≤ 9223372036854775807 ∧ f.to.size ≤ 9223372036854775807

set_option maxHeartbeats 1000000 in
theorem szActS_any (ao : Option Addr) (n cap : Nat) (l : List Ac) (left : Int) (w : World) (hr : Reads w (.slice ao n cap) l) (hs : SmallAc l) (hl : left ≤ 1048576) (h0 : 0 ≤ left) (hn : n ≤ 9223372036854775807) :
    Calls Try.prog 38 #[.slice ao n cap, .int .i64 left] w fun e w' => ∃ r : Int, e = .returned (.int .i64 r) ∧ (r = -1 ∨ 0 ≤ r ∧ r = left - n - sizeAc l) ∧ Below w.heap.size w w' := by
  have hnl := hr.len
  by_cases h1 : left - n < 0
  · go_enter Try.func38, Try.ntmps38
    go_wp2
    go_ret
    exact ⟨_, rfl, .inl rfl, Below.refl _ _⟩
  · have HR : Hid (Reads w (.slice ao n cap) l) := hr
    have HS : Hid (SmallAc l) := hs
    have HN : Hid (n = l.length) := hnl
    clear hr hs hnl
    go_enter Try.func38, Try.ntmps38
    go_wp2
    go_loopw [1, 5] (fun c i wr => ∃ (k : Nat) (r : Int), k ≤ n ∧ i = .int .i64 k ∧ c = .int .i64 r ∧ 0 ≤ r ∧ Hid (r = left - n - sizeAc (l.take k)) ∧ r ≤ 1048576 ∧ Below w.heap.size w wr) (fun _ i _ => n - (intOf i).toNat)
    case atStart => exact ⟨0, _, Nat.zero_le _, rfl, rfl, by omega, by simp [Hid, sizeAc], by omega, Below.refl _ _⟩
    case round =>
      obtain ⟨k, r, hk, rfl, rfl, hr0, HE, hr1, hbel⟩ := hrel
      by_cases hlt : k < n
      · obtain ⟨f, hf⟩ : ∃ f, l[k]? = some f := ⟨_, List.getElem?_eq_getElem (by rw [← HN.out]; exact hlt)⟩
        have HF : Hid (l[k]? = some f) := hf
        obtain ⟨b, o, rfl, hb, c0, c1, c2, c3⟩ := ac_at (HR.out.below hbel) hf
        obtain ⟨s0, s1, s2⟩ := HS.out f (List.mem_of_getElem? hf)
        clear hf
        go_wp2_with (go_at_call 33; refine (szAct_any _ _ _ _ _ _ s0 s1 s2 hr1 hr0).mono ?_; rintro e w2 ⟨r2, rfl, h2, hb2⟩)
        · go_ret
          exact ⟨-1, rfl, .inl rfl, hbel.trans (hb2.mono hbel.size)⟩
        · go_roundw
          case rel => exact ⟨k + 1, r2, by omega, by go_num, rfl, by omega, (by have e := sizeAc_take HF.out; have e2 := HE.out; show r2 = _; rw [e]; omega), by omega, hbel.trans (hb2.mono hbel.size)⟩
          case measure => simp [intOf]; omega
      · have hkn : k = n := by omega
        subst hkn
        go_wp2
        go_ret
        refine ⟨r, rfl, .inr ⟨hr0, ?_⟩, hbel⟩
        have e := HE.out
        rw [List.take_of_length_le (by rw [HN.out]; exact Nat.le_refl _)] at e
        exact e

theorem infoAc : (Try.prog.info? 45).map (fun i => (i.zero, i.size, i.bytes)) = some (some (.agg #[.int .i64 0, .string ByteArray.empty, .string ByteArray.empty, .string ByteArray.empty]), 4, 56) := by kernel_rfl
theorem underAc : Try.prog.underlying 38 = some (.slice 45) := by kernel_rfl
theorem madeAc (n : Nat) : (madeCells (Value.cells (.agg #[.int .i64 0, .string ByteArray.empty, .string ByteArray.empty, .string ByteArray.empty])) (n * 4)).toList = (List.replicate n (default : Ac)).flatMap Rec.cells := by
  apply List.ext_getElem?
  intro m
  have hm := Nat.div_add_mod m 4
  have h3 : m % 4 < 4 := Nat.mod_lt _ (by decide)
  have e := flat_at (List.replicate n (default : Ac)) (m / 4) (m % 4) h3
  rw [ac_width, show m / 4 * 4 + m % 4 = m by omega] at e
  rw [e]
  simp only [madeCells, Value.cells, Array.toList_map, Array.toList_range, List.getElem?_map, List.getElem?_replicate]
  by_cases hlt : m / 4 < n
  · rw [if_pos hlt, List.getElem?_range (by omega)]
    match hx : m % 4, h3 with
    | 0, _ => simp [hx]; rfl
    | 1, _ => simp [hx]; rfl
    | 2, _ => simp [hx]; rfl
    | 3, _ => simp [hx]; rfl
  · rw [if_neg hlt, List.getElem?_eq_none (by simp; omega)]
    rfl

theorem ac_put {w : World} {B : Nat} {g n cap : Nat} {l : List Ac} (h : ownsR w B 45 (.slice (some ⟨g, 0, none⟩) n cap) l) {i : Nat} {y : Ac} (f : Ac) (hi : l[i]? = some y) :
    ownsR ((((w.setCell ⟨g, i * 4, none⟩ (.int .i64 f.kind)).setCell ⟨g, i * 4 + 1, none⟩ (.string f.name)).setCell ⟨g, i * 4 + 2, none⟩ (.string f.text)).setCell ⟨g, i * 4 + 3, none⟩ (.string f.to)) B 45 (.slice (some ⟨g, 0, none⟩) n cap) (l.set i f) := by
  have hil : i < l.length := (List.getElem?_eq_some_iff.1 hi).1
  have h1 := h.put (j := 0) (u := .int .i64 f.kind) { y with kind := f.kind } hi (by decide) rfl
  have h2 := h1.put (i := i) (j := 1) (u := .string f.name) { y with kind := f.kind, name := f.name } (List.getElem?_set_self (by simpa using hil)) (by decide) rfl
  have h3 := h2.put (i := i) (j := 2) (u := .string f.text) { y with kind := f.kind, name := f.name, text := f.text } (List.getElem?_set_self (by simpa using hil)) (by decide) rfl
  have h4 := h3.put (i := i) (j := 3) (u := .string f.to) f (List.getElem?_set_self (by simpa using hil)) (by decide) rfl
  simpa only [ac_width, Nat.add_zero, List.set_set] using h4

set_option maxRecDepth 8000 in
set_option maxHeartbeats 1000000 in
theorem toActS_any (ao : Option Addr) (n cap : Nat) (l : List Ac) (w : World) (hr : Reads w (.slice ao n cap) l) (hn : n ≤ 1048576) :
    Calls Try.prog 39 #[.slice ao n cap] w fun e w' => ∃ v, e = .returned v ∧ ownsR w' w.heap.size 45 v l ∧ Below w.heap.size w w' := by
  obtain ⟨i0, hi0, hz0, hz1, hz2⟩ := info_parts infoAc
  have hnl := hr.len
  have HR : Hid (Reads w (.slice ao n cap) l) := hr
  have HN : Hid (n = l.length) := hnl
  clear hr hnl
  go_enter Try.func39, Try.ntmps39
  go_wp2_with (at_make; refine wpList_make_full _ rfl _ _ 38 rfl w.heap.size 45 i0 _ 4 underAc hi0 hz0 hz1 .i64 .i64 _ _ n rfl rfl rfl rfl (by rw [hz2]; omega) (by unfold maxLen; omega) (Nat.le_refl _) ?_; intro w1 ho hg)
  rw [madeAc, HN.out, ← filledR_none, ← HN.out] at ho
  have ho : ownsR w1 w.heap.size 45 (.slice (some ⟨w.heap.size, 0, none⟩) n n) (filledR l 0) := by unfold ownsR; rw [filledR_length (Nat.zero_le _), ← HN.out]; exact ho
  have hbel1 : Below w.heap.size w w1 := (Below.refl _ w).grown hg (Nat.le_refl _) (fun j hj => by cases hj)
  generalize hB : w.heap.size = B at *
  go_loopw [4] (fun i wr => ∃ k : Nat, k ≤ n ∧ i = .int .i64 k ∧ ownsR wr B 45 (.slice (some ⟨B, 0, none⟩) n n) (filledR l k) ∧ Below B w wr) (fun i _ => n - (intOf i).toNat)
  case atStart => exact ⟨0, Nat.zero_le _, rfl, ho, hbel1⟩
  case round =>
    obtain ⟨k, hk, rfl, hown, hbel⟩ := hrel
    clear ho hbel1
    by_cases hlt : k < n
    · obtain ⟨f, hf⟩ : ∃ f, l[k]? = some f := ⟨_, List.getElem?_eq_getElem (by rw [← HN.out]; exact hlt)⟩
      have HF : Hid (l[k]? = some f) := hf
      obtain ⟨b, o, rfl, hb, c0, c1, c2, c3⟩ := ac_at (HR.out.below (hB ▸ hbel)) hf
      clear hf
      have HO : Hid (ownsR wr B 45 (.slice (some ⟨B, 0, none⟩) n n) (filledR l k)) := hown
      clear hown
      obtain ⟨hgs, -, -, hat⟩ := HO.out.at (filledR_at (l := l) (k := k) (by rw [← HN.out]; exact hlt))
      have d0 : wr.cell? ⟨B, k * 4, none⟩ = some (.int .i64 0) := (hat 0 (by decide)).1
      have f0 : wr.frozen? ⟨B, k * 4, none⟩ = false := (hat 0 (by decide)).2
      have d1 : wr.cell? ⟨B, k * 4 + 1, none⟩ = some (.string ByteArray.empty) := (hat 1 (by decide)).1
      have f1 : wr.frozen? ⟨B, k * 4 + 1, none⟩ = false := (hat 1 (by decide)).2
      have d2 : wr.cell? ⟨B, k * 4 + 2, none⟩ = some (.string ByteArray.empty) := (hat 2 (by decide)).1
      have f2 : wr.frozen? ⟨B, k * 4 + 2, none⟩ = false := (hat 2 (by decide)).2
      have d3 : wr.cell? ⟨B, k * 4 + 3, none⟩ = some (.string ByteArray.empty) := (hat 3 (by decide)).1
      have f3 : wr.frozen? ⟨B, k * 4 + 3, none⟩ = false := (hat 3 (by decide)).2
      clear hat
      go_wp2_with (go_at_call 35; refine (toAct_any _ _ _ _ _).mono ?_; rintro e w2 ⟨rfl, hb2⟩; have d0' := (hb2.cell (p := ⟨B, k * 4, none⟩) hgs).trans d0; have f0' := (hb2.frozen (p := ⟨B, k * 4, none⟩) hgs).trans f0; have d1' := (hb2.cell (p := ⟨B, k * 4 + 1, none⟩) hgs).trans d1; have f1' := (hb2.frozen (p := ⟨B, k * 4 + 1, none⟩) hgs).trans f1; have d2' := (hb2.cell (p := ⟨B, k * 4 + 2, none⟩) hgs).trans d2; have f2' := (hb2.frozen (p := ⟨B, k * 4 + 2, none⟩) hgs).trans f2; have d3' := (hb2.cell (p := ⟨B, k * 4 + 3, none⟩) hgs).trans d3; have f3' := (hb2.frozen (p := ⟨B, k * 4 + 3, none⟩) hgs).trans f3)
      have R := ac_put (HO.out.all hb2) f (filledR_at (l := l) (k := k) (by rw [← HN.out]; exact hlt))
      rw [filledR_set HF.out] at R
      clear d0 f0 d0' f0' d1 f1 d1' f1' d2 f2 d2' f2' d3 f3 d3' f3'
      go_roundw
      case rel => exact ⟨k + 1, by omega, by go_num, R, (((((hbel.trans (hb2.mono (by omega))).setCell (p := ⟨B, k * 4, none⟩) (Nat.le_refl _) _).setCell (p := ⟨B, k * 4 + 1, none⟩) (Nat.le_refl _) _).setCell (p := ⟨B, k * 4 + 2, none⟩) (Nat.le_refl _) _).setCell (p := ⟨B, k * 4 + 3, none⟩) (Nat.le_refl _) _)⟩
      case measure => simp [intOf]; omega
    · have hkn : k = n := by omega
      have R : ownsR wr B 45 (.slice (some ⟨B, 0, none⟩) n n) l := by rw [hkn, HN.out, filledR_all] at hown; rw [HN.out]; exact hown
      clear hown
      go_wp2
      go_ret
      subst hB
      exact ⟨_, rfl, R, hbel⟩

set_option maxHeartbeats 400000 in
theorem eqAct_any (kind : Int) (name : ByteArray) (text : ByteArray) (to : ByteArray) (w : World) :
    Calls Try.prog 74 #[.agg #[.int .i64 kind, .string name, .string text, .string to], .agg #[.int .i64 kind, .string name, .string text, .string to]] w fun e w' => e = .returned (.bool true) ∧ Below w.heap.size w w' := by
  go_enter Try.func74, Try.ntmps74
  go_wp2
  go_ret
  exact ⟨rfl, ba (ba (Below.refl _ _) _) _⟩

set_option maxRecDepth 8000 in
set_option maxHeartbeats 2000000 in
theorem eqActS_any (ao bo : Option Addr) (n c d : Nat) (l : List Ac) (w : World) (ha : Reads w (.slice ao n c) l) (hb : Reads w (.slice bo n d) l) (hn : n ≤ 1048577) :
    Calls Try.prog 40 #[.slice ao n c, .slice bo n d] w fun e w' => e = .returned (.bool true) ∧ Below w.heap.size w w' := by
  have HN : Hid (n = l.length) := ha.len
  have HA : Hid (Reads w (.slice ao n c) l) := ha
  have HB : Hid (Reads w (.slice bo n d) l) := hb
  clear ha hb
  go_enter Try.func40, Try.ntmps40
  go_wp2
  go_loopw [5] (fun i wr => ∃ k : Nat, k ≤ n ∧ i = .int .i64 k ∧ Below w.heap.size w wr) (fun i _ => n - (intOf i).toNat)
  case atStart => exact ⟨0, Nat.zero_le _, rfl, Below.refl _ _⟩
  case round =>
    obtain ⟨k, hk, rfl, hbel⟩ := hrel
    by_cases hlt : k < n
    · obtain ⟨f, hf⟩ : ∃ f, l[k]? = some f := ⟨_, List.getElem?_eq_getElem (by rw [← HN.out]; exact hlt)⟩
      obtain ⟨a, oa, rfl, hga, a0, a1, a2, a3⟩ := ac_at (HA.out.below hbel) hf
      obtain ⟨b, ob, rfl, hgb, b0, b1, b2, b3⟩ := ac_at (HB.out.below hbel) hf
      clear hf
      go_wp2
      go_region_held (fun w' => w'.cell? ⟨a, oa + k * 4, none⟩ = some (.int .i64 f.kind) ∧ w'.cell? ⟨a, oa + k * 4 + 1, none⟩ = some (.string f.name) ∧ w'.cell? ⟨a, oa + k * 4 + 2, none⟩ = some (.string f.text) ∧ w'.cell? ⟨a, oa + k * 4 + 3, none⟩ = some (.string f.to) ∧ w'.cell? ⟨b, ob + k * 4, none⟩ = some (.int .i64 f.kind) ∧ w'.cell? ⟨b, ob + k * 4 + 1, none⟩ = some (.string f.name) ∧ w'.cell? ⟨b, ob + k * 4 + 2, none⟩ = some (.string f.text) ∧ w'.cell? ⟨b, ob + k * 4 + 3, none⟩ = some (.string f.to)) ((first | exact ⟨a0, a1, a2, a3, b0, b1, b2, b3⟩ | exact ⟨(hb2.cell hga).trans a0, (hb2.cell hga).trans a1, (hb2.cell hga).trans a2, (hb2.cell hga).trans a3, (hb2.cell hgb).trans b0, (hb2.cell hgb).trans b1, (hb2.cell hgb).trans b2, (hb2.cell hgb).trans b3⟩)) ((go_at_call 74; refine (eqAct_any _ _ _ _ _).mono ?_; rintro e w2 ⟨rfl, hb2⟩))
      go_wp2
      go_roundw
      case rel => exact ⟨k + 1, by omega, by go_num, hbel.trans (((Below.refl _ _).drew.trans hb2).mono hbel.size)⟩
      case measure => simp [intOf]; omega
    · go_wp2
      go_ret
      exact ⟨rfl, hbel⟩

def mkAc (x : Int) : Ac := ⟨x, mkT (x + 1), mkT (x + 1 + 1), mkT (x + 1 + 1 + 1)⟩
def marksAc (x : Int) (n : Nat) : List Ac := marksR mkAc 4 x n
theorem ac_own {w : World} {B : Nat} {g n cap : Nat} {l : List Ac} (h : ownsR w B 45 (.slice (some ⟨g, 0, none⟩) n cap) l) {i : Nat} {x : Ac} (hi : l[i]? = some x) :
    g < w.heap.size ∧ (w.cell? ⟨g, i * 4, none⟩ = some (.int .i64 x.kind) ∧ w.cell? ⟨g, i * 4 + 1, none⟩ = some (.string x.name) ∧ w.cell? ⟨g, i * 4 + 2, none⟩ = some (.string x.text) ∧ w.cell? ⟨g, i * 4 + 3, none⟩ = some (.string x.to)) ∧ w.frozen? ⟨g, i * 4, none⟩ = false ∧ w.frozen? ⟨g, i * 4 + 1, none⟩ = false ∧ w.frozen? ⟨g, i * 4 + 2, none⟩ = false ∧ w.frozen? ⟨g, i * 4 + 3, none⟩ = false := by
  obtain ⟨h1, _, _, h2⟩ := h.at hi
  exact ⟨h1, ⟨(h2 0 (by decide)).1, (h2 1 (by decide)).1, (h2 2 (by decide)).1, (h2 3 (by decide)).1⟩, (h2 0 (by decide)).2, (h2 1 (by decide)).2, (h2 2 (by decide)).2, (h2 3 (by decide)).2⟩

set_option maxHeartbeats 1000000 in
theorem markActS_none (ao : Option Addr) (c : Nat) (x : Int) (w : World) :
    Calls Try.prog 41 #[.slice ao 0 c, .int .i64 x] w fun e w' => e = .returned (.int .i64 x) ∧ Below w.heap.size w w' := by
  go_enter Try.func41, Try.ntmps41
  go_wp2
  refine wp_loop_rounds 1 ?_
  rw [rounds_succ]
  go_wp2
  go_ret
  exact ⟨rfl, Below.refl _ _⟩

set_option maxRecDepth 8000 in
set_option maxHeartbeats 4000000 in
theorem markActS_some (g n c B : Nat) (x : Int) (l : List Ac) (w : World) (ho : ownsR w B 45 (.slice (some ⟨g, 0, none⟩) n c) l) (hn : n ≤ 1048577) (hx0 : 0 < x) (hx : x ≤ 100000000) :
    Calls Try.prog 41 #[.slice (some ⟨g, 0, none⟩) n c, .int .i64 x] w fun e w' => e = .returned (.int .i64 (x + 4 * (n : Int))) ∧ ownsR w' B 45 (.slice (some ⟨g, 0, none⟩) n c) (marksAc x n) ∧ w.grownBy w' (some g) := by
  have HN : Hid (n = l.length) := ho.reads.len
  have HO : Hid (ownsR w B 45 (.slice (some ⟨g, 0, none⟩) n c) l) := ho
  clear ho
  go_enter Try.func41, Try.ntmps41
  go_wp2
  go_loopw [1, 5] (fun q i wr => ∃ k : Nat, k ≤ n ∧ i = .int .i64 k ∧ q = .int .i64 (x + 4 * (k : Int)) ∧ Hid (ownsR wr B 45 (.slice (some ⟨g, 0, none⟩) n c) (markedR mkAc 4 x l k)) ∧ w.grownBy wr (some g)) (fun _ i _ => n - (intOf i).toNat)
  case atStart => exact ⟨0, Nat.zero_le _, rfl, by simp, markedR_zero HO, grown_refl _ _⟩
  case round =>
    obtain ⟨k, hk, rfl, rfl, HL, hbel⟩ := hrel
    by_cases hlt : k < n
    · obtain ⟨f, hf⟩ : ∃ f, l[k]? = some f := ⟨_, List.getElem?_eq_getElem (by rw [← HN.out]; exact hlt)⟩
      have HF : Hid (l[k]? = some f) := hf
      clear hf
      obtain ⟨hg0, ⟨d0_0, d0_1, d0_2, d0_3⟩, f0_0, f0_1, f0_2, f0_3⟩ := ac_own HL.out (markedR_at HF.out)
      clear d0_1 f0_1 d0_2 f0_2 d0_3 f0_3
      have P0 : Hid (ownsR (wr.setCell ⟨g, k * 4, none⟩ (.int .i64 (x + 4 * (k : Int)))) B 45 (.slice (some ⟨g, 0, none⟩) n c) ((markedR mkAc 4 x l k).set k { f with kind := x + 4 * (k : Int) })) := by
        have := HL.out.put (j := 0) (u := .int .i64 (x + 4 * (k : Int))) { f with kind := x + 4 * (k : Int) } (markedR_at HF.out) (by decide) rfl
        exact this
      have at0 : ((markedR mkAc 4 x l k).set k { f with kind := x + 4 * (k : Int) })[k]? = some { f with kind := x + 4 * (k : Int) } := List.getElem?_set_self (by rw [markedR_length (by rw [← HN.out]; omega), ← HN.out]; exact hlt)
      go_wp2_with fail
      refine (markText_int _ _ (by omega) (by omega)).mono ?_
      rintro e w1 ⟨rfl, hb1⟩
      have O1 : Hid (ownsR w1 B 45 (.slice (some ⟨g, 0, none⟩) n c) ((markedR mkAc 4 x l k).set k { f with kind := x + 4 * (k : Int) })) := P0.out.all hb1
      obtain ⟨hg1, ⟨d1_0, d1_1, d1_2, d1_3⟩, f1_0, f1_1, f1_2, f1_3⟩ := ac_own O1.out at0
      clear d1_0 f1_0 d1_2 f1_2 d1_3 f1_3
      have P1 : Hid (ownsR (w1.setCell ⟨g, k * 4 + 1, none⟩ (.string (mkT (x + 4 * (k : Int) + 1)))) B 45 (.slice (some ⟨g, 0, none⟩) n c) ((markedR mkAc 4 x l k).set k { f with kind := x + 4 * (k : Int), name := mkT (x + 4 * (k : Int) + 1) })) := by
        have := O1.out.put (j := 1) (u := .string (mkT (x + 4 * (k : Int) + 1))) { f with kind := x + 4 * (k : Int), name := mkT (x + 4 * (k : Int) + 1) } at0 (by decide) rfl
        rw [List.set_set] at this
        exact this
      have at1 : ((markedR mkAc 4 x l k).set k { f with kind := x + 4 * (k : Int), name := mkT (x + 4 * (k : Int) + 1) })[k]? = some { f with kind := x + 4 * (k : Int), name := mkT (x + 4 * (k : Int) + 1) } := List.getElem?_set_self (by rw [markedR_length (by rw [← HN.out]; omega), ← HN.out]; exact hlt)
      go_wp2_with fail
      refine (markText_int _ _ (by omega) (by omega)).mono ?_
      rintro e w2 ⟨rfl, hb2⟩
      have O2 : Hid (ownsR w2 B 45 (.slice (some ⟨g, 0, none⟩) n c) ((markedR mkAc 4 x l k).set k { f with kind := x + 4 * (k : Int), name := mkT (x + 4 * (k : Int) + 1) })) := P1.out.all hb2
      obtain ⟨hg2, ⟨d2_0, d2_1, d2_2, d2_3⟩, f2_0, f2_1, f2_2, f2_3⟩ := ac_own O2.out at1
      clear d2_0 f2_0 d2_1 f2_1 d2_3 f2_3
      have P2 : Hid (ownsR (w2.setCell ⟨g, k * 4 + 2, none⟩ (.string (mkT (x + 4 * (k : Int) + 1 + 1)))) B 45 (.slice (some ⟨g, 0, none⟩) n c) ((markedR mkAc 4 x l k).set k { f with kind := x + 4 * (k : Int), name := mkT (x + 4 * (k : Int) + 1), text := mkT (x + 4 * (k : Int) + 1 + 1) })) := by
        have := O2.out.put (j := 2) (u := .string (mkT (x + 4 * (k : Int) + 1 + 1))) { f with kind := x + 4 * (k : Int), name := mkT (x + 4 * (k : Int) + 1), text := mkT (x + 4 * (k : Int) + 1 + 1) } at1 (by decide) rfl
        rw [List.set_set] at this
        exact this
      have at2 : ((markedR mkAc 4 x l k).set k { f with kind := x + 4 * (k : Int), name := mkT (x + 4 * (k : Int) + 1), text := mkT (x + 4 * (k : Int) + 1 + 1) })[k]? = some { f with kind := x + 4 * (k : Int), name := mkT (x + 4 * (k : Int) + 1), text := mkT (x + 4 * (k : Int) + 1 + 1) } := List.getElem?_set_self (by rw [markedR_length (by rw [← HN.out]; omega), ← HN.out]; exact hlt)
      go_wp2_with fail
      refine (markText_int _ _ (by omega) (by omega)).mono ?_
      rintro e w3 ⟨rfl, hb3⟩
      have O3 : Hid (ownsR w3 B 45 (.slice (some ⟨g, 0, none⟩) n c) ((markedR mkAc 4 x l k).set k { f with kind := x + 4 * (k : Int), name := mkT (x + 4 * (k : Int) + 1), text := mkT (x + 4 * (k : Int) + 1 + 1) })) := P2.out.all hb3
      obtain ⟨hg3, ⟨d3_0, d3_1, d3_2, d3_3⟩, f3_0, f3_1, f3_2, f3_3⟩ := ac_own O3.out at2
      clear d3_0 f3_0 d3_1 f3_1 d3_2 f3_2
      have P3 : Hid (ownsR (w3.setCell ⟨g, k * 4 + 3, none⟩ (.string (mkT (x + 4 * (k : Int) + 1 + 1 + 1)))) B 45 (.slice (some ⟨g, 0, none⟩) n c) (markedR mkAc 4 x l (k + 1))) := by
        have := O3.out.put (j := 3) (u := .string (mkT (x + 4 * (k : Int) + 1 + 1 + 1))) (mkAc (x + 4 * (k : Int))) at2 (by decide) rfl
        rw [List.set_set, markedR_set HF.out] at this
        exact this
      have BG : w.grownBy (w3.setCell ⟨g, k * 4 + 3, none⟩ (.string (mkT (x + 4 * (k : Int) + 1 + 1 + 1)))) (some g) := (grown_trans (grown_trans (grown_trans (grown_trans (grown_trans (grown_trans (grown_trans hbel (grown_set _ _ _ _)) (grown_of_below hb1 _)) (grown_set _ _ _ _)) (grown_of_below hb2 _)) (grown_set _ _ _ _)) (grown_of_below hb3 _)) (grown_set _ _ _ _))
      clear hbel
      go_wp2
      go_roundw
      case rel => exact ⟨k + 1, by omega, by go_num, by go_num, P3, BG⟩
      case measure => simp [intOf]; omega
    · have hkn : k = n := by omega
      have R : ownsR wr B 45 (.slice (some ⟨g, 0, none⟩) n c) (marksAc x n) := by
        have h := HL.out
        have e := markedR_all mkAc 4 x l
        rw [← HN.out] at e
        rw [hkn, e] at h
        exact h
      subst hkn
      go_wp2
      go_ret
      exact ⟨rfl, R, hbel⟩
theorem markActS_any {w : World} {B : Nat} {x : Int} {v : Value} {l : List Ac} (ho : ownsR w B 45 v l) (hn : l.length ≤ 1048577) (hx0 : 0 < x) (hx : x ≤ 100000000) :
    Calls Try.prog 41 #[v, .int .i64 x] w fun e w' => e = .returned (.int .i64 (x + 4 * (l.length : Int))) ∧ ownsR w' B 45 v (marksAc x l.length) ∧ w.grownBy w' v.ownBlock := by
  have ho2 := ho
  rcases ho.2 with ⟨rfl, h0⟩ | ⟨g, cap, cur, rfl, _⟩
  · have hl : l = [] := List.eq_nil_of_length_eq_zero h0
    subst hl
    exact (markActS_none none 0 x w).mono fun e w' ⟨he, h⟩ => ⟨by simpa using he, ownsR_nil _ _ _, grown_of_below h _⟩
  · exact markActS_some g l.length cap B x l w ho2 hn hx0 hx

end Go.Proofs.Ytekflgecfcjjiaa
