/-
  Rows of records of one kind (Session): sizes, copies, held against each other, marked: the walks of the law's helpers.
-/
import Derived.Test.YtkfhmeiiicidaaaGn
import Derived.Test.YtkfhmeiiicidaaaMt
import Derived.Test.YtkfhmeiiicidaaaWd
namespace Go.Proofs.Ytkfhmeiiicidaaa
open Go Go.RowKit

structure Se where
  tok : Int
  last : Int
  reply : ByteArray
instance : Inhabited Se := ⟨⟨0, 0, ByteArray.empty⟩⟩
instance : Rec Se := ⟨3, fun a => [.int .i64 a.tok, .int .i64 a.last, .string a.reply], fun _ => rfl, by decide⟩
theorem se_width : Rec.width Se = 3 := rfl
theorem se_at {w : World} {ao : Option Addr} {n cap : Nat} {l : List Se} (h : Reads w (.slice ao n cap) l) {k : Nat} {f : Se} (hk : l[k]? = some f) :
    ∃ b o, ao = some ⟨b, o, none⟩ ∧ b < w.heap.size ∧ w.cell? ⟨b, o + k * 3, none⟩ = some (.int .i64 f.tok) ∧ w.cell? ⟨b, o + k * 3 + 1, none⟩ = some (.int .i64 f.last) ∧ w.cell? ⟨b, o + k * 3 + 2, none⟩ = some (.string f.reply) := by
  obtain ⟨b, o, rfl, hlt, hc⟩ := h.at hk
  exact ⟨b, o, rfl, hlt, hc 0 _ rfl, hc 1 _ rfl, hc 2 _ rfl⟩
def sizeSe : List Se → Nat
  | [] => 0
  | f :: r => f.reply.size + sizeSe r
theorem sizeSe_take {l : List Se} {k : Nat} {f : Se} (h : l[k]? = some f) : sizeSe (l.take (k + 1)) = sizeSe (l.take k) + (f.reply.size) := by
  induction l generalizing k with
  | nil => simp at h
  | cons x r ih =>
    cases k with
    | zero => simp at h; subst h; simp [sizeSe]
    | succ k => simp at h; simp [sizeSe, ih h]; omega
theorem sizeSe_mem {l : List Se} {f : Se} (h : f ∈ l) : f.reply.size ≤ sizeSe l := by
  induction l with
  | nil => simp at h
  | cons x r ih =>
    rcases List.mem_cons.1 h with rfl | h
    · simp [sizeSe]
    · have := ih h; simp [sizeSe]; omega
def SmallSe (l : List Se) : Prop := ∀ f ∈ l, f.reply.size ≤ 9223372036854775807

set_option maxHeartbeats 400000 in
theorem szSession_any (tok : Int) (last : Int) (reply : ByteArray) (left : Int) (w : World) (zreply : reply.size ≤ 9223372036854775807) (hl : left ≤ 1048576) (h0 : 0 ≤ left) :
    Calls Try.prog 40 #[.agg #[.int .i64 tok, .int .i64 last, .string reply], .int .i64 left] w fun e w' => ∃ r : Int, e = .returned (.int .i64 r) ∧ (r = -1 ∨ 0 ≤ r ∧ r = left - reply.size) ∧ Below w.heap.size w w' := by
  by_cases h1 : left - reply.size < 0
  · go_enter Try.func40, Try.ntmps40
    go_wp2
    go_ret
    exact ⟨_, rfl, .inl rfl, ba (Below.refl _ _) _⟩
  · go_enter Try.func40, Try.ntmps40
    go_wp2
    go_ret
    exact ⟨_, rfl, .inr ⟨by omega, rfl⟩, ba (Below.refl _ _) _⟩

set_option maxHeartbeats 1000000 in
theorem szSessionS_any (ao : Option Addr) (n cap : Nat) (l : List Se) (left : Int) (w : World) (hr : Reads w (.slice ao n cap) l) (hs : SmallSe l) (hl : left ≤ 1048576) (h0 : 0 ≤ left) (hn : n ≤ 9223372036854775807) :
    Calls Try.prog 14 #[.slice ao n cap, .int .i64 left] w fun e w' => ∃ r : Int, e = .returned (.int .i64 r) ∧ (r = -1 ∨ 0 ≤ r ∧ r = left - n - sizeSe l) ∧ Below w.heap.size w w' := by
  have hnl := hr.len
  by_cases h1 : left - n < 0
  · go_enter Try.func14, Try.ntmps14
    go_wp2
    go_ret
    exact ⟨_, rfl, .inl rfl, Below.refl _ _⟩
  · have HR : Hid (Reads w (.slice ao n cap) l) := hr
    have HS : Hid (SmallSe l) := hs
    have HN : Hid (n = l.length) := hnl
    clear hr hs hnl
    go_enter Try.func14, Try.ntmps14
    go_wp2
    go_loopw [1, 5] (fun c i wr => ∃ (k : Nat) (r : Int), k ≤ n ∧ i = .int .i64 k ∧ c = .int .i64 r ∧ 0 ≤ r ∧ Hid (r = left - n - sizeSe (l.take k)) ∧ r ≤ 1048576 ∧ Below w.heap.size w wr) (fun _ i _ => n - (intOf i).toNat)
    case atStart => exact ⟨0, _, Nat.zero_le _, rfl, rfl, by omega, by simp [Hid, sizeSe], by omega, Below.refl _ _⟩
    case round =>
      obtain ⟨k, r, hk, rfl, rfl, hr0, HE, hr1, hbel⟩ := hrel
      by_cases hlt : k < n
      · obtain ⟨f, hf⟩ : ∃ f, l[k]? = some f := ⟨_, List.getElem?_eq_getElem (by rw [← HN.out]; exact hlt)⟩
        have HF : Hid (l[k]? = some f) := hf
        obtain ⟨b, o, rfl, hb, c0, c1, c2⟩ := se_at (HR.out.below hbel) hf
        obtain s0 := HS.out f (List.mem_of_getElem? hf)
        clear hf
        go_wp2_with (go_at_call 40; refine (szSession_any _ _ _ _ _ s0 hr1 hr0).mono ?_; rintro e w2 ⟨r2, rfl, h2, hb2⟩)
        · go_ret
          exact ⟨-1, rfl, .inl rfl, hbel.trans (hb2.mono hbel.size)⟩
        · go_roundw
          case rel => exact ⟨k + 1, r2, by omega, by go_num, rfl, by omega, (by have e := sizeSe_take HF.out; have e2 := HE.out; show r2 = _; rw [e]; omega), by omega, hbel.trans (hb2.mono hbel.size)⟩
          case measure => simp [intOf]; omega
      · have hkn : k = n := by omega
        subst hkn
        go_wp2
        go_ret
        refine ⟨r, rfl, .inr ⟨hr0, ?_⟩, hbel⟩
        have e := HE.out
        rw [List.take_of_length_le (by rw [HN.out]; exact Nat.le_refl _)] at e
        exact e

theorem infoSe : (Try.prog.info? 65).map (fun i => (i.zero, i.size, i.bytes)) = some (some (.agg #[.int .i64 0, .int .i64 0, .string ByteArray.empty]), 3, 32) := by kernel_rfl
theorem underSe : Try.prog.underlying 28 = some (.slice 65) := by kernel_rfl
theorem madeSe (n : Nat) : (madeCells (Value.cells (.agg #[.int .i64 0, .int .i64 0, .string ByteArray.empty])) (n * 3)).toList = (List.replicate n (default : Se)).flatMap Rec.cells := by
  apply List.ext_getElem?
  intro m
  have hm := Nat.div_add_mod m 3
  have h3 : m % 3 < 3 := Nat.mod_lt _ (by decide)
  have e := flat_at (List.replicate n (default : Se)) (m / 3) (m % 3) h3
  rw [se_width, show m / 3 * 3 + m % 3 = m by omega] at e
  rw [e]
  simp only [madeCells, Value.cells, Array.toList_map, Array.toList_range, List.getElem?_map, List.getElem?_replicate]
  by_cases hlt : m / 3 < n
  · rw [if_pos hlt, List.getElem?_range (by omega)]
    match hx : m % 3, h3 with
    | 0, _ => simp [hx]; rfl
    | 1, _ => simp [hx]; rfl
    | 2, _ => simp [hx]; rfl
  · rw [if_neg hlt, List.getElem?_eq_none (by simp; omega)]
    rfl

set_option maxHeartbeats 400000 in
theorem toSession_any (tok : Int) (last : Int) (reply : ByteArray) (w : World) :
    Calls Try.prog 45 #[.agg #[.int .i64 tok, .int .i64 last, .string reply]] w fun e w' => e = .returned (.agg #[.int .i64 tok, .int .i64 last, .string reply]) ∧ Below w.heap.size w w' := by
  go_enter Try.func45, Try.ntmps45
  go_wp2
  go_returns
  exact ⟨rfl, ba (ba (ba (Below.refl _ _) _) _) _⟩

theorem se_put {w : World} {B : Nat} {g n cap : Nat} {l : List Se} (h : ownsR w B 65 (.slice (some ⟨g, 0, none⟩) n cap) l) {i : Nat} {y : Se} (f : Se) (hi : l[i]? = some y) :
    ownsR (((w.setCell ⟨g, i * 3, none⟩ (.int .i64 f.tok)).setCell ⟨g, i * 3 + 1, none⟩ (.int .i64 f.last)).setCell ⟨g, i * 3 + 2, none⟩ (.string f.reply)) B 65 (.slice (some ⟨g, 0, none⟩) n cap) (l.set i f) := by
  have hil : i < l.length := (List.getElem?_eq_some_iff.1 hi).1
  have h1 := h.put (j := 0) (u := .int .i64 f.tok) { y with tok := f.tok } hi (by decide) rfl
  have h2 := h1.put (i := i) (j := 1) (u := .int .i64 f.last) { y with tok := f.tok, last := f.last } (List.getElem?_set_self (by simpa using hil)) (by decide) rfl
  have h3 := h2.put (i := i) (j := 2) (u := .string f.reply) f (List.getElem?_set_self (by simpa using hil)) (by decide) rfl
  simpa only [se_width, Nat.add_zero, List.set_set] using h3

set_option maxRecDepth 8000 in
set_option maxHeartbeats 1000000 in
theorem toSessionS_any (ao : Option Addr) (n cap : Nat) (l : List Se) (w : World) (hr : Reads w (.slice ao n cap) l) (hn : n ≤ 1048576) :
    Calls Try.prog 19 #[.slice ao n cap] w fun e w' => ∃ v, e = .returned v ∧ ownsR w' w.heap.size 65 v l ∧ Below w.heap.size w w' := by
  obtain ⟨i0, hi0, hz0, hz1, hz2⟩ := info_parts infoSe
  have hnl := hr.len
  have HR : Hid (Reads w (.slice ao n cap) l) := hr
  have HN : Hid (n = l.length) := hnl
  clear hr hnl
  go_enter Try.func19, Try.ntmps19
  go_wp2_with (at_make; refine wpList_make_full _ rfl _ _ 28 rfl w.heap.size 65 i0 _ 3 underSe hi0 hz0 hz1 .i64 .i64 _ _ n rfl rfl rfl rfl (by rw [hz2]; omega) (by unfold maxLen; omega) (Nat.le_refl _) ?_; intro w1 ho hg)
  rw [madeSe, HN.out, ← filledR_none, ← HN.out] at ho
  have ho : ownsR w1 w.heap.size 65 (.slice (some ⟨w.heap.size, 0, none⟩) n n) (filledR l 0) := by unfold ownsR; rw [filledR_length (Nat.zero_le _), ← HN.out]; exact ho
  have hbel1 : Below w.heap.size w w1 := (Below.refl _ w).grown hg (Nat.le_refl _) (fun j hj => by cases hj)
  generalize hB : w.heap.size = B at *
  go_loopw [4] (fun i wr => ∃ k : Nat, k ≤ n ∧ i = .int .i64 k ∧ ownsR wr B 65 (.slice (some ⟨B, 0, none⟩) n n) (filledR l k) ∧ Below B w wr) (fun i _ => n - (intOf i).toNat)
  case atStart => exact ⟨0, Nat.zero_le _, rfl, ho, hbel1⟩
  case round =>
    obtain ⟨k, hk, rfl, hown, hbel⟩ := hrel
    clear ho hbel1
    by_cases hlt : k < n
    · obtain ⟨f, hf⟩ : ∃ f, l[k]? = some f := ⟨_, List.getElem?_eq_getElem (by rw [← HN.out]; exact hlt)⟩
      have HF : Hid (l[k]? = some f) := hf
      obtain ⟨b, o, rfl, hb, c0, c1, c2⟩ := se_at (HR.out.below (hB ▸ hbel)) hf
      clear hf
      have HO : Hid (ownsR wr B 65 (.slice (some ⟨B, 0, none⟩) n n) (filledR l k)) := hown
      clear hown
      obtain ⟨hgs, -, -, hat⟩ := HO.out.at (filledR_at (l := l) (k := k) (by rw [← HN.out]; exact hlt))
      have d0 : wr.cell? ⟨B, k * 3, none⟩ = some (.int .i64 0) := (hat 0 (by decide)).1
      have f0 : wr.frozen? ⟨B, k * 3, none⟩ = false := (hat 0 (by decide)).2
      have d1 : wr.cell? ⟨B, k * 3 + 1, none⟩ = some (.int .i64 0) := (hat 1 (by decide)).1
      have f1 : wr.frozen? ⟨B, k * 3 + 1, none⟩ = false := (hat 1 (by decide)).2
      have d2 : wr.cell? ⟨B, k * 3 + 2, none⟩ = some (.string ByteArray.empty) := (hat 2 (by decide)).1
      have f2 : wr.frozen? ⟨B, k * 3 + 2, none⟩ = false := (hat 2 (by decide)).2
      clear hat
      go_wp2_with (go_at_call 45; refine (toSession_any _ _ _ _).mono ?_; rintro e w2 ⟨rfl, hb2⟩; have d0' := (hb2.cell (p := ⟨B, k * 3, none⟩) hgs).trans d0; have f0' := (hb2.frozen (p := ⟨B, k * 3, none⟩) hgs).trans f0; have d1' := (hb2.cell (p := ⟨B, k * 3 + 1, none⟩) hgs).trans d1; have f1' := (hb2.frozen (p := ⟨B, k * 3 + 1, none⟩) hgs).trans f1; have d2' := (hb2.cell (p := ⟨B, k * 3 + 2, none⟩) hgs).trans d2; have f2' := (hb2.frozen (p := ⟨B, k * 3 + 2, none⟩) hgs).trans f2)
      have R := se_put (HO.out.all hb2) f (filledR_at (l := l) (k := k) (by rw [← HN.out]; exact hlt))
      rw [filledR_set HF.out] at R
      clear d0 f0 d0' f0' d1 f1 d1' f1' d2 f2 d2' f2'
      go_roundw
      case rel => exact ⟨k + 1, by omega, by go_num, R, ((((hbel.trans (hb2.mono (by omega))).setCell (p := ⟨B, k * 3, none⟩) (Nat.le_refl _) _).setCell (p := ⟨B, k * 3 + 1, none⟩) (Nat.le_refl _) _).setCell (p := ⟨B, k * 3 + 2, none⟩) (Nat.le_refl _) _)⟩
      case measure => simp [intOf]; omega
    · have hkn : k = n := by omega
      have R : ownsR wr B 65 (.slice (some ⟨B, 0, none⟩) n n) l := by rw [hkn, HN.out, filledR_all] at hown; rw [HN.out]; exact hown
      clear hown
      go_wp2
      go_ret
      subst hB
      exact ⟨_, rfl, R, hbel⟩

set_option maxHeartbeats 400000 in
theorem eqSession_any (tok : Int) (last : Int) (reply : ByteArray) (w : World) :
    Calls Try.prog 52 #[.agg #[.int .i64 tok, .int .i64 last, .string reply], .agg #[.int .i64 tok, .int .i64 last, .string reply]] w fun e w' => e = .returned (.bool true) ∧ Below w.heap.size w w' := by
  go_enter Try.func52, Try.ntmps52
  go_wp2
  go_ret
  exact ⟨rfl, ba (ba (Below.refl _ _) _) _⟩

set_option maxRecDepth 8000 in
set_option maxHeartbeats 2000000 in
theorem eqSessionS_any (ao bo : Option Addr) (n c d : Nat) (l : List Se) (w : World) (ha : Reads w (.slice ao n c) l) (hb : Reads w (.slice bo n d) l) (hn : n ≤ 1048577) :
    Calls Try.prog 24 #[.slice ao n c, .slice bo n d] w fun e w' => e = .returned (.bool true) ∧ Below w.heap.size w w' := by
  have HN : Hid (n = l.length) := ha.len
  have HA : Hid (Reads w (.slice ao n c) l) := ha
  have HB : Hid (Reads w (.slice bo n d) l) := hb
  clear ha hb
  go_enter Try.func24, Try.ntmps24
  go_wp2
  go_loopw [5] (fun i wr => ∃ k : Nat, k ≤ n ∧ i = .int .i64 k ∧ Below w.heap.size w wr) (fun i _ => n - (intOf i).toNat)
  case atStart => exact ⟨0, Nat.zero_le _, rfl, Below.refl _ _⟩
  case round =>
    obtain ⟨k, hk, rfl, hbel⟩ := hrel
    by_cases hlt : k < n
    · obtain ⟨f, hf⟩ : ∃ f, l[k]? = some f := ⟨_, List.getElem?_eq_getElem (by rw [← HN.out]; exact hlt)⟩
      obtain ⟨a, oa, rfl, hga, a0, a1, a2⟩ := se_at (HA.out.below hbel) hf
      obtain ⟨b, ob, rfl, hgb, b0, b1, b2⟩ := se_at (HB.out.below hbel) hf
      clear hf
      go_wp2
      go_region_held (fun w' => w'.cell? ⟨a, oa + k * 3, none⟩ = some (.int .i64 f.tok) ∧ w'.cell? ⟨a, oa + k * 3 + 1, none⟩ = some (.int .i64 f.last) ∧ w'.cell? ⟨a, oa + k * 3 + 2, none⟩ = some (.string f.reply) ∧ w'.cell? ⟨b, ob + k * 3, none⟩ = some (.int .i64 f.tok) ∧ w'.cell? ⟨b, ob + k * 3 + 1, none⟩ = some (.int .i64 f.last) ∧ w'.cell? ⟨b, ob + k * 3 + 2, none⟩ = some (.string f.reply)) ((first | exact ⟨a0, a1, a2, b0, b1, b2⟩ | exact ⟨(hb2.cell hga).trans a0, (hb2.cell hga).trans a1, (hb2.cell hga).trans a2, (hb2.cell hgb).trans b0, (hb2.cell hgb).trans b1, (hb2.cell hgb).trans b2⟩)) ((go_at_call 52; refine (eqSession_any _ _ _ _).mono ?_; rintro e w2 ⟨rfl, hb2⟩))
      go_wp2
      go_roundw
      case rel => exact ⟨k + 1, by omega, by go_num, hbel.trans (((Below.refl _ _).drew.trans hb2).mono hbel.size)⟩
      case measure => simp [intOf]; omega
    · go_wp2
      go_ret
      exact ⟨rfl, hbel⟩

def mkSe (x : Int) : Se := ⟨x, x + 1, mkT (x + 1 + 1)⟩
def marksSe (x : Int) (n : Nat) : List Se := marksR mkSe 3 x n
theorem se_own {w : World} {B : Nat} {g n cap : Nat} {l : List Se} (h : ownsR w B 65 (.slice (some ⟨g, 0, none⟩) n cap) l) {i : Nat} {x : Se} (hi : l[i]? = some x) :
    g < w.heap.size ∧ (w.cell? ⟨g, i * 3, none⟩ = some (.int .i64 x.tok) ∧ w.cell? ⟨g, i * 3 + 1, none⟩ = some (.int .i64 x.last) ∧ w.cell? ⟨g, i * 3 + 2, none⟩ = some (.string x.reply)) ∧ w.frozen? ⟨g, i * 3, none⟩ = false ∧ w.frozen? ⟨g, i * 3 + 1, none⟩ = false ∧ w.frozen? ⟨g, i * 3 + 2, none⟩ = false := by
  obtain ⟨h1, _, _, h2⟩ := h.at hi
  exact ⟨h1, ⟨(h2 0 (by decide)).1, (h2 1 (by decide)).1, (h2 2 (by decide)).1⟩, (h2 0 (by decide)).2, (h2 1 (by decide)).2, (h2 2 (by decide)).2⟩

set_option maxHeartbeats 1000000 in
theorem markSessionS_none (ao : Option Addr) (c : Nat) (x : Int) (w : World) :
    Calls Try.prog 27 #[.slice ao 0 c, .int .i64 x] w fun e w' => e = .returned (.int .i64 x) ∧ Below w.heap.size w w' := by
  go_enter Try.func27, Try.ntmps27
  go_wp2
  refine wp_loop_rounds 1 ?_
  rw [rounds_succ]
  go_wp2
  go_ret
  exact ⟨rfl, Below.refl _ _⟩

set_option maxRecDepth 8000 in
set_option maxHeartbeats 4000000 in
theorem markSessionS_some (g n c B : Nat) (x : Int) (l : List Se) (w : World) (ho : ownsR w B 65 (.slice (some ⟨g, 0, none⟩) n c) l) (hn : n ≤ 1048577) (hx0 : 0 < x) (hx : x ≤ 100000000) :
    Calls Try.prog 27 #[.slice (some ⟨g, 0, none⟩) n c, .int .i64 x] w fun e w' => e = .returned (.int .i64 (x + 3 * (n : Int))) ∧ ownsR w' B 65 (.slice (some ⟨g, 0, none⟩) n c) (marksSe x n) ∧ w.grownBy w' (some g) := by
  have HN : Hid (n = l.length) := ho.reads.len
  have HO : Hid (ownsR w B 65 (.slice (some ⟨g, 0, none⟩) n c) l) := ho
  clear ho
  go_enter Try.func27, Try.ntmps27
  go_wp2
  go_loopw [1, 5] (fun q i wr => ∃ k : Nat, k ≤ n ∧ i = .int .i64 k ∧ q = .int .i64 (x + 3 * (k : Int)) ∧ Hid (ownsR wr B 65 (.slice (some ⟨g, 0, none⟩) n c) (markedR mkSe 3 x l k)) ∧ w.grownBy wr (some g)) (fun _ i _ => n - (intOf i).toNat)
  case atStart => exact ⟨0, Nat.zero_le _, rfl, by simp, markedR_zero HO, grown_refl _ _⟩
  case round =>
    obtain ⟨k, hk, rfl, rfl, HL, hbel⟩ := hrel
    by_cases hlt : k < n
    · obtain ⟨f, hf⟩ : ∃ f, l[k]? = some f := ⟨_, List.getElem?_eq_getElem (by rw [← HN.out]; exact hlt)⟩
      have HF : Hid (l[k]? = some f) := hf
      clear hf
      obtain ⟨hg0, ⟨d0_0, d0_1, d0_2⟩, f0_0, f0_1, f0_2⟩ := se_own HL.out (markedR_at HF.out)
      clear d0_2 f0_2
      have P0 : Hid (ownsR (wr.setCell ⟨g, k * 3, none⟩ (.int .i64 (x + 3 * (k : Int)))) B 65 (.slice (some ⟨g, 0, none⟩) n c) ((markedR mkSe 3 x l k).set k { f with tok := x + 3 * (k : Int) })) := by
        have := HL.out.put (j := 0) (u := .int .i64 (x + 3 * (k : Int))) { f with tok := x + 3 * (k : Int) } (markedR_at HF.out) (by decide) rfl
        exact this
      have at0 : ((markedR mkSe 3 x l k).set k { f with tok := x + 3 * (k : Int) })[k]? = some { f with tok := x + 3 * (k : Int) } := List.getElem?_set_self (by rw [markedR_length (by rw [← HN.out]; omega), ← HN.out]; exact hlt)
      have P1 : Hid (ownsR ((wr.setCell ⟨g, k * 3, none⟩ (.int .i64 (x + 3 * (k : Int)))).setCell ⟨g, k * 3 + 1, none⟩ (.int .i64 (x + 3 * (k : Int) + 1))) B 65 (.slice (some ⟨g, 0, none⟩) n c) ((markedR mkSe 3 x l k).set k { f with tok := x + 3 * (k : Int), last := x + 3 * (k : Int) + 1 })) := by
        have := P0.out.put (j := 1) (u := .int .i64 (x + 3 * (k : Int) + 1)) { f with tok := x + 3 * (k : Int), last := x + 3 * (k : Int) + 1 } at0 (by decide) rfl
        rw [List.set_set] at this
        exact this
      have at1 : ((markedR mkSe 3 x l k).set k { f with tok := x + 3 * (k : Int), last := x + 3 * (k : Int) + 1 })[k]? = some { f with tok := x + 3 * (k : Int), last := x + 3 * (k : Int) + 1 } := List.getElem?_set_self (by rw [markedR_length (by rw [← HN.out]; omega), ← HN.out]; exact hlt)
      go_wp2_with fail
      refine (markText_int _ _ (by omega) (by omega)).mono ?_
      rintro e w1 ⟨rfl, hb1⟩
      have O1 : Hid (ownsR w1 B 65 (.slice (some ⟨g, 0, none⟩) n c) ((markedR mkSe 3 x l k).set k { f with tok := x + 3 * (k : Int), last := x + 3 * (k : Int) + 1 })) := P1.out.all hb1
      obtain ⟨hg1, ⟨d1_0, d1_1, d1_2⟩, f1_0, f1_1, f1_2⟩ := se_own O1.out at1
      clear d1_0 f1_0 d1_1 f1_1
      have P2 : Hid (ownsR (w1.setCell ⟨g, k * 3 + 2, none⟩ (.string (mkT (x + 3 * (k : Int) + 1 + 1)))) B 65 (.slice (some ⟨g, 0, none⟩) n c) (markedR mkSe 3 x l (k + 1))) := by
        have := O1.out.put (j := 2) (u := .string (mkT (x + 3 * (k : Int) + 1 + 1))) (mkSe (x + 3 * (k : Int))) at1 (by decide) rfl
        rw [List.set_set, markedR_set HF.out] at this
        exact this
      have BG : w.grownBy (w1.setCell ⟨g, k * 3 + 2, none⟩ (.string (mkT (x + 3 * (k : Int) + 1 + 1)))) (some g) := (grown_trans (grown_trans (grown_trans (grown_trans hbel (grown_set _ _ _ _)) (grown_set _ _ _ _)) (grown_of_below hb1 _)) (grown_set _ _ _ _))
      clear hbel
      go_wp2
      go_roundw
      case rel => exact ⟨k + 1, by omega, by go_num, by go_num, P2, BG⟩
      case measure => simp [intOf]; omega
    · have hkn : k = n := by omega
      have R : ownsR wr B 65 (.slice (some ⟨g, 0, none⟩) n c) (marksSe x n) := by
        have h := HL.out
        have e := markedR_all mkSe 3 x l
        rw [← HN.out] at e
        rw [hkn, e] at h
        exact h
      subst hkn
      go_wp2
      go_ret
      exact ⟨rfl, R, hbel⟩
theorem markSessionS_any {w : World} {B : Nat} {x : Int} {v : Value} {l : List Se} (ho : ownsR w B 65 v l) (hn : l.length ≤ 1048577) (hx0 : 0 < x) (hx : x ≤ 100000000) :
    Calls Try.prog 27 #[v, .int .i64 x] w fun e w' => e = .returned (.int .i64 (x + 3 * (l.length : Int))) ∧ ownsR w' B 65 v (marksSe x l.length) ∧ w.grownBy w' v.ownBlock := by
  have ho2 := ho
  rcases ho.2 with ⟨rfl, h0⟩ | ⟨g, cap, cur, rfl, _⟩
  · have hl : l = [] := List.eq_nil_of_length_eq_zero h0
    subst hl
    exact (markSessionS_none none 0 x w).mono fun e w' ⟨he, h⟩ => ⟨by simpa using he, ownsR_nil _ _ _, grown_of_below h _⟩
  · exact markSessionS_some g l.length cap B x l w ho2 hn hx0 hx

theorem marksSe_at {x : Int} {n j : Nat} (h : j < n) : (marksSe x n)[j]? = some (mkSe (x + 3 * (j : Int))) := marksR_at h
theorem marksSe_length (x : Int) (n : Nat) : (marksSe x n).length = n := marksR_length x n
set_option maxHeartbeats 4000000 in
theorem heldSessionS_any (ao : Option Addr) (n c : Nat) (x : Int) (w : World) (hr : Reads w (.slice ao n c) (marksSe x n)) (hn : n ≤ 1048577) (hx0 : 0 < x) (hx : x ≤ 100000000) :
    Calls Try.prog 30 #[.slice ao n c, .int .i64 x] w fun e w' => e = .returned (.int .i64 (x + 3 * (n : Int))) ∧ Below w.heap.size w w' := by
  have HR : Hid (Reads w (.slice ao n c) (marksSe x n)) := hr
  clear hr
  go_enter Try.func30, Try.ntmps30
  go_wp2
  go_loopw [1, 5] (fun q i wr => ∃ k : Nat, k ≤ n ∧ i = .int .i64 k ∧ q = .int .i64 (x + 3 * (k : Int)) ∧ Below w.heap.size w wr) (fun _ i _ => n - (intOf i).toNat)
  case atStart => exact ⟨0, Nat.zero_le _, rfl, by simp, Below.refl _ _⟩
  case round =>
    obtain ⟨k, hk, rfl, rfl, hbel⟩ := hrel
    have hsz := hbel.size
    by_cases hlt : k < n
    · obtain ⟨b, o, rfl, hb, c0, c1, c2⟩ := se_at (HR.out.below hbel) (marksSe_at (x := x) hlt)
      replace c0 : wr.cell? ⟨b, o + k * 3, none⟩ = some (.int .i64 (x + 3 * (k : Int))) := c0
      replace c1 : wr.cell? ⟨b, o + k * 3 + 1, none⟩ = some (.int .i64 (x + 3 * (k : Int) + 1)) := c1
      replace c2 : wr.cell? ⟨b, o + k * 3 + 2, none⟩ = some (.string (mkT (x + 3 * (k : Int) + 1 + 1))) := c2
      have q2 := Wd.cell c2
      go_wp2
      refine wp_region_wd (by kernel_rfl) (by kernel_rfl) ?_
      repeat (go_big_quiet_step ((go_at_call 55; refine calls_wd (v := .string (mkT (x + 3 * (k : Int) + 1 + 1))) ?_; exact markText_int (x + 3 * (k : Int) + 1 + 1) _ (by omega) (by omega))))
      refine wpQuiet_nil ?_
      rintro _ ⟨x1, rfl⟩
      go_wp2
      go_roundw
      case rel => exact ⟨k + 1, by omega, by go_num, by go_num, (hbel.trans (x1.ok.mono hsz))⟩
      case measure => simp [intOf]; omega
    · have hkn : k = n := by omega
      subst hkn
      go_wp2
      go_ret
      exact ⟨rfl, hbel⟩

end Go.Proofs.Ytkfhmeiiicidaaa
