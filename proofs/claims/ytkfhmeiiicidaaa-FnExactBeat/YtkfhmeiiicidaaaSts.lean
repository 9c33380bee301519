/-
  Rows of records of one kind (State): sizes, copies, held against each other, marked: the walks of the law's helpers.
-/
import Derived.Test.YtkfhmeiiicidaaaGn
import Derived.Test.YtkfhmeiiicidaaaMt
import Derived.Test.YtkfhmeiiicidaaaRn0
namespace Go.Proofs.Ytkfhmeiiicidaaa
open Go Go.RowKit

instance : Rec Sa := ⟨4, fun a => [.int .i64 a.is, .int .i64 a.tries, .int .i64 a.tok, .int .i64 a.til], fun _ => rfl, by decide⟩
theorem sa_width : Rec.width Sa = 4 := rfl
theorem sa_at {w : World} {ao : Option Addr} {n cap : Nat} {l : List Sa} (h : Reads w (.slice ao n cap) l) {k : Nat} {f : Sa} (hk : l[k]? = some f) :
    ∃ b o, ao = some ⟨b, o, none⟩ ∧ b < w.heap.size ∧ w.cell? ⟨b, o + k * 4, none⟩ = some (.int .i64 f.is) ∧ w.cell? ⟨b, o + k * 4 + 1, none⟩ = some (.int .i64 f.tries) ∧ w.cell? ⟨b, o + k * 4 + 2, none⟩ = some (.int .i64 f.tok) ∧ w.cell? ⟨b, o + k * 4 + 3, none⟩ = some (.int .i64 f.til) := by
  obtain ⟨b, o, rfl, hlt, hc⟩ := h.at hk
  exact ⟨b, o, rfl, hlt, hc 0 _ rfl, hc 1 _ rfl, hc 2 _ rfl, hc 3 _ rfl⟩
theorem infoSa : (Try.prog.info? 47).map (fun i => (i.zero, i.size, i.bytes)) = some (some (.agg #[.int .i64 0, .int .i64 0, .int .i64 0, .int .i64 0]), 4, 32) := by kernel_rfl
theorem underSa : Try.prog.underlying 50 = some (.slice 47) := by kernel_rfl
theorem madeSa (n : Nat) : (madeCells (Value.cells (.agg #[.int .i64 0, .int .i64 0, .int .i64 0, .int .i64 0])) (n * 4)).toList = (List.replicate n (default : Sa)).flatMap Rec.cells := by
  apply List.ext_getElem?
  intro m
  have hm := Nat.div_add_mod m 4
  have h3 : m % 4 < 4 := Nat.mod_lt _ (by decide)
  have e := flat_at (List.replicate n (default : Sa)) (m / 4) (m % 4) h3
  rw [sa_width, show m / 4 * 4 + m % 4 = m by omega] at e
  rw [e]
  simp only [madeCells, Value.cells, Array.toList_map, Array.toList_range, List.getElem?_map, List.getElem?_replicate]
  by_cases hlt : m / 4 < n
  · rw [if_pos hlt, List.getElem?_range (by omega)]
    match hx : m % 4, h3 with
    | 0, _ => simp [hx]; rfl
    | 1, _ => simp [hx]; rfl
    | 2, _ => simp [hx]; rfl
    | 3, _ => simp [hx]; rfl
  · rw [if_neg hlt, List.getElem?_eq_none (by simp; omega)]
    rfl

set_option maxHeartbeats 400000 in
theorem toState_any (is : Int) (tries : Int) (tok : Int) (til : Int) (w : World) :
    Calls Try.prog 81 #[.agg #[.int .i64 is, .int .i64 tries, .int .i64 tok, .int .i64 til]] w fun e w' => e = .returned (.agg #[.int .i64 is, .int .i64 tries, .int .i64 tok, .int .i64 til]) ∧ Below w.heap.size w w' := by
  go_enter Try.func81, Try.ntmps81
  go_wp2
  go_returns
  exact ⟨rfl, ba (ba (ba (Below.refl _ _) _) _) _⟩

theorem sa_put {w : World} {B : Nat} {g n cap : Nat} {l : List Sa} (h : ownsR w B 47 (.slice (some ⟨g, 0, none⟩) n cap) l) {i : Nat} {y : Sa} (f : Sa) (hi : l[i]? = some y) :
    ownsR ((((w.setCell ⟨g, i * 4, none⟩ (.int .i64 f.is)).setCell ⟨g, i * 4 + 1, none⟩ (.int .i64 f.tries)).setCell ⟨g, i * 4 + 2, none⟩ (.int .i64 f.tok)).setCell ⟨g, i * 4 + 3, none⟩ (.int .i64 f.til)) B 47 (.slice (some ⟨g, 0, none⟩) n cap) (l.set i f) := by
  have hil : i < l.length := (List.getElem?_eq_some_iff.1 hi).1
  have h1 := h.put (j := 0) (u := .int .i64 f.is) { y with is := f.is } hi (by decide) rfl
  have h2 := h1.put (i := i) (j := 1) (u := .int .i64 f.tries) { y with is := f.is, tries := f.tries } (List.getElem?_set_self (by simpa using hil)) (by decide) rfl
  have h3 := h2.put (i := i) (j := 2) (u := .int .i64 f.tok) { y with is := f.is, tries := f.tries, tok := f.tok } (List.getElem?_set_self (by simpa using hil)) (by decide) rfl
  have h4 := h3.put (i := i) (j := 3) (u := .int .i64 f.til) f (List.getElem?_set_self (by simpa using hil)) (by decide) rfl
  simpa only [sa_width, Nat.add_zero, List.set_set] using h4

set_option maxRecDepth 8000 in
set_option maxHeartbeats 1000000 in
theorem toStateS_any (ao : Option Addr) (n cap : Nat) (l : List Sa) (w : World) (hr : Reads w (.slice ao n cap) l) (hn : n ≤ 1048576) :
    Calls Try.prog 67 #[.slice ao n cap] w fun e w' => ∃ v, e = .returned v ∧ ownsR w' w.heap.size 47 v l ∧ Below w.heap.size w w' := by
  obtain ⟨i0, hi0, hz0, hz1, hz2⟩ := info_parts infoSa
  have hnl := hr.len
  have HR : Hid (Reads w (.slice ao n cap) l) := hr
  have HN : Hid (n = l.length) := hnl
  clear hr hnl
  go_enter Try.func67, Try.ntmps67
  go_wp2_with (at_make; refine wpList_make_full _ rfl _ _ 50 rfl w.heap.size 47 i0 _ 4 underSa hi0 hz0 hz1 .i64 .i64 _ _ n rfl rfl rfl rfl (by rw [hz2]; omega) (by unfold maxLen; omega) (Nat.le_refl _) ?_; intro w1 ho hg)
  rw [madeSa, HN.out, ← filledR_none, ← HN.out] at ho
  have ho : ownsR w1 w.heap.size 47 (.slice (some ⟨w.heap.size, 0, none⟩) n n) (filledR l 0) := by unfold ownsR; rw [filledR_length (Nat.zero_le _), ← HN.out]; exact ho
  have hbel1 : Below w.heap.size w w1 := (Below.refl _ w).grown hg (Nat.le_refl _) (fun j hj => by cases hj)
  generalize hB : w.heap.size = B at *
  go_loopw [4] (fun i wr => ∃ k : Nat, k ≤ n ∧ i = .int .i64 k ∧ ownsR wr B 47 (.slice (some ⟨B, 0, none⟩) n n) (filledR l k) ∧ Below B w wr) (fun i _ => n - (intOf i).toNat)
  case atStart => exact ⟨0, Nat.zero_le _, rfl, ho, hbel1⟩
  case round =>
    obtain ⟨k, hk, rfl, hown, hbel⟩ := hrel
    clear ho hbel1
    by_cases hlt : k < n
    · obtain ⟨f, hf⟩ : ∃ f, l[k]? = some f := ⟨_, List.getElem?_eq_getElem (by rw [← HN.out]; exact hlt)⟩
      have HF : Hid (l[k]? = some f) := hf
      obtain ⟨b, o, rfl, hb, c0, c1, c2, c3⟩ := sa_at (HR.out.below (hB ▸ hbel)) hf
      clear hf
      have HO : Hid (ownsR wr B 47 (.slice (some ⟨B, 0, none⟩) n n) (filledR l k)) := hown
      clear hown
      obtain ⟨hgs, -, -, hat⟩ := HO.out.at (filledR_at (l := l) (k := k) (by rw [← HN.out]; exact hlt))
      have d0 : wr.cell? ⟨B, k * 4, none⟩ = some (.int .i64 0) := (hat 0 (by decide)).1
      have f0 : wr.frozen? ⟨B, k * 4, none⟩ = false := (hat 0 (by decide)).2
      have d1 : wr.cell? ⟨B, k * 4 + 1, none⟩ = some (.int .i64 0) := (hat 1 (by decide)).1
      have f1 : wr.frozen? ⟨B, k * 4 + 1, none⟩ = false := (hat 1 (by decide)).2
      have d2 : wr.cell? ⟨B, k * 4 + 2, none⟩ = some (.int .i64 0) := (hat 2 (by decide)).1
      have f2 : wr.frozen? ⟨B, k * 4 + 2, none⟩ = false := (hat 2 (by decide)).2
      have d3 : wr.cell? ⟨B, k * 4 + 3, none⟩ = some (.int .i64 0) := (hat 3 (by decide)).1
      have f3 : wr.frozen? ⟨B, k * 4 + 3, none⟩ = false := (hat 3 (by decide)).2
      clear hat
      go_wp2_with (go_at_call 81; refine (toState_any _ _ _ _ _).mono ?_; rintro e w2 ⟨rfl, hb2⟩; have d0' := (hb2.cell (p := ⟨B, k * 4, none⟩) hgs).trans d0; have f0' := (hb2.frozen (p := ⟨B, k * 4, none⟩) hgs).trans f0; have d1' := (hb2.cell (p := ⟨B, k * 4 + 1, none⟩) hgs).trans d1; have f1' := (hb2.frozen (p := ⟨B, k * 4 + 1, none⟩) hgs).trans f1; have d2' := (hb2.cell (p := ⟨B, k * 4 + 2, none⟩) hgs).trans d2; have f2' := (hb2.frozen (p := ⟨B, k * 4 + 2, none⟩) hgs).trans f2; have d3' := (hb2.cell (p := ⟨B, k * 4 + 3, none⟩) hgs).trans d3; have f3' := (hb2.frozen (p := ⟨B, k * 4 + 3, none⟩) hgs).trans f3)
      have R := sa_put (HO.out.all hb2) f (filledR_at (l := l) (k := k) (by rw [← HN.out]; exact hlt))
      rw [filledR_set HF.out] at R
      clear d0 f0 d0' f0' d1 f1 d1' f1' d2 f2 d2' f2' d3 f3 d3' f3'
      go_roundw
      case rel => exact ⟨k + 1, by omega, by go_num, R, (((((hbel.trans (hb2.mono (by omega))).setCell (p := ⟨B, k * 4, none⟩) (Nat.le_refl _) _).setCell (p := ⟨B, k * 4 + 1, none⟩) (Nat.le_refl _) _).setCell (p := ⟨B, k * 4 + 2, none⟩) (Nat.le_refl _) _).setCell (p := ⟨B, k * 4 + 3, none⟩) (Nat.le_refl _) _)⟩
      case measure => simp [intOf]; omega
    · have hkn : k = n := by omega
      have R : ownsR wr B 47 (.slice (some ⟨B, 0, none⟩) n n) l := by rw [hkn, HN.out, filledR_all] at hown; rw [HN.out]; exact hown
      clear hown
      go_wp2
      go_ret
      subst hB
      exact ⟨_, rfl, R, hbel⟩

set_option maxHeartbeats 400000 in
theorem eqState_any (is : Int) (tries : Int) (tok : Int) (til : Int) (w : World) :
    Calls Try.prog 84 #[.agg #[.int .i64 is, .int .i64 tries, .int .i64 tok, .int .i64 til], .agg #[.int .i64 is, .int .i64 tries, .int .i64 tok, .int .i64 til]] w fun e w' => e = .returned (.bool true) ∧ Below w.heap.size w w' := by
  go_enter Try.func84, Try.ntmps84
  go_wp2
  go_ret
  exact ⟨rfl, ba (ba (Below.refl _ _) _) _⟩

set_option maxRecDepth 8000 in
set_option maxHeartbeats 2000000 in
theorem eqStateS_any (ao bo : Option Addr) (n c d : Nat) (l : List Sa) (w : World) (ha : Reads w (.slice ao n c) l) (hb : Reads w (.slice bo n d) l) (hn : n ≤ 1048577) :
    Calls Try.prog 74 #[.slice ao n c, .slice bo n d] w fun e w' => e = .returned (.bool true) ∧ Below w.heap.size w w' := by
  have HN : Hid (n = l.length) := ha.len
  have HA : Hid (Reads w (.slice ao n c) l) := ha
  have HB : Hid (Reads w (.slice bo n d) l) := hb
  clear ha hb
  go_enter Try.func74, Try.ntmps74
  go_wp2
  go_loopw [5] (fun i wr => ∃ k : Nat, k ≤ n ∧ i = .int .i64 k ∧ Below w.heap.size w wr) (fun i _ => n - (intOf i).toNat)
  case atStart => exact ⟨0, Nat.zero_le _, rfl, Below.refl _ _⟩
  case round =>
    obtain ⟨k, hk, rfl, hbel⟩ := hrel
    by_cases hlt : k < n
    · obtain ⟨f, hf⟩ : ∃ f, l[k]? = some f := ⟨_, List.getElem?_eq_getElem (by rw [← HN.out]; exact hlt)⟩
      obtain ⟨a, oa, rfl, hga, a0, a1, a2, a3⟩ := sa_at (HA.out.below hbel) hf
      obtain ⟨b, ob, rfl, hgb, b0, b1, b2, b3⟩ := sa_at (HB.out.below hbel) hf
      clear hf
      go_wp2
      go_region_held (fun w' => w'.cell? ⟨a, oa + k * 4, none⟩ = some (.int .i64 f.is) ∧ w'.cell? ⟨a, oa + k * 4 + 1, none⟩ = some (.int .i64 f.tries) ∧ w'.cell? ⟨a, oa + k * 4 + 2, none⟩ = some (.int .i64 f.tok) ∧ w'.cell? ⟨a, oa + k * 4 + 3, none⟩ = some (.int .i64 f.til) ∧ w'.cell? ⟨b, ob + k * 4, none⟩ = some (.int .i64 f.is) ∧ w'.cell? ⟨b, ob + k * 4 + 1, none⟩ = some (.int .i64 f.tries) ∧ w'.cell? ⟨b, ob + k * 4 + 2, none⟩ = some (.int .i64 f.tok) ∧ w'.cell? ⟨b, ob + k * 4 + 3, none⟩ = some (.int .i64 f.til)) ((first | exact ⟨a0, a1, a2, a3, b0, b1, b2, b3⟩ | exact ⟨(hb2.cell hga).trans a0, (hb2.cell hga).trans a1, (hb2.cell hga).trans a2, (hb2.cell hga).trans a3, (hb2.cell hgb).trans b0, (hb2.cell hgb).trans b1, (hb2.cell hgb).trans b2, (hb2.cell hgb).trans b3⟩)) ((go_at_call 84; refine (eqState_any _ _ _ _ _).mono ?_; rintro e w2 ⟨rfl, hb2⟩))
      go_wp2
      go_roundw
      case rel => exact ⟨k + 1, by omega, by go_num, hbel.trans (((Below.refl _ _).drew.trans hb2).mono hbel.size)⟩
      case measure => simp [intOf]; omega
    · go_wp2
      go_ret
      exact ⟨rfl, hbel⟩

def mkSa (x : Int) : Sa := ⟨x, x + 1, x + 1 + 1, x + 1 + 1 + 1⟩
def marksSa (x : Int) (n : Nat) : List Sa := marksR mkSa 4 x n
theorem sa_own {w : World} {B : Nat} {g n cap : Nat} {l : List Sa} (h : ownsR w B 47 (.slice (some ⟨g, 0, none⟩) n cap) l) {i : Nat} {x : Sa} (hi : l[i]? = some x) :
    g < w.heap.size ∧ (w.cell? ⟨g, i * 4, none⟩ = some (.int .i64 x.is) ∧ w.cell? ⟨g, i * 4 + 1, none⟩ = some (.int .i64 x.tries) ∧ w.cell? ⟨g, i * 4 + 2, none⟩ = some (.int .i64 x.tok) ∧ w.cell? ⟨g, i * 4 + 3, none⟩ = some (.int .i64 x.til)) ∧ w.frozen? ⟨g, i * 4, none⟩ = false ∧ w.frozen? ⟨g, i * 4 + 1, none⟩ = false ∧ w.frozen? ⟨g, i * 4 + 2, none⟩ = false ∧ w.frozen? ⟨g, i * 4 + 3, none⟩ = false := by
  obtain ⟨h1, _, _, h2⟩ := h.at hi
  exact ⟨h1, ⟨(h2 0 (by decide)).1, (h2 1 (by decide)).1, (h2 2 (by decide)).1, (h2 3 (by decide)).1⟩, (h2 0 (by decide)).2, (h2 1 (by decide)).2, (h2 2 (by decide)).2, (h2 3 (by decide)).2⟩

set_option maxHeartbeats 1000000 in
theorem markStateS_none (ao : Option Addr) (c : Nat) (x : Int) (w : World) :
    Calls Try.prog 57 #[.slice ao 0 c, .int .i64 x] w fun e w' => e = .returned (.int .i64 x) ∧ Below w.heap.size w w' := by
  go_enter Try.func57, Try.ntmps57
  go_wp2
  refine wp_loop_rounds 1 ?_
  rw [rounds_succ]
  go_wp2
  go_ret
  exact ⟨rfl, Below.refl _ _⟩

set_option maxRecDepth 8000 in
set_option maxHeartbeats 4000000 in
theorem markStateS_some (g n c B : Nat) (x : Int) (l : List Sa) (w : World) (ho : ownsR w B 47 (.slice (some ⟨g, 0, none⟩) n c) l) (hn : n ≤ 1048577) (hx0 : 0 < x) (hx : x ≤ 4000000000000000000) :
    Calls Try.prog 57 #[.slice (some ⟨g, 0, none⟩) n c, .int .i64 x] w fun e w' => e = .returned (.int .i64 (x + 4 * (n : Int))) ∧ ownsR w' B 47 (.slice (some ⟨g, 0, none⟩) n c) (marksSa x n) ∧ w.grownBy w' (some g) := by
  have HN : Hid (n = l.length) := ho.reads.len
  have HO : Hid (ownsR w B 47 (.slice (some ⟨g, 0, none⟩) n c) l) := ho
  clear ho
  go_enter Try.func57, Try.ntmps57
  go_wp2
  go_loopw [1, 5] (fun q i wr => ∃ k : Nat, k ≤ n ∧ i = .int .i64 k ∧ q = .int .i64 (x + 4 * (k : Int)) ∧ Hid (ownsR wr B 47 (.slice (some ⟨g, 0, none⟩) n c) (markedR mkSa 4 x l k)) ∧ w.grownBy wr (some g)) (fun _ i _ => n - (intOf i).toNat)
  case atStart => exact ⟨0, Nat.zero_le _, rfl, by simp, markedR_zero HO, grown_refl _ _⟩
  case round =>
    obtain ⟨k, hk, rfl, rfl, HL, hbel⟩ := hrel
    by_cases hlt : k < n
    · obtain ⟨f, hf⟩ : ∃ f, l[k]? = some f := ⟨_, List.getElem?_eq_getElem (by rw [← HN.out]; exact hlt)⟩
      have HF : Hid (l[k]? = some f) := hf
      clear hf
      obtain ⟨hg0, ⟨d0_0, d0_1, d0_2, d0_3⟩, f0_0, f0_1, f0_2, f0_3⟩ := sa_own HL.out (markedR_at HF.out)
      have P0 : Hid (ownsR (wr.setCell ⟨g, k * 4, none⟩ (.int .i64 (x + 4 * (k : Int)))) B 47 (.slice (some ⟨g, 0, none⟩) n c) ((markedR mkSa 4 x l k).set k { f with is := x + 4 * (k : Int) })) := by
        have := HL.out.put (j := 0) (u := .int .i64 (x + 4 * (k : Int))) { f with is := x + 4 * (k : Int) } (markedR_at HF.out) (by decide) rfl
        exact this
      have at0 : ((markedR mkSa 4 x l k).set k { f with is := x + 4 * (k : Int) })[k]? = some { f with is := x + 4 * (k : Int) } := List.getElem?_set_self (by rw [markedR_length (by rw [← HN.out]; omega), ← HN.out]; exact hlt)
      have P1 : Hid (ownsR ((wr.setCell ⟨g, k * 4, none⟩ (.int .i64 (x + 4 * (k : Int)))).setCell ⟨g, k * 4 + 1, none⟩ (.int .i64 (x + 4 * (k : Int) + 1))) B 47 (.slice (some ⟨g, 0, none⟩) n c) ((markedR mkSa 4 x l k).set k { f with is := x + 4 * (k : Int), tries := x + 4 * (k : Int) + 1 })) := by
        have := P0.out.put (j := 1) (u := .int .i64 (x + 4 * (k : Int) + 1)) { f with is := x + 4 * (k : Int), tries := x + 4 * (k : Int) + 1 } at0 (by decide) rfl
        rw [List.set_set] at this
        exact this
      have at1 : ((markedR mkSa 4 x l k).set k { f with is := x + 4 * (k : Int), tries := x + 4 * (k : Int) + 1 })[k]? = some { f with is := x + 4 * (k : Int), tries := x + 4 * (k : Int) + 1 } := List.getElem?_set_self (by rw [markedR_length (by rw [← HN.out]; omega), ← HN.out]; exact hlt)
      have P2 : Hid (ownsR (((wr.setCell ⟨g, k * 4, none⟩ (.int .i64 (x + 4 * (k : Int)))).setCell ⟨g, k * 4 + 1, none⟩ (.int .i64 (x + 4 * (k : Int) + 1))).setCell ⟨g, k * 4 + 2, none⟩ (.int .i64 (x + 4 * (k : Int) + 1 + 1))) B 47 (.slice (some ⟨g, 0, none⟩) n c) ((markedR mkSa 4 x l k).set k { f with is := x + 4 * (k : Int), tries := x + 4 * (k : Int) + 1, tok := x + 4 * (k : Int) + 1 + 1 })) := by
        have := P1.out.put (j := 2) (u := .int .i64 (x + 4 * (k : Int) + 1 + 1)) { f with is := x + 4 * (k : Int), tries := x + 4 * (k : Int) + 1, tok := x + 4 * (k : Int) + 1 + 1 } at1 (by decide) rfl
        rw [List.set_set] at this
        exact this
      have at2 : ((markedR mkSa 4 x l k).set k { f with is := x + 4 * (k : Int), tries := x + 4 * (k : Int) + 1, tok := x + 4 * (k : Int) + 1 + 1 })[k]? = some { f with is := x + 4 * (k : Int), tries := x + 4 * (k : Int) + 1, tok := x + 4 * (k : Int) + 1 + 1 } := List.getElem?_set_self (by rw [markedR_length (by rw [← HN.out]; omega), ← HN.out]; exact hlt)
      have P3 : Hid (ownsR ((((wr.setCell ⟨g, k * 4, none⟩ (.int .i64 (x + 4 * (k : Int)))).setCell ⟨g, k * 4 + 1, none⟩ (.int .i64 (x + 4 * (k : Int) + 1))).setCell ⟨g, k * 4 + 2, none⟩ (.int .i64 (x + 4 * (k : Int) + 1 + 1))).setCell ⟨g, k * 4 + 3, none⟩ (.int .i64 (x + 4 * (k : Int) + 1 + 1 + 1))) B 47 (.slice (some ⟨g, 0, none⟩) n c) (markedR mkSa 4 x l (k + 1))) := by
        have := P2.out.put (j := 3) (u := .int .i64 (x + 4 * (k : Int) + 1 + 1 + 1)) (mkSa (x + 4 * (k : Int))) at2 (by decide) rfl
        rw [List.set_set, markedR_set HF.out] at this
        exact this
      have BG : w.grownBy ((((wr.setCell ⟨g, k * 4, none⟩ (.int .i64 (x + 4 * (k : Int)))).setCell ⟨g, k * 4 + 1, none⟩ (.int .i64 (x + 4 * (k : Int) + 1))).setCell ⟨g, k * 4 + 2, none⟩ (.int .i64 (x + 4 * (k : Int) + 1 + 1))).setCell ⟨g, k * 4 + 3, none⟩ (.int .i64 (x + 4 * (k : Int) + 1 + 1 + 1))) (some g) := (grown_trans (grown_trans (grown_trans (grown_trans hbel (grown_set _ _ _ _)) (grown_set _ _ _ _)) (grown_set _ _ _ _)) (grown_set _ _ _ _))
      clear hbel
      go_wp2
      go_roundw
      case rel => exact ⟨k + 1, by omega, by go_num, by go_num, P3, BG⟩
      case measure => simp [intOf]; omega
    · have hkn : k = n := by omega
      have R : ownsR wr B 47 (.slice (some ⟨g, 0, none⟩) n c) (marksSa x n) := by
        have h := HL.out
        have e := markedR_all mkSa 4 x l
        rw [← HN.out] at e
        rw [hkn, e] at h
        exact h
      subst hkn
      go_wp2
      go_ret
      exact ⟨rfl, R, hbel⟩
theorem markStateS_any {w : World} {B : Nat} {x : Int} {v : Value} {l : List Sa} (ho : ownsR w B 47 v l) (hn : l.length ≤ 1048577) (hx0 : 0 < x) (hx : x ≤ 4000000000000000000) :
    Calls Try.prog 57 #[v, .int .i64 x] w fun e w' => e = .returned (.int .i64 (x + 4 * (l.length : Int))) ∧ ownsR w' B 47 v (marksSa x l.length) ∧ w.grownBy w' v.ownBlock := by
  have ho2 := ho
  rcases ho.2 with ⟨rfl, h0⟩ | ⟨g, cap, cur, rfl, _⟩
  · have hl : l = [] := List.eq_nil_of_length_eq_zero h0
    subst hl
    exact (markStateS_none none 0 x w).mono fun e w' ⟨he, h⟩ => ⟨by simpa using he, ownsR_nil _ _ _, grown_of_below h _⟩
  · exact markStateS_some g l.length cap B x l w ho2 hn hx0 hx

theorem marksSa_at {x : Int} {n j : Nat} (h : j < n) : (marksSa x n)[j]? = some (mkSa (x + 4 * (j : Int))) := marksR_at h
theorem marksSa_length (x : Int) (n : Nat) : (marksSa x n).length = n := marksR_length x n
set_option maxHeartbeats 4000000 in
theorem heldStateS_any (ao : Option Addr) (n c : Nat) (x : Int) (w : World) (hr : Reads w (.slice ao n c) (marksSa x n)) (hn : n ≤ 1048577) (hx0 : 0 < x) (hx : x ≤ 4000000000000000000) :
    Calls Try.prog 59 #[.slice ao n c, .int .i64 x] w fun e w' => e = .returned (.int .i64 (x + 4 * (n : Int))) ∧ Below w.heap.size w w' := by
  have HR : Hid (Reads w (.slice ao n c) (marksSa x n)) := hr
  clear hr
  go_enter Try.func59, Try.ntmps59
  go_wp2
  go_loopw [1, 5] (fun q i wr => ∃ k : Nat, k ≤ n ∧ i = .int .i64 k ∧ q = .int .i64 (x + 4 * (k : Int)) ∧ Below w.heap.size w wr) (fun _ i _ => n - (intOf i).toNat)
  case atStart => exact ⟨0, Nat.zero_le _, rfl, by simp, Below.refl _ _⟩
  case round =>
    obtain ⟨k, hk, rfl, rfl, hbel⟩ := hrel
    have hsz := hbel.size
    by_cases hlt : k < n
    · obtain ⟨b, o, rfl, hb, c0, c1, c2, c3⟩ := sa_at (HR.out.below hbel) (marksSa_at (x := x) hlt)
      replace c0 : wr.cell? ⟨b, o + k * 4, none⟩ = some (.int .i64 (x + 4 * (k : Int))) := c0
      replace c1 : wr.cell? ⟨b, o + k * 4 + 1, none⟩ = some (.int .i64 (x + 4 * (k : Int) + 1)) := c1
      replace c2 : wr.cell? ⟨b, o + k * 4 + 2, none⟩ = some (.int .i64 (x + 4 * (k : Int) + 1 + 1)) := c2
      replace c3 : wr.cell? ⟨b, o + k * 4 + 3, none⟩ = some (.int .i64 (x + 4 * (k : Int) + 1 + 1 + 1)) := c3
      go_wp2
      go_roundw
      case rel => exact ⟨k + 1, by omega, by go_num, by go_num, hbel⟩
      case measure => simp [intOf]; omega
    · have hkn : k = n := by omega
      subst hkn
      go_wp2
      go_ret
      exact ⟨rfl, hbel⟩

end Go.Proofs.Ytkfhmeiiicidaaa
