/-
  Rows of numbers: copied, held against each other, marked: the walks.
-/
import Derived.Test.YtgjamikmjknlfaaDoorGn
import Derived.Test.YtgjamikmjknlfaaDoorMt
import Derived.Test.YtgjamikmjknlfaaDoorInf
namespace Go.Proofs.YtgjamikmjknlfaaDoor
open Go Go.RowKit

instance : Rec Int := ⟨1, fun n => [.int .i64 n], fun _ => rfl, by decide⟩
theorem int_at {w : World} {ao : Option Addr} {n cap : Nat} {l : List Int} (h : Reads w (.slice ao n cap) l) {k : Nat} {x : Int} (hk : l[k]? = some x) :
    ∃ b o, ao = some ⟨b, o, none⟩ ∧ b < w.heap.size ∧ w.cell? ⟨b, o + k, none⟩ = some (.int .i64 x) := by
  obtain ⟨b, o, rfl, hlt, hc⟩ := h.at hk
  have := hc 0 _ rfl
  refine ⟨b, o, rfl, hlt, ?_⟩
  have e : o + k * Rec.width Int + 0 = o + k := by show o + k * 1 + 0 = o + k; omega
  rw [e] at this
  exact this
theorem flat_int : ∀ l : List Int, l.flatMap (Rec.cells (α := Int)) = l.map (Value.int .i64)
  | [] => rfl
  | x :: r => by rw [List.flatMap_cons, List.map_cons, flat_int r]; rfl
theorem underI : Tryd.prog.underlying 23 = some (.slice 3) := by kernel_rfl
theorem made_ints (n : Nat) : (madeCells (Value.cells (.int .i64 0)) (n * 1)).toList = (List.replicate n (0 : Int)).flatMap Rec.cells := by
  apply List.ext_getElem?
  intro m
  have e := flat_at (List.replicate n (0 : Int)) m 0 (by decide)
  have e1 : m * Rec.width Int + 0 = m := by show m * 1 + 0 = m; omega
  rw [e1] at e
  rw [e]
  simp only [madeCells, Value.cells, Array.toList_map, Array.toList_range, List.getElem?_map, List.getElem?_replicate]
  by_cases hlt : m < n
  · rw [if_pos hlt, List.getElem?_range (by omega)]
    simp [Nat.mod_one]
    rfl
  · rw [if_neg hlt, List.getElem?_eq_none (by simp; omega)]
    rfl

def filledI (l : List Int) (k : Nat) : List Int := l.take k ++ List.replicate (l.length - k) 0
theorem filledI_at {l : List Int} {k : Nat} (h : k < l.length) : (filledI l k)[k]? = some 0 := by
  unfold filledI
  rw [List.getElem?_append_right (by simp; omega), List.getElem?_replicate, if_pos (by simp; omega)]
theorem filledI_set {l : List Int} {k : Nat} {f : Int} (h : l[k]? = some f) : (filledI l k).set k f = filledI l (k + 1) := by
  have hk : k < l.length := (List.getElem?_eq_some_iff.1 h).1
  unfold filledI
  rw [List.take_add_one, h, List.set_append_right _ _ (by simp; omega)]
  have e : k - (List.take k l).length = 0 := by simp; omega
  rw [e, show l.length - k = (l.length - (k + 1)) + 1 by omega, List.replicate_succ]
  simp
theorem filledI_all (l : List Int) : filledI l l.length = l := by simp [filledI]
theorem filledI_length {l : List Int} {k : Nat} (h : k ≤ l.length) : (filledI l k).length = l.length := by simp [filledI]; omega
theorem filledI_none (l : List Int) : filledI l 0 = List.replicate l.length 0 := by simp [filledI]

/-- A number is stored into an owned row. -/
theorem int_put {w : World} {B : Nat} {e : TypeId} {g n cap : Nat} {l : List Int} (h : ownsR w B e (.slice (some ⟨g, 0, none⟩) n cap) l) {i : Nat} {y : Int} (f : Int) (hi : l[i]? = some y) :
    ownsR (w.setCell ⟨g, i, none⟩ (.int .i64 f)) B e (.slice (some ⟨g, 0, none⟩) n cap) (l.set i f) := by
  have h1 := h.put (j := 0) (u := .int .i64 f) f hi (by decide) rfl
  have e1 : i * Rec.width Int + 0 = i := by show i * 1 + 0 = i; omega
  rw [e1] at h1
  exact h1
theorem int_own {w : World} {B : Nat} {e : TypeId} {g n cap : Nat} {l : List Int} (h : ownsR w B e (.slice (some ⟨g, 0, none⟩) n cap) l) {i : Nat} {x : Int} (hi : l[i]? = some x) :
    g < w.heap.size ∧ w.cell? ⟨g, i, none⟩ = some (.int .i64 x) ∧ w.frozen? ⟨g, i, none⟩ = false := by
  obtain ⟨h1, _, _, h2⟩ := h.at hi
  have h3 := h2 0 (by decide)
  have e1 : i * Rec.width Int + 0 = i := by show i * 1 + 0 = i; omega
  rw [e1] at h3
  exact ⟨h1, h3.1, h3.2⟩

set_option maxHeartbeats 1000000 in
theorem toIntS_any (ao : Option Addr) (n cap : Nat) (l : List Int) (w : World) (hr : Reads w (.slice ao n cap) l) (hn : n ≤ 1048576) :
    Calls Tryd.prog 23 #[.slice ao n cap] w fun e w' => ∃ v, e = .returned v ∧ ownsR w' w.heap.size 3 v l ∧ Below w.heap.size w w' := by
  obtain ⟨i0, hi0, hz0, hz1, hz2⟩ := info_parts info3
  have hnl := hr.len
  have HR : Hid (Reads w (.slice ao n cap) l) := hr
  have HN : Hid (n = l.length) := hnl
  clear hr hnl
  go_enter Tryd.func23, Tryd.ntmps23
  go_wp2_with (at_make; refine wpList_make_full _ rfl _ _ 23 rfl w.heap.size 3 i0 _ 1 underI hi0 hz0 hz1 .i64 .i64 _ _ n rfl rfl rfl rfl (by rw [hz2]; omega) (by unfold maxLen; omega) (Nat.le_refl _) ?_; intro w1 ho hg)
  rw [made_ints, HN.out, ← filledI_none, ← HN.out] at ho
  have ho : ownsR w1 w.heap.size 3 (.slice (some ⟨w.heap.size, 0, none⟩) n n) (filledI l 0) := by unfold ownsR; rw [filledI_length (Nat.zero_le _), ← HN.out]; exact ho
  have hbel1 : Below w.heap.size w w1 := (Below.refl _ w).grown hg (Nat.le_refl _) (fun j hj => by cases hj)
  generalize hB : w.heap.size = B at *
  go_loopw [4] (fun i wr => ∃ k : Nat, k ≤ n ∧ i = .int .i64 k ∧ ownsR wr B 3 (.slice (some ⟨B, 0, none⟩) n n) (filledI l k) ∧ Below B w wr) (fun i _ => n - (intOf i).toNat)
  case atStart => exact ⟨0, Nat.zero_le _, rfl, ho, hbel1⟩
  case round =>
    obtain ⟨k, hk, rfl, hown, hbel⟩ := hrel
    clear ho hbel1
    by_cases hlt : k < n
    · obtain ⟨f, hf⟩ : ∃ f, l[k]? = some f := ⟨_, List.getElem?_eq_getElem (by rw [← HN.out]; exact hlt)⟩
      have HF : Hid (l[k]? = some f) := hf
      obtain ⟨b, o, rfl, hb, c0⟩ := int_at (HR.out.below (hB ▸ hbel)) hf
      clear hf
      have HO : Hid (ownsR wr B 3 (.slice (some ⟨B, 0, none⟩) n n) (filledI l k)) := hown
      clear hown
      obtain ⟨hgs, d0, f0⟩ := int_own HO.out (filledI_at (l := l) (k := k) (by rw [← HN.out]; exact hlt))
      have R := int_put HO.out f (filledI_at (l := l) (k := k) (by rw [← HN.out]; exact hlt))
      rw [filledI_set HF.out] at R
      go_wp2
      go_roundw
      case rel => exact ⟨k + 1, by omega, by go_num, R, hbel.setCell (p := ⟨B, k, none⟩) (Nat.le_refl _) _⟩
      case measure => simp [intOf]; omega
    · have hkn : k = n := by omega
      have R : ownsR wr B 3 (.slice (some ⟨B, 0, none⟩) n n) l := by rw [hkn, HN.out, filledI_all] at hown; rw [HN.out]; exact hown
      clear hown
      go_wp2
      go_ret
      subst hB
      exact ⟨_, rfl, R, hbel⟩

set_option maxHeartbeats 1000000 in
theorem eqIntS_any (ao bo : Option Addr) (n c d : Nat) (l : List Int) (w : World) (ha : Reads w (.slice ao n c) l) (hb : Reads w (.slice bo n d) l) (hn : n ≤ 1048577) :
    Calls Tryd.prog 33 #[.slice ao n c, .slice bo n d] w fun e w' => e = .returned (.bool true) ∧ Below w.heap.size w w' := by
  have HN : Hid (n = l.length) := ha.len
  have HA : Hid (Reads w (.slice ao n c) l) := ha
  have HB : Hid (Reads w (.slice bo n d) l) := hb
  clear ha hb
  go_enter Tryd.func33, Tryd.ntmps33
  go_wp2
  go_loopw [5] (fun i wr => ∃ k : Nat, k ≤ n ∧ i = .int .i64 k ∧ Below w.heap.size w wr) (fun i _ => n - (intOf i).toNat)
  case atStart => exact ⟨0, Nat.zero_le _, rfl, Below.refl _ _⟩
  case round =>
    obtain ⟨k, hk, rfl, hbel⟩ := hrel
    by_cases hlt : k < n
    · obtain ⟨f, hf⟩ : ∃ f, l[k]? = some f := ⟨_, List.getElem?_eq_getElem (by rw [← HN.out]; exact hlt)⟩
      obtain ⟨a, oa, rfl, hga, a0⟩ := int_at (HA.out.below hbel) hf
      obtain ⟨b, ob, rfl, hgb, b0⟩ := int_at (HB.out.below hbel) hf
      clear hf
      go_wp2
      go_quiet (fail)
      go_wp2
      go_roundw
      case rel => exact ⟨k + 1, by omega, by go_num, bdrewN hbel _⟩
      case measure => simp [intOf]; omega
    · go_wp2
      go_ret
      exact ⟨rfl, hbel⟩

/-- The numbers from k on. -/
def numsFrom (k : Nat) : Nat → List Int
  | 0 => []
  | n + 1 => (k : Int) :: numsFrom (k + 1) n

set_option maxHeartbeats 1000000 in
theorem markIntS_none (ao : Option Addr) (c k0 : Nat) (w : World) :
    Calls Tryd.prog 42 #[.slice ao 0 c, .int .i64 k0] w fun e w' => e = .returned (.int .i64 k0) ∧ Below w.heap.size w w' := by
  go_enter Tryd.func42, Tryd.ntmps42
  go_wp2
  refine wp_loop_rounds 1 ?_
  rw [rounds_succ]
  go_wp2
  go_ret
  exact ⟨rfl, Below.refl _ _⟩

set_option maxHeartbeats 1000000 in
theorem markIntS_some (g n c k0 B : Nat) (l : List Int) (w : World) (ho : ownsR w B 3 (.slice (some ⟨g, 0, none⟩) n c) l) (hn : n ≤ 1048577) (hk0 : k0 ≤ 1073741824) :
    Calls Tryd.prog 42 #[.slice (some ⟨g, 0, none⟩) n c, .int .i64 k0] w fun e w' => e = .returned (.int .i64 (k0 + n : Nat)) ∧ w.grownBy w' (some g) := by
  have HO : Hid (∃ l : List Int, ownsR w B 3 (.slice (some ⟨g, 0, none⟩) n c) l) := ⟨l, ho⟩
  clear ho
  go_enter Tryd.func42, Tryd.ntmps42
  go_wp2
  go_loopw [1, 5] (fun q i wr => ∃ k : Nat, k ≤ n ∧ i = .int .i64 k ∧ q = .int .i64 ((k0 : Int) + k) ∧ Hid (∃ l : List Int, ownsR wr B 3 (.slice (some ⟨g, 0, none⟩) n c) l) ∧ w.grownBy wr (some g)) (fun _ i _ => n - (intOf i).toNat)
  case atStart => exact ⟨0, Nat.zero_le _, rfl, by simp, HO, grown_refl _ _⟩
  case round =>
    obtain ⟨k, hk, rfl, rfl, HL, hbel⟩ := hrel
    by_cases hlt : k < n
    · obtain ⟨l2, h2⟩ := HL.out
      have hl2 : n = l2.length := h2.reads.len
      obtain ⟨y, hy⟩ : ∃ y, l2[k]? = some y := ⟨_, List.getElem?_eq_getElem (by omega)⟩
      obtain ⟨hgs, d0, f0⟩ := int_own h2 hy
      have R := int_put h2 ((k0 : Int) + k) hy
      have HR : Hid (∃ l : List Int, ownsR (wr.setCell ⟨g, k, none⟩ (.int .i64 ((k0 : Int) + k))) B 3 (.slice (some ⟨g, 0, none⟩) n c) l) := ⟨_, R⟩
      clear R h2 hl2 hy
      go_wp2
      go_roundw
      case rel => exact ⟨k + 1, by omega, by go_num, by go_num, HR, grown_trans hbel (grown_set _ _ _ _)⟩
      case measure => simp [intOf]; omega
    · have hkn : k = n := by omega
      subst hkn
      go_wp2
      go_ret
      exact ⟨by simp, hbel⟩
theorem markIntS_any {w : World} {B k0 : Nat} {v : Value} {l : List Int} (ho : ownsR w B 3 v l) (hn : l.length ≤ 1048577) (hk0 : k0 ≤ 1073741824) :
    Calls Tryd.prog 42 #[v, .int .i64 k0] w fun e w' => e = .returned (.int .i64 (k0 + l.length : Nat)) ∧ w.grownBy w' v.ownBlock := by
  rcases ho.2 with ⟨rfl, h0⟩ | ⟨g, cap, cur, rfl, _⟩
  · rw [h0]
    exact (markIntS_none none 0 k0 w).mono fun e w' ⟨he, h⟩ => ⟨he, grown_of_below h _⟩
  · exact markIntS_some g l.length cap k0 B l w ho hn hk0
theorem markIntS_any' {w : World} {B : Nat} {x : Int} {v : Value} {l : List Int} (ho : ownsR w B 3 v l) (hn : l.length ≤ 1048577) (hx0 : 0 ≤ x) (hx : x ≤ 1073741824) :
    Calls Tryd.prog 42 #[v, .int .i64 x] w fun e w' => e = .returned (.int .i64 (x + l.length)) ∧ w.grownBy w' v.ownBlock := by
  have h := markIntS_any (k0 := x.toNat) ho hn (by omega)
  rw [Int.toNat_of_nonneg hx0] at h
  exact h.mono fun e w' ⟨he, hg⟩ => ⟨by rw [he]; congr 2; omega, hg⟩
end Go.Proofs.YtgjamikmjknlfaaDoor
