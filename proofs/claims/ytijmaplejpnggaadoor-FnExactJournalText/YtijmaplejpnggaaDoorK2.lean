/-
  The last index and term of a log, whether it has an index, and the term of one, on both sides: the walks. The term of an index of a log, on both sides: the walks. What is behind an index of a log: the walk.
-/
import Derived.Test.YtijmaplejpnggaaDoorLk
import Derived.Test.YtijmaplejpnggaaDoorGn
namespace Go.Proofs.YtijmaplejpnggaaDoor
open Go Go.RowKit

def lastI (s : Int) (l : List En) : Int := if l.length = 0 then s else wrap64 (s + l.length)
def lastT (t : Int) (l : List En) : Int := (l.getLast?.map En.term).getD t
theorem lastT_at {t : Int} {l : List En} {k : Nat} {f : En} (h : l.length = k + 1) (hf : l[k]? = some f) : lastT t l = f.term := by
  unfold lastT
  rw [List.getLast?_eq_getElem?, h, Nat.add_sub_cancel, hf]
  rfl

/-- A log has an index. -/
def hasL (s : Int) (n : Nat) (i : Int) : Bool := decide (s ≤ i) && decide (i ≤ s + n)
end Go.Proofs.YtijmaplejpnggaaDoor

namespace Go.Proofs.YtijmaplejpnggaaDoor
open Go Go.RowKit

/-- The term of an index. -/
def termL (s t : Int) (l : List En) (i : Int) : Int := if i = s then t else if hasL s l.length i then ((l[(i - s - 1).toNat]?).map En.term).getD (-1) else -1
theorem termL_start (s t : Int) (l : List En) : termL s t l s = t := by simp [termL]
theorem termL_out {s t i : Int} {l : List En} (h : hasL s l.length i = false) : termL s t l i = -1 := by
  have : ¬ i = s := by rintro rfl; simp [hasL] at h; omega
  simp [termL, h, this]
theorem termL_in {s t : Int} {l : List En} {k : Nat} {f : En} (h : l[k]? = some f) : termL s t l (s + k + 1) = f.term := by
  have hk : k < l.length := (List.getElem?_eq_some_iff.1 h).1
  have e : (s + (k : Int) + 1 - s - 1).toNat = k := by omega
  have h1 : hasL s l.length (s + k + 1) = true := by unfold hasL; simp; omega
  unfold termL
  rw [if_neg (by omega), if_pos h1, e, h]
  rfl
theorem has_cases {s i : Int} {l : List En} (h : hasL s l.length i = true) (hne : i ≠ s) : ∃ (k : Nat) (f : En), l[k]? = some f ∧ i = s + (k : Int) + 1 := by
  simp only [hasL, Bool.and_eq_true, decide_eq_true_eq] at h
  exact ⟨(i - s - 1).toNat, _, List.getElem?_eq_getElem (by omega), by omega⟩

end Go.Proofs.YtijmaplejpnggaaDoor

namespace Go.Proofs.YtijmaplejpnggaaDoor
open Go Go.RowKit

theorem Reads.drop {α : Type} [Rec α] {w : World} {ao : Option Addr} {n cap : Nat} {l : List α} (h : Reads w (.slice ao n cap) l) (k : Nat) (cap' : Nat) : Reads w (.slice (ao.map fun x => x.add (k * Rec.width α)) (n - k) cap') (l.drop k) := by
  have hn := h.len
  refine ⟨_, cap', by rw [List.length_drop, hn], fun hne => ?_⟩
  obtain ⟨ao', cap', e, h⟩ := h
  simp only [Value.slice.injEq] at e
  obtain ⟨rfl, _, rfl⟩ := e
  obtain ⟨b, o, rfl, hlt, hc⟩ := h (by rintro rfl; simp at hne)
  have hadd : (⟨b, o, none⟩ : Addr).add (k * Rec.width α) = ⟨b, o + k * Rec.width α, none⟩ := by unfold Addr.add; split <;> simp_all
  refine ⟨b, o + k * Rec.width α, by rw [Option.map_some, hadd], hlt, fun i x hx j u hu => ?_⟩
  rw [List.getElem?_drop] at hx
  have := hc _ x hx j u hu
  rw [Nat.add_mul, ← Nat.add_assoc] at this
  exact this

set_option maxHeartbeats 400000 in
theorem behind_try (s t : Int) (ao : Option Addr) (n c k : Nat) (l : List En) (w : World) (hr : Reads w (.slice ao n c) l) (hn : n ≤ 60) (hk : k ≤ n) (hc : n ≤ c) :
    Calls Tryd.prog 81 #[.agg #[.int .i64 s, .int .i64 t, .slice ao n c], .int .i64 (s + k)] w fun e w' => ∃ v, e = .returned v ∧ Reads w' v (l.drop k) ∧ Below w.heap.size w w' := by
  have HN : Hid (n = l.length) := hr.len
  have HR : Hid (Reads w (.slice ao n c) l) := hr
  clear hr
  have e1 : s + (k : Int) - s = (k : Int) := by omega
  go_enter Tryd.func81, Tryd.ntmps81
  by_cases hkn : n = k
  · subst hkn
    go_wp2
    go_ret
    refine ⟨_, rfl, ?_, ba (Below.refl _ _) _⟩
    rw [List.drop_eq_nil_of_le (by have := HN.out; omega)]
    exact reads_none _ _ _
  · go_wp2
    go_ret
    exact ⟨_, rfl, (HR.out.alloc _).drop k _, ba (Below.refl _ _) _⟩
theorem behind_any {s t i : Int} {w : World} {v : Value} {l : List En} {B : Nat} (ho : ownsR w B 94 v l) (hn : l.length ≤ 60) (hi : hasL s l.length i = true) :
    Calls Tryd.prog 81 #[.agg #[.int .i64 s, .int .i64 t, v], .int .i64 i] w fun e w' => ∃ v, e = .returned v ∧ Reads w' v (l.drop (i - s).toNat) ∧ Below w.heap.size w w' := by
  obtain ⟨ao, c, rfl, hc⟩ := ho.cap
  simp only [hasL, Bool.and_eq_true, decide_eq_true_eq] at hi
  have e : i = s + ((i - s).toNat : Int) := by omega
  have := behind_try s t ao _ c (i - s).toNat l w ho.reads hn (by omega) hc
  rw [← e] at this
  exact this
/-- What is behind an index, as a value. -/
def behV (ao : Option Addr) (n k : Nat) : Value := if n = k then .slice ao 0 0 else .slice (ao.map fun x => x.add (k * 3)) (n - k) (n - k)
theorem behV_reads {w : World} {ao : Option Addr} {n c k : Nat} {l : List En} (hr : Reads w (.slice ao n c) l) : Reads w (behV ao n k) (l.drop k) := by
  unfold behV
  split
  · rw [List.drop_eq_nil_of_le (by rw [← hr.len]; omega)]; exact reads_none _ _ _
  · exact hr.drop k _
set_option maxHeartbeats 400000 in
theorem behind_val (s t : Int) (ao : Option Addr) (n c k : Nat) (w : World) (hn : n ≤ 60) (hk : k ≤ n) (hc : n ≤ c) :
    Calls Tryd.prog 81 #[.agg #[.int .i64 s, .int .i64 t, .slice ao n c], .int .i64 (s + k)] w fun e w' => e = .returned (behV ao n k) ∧ Below w.heap.size w w' := by
  have e1 : s + (k : Int) - s = (k : Int) := by omega
  by_cases hkn : n = k
  · subst hkn
    have HB : Hid (behV ao n n = .slice ao 0 0) := by show behV ao n n = _; simp [behV]
    rw [HB.out]
    go_enter Tryd.func81, Tryd.ntmps81
    go_wp2
    go_ret
    exact ⟨rfl, ba (Below.refl _ _) _⟩
  · have HB : Hid (behV ao n k = .slice (ao.map fun x => x.add (k * 3)) (n - k) (n - k)) := by show behV ao n k = _; simp [behV, hkn]
    rw [HB.out]
    go_enter Tryd.func81, Tryd.ntmps81
    go_wp2
    go_ret
    exact ⟨rfl, ba (Below.refl _ _) _⟩
theorem behind_start {s t : Int} {ao : Option Addr} {n c : Nat} {l : List En} {W : World} (hr : Reads W (.slice ao n c) l) (hn : n ≤ 60) (hc : n ≤ c) :
    ∃ bo d, Reads W (.slice bo l.length d) l ∧ ∀ w, Calls Tryd.prog 81 #[.agg #[.int .i64 s, .int .i64 t, .slice ao n c], .int .i64 s] w fun e w' => e = .returned (.slice bo l.length d) ∧ Below w.heap.size w w' := by
  have h := behV_reads (k := 0) hr
  rw [List.drop_zero] at h
  obtain ⟨bo, d, hv, hx⟩ := id h
  rw [hv] at h
  refine ⟨bo, d, h, fun w => ?_⟩
  have := behind_val s t ao n c 0 w hn (Nat.zero_le _) hc
  rw [hv, Int.natCast_zero, Int.add_zero] at this
  exact this
end Go.Proofs.YtijmaplejpnggaaDoor
