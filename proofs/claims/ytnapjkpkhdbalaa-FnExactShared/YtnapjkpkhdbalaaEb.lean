/-
  What is behind an index of a log: the walk.
-/
import Derived.Test.YtnapjkpkhdbalaaMv
import Derived.Test.YtnapjkpkhdbalaaLt
namespace Go.Proofs.Ytnapjkpkhdbalaa
open Go Go.RowKit

theorem Reads.drop {α : Type} [Rec α] {w : World} {ao : Option Addr} {n cap : Nat} {l : List α} (h : Reads w (.slice ao n cap) l) (k : Nat) (cap' : Nat) : Reads w (.slice (ao.map fun x => x.add (k * Rec.width α)) (n - k) cap') (l.drop k) := by
  have hn := h.len
  refine ⟨_, cap', by rw [List.length_drop, hn], fun hne => ?_⟩
  obtain ⟨ao', cap', e, h⟩ := h
  simp only [Value.slice.injEq] at e
  obtain ⟨rfl, _, rfl⟩ := e
  obtain ⟨b, o, rfl, hlt, hc⟩ := h (by rintro rfl; simp at hne)
  have hadd : (⟨b, o, none⟩ : Addr).add (k * Rec.width α) = ⟨b, o + k * Rec.width α, none⟩ := by unfold Addr.add; split <;> simp_all
  refine ⟨b, o + k * Rec.width α, by rw [Option.map_some, hadd], hlt, fun i x hx j u hu => ?_⟩
  rw [List.getElem?_drop] at hx
  have := hc _ x hx j u hu
  rw [Nat.add_mul, ← Nat.add_assoc] at this
  exact this

set_option maxHeartbeats 400000 in
theorem behind_try (s t : Int) (ao : Option Addr) (n c k : Nat) (l : List En) (w : World) (hr : Reads w (.slice ao n c) l) (hn : n ≤ 60) (hk : k ≤ n) (hc : n ≤ c) :
    Calls Try.prog 40 #[.agg #[.int .i64 s, .int .i64 t, .slice ao n c], .int .i64 (s + k)] w fun e w' => ∃ v, e = .returned v ∧ Reads w' v (l.drop k) ∧ Below w.heap.size w w' := by
  have HN : Hid (n = l.length) := hr.len
  have HR : Hid (Reads w (.slice ao n c) l) := hr
  clear hr
  have e1 : s + (k : Int) - s = (k : Int) := by omega
  go_enter Try.func40, Try.ntmps40
  by_cases hkn : n = k
  · subst hkn
    go_wp2
    go_ret
    refine ⟨_, rfl, ?_, ba (Below.refl _ _) _⟩
    rw [List.drop_eq_nil_of_le (by have := HN.out; omega)]
    exact reads_none _ _ _
  · go_wp2
    go_ret
    exact ⟨_, rfl, (HR.out.alloc _).drop k _, ba (Below.refl _ _) _⟩
theorem behind_any {s t i : Int} {w : World} {v : Value} {l : List En} {B : Nat} (ho : ownsR w B 42 v l) (hn : l.length ≤ 60) (hi : hasL s l.length i = true) :
    Calls Try.prog 40 #[.agg #[.int .i64 s, .int .i64 t, v], .int .i64 i] w fun e w' => ∃ v, e = .returned v ∧ Reads w' v (l.drop (i - s).toNat) ∧ Below w.heap.size w w' := by
  obtain ⟨ao, c, rfl, hc⟩ := ho.cap
  simp only [hasL, Bool.and_eq_true, decide_eq_true_eq] at hi
  have e : i = s + ((i - s).toNat : Int) := by omega
  have := behind_try s t ao _ c (i - s).toNat l w ho.reads hn (by omega) hc
  rw [← e] at this
  exact this
end Go.Proofs.Ytnapjkpkhdbalaa
