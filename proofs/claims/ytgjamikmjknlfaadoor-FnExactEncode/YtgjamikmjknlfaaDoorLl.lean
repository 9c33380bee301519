/-
  The last index and term of a log, whether it has an index, and the term of one, on both sides: the walks.
-/
import Derived.Test.YtgjamikmjknlfaaDoorLk
namespace Go.Proofs.YtgjamikmjknlfaaDoor
open Go Go.RowKit

def lastI (s : Int) (l : List En) : Int := if l.length = 0 then s else wrap64 (s + l.length)
def lastT (t : Int) (l : List En) : Int := (l.getLast?.map En.term).getD t
theorem lastT_at {t : Int} {l : List En} {k : Nat} {f : En} (h : l.length = k + 1) (hf : l[k]? = some f) : lastT t l = f.term := by
  unfold lastT
  rw [List.getLast?_eq_getElem?, h, Nat.add_sub_cancel, hf]
  rfl

set_option maxRecDepth 10000 in
set_option maxHeartbeats 1000000 in
theorem logLast_try (s t : Int) (ao : Option Addr) (n c : Nat) (l : List En) (w : World) (hr : Reads w (.slice ao n c) l) (hn : n ≤ 1048577) :
    Calls Tryd.prog 112 #[.agg #[.int .i64 s, .int .i64 t, .slice ao n c]] w fun e w' => e = .returned (.tuple #[.int .i64 (lastI s l), .int .i64 (lastT t l)]) ∧ Below w.heap.size w w' := by
  have hN := hr.len
  have HR : Hid (Reads w (.slice ao n c) l) := hr
  clear hr
  cases n with
  | zero =>
    have hl : l = [] := List.eq_nil_of_length_eq_zero hN.symm
    subst hl
    clear hN
    show Calls Tryd.prog 112 _ w fun e w' => e = .returned (.tuple #[.int .i64 s, .int .i64 t]) ∧ Below w.heap.size w w'
    go_enter Tryd.func112, Tryd.ntmps112
    go_wp2
    go_quiet (fail)
    go_wp2
    go_ret2
    exact ⟨rfl, bdrewN (ba (Below.refl _ _) _) _⟩
  | succ k =>
    obtain ⟨f, hf⟩ : ∃ f, l[k]? = some f := ⟨_, List.getElem?_eq_getElem (by omega)⟩
    have HI : Hid (lastI s l = wrap64 (s + (k + 1 : Nat))) := by show lastI s l = _; unfold lastI; rw [if_neg (by omega), ← hN]
    have HT : Hid (lastT t l = f.term) := lastT_at hN.symm hf
    rw [HI.out, HT.out]
    obtain ⟨b, o, rfl, hb, c0, c1, c2⟩ := en_at HR.out hf
    clear hf hN c1 c2
    have d0 : (w.alloc (.cells #[.int .i64 s, .int .i64 t, .slice (some ⟨b, o, none⟩) (k + 1) c] 93)).cell? ⟨b, o + k * 3, none⟩ = some (.int .i64 f.term) := cell_up (ba (Below.refl _ _) _) c0
    have e1 : ((k + 1 : Nat) : Int) - 1 = (k : Int) := by omega
    go_enter Tryd.func112, Tryd.ntmps112
    go_wp2
    go_quiet (fail)
    go_wp2
    go_ret2
    exact ⟨rfl, bdrewN (ba (Below.refl _ _) _) _⟩
theorem logLast_any {s t : Int} {w : World} {v : Value} {l : List En} (hr : Reads w v l) (hn : l.length ≤ 1048577) :
    Calls Tryd.prog 112 #[.agg #[.int .i64 s, .int .i64 t, v]] w fun e w' => e = .returned (.tuple #[.int .i64 (lastI s l), .int .i64 (lastT t l)]) ∧ Below w.heap.size w w' := by
  obtain ⟨ao, c, rfl, _⟩ := id hr
  exact logLast_try s t ao _ c l w hr hn
/-- A log has an index. -/
def hasL (s : Int) (n : Nat) (i : Int) : Bool := decide (s ≤ i) && decide (i ≤ s + n)
end Go.Proofs.YtgjamikmjknlfaaDoor
