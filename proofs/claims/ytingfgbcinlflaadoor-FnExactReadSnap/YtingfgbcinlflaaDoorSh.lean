/-
  Short texts: the walks of what writes them.
-/
import Derived.Test.YtingfgbcinlflaaDoorRvs
import Derived.Test.YtingfgbcinlflaaDoorSeal
namespace Go.Proofs.YtingfgbcinlflaaDoor
open Go.RowKit

theorem varI_length : ∀ (f n : Nat), n ≤ f → (varI n).length ≤ n + 1
  | 0, n, h => by rw [varI_last (by omega)]; simp
  | f + 1, n, h => by
    by_cases hn : 127 < n
    · rw [varI_more hn]
      have := varI_length f (n / 128) (by omega)
      simp; omega
    · rw [varI_last hn]; simp


end Go.Proofs.YtingfgbcinlflaaDoor
