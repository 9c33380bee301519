/-
  Logs: the law's helpers on them (sizes, copies, held against each other, marked): the walks.
-/
import Derived.Test.YtgjamikmjknlfaaEns
import Derived.Test.YtgjamikmjknlfaaWd
namespace Go.Proofs.Ytgjamikmjknlfaa
open Go Go.RowKit

theorem marksEn_at {x : Int} {n j : Nat} (h : j < n) : (marksEn x n)[j]? = some (mkEn (x + 3 * (j : Int))) := marksR_at h
theorem marksEn_length (x : Int) (n : Nat) : (marksEn x n).length = n := marksR_length x n
theorem ret_log {fn : Func} {p : Tmp} {w : World} {g : Nat} {a b c : Value} {tmps : Array Value} (h : fn.results = #[.cell p 49]) (hp : tmps.getD p undef = .pointer (some ⟨g, 0, none⟩)) (h0 : w.cell? ⟨g, 0, none⟩ = some a) (h1 : w.cell? ⟨g, 1, none⟩ = some b) (h2 : w.cell? ⟨g, 2, none⟩ = some c) :
    (results fn tmps).run Try.prog w = .ok (.agg #[a, b, c]) w := by
  have hp' : tmps[p]?.getD undef = .pointer (some ⟨g, 0, none⟩) := by simpa using hp
  simp [results, h, hp', h0, h1, h2, asAddr, go_sem]
theorem ret_log2 {fn : Func} {p u : Tmp} {w : World} {g : Nat} {a b c x : Value} {tmps : Array Value} (h : fn.results = #[.cell p 49, .tmp u]) (hp : tmps.getD p undef = .pointer (some ⟨g, 0, none⟩)) (hu : tmps.getD u undef = x) (h0 : w.cell? ⟨g, 0, none⟩ = some a) (h1 : w.cell? ⟨g, 1, none⟩ = some b) (h2 : w.cell? ⟨g, 2, none⟩ = some c) :
    (results fn tmps).run Try.prog w = .ok (.tuple #[.agg #[a, b, c], x]) w := by
  have hp' : tmps[p]?.getD undef = .pointer (some ⟨g, 0, none⟩) := by simpa using hp
  have hu' : tmps[u]?.getD undef = x := by simpa using hu
  simp [results, h, hp', hu', h0, h1, h2, asAddr, go_sem]
end Go.Proofs.Ytgjamikmjknlfaa
