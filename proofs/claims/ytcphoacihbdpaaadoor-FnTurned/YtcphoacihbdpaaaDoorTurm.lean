/-
  A sealed text with one byte turned is no sealed text: as lists of numbers.
-/
import Derived.Test.YtcphoacihbdpaaaDoorCrc
namespace Go.Proofs.YtcphoacihbdpaaaDoor

def fourN (x : Nat) : List Nat := [x / 16777216, x / 65536 % 256, x / 256 % 256, x % 256]
theorem fourN_inj {x y : Nat} (h : fourN x = fourN y) : x = y := by
  simp only [fourN, List.cons.injEq, and_true] at h
  omega
theorem fourN_lt {x : Nat} (h : x < 4294967296) : ∀ b ∈ fourN x, b < 256 := by
  intro b hb
  simp only [fourN, List.mem_cons, List.not_mem_nil, or_false] at hb
  omega

/-- The list with one cell turned is sealed no more. -/
theorem turned_not (L : List Nat) (hL : ∀ b ∈ L, b < 256) (i y : Nat) (hy : y < 256) (hi : i < L.length + 4)
    (hne : (L ++ fourN (sumL 4294967295 L))[i]? ≠ some y)
    (h : ((L ++ fourN (sumL 4294967295 L)).set i y).drop L.length = fourN (sumL 4294967295 (((L ++ fourN (sumL 4294967295 L)).set i y).take L.length))) : False := by
  by_cases hc : i < L.length
  · rw [List.set_append_left i y hc] at h
    have hl : (L.set i y).length = L.length := List.length_set
    rw [List.drop_append_of_le_length (by omega), List.take_append_of_le_length (by omega)] at h
    rw [List.drop_of_length_le (by omega), List.nil_append, List.take_of_length_le (by omega)] at h
    have h2 := fourN_inj h
    have e1 : L = L.take i ++ L[i] :: L.drop (i + 1) := by
      rw [List.getElem_cons_drop, List.take_append_drop]
    have e2 : L.set i y = L.take i ++ y :: L.drop (i + 1) := by rw [List.set_eq_take_append_cons_drop, if_pos hc]
    rw [e2] at h2
    have h3 : sumL 4294967295 (L.take i ++ L[i] :: L.drop (i + 1)) = sumL 4294967295 (L.take i ++ y :: L.drop (i + 1)) := by rw [← e1]; exact h2
    have h4 := sumL_turned (by decide) (fun x hx => hL x (List.mem_of_mem_take hx)) (fun x hx => hL x (List.mem_of_mem_drop hx)) (hL _ (List.getElem_mem hc)) hy h3
    apply hne
    rw [List.getElem?_append_left hc, List.getElem?_eq_getElem hc, h4]
  · rw [List.set_append_right i y (by omega)] at h
    rw [List.drop_left, List.take_left] at h
    apply hne
    rw [List.getElem?_append_right (by omega), ← h, List.getElem?_set_self (by show i - L.length < 4; omega)]
end Go.Proofs.YtcphoacihbdpaaaDoor
