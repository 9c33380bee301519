/-
  A number that is written is read back, whatever stands ahead of it and behind it; one that is torn is not.
-/
import Derived.Test.YtijmaplejpnggaaDoorRvs
namespace Go.Proofs.YtijmaplejpnggaaDoor
open Go.RowKit

theorem bstr_sz (l : List Int) : (bstr l).size = l.length := by simp [bstr, ByteArray.size]
/-- From the place i on the text has these numbers. -/
def Fits (s : ByteArray) (i : Nat) (l : List Int) : Prop := ∀ j x, l[j]? = some x → ∃ h : i + j < s.size, (s[i + j].toNat : Int) = x
theorem Fits.tail {s : ByteArray} {i : Nat} {x : Int} {l : List Int} (h : Fits s i (x :: l)) : Fits s (i + 1) l := by
  intro j y hy
  have := h (j + 1) y (by simpa using hy)
  rw [show i + (j + 1) = i + 1 + j by omega] at this
  exact this
theorem rvGo_back (s : ByteArray) : ∀ (f m i k N : Nat), f + k = 5 → Fits s i (varI m) → N + m * 128 ^ k ≤ 1000000000 → (0 < m ∨ k = 0) →
    rvGo s f i k N = (((N + m * 128 ^ k : Nat) : Int), ((i + (varI m).length : Nat) : Int), true)
  | 0, m, i, k, N, hf, hb, hv, hk => by
    exfalso
    obtain rfl : k = 5 := by omega
    rcases hk with h | h
    · have : 1 * 128 ^ 5 ≤ m * 128 ^ 5 := Nat.mul_le_mul_right _ h
      omega
    · omega
  | f + 1, m, i, k, N, hf, hb, hv, hk => by
    by_cases hm : 127 < m
    · rw [varI_more hm] at hb ⊢
      obtain ⟨hi, hx⟩ := hb 0 _ rfl
      have hx2 : s[i].toNat = m % 128 + 128 := by have : (s[i].toNat : Int) = (m : Int) % 128 + 128 := hx; omega
      have hi2 : i < s.size := hi
      rw [rvGo_more hi2 (by omega), hx2, show (m % 128 + 128) % 128 = m % 128 by omega]
      have e : N + m % 128 * 128 ^ k + m / 128 * 128 ^ (k + 1) = N + m * 128 ^ k := by
        have h1 : m * 128 ^ k = (m % 128 + 128 * (m / 128)) * 128 ^ k := by rw [Nat.mod_add_div]
        rw [h1, Nat.pow_succ, Nat.add_mul, Nat.add_assoc]
        congr 2
        rw [Nat.mul_comm (128 ^ k) 128, ← Nat.mul_assoc, Nat.mul_comm (m / 128) 128]
      rw [rvGo_back s f (m / 128) (i + 1) (k + 1) _ (by omega) hb.tail (by rw [e]; exact hv) (Or.inl (by omega)), e]
      rw [List.length_cons, show i + 1 + (varI (m / 128)).length = i + ((varI (m / 128)).length + 1) by omega]
    · rw [varI_last hm] at hb ⊢
      obtain ⟨hi, hx⟩ := hb 0 _ rfl
      have hi2 : i < s.size := hi
      have hx2 : s[i].toNat = m := by have : (s[i].toNat : Int) = (m : Int) := hx; omega
      rw [rvGo_ok hi2 (by omega)]
      · rw [hx2, Nat.mod_eq_of_lt (by omega : m < 128)]
        rfl
      · rw [hx2, Nat.mod_eq_of_lt (by omega : m < 128)]
        omega
theorem fits_bstr (a b : ByteArray) (l : List Int) (hl : ∀ x ∈ l, 0 ≤ x ∧ x < 256) : Fits (a ++ bstr l ++ b) a.size l := by
  intro j x hx
  obtain ⟨hj, rfl⟩ := List.getElem?_eq_some_iff.1 hx
  have hs : (a ++ bstr l ++ b).size = a.size + l.length + b.size := by rw [ByteArray.size_append, ByteArray.size_append, bstr_sz]
  refine ⟨by omega, ?_⟩
  have hr := hl l[j] (List.getElem_mem hj)
  have e : (a ++ bstr l ++ b)[a.size + j]'(by omega) = UInt8.ofNat (l[j]).toNat := by
    show (a ++ bstr l ++ b).data[a.size + j]'(by show _ < (a ++ bstr l ++ b).size; omega) = _
    have h2 : (a ++ bstr l ++ b).data = a.data ++ (l.map fun n => UInt8.ofNat n.toNat).toArray ++ b.data := by
      rw [ByteArray.data_append, ByteArray.data_append]; rfl
    have h3 : ((a ++ bstr l ++ b).data)[a.size + j]? = some (UInt8.ofNat (l[j]).toNat) := by
      rw [h2, Array.getElem?_append_left (by simp; exact hj), Array.getElem?_append_right (by show a.size ≤ a.size + j; omega)]
      simp [hj]
    exact (Array.getElem?_eq_some_iff.1 h3).2
  rw [e]
  simp
  omega
/-- A number comes back, whatever stands ahead of it and behind it. -/
theorem rv_back (a b : ByteArray) (n : Nat) (hn : n ≤ 1000000000) : rv (a ++ bstr (varI n) ++ b) a.size = ((n : Int), ((a.size + (varI n).length : Nat) : Int), true) := by
  unfold rv
  have hs : (a ++ bstr (varI n) ++ b).size = a.size + (varI n).length + b.size := by rw [ByteArray.size_append, ByteArray.size_append, bstr_sz]
  rw [if_pos (by omega), Int.toNat_natCast, rvGo_back _ 5 n a.size 0 0 rfl (fits_bstr a b _ (varI_range n n (Nat.le_refl _))) (by omega) (Or.inr rfl)]
  simp

/-- Of a number that is torn nothing is read. -/
theorem rvGo_torn (s : ByteArray) : ∀ (f m i k N : Nat), i ≤ s.size → s.size < i + (varI m).length → (∀ j (h : i + j < s.size), ∃ x, (varI m)[j]? = some x ∧ (s[i + j].toNat : Int) = x) → rvGo s f i k N = (0, 0, false)
  | 0, m, i, k, N, _, _, _ => rfl
  | f + 1, m, i, k, N, hi, hl, hb => by
    by_cases hs : i < s.size
    · have hm : 127 < m := by
        refine Decidable.byContradiction fun hm => ?_
        rw [varI_last hm] at hl
        simp at hl
        omega
      rw [varI_more hm] at hl hb
      obtain ⟨x, hx, he⟩ := hb 0 hs
      have hx2 : s[i].toNat = m % 128 + 128 := by
        simp at hx
        have : (s[i].toNat : Int) = x := he
        omega
      rw [rvGo_more hs (by omega)]
      refine rvGo_torn s f (m / 128) (i + 1) (k + 1) _ (by omega) (by simp at hl; omega) fun j h => ?_
      obtain ⟨y, hy, hy2⟩ := hb (j + 1) (by omega)
      refine ⟨y, by simpa using hy, ?_⟩
      rw [← hy2]
      congr 3
      omega
    · exact rvGo_end hs
theorem rv_torn (a c : ByteArray) (n : Nat) (hc : c.size < (varI n).length) (he : c = (bstr (varI n)).extract 0 c.size) : rv (a ++ c) a.size = (0, 0, false) := by
  have hs : (a ++ c).size = a.size + c.size := ByteArray.size_append
  rw [rv_in_eq (by omega)]
  refine rvGo_torn _ 5 n a.size 0 0 (by omega) (by omega) fun j h => ?_
  have hj : j < c.size := by omega
  have hj2 : j < (varI n).length := by omega
  refine ⟨(varI n)[j], List.getElem?_eq_getElem hj2, ?_⟩
  have e : (a ++ c)[a.size + j] = UInt8.ofNat ((varI n)[j]).toNat := by
    rw [ByteArray.getElem_append_right (by omega)]
    have h1 : c[a.size + j - a.size]'(by omega) = c[j] := by congr 1; omega
    rw [h1]
    have h2 : ∀ (d : ByteArray) (hd : d = (bstr (varI n)).extract 0 c.size) (h : j < d.size), d[j] = UInt8.ofNat ((varI n)[j]).toNat := by
      intro d hd h
      subst hd
      rw [ByteArray.getElem_extract]
      simp only [Nat.zero_add]
      rw [ByteArray.getElem_eq_getElem_data]
      simp [bstr]
    exact h2 c he hj
  rw [e]
  have hr := varI_range n n (Nat.le_refl _) _ (List.getElem_mem hj2)
  simp
  omega
end Go.Proofs.YtijmaplejpnggaaDoor
