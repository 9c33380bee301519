/-
  What is written is read back: numbers, figures, pairs of figures.
-/
import Derived.Test.YtnnfhhdiamidhaaDoorUnh
import Derived.Test.YtnnfhhdiamidhaaDoorRd
import Derived.Test.YtnnfhhdiamidhaaDoorRs
namespace Go.Proofs.YtnnfhhdiamidhaaDoor
open Go.RowKit

/-- From the place i on the text has these numbers. -/
def Fits (s : ByteArray) (i : Nat) (l : List Int) : Prop := ∀ j x, l[j]? = some x → ∃ h : i + j < s.size, (s[i + j].toNat : Int) = x
theorem Fits.tail {s : ByteArray} {i : Nat} {x : Int} {l : List Int} (h : Fits s i (x :: l)) : Fits s (i + 1) l := by
  intro j y hy
  have := h (j + 1) y (by simpa using hy)
  rw [show i + (j + 1) = i + 1 + j by omega] at this
  exact this
theorem rvGo_back (s : ByteArray) : ∀ (f m i k N : Nat), f + k = 5 → Fits s i (varI m) → N + m * 128 ^ k ≤ 1000000000 → (0 < m ∨ k = 0) →
    rvGo s f i k N = (((N + m * 128 ^ k : Nat) : Int), ((i + (varI m).length : Nat) : Int), true)
  | 0, m, i, k, N, hf, hb, hv, hk => by
    exfalso
    obtain rfl : k = 5 := by omega
    rcases hk with h | h
    · have : 1 * 128 ^ 5 ≤ m * 128 ^ 5 := Nat.mul_le_mul_right _ h
      omega
    · omega
  | f + 1, m, i, k, N, hf, hb, hv, hk => by
    by_cases hm : 127 < m
    · rw [varI_more hm] at hb ⊢
      obtain ⟨hi, hx⟩ := hb 0 _ rfl
      have hx2 : s[i].toNat = m % 128 + 128 := by have : (s[i].toNat : Int) = (m : Int) % 128 + 128 := hx; omega
      have hi2 : i < s.size := hi
      rw [rvGo_more hi2 (by omega), hx2, show (m % 128 + 128) % 128 = m % 128 by omega]
      have e : N + m % 128 * 128 ^ k + m / 128 * 128 ^ (k + 1) = N + m * 128 ^ k := by
        have h1 : m * 128 ^ k = (m % 128 + 128 * (m / 128)) * 128 ^ k := by rw [Nat.mod_add_div]
        rw [h1, Nat.pow_succ, Nat.add_mul, Nat.add_assoc]
        congr 2
        rw [Nat.mul_comm (128 ^ k) 128, ← Nat.mul_assoc, Nat.mul_comm (m / 128) 128]
      rw [rvGo_back s f (m / 128) (i + 1) (k + 1) _ (by omega) hb.tail (by rw [e]; exact hv) (Or.inl (by omega)), e]
      rw [List.length_cons, show i + 1 + (varI (m / 128)).length = i + ((varI (m / 128)).length + 1) by omega]
    · rw [varI_last hm] at hb ⊢
      obtain ⟨hi, hx⟩ := hb 0 _ rfl
      have hi2 : i < s.size := hi
      have hx2 : s[i].toNat = m := by have : (s[i].toNat : Int) = (m : Int) := hx; omega
      rw [rvGo_ok hi2 (by omega)]
      · rw [hx2, Nat.mod_eq_of_lt (by omega : m < 128)]
        rfl
      · rw [hx2, Nat.mod_eq_of_lt (by omega : m < 128)]
        omega
theorem fits_bstr (a b : ByteArray) (l : List Int) (hl : ∀ x ∈ l, 0 ≤ x ∧ x < 256) : Fits (a ++ bstr l ++ b) a.size l := by
  intro j x hx
  obtain ⟨hj, rfl⟩ := List.getElem?_eq_some_iff.1 hx
  have hs : (a ++ bstr l ++ b).size = a.size + l.length + b.size := by rw [ByteArray.size_append, ByteArray.size_append, bstr_size']
  refine ⟨by omega, ?_⟩
  have hr := hl l[j] (List.getElem_mem hj)
  have e : (a ++ bstr l ++ b)[a.size + j]'(by omega) = UInt8.ofNat (l[j]).toNat := by
    show (a ++ bstr l ++ b).data[a.size + j]'(by show _ < (a ++ bstr l ++ b).size; omega) = _
    have h2 : (a ++ bstr l ++ b).data = a.data ++ (l.map fun n => UInt8.ofNat n.toNat).toArray ++ b.data := by
      rw [ByteArray.data_append, ByteArray.data_append]; rfl
    have h3 : ((a ++ bstr l ++ b).data)[a.size + j]? = some (UInt8.ofNat (l[j]).toNat) := by
      rw [h2, Array.getElem?_append_left (by simp; exact hj), Array.getElem?_append_right (by show a.size ≤ a.size + j; omega)]
      simp [hj]
    exact (Array.getElem?_eq_some_iff.1 h3).2
  rw [e]
  simp
  omega
/-- A number comes back, whatever stands ahead of it and behind it. -/
theorem rv_back (a b : ByteArray) (n : Nat) (hn : n ≤ 1000000000) : rv (a ++ bstr (varI n) ++ b) a.size = ((n : Int), ((a.size + (varI n).length : Nat) : Int), true) := by
  unfold rv
  have hs : (a ++ bstr (varI n) ++ b).size = a.size + (varI n).length + b.size := by rw [ByteArray.size_append, ByteArray.size_append, bstr_size']
  rw [if_pos (by omega), Int.toNat_natCast, rvGo_back _ 5 n a.size 0 0 rfl (fits_bstr a b _ (varI_range n n (Nat.le_refl _))) (by omega) (Or.inr rfl)]
  simp

/-- Figures come back. -/
def digs (n : Nat) : List Nat := (decI n).map fun x => x.toNat - 48
theorem digs_val : ∀ (f n : Nat), n ≤ f → valD (digs n) = n
  | 0, n, h => by
    unfold digs
    rw [decI_one (by omega)]; simp [valD]; omega
  | f + 1, n, h => by
    by_cases hn : n < 10
    · unfold digs
      rw [decI_one hn]; simp [valD]; omega
    · have := digs_val f (n / 10) (by omega)
      unfold digs at this ⊢
      rw [decI_more hn, List.map_append, List.map_cons, List.map_nil, valD_snoc, this]
      omega
theorem decI_figs : ∀ (f n : Nat), n ≤ f → ∀ x ∈ decI n, 48 ≤ x ∧ x ≤ 57
  | 0, n, h, x, hx => by
    rw [decI_one (by omega)] at hx
    simp at hx; omega
  | f + 1, n, h, x, hx => by
    by_cases hn : n < 10
    · rw [decI_one hn] at hx
      simp at hx; omega
    · rw [decI_more hn] at hx
      rcases List.mem_append.1 hx with h | h
      · exact decI_figs f (n / 10) (by omega) x h
      · simp at h; omega
theorem decI_len10 : ∀ (k n : Nat), n < 10 ^ (k + 1) → (decI n).length ≤ k + 1
  | 0, n, h => by rw [decI_one (by simpa using h)]; simp
  | k + 1, n, h => by
    by_cases hn : n < 10
    · rw [decI_one hn]; simp
    · rw [decI_more hn]
      have := decI_len10 k (n / 10) (by rw [Nat.pow_succ] at h; omega)
      simp; omega
theorem rd_back (n : Nat) (hn : n ≤ 1000000000) : rd (bstr (decI n)) = ((n : Int), true) := by
  have hsz : (bstr (decI n)).size = (decI n).length := bstr_size' _
  have h1 := decI_len10 9 n (by omega)
  have h0 : 0 < (decI n).length := List.length_pos_iff.2 (decI_ne n n (Nat.le_refl _))
  have hf := decI_figs n n (Nat.le_refl _)
  have hl : (bstr (decI n)).data.toList = (decI n).map fun x => UInt8.ofNat x.toNat := by simp [bstr]
  unfold rd
  rw [if_neg (by omega), hl]
  have hd : ((decI n).map fun x => UInt8.ofNat x.toNat).map (fun b => b.toNat - 48) = digs n := by
    unfold digs
    rw [List.map_map]
    apply List.map_congr_left
    intro x hx
    have := hf x hx
    simp
    omega
  rw [hd, digs_val n n (Nat.le_refl _)]
  have hall : ∀ b ∈ (decI n).map (fun x => UInt8.ofNat x.toNat), 48 ≤ b.toNat ∧ b.toNat ≤ 57 := by
    intro b hb
    obtain ⟨x, hx, rfl⟩ := List.mem_map.1 hb
    have := hf x hx
    simp
    omega
  rw [if_neg, if_pos hall, if_neg (by omega)]
  rintro ⟨hz, hz2⟩
  rw [hsz] at hz2
  match hc : decI n, h0 with
  | x :: t, _ =>
    rw [hc] at hz hz2
    have hx := hf x (by rw [hc]; simp)
    have e : x = 48 := by
      simp at hz
      omega
    subst e
    have := decI_head n n t (Nat.le_refl _) hc
    subst this
    rw [decI_one (by omega)] at hc
    simp at hc
    subst hc
    simp at hz2

/-- Pairs of figures come back. -/
theorem valOf_fig (q : Int) (h0 : 0 ≤ q) (h1 : q < 16) : valOf (fig q).toNat = q := by
  unfold valOf fig
  split <;> split <;> first | omega | (split <;> omega)
theorem fig_range (q : Int) (h0 : 0 ≤ q) (h1 : q < 16) : 0 ≤ fig q ∧ fig q < 256 := by unfold fig; split <;> omega
theorem hexTo_at (s : ByteArray) : ∀ (n k : Nat), k < n → (hexTo s n)[2 * k]? = some (fig (((s.data.toList.getD k 0).toNat : Int) / 16)) ∧ (hexTo s n)[2 * k + 1]? = some (fig (((s.data.toList.getD k 0).toNat : Int) % 16))
  | 0, k, h => by omega
  | n + 1, k, h => by
    unfold hexTo
    by_cases hk : k < n
    · have := hexTo_at s n k hk
      rw [List.getElem?_append_left (by rw [hexTo_length]; omega), List.getElem?_append_left (by rw [hexTo_length]; omega)]
      exact this
    · obtain rfl : k = n := by omega
      rw [List.getElem?_append_right (by rw [hexTo_length]; omega), List.getElem?_append_right (by rw [hexTo_length]; omega), hexTo_length]
      simp
theorem bstr_get (l : List Int) (j : Nat) (x : Int) (h : l[j]? = some x) (hx : 0 ≤ x ∧ x < 256) : (((bstr l).data.toList.getD j 0).toNat : Int) = x := by
  have : (bstr l).data.toList[j]? = some (UInt8.ofNat x.toNat) := by simp [bstr, h]
  rw [List.getD_eq_getElem?_getD, this]
  simp
  omega
theorem un_back (s : ByteArray) : ∀ k, k ≤ s.size → unTo (bstr (hexTo s s.size)) k = some ((s.data.toList.take k).map fun b => (b.toNat : Int))
  | 0, _ => by simp [unTo]
  | k + 1, h => by
    have hk : k < s.size := by omega
    rw [unTo, un_back s k (by omega)]
    obtain ⟨h1, h2⟩ := hexTo_at s s.size k hk
    have hb : (s.data.toList.getD k 0).toNat < 256 := UInt8.toNat_lt _
    have f1 := fig_range (((s.data.toList.getD k 0).toNat : Int) / 16) (by omega) (by omega)
    have f2 := fig_range (((s.data.toList.getD k 0).toNat : Int) % 16) (by omega) (by omega)
    have g1 := bstr_get _ _ _ h1 f1
    have g2 := bstr_get _ _ _ h2 f2
    have v1 := valOf_fig (((s.data.toList.getD k 0).toNat : Int) / 16) (by omega) (by omega)
    have v2 := valOf_fig (((s.data.toList.getD k 0).toNat : Int) % 16) (by omega) (by omega)
    have e1 : valOf ((bstr (hexTo s s.size)).data.toList.getD (2 * k) 0).toNat = ((s.data.toList.getD k 0).toNat : Int) / 16 := by
      rw [← v1]; congr 1; omega
    have e2 : valOf ((bstr (hexTo s s.size)).data.toList.getD (2 * k + 1) 0).toNat = ((s.data.toList.getD k 0).toNat : Int) % 16 := by
      rw [← v2]; congr 1; omega
    simp only [e1, e2]
    rw [if_neg (by omega)]
    congr 1
    have hk2 : k < s.data.toList.length := hk
    rw [List.take_add_one, List.getElem?_eq_getElem hk2, List.map_append]
    congr 1
    rw [List.getD_eq_getElem?_getD, List.getElem?_eq_getElem hk2]
    simp
    omega
theorem un_whole (s : ByteArray) : unTo (bstr (hexTo s s.size)) ((bstr (hexTo s s.size)).size / 2) = some (s.data.toList.map fun b => (b.toNat : Int)) := by
  have hsz : (bstr (hexTo s s.size)).size = 2 * s.size := by
    have : (bstr (hexTo s s.size)).size = (hexTo s s.size).length := bstr_size' _
    rw [this, hexTo_length]
  rw [hsz, show 2 * s.size / 2 = s.size by omega, un_back s s.size (Nat.le_refl _)]
  rw [List.take_of_length_le (by simp)]
theorem bstr_self (s : ByteArray) : bstr (s.data.toList.map fun b => (b.toNat : Int)) = s := by
  apply ByteArray.ext
  unfold bstr
  rw [List.map_map]
  have : ((fun n : Int => UInt8.ofNat n.toNat) ∘ fun b : UInt8 => (b.toNat : Int)) = id := by
    funext b
    simp
  rw [this, List.map_id]

end Go.Proofs.YtnnfhhdiamidhaaDoor
