/-
  Frames behind one another, whole and cut: what is read of them (plain mathematics).
-/
import Derived.Test.YtijmaplejpnggaaDoorLu
import Derived.Test.YtijmaplejpnggaaDoorRvb
namespace Go.Proofs.YtijmaplejpnggaaDoor
open Go.RowKit

theorem frameT_size (t : ByteArray) : (frameT t).size = (varI t.size).length + 4 + t.size := by
  unfold frameT; rw [ByteArray.size_append, ByteArray.size_append, bstr_size, tail4_size]

theorem rdF_whole (p t q : ByteArray) (h1 : 1 ≤ t.size) (h2 : t.size ≤ 9000) : rdF (p ++ frameT t ++ q) p.size = some (t, (p ++ frameT t).size) := by
  have e : p ++ frameT t ++ q = p ++ bstr (varI t.size) ++ (tail4 t ++ t ++ q) := by unfold frameT; simp only [ByteArray.append_assoc]
  have hr : rv (p ++ frameT t ++ q) p.size = ((t.size : Int), ((p.size + (varI t.size).length : Nat) : Int), true) := by
    rw [e]; exact rv_back p _ t.size (by omega)
  have hz : (p ++ frameT t ++ q).size = p.size + ((varI t.size).length + 4 + t.size) + q.size := by
    rw [ByteArray.size_append, ByteArray.size_append, frameT_size]
  have hx : (p ++ frameT t ++ q).extract (p.size + (varI t.size).length + 4) (p.size + (varI t.size).length + 4 + t.size) = t := by
    have e2 : p ++ frameT t ++ q = (p ++ bstr (varI t.size) ++ tail4 t) ++ (t ++ q) := by unfold frameT; simp only [ByteArray.append_assoc]
    have z2 : (p ++ bstr (varI t.size) ++ tail4 t).size = p.size + (varI t.size).length + 4 := by rw [ByteArray.size_append, ByteArray.size_append, bstr_size, tail4_size]
    rw [e2, ByteArray.extract_append_size_add' (k := p.size + (varI t.size).length + 4) (i := 0) (j := t.size) z2.symm]
    exact ByteArray.extract_append_eq_left rfl
  have hf : (p ++ frameT t ++ q).extract p.size (p.size + (varI t.size).length + 4 + t.size) = frameT t := by
    rw [ByteArray.append_assoc]
    have := ByteArray.extract_append_size_add' (a := p) (b := frameT t ++ q) (k := p.size) (i := 0) (j := (frameT t).size) rfl
    rw [show p.size + (varI t.size).length + 4 + t.size = p.size + (frameT t).size by rw [frameT_size]; omega]
    rw [Nat.add_zero] at this
    rw [this]
    exact ByteArray.extract_append_eq_left rfl
  have hd : ((p.size + (varI t.size).length : Nat) : Int).toNat = p.size + (varI t.size).length := Int.toNat_natCast _
  unfold rdF
  rw [hr]
  simp only [Int.toNat_natCast]
  rw [if_pos ⟨trivial, by omega⟩, hx, hf, if_pos ⟨h1, h2, rfl⟩]
  congr 2
  rw [ByteArray.size_append, frameT_size]
  omega

theorem extract_left (a b : ByteArray) (k : Nat) (h : k ≤ a.size) : (a ++ b).extract 0 k = a.extract 0 k := by
  rw [ByteArray.extract_append]
  rw [show (0 : Nat) - a.size = 0 by omega, show k - a.size = 0 by omega, ByteArray.extract_same, ByteArray.append_empty]
theorem extract_over (a b : ByteArray) (k : Nat) (h : a.size ≤ k) : (a ++ b).extract 0 k = a ++ b.extract 0 (k - a.size) := by
  rw [ByteArray.extract_append]
  rw [show (0 : Nat) - a.size = 0 by omega]
  congr 1
  apply ByteArray.ext
  rw [ByteArray.data_extract]
  exact Array.extract_eq_self_iff.2 (Or.inr ⟨rfl, h⟩)

theorem rdF_torn (p t : ByteArray) (k : Nat) (h2 : t.size ≤ 9000) (hk : k < (frameT t).size) : rdF (p ++ (frameT t).extract 0 k) p.size = none := by
  rw [frameT_size] at hk
  by_cases hv : k < (varI t.size).length
  · refine rdF_no1 (x := 0) (y := 0) ?_
    have hz : ((frameT t).extract 0 k).size = k := by rw [ByteArray.size_extract, frameT_size]; omega
    refine rv_torn p _ t.size (by rw [hz]; exact hv) ?_
    rw [hz]
    unfold frameT
    rw [ByteArray.append_assoc, extract_left _ _ _ (by rw [bstr_size]; omega)]
  · have e : p ++ (frameT t).extract 0 k = p ++ bstr (varI t.size) ++ (tail4 t ++ t).extract 0 (k - (varI t.size).length) := by
      unfold frameT
      rw [ByteArray.append_assoc, extract_over _ _ _ (by rw [bstr_size]; omega), bstr_size, ByteArray.append_assoc]
    have hr : rv (p ++ (frameT t).extract 0 k) p.size = ((t.size : Int), ((p.size + (varI t.size).length : Nat) : Int), true) := by
      rw [e]; exact rv_back p _ t.size (by omega)
    refine rdF_no2 hr ?_
    have hz : (p ++ (frameT t).extract 0 k).size = p.size + k := by
      rw [ByteArray.size_append, ByteArray.size_extract, frameT_size]; omega
    rw [hz]
    omega

theorem rdF_end (s : ByteArray) : rdF s s.size = none := by
  refine rdF_no1 (x := 0) (y := 0) ?_
  rw [rv_in_eq (Nat.le_refl _)]
  exact rvGo_end (by omega)

/-- Frames behind one another. -/
def cat : List ByteArray → ByteArray
  | [] => ByteArray.empty
  | t :: l => frameT t ++ cat l
def Recs (l : List ByteArray) : Prop := ∀ t ∈ l, 1 ≤ t.size ∧ t.size ≤ 9000
theorem behindF_cons (x : ByteArray × Nat) (l : List (ByteArray × Nat)) (a : Nat) : behindF (x :: l) a = behindF l x.2 := by simp [behindF]

/-- What is read of frames that are cut anywhere: just the whole ones. -/
theorem frs_cut : ∀ (l : List ByteArray) (p : ByteArray) (k : Nat), Recs l → k ≤ (cat l).size →
    ∃ m, m ≤ l.length ∧ (cat (l.take m)).size ≤ k ∧ (m = l.length ∨ k < (cat (l.take (m + 1))).size) ∧
      recs (frs (p ++ (cat l).extract 0 k) p.size) = l.take m ∧ behindF (frs (p ++ (cat l).extract 0 k) p.size) p.size = p.size + (cat (l.take m)).size
  | [], p, k, _, hk => by
    have hk0 : k = 0 := by simp [cat] at hk; omega
    subst hk0
    have e : p ++ (cat []).extract 0 0 = p := by rw [ByteArray.extract_same, ByteArray.append_empty]
    rw [e, frs_none (rdF_end p)]
    exact ⟨0, Nat.le_refl _, by simp [cat], Or.inl rfl, rfl, by simp [behindF, cat]⟩
  | t :: l, p, k, hr, hk => by
    obtain ⟨t1, t2⟩ := hr t (by simp)
    by_cases hf : k < (frameT t).size
    · have e : p ++ (cat (t :: l)).extract 0 k = p ++ (frameT t).extract 0 k := by
        show p ++ (frameT t ++ cat l).extract 0 k = _
        rw [extract_left _ _ _ (by omega)]
      rw [e, frs_none (rdF_torn p t k t2 hf)]
      refine ⟨0, Nat.zero_le _, by simp [cat], Or.inr ?_, rfl, by simp [behindF, cat]⟩
      show k < (frameT t ++ cat (l.take 0)).size
      rw [ByteArray.size_append]; omega
    · have e : p ++ (cat (t :: l)).extract 0 k = p ++ frameT t ++ (cat l).extract 0 (k - (frameT t).size) := by
        show p ++ (frameT t ++ cat l).extract 0 k = _
        rw [extract_over _ _ _ (by omega), ByteArray.append_assoc]
      have hk2 : k ≤ (frameT t).size + (cat l).size := by
        have : (cat (t :: l)).size = (frameT t).size + (cat l).size := ByteArray.size_append
        omega
      obtain ⟨m, h1, h2, h3, h4, h5⟩ := frs_cut l (p ++ frameT t) (k - (frameT t).size) (fun u hu => hr u (by simp [hu])) (by omega)
      have hp : (p ++ frameT t).size = p.size + (frameT t).size := ByteArray.size_append
      rw [e, frs_some (by rw [ByteArray.size_append, hp]; omega) (rdF_whole p t _ t1 t2)]
      have c1 : (cat ((t :: l).take (m + 1))).size = (frameT t).size + (cat (l.take m)).size := ByteArray.size_append
      have c2 : (cat ((t :: l).take (m + 1 + 1))).size = (frameT t).size + (cat (l.take (m + 1))).size := ByteArray.size_append
      refine ⟨m + 1, by simp; omega, by omega, ?_, ?_, ?_⟩
      · rcases h3 with h3 | h3
        · exact Or.inl (by simp [h3])
        · exact Or.inr (by omega)
      · show t :: recs _ = _
        rw [h4]; rfl
      · rw [behindF_cons, h5, c1, hp]; omega

theorem frs_cat (l : List ByteArray) (k : Nat) (hr : Recs l) (hk : k ≤ (cat l).size) :
    ∃ m, m ≤ l.length ∧ (cat (l.take m)).size ≤ k ∧ (m = l.length ∨ k < (cat (l.take (m + 1))).size) ∧
      recs (frs ((cat l).extract 0 k) 0) = l.take m ∧ behindF (frs ((cat l).extract 0 k) 0) 0 = (cat (l.take m)).size := by
  have := frs_cut l ByteArray.empty k hr hk
  simpa using this

end Go.Proofs.YtijmaplejpnggaaDoor
