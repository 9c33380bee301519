/-
  What an act comes to on the files behind the map is what it comes to on the plain list: no Go in sight.
-/
import Derived.Test.YtekflgecfcjjiaaDo
namespace Go.Proofs.Ytekflgecfcjjiaa
open Go Go.RowKit Go.Maps

theorem find_link (fs : List (Nat × Fl)) (s : ByteArray) : findF (fs.map Prod.snd) s = (findP fs s).map Prod.snd := by
  unfold findF findP
  rw [List.find?_map]
  congr 1
  congr 1
  funext p
  simp only [Function.comp_def, keyP, Fl.key]
  rw [Lib.toList_data, Lib.toList_data]
theorem put_link (fs : List (Nat × Fl)) (p : Nat × Fl) : (putP fs p).map Prod.snd = putL (fs.map Prod.snd) p.2 := map_put (key := keyP) (key' := Fl.key) Prod.snd (fun _ => rfl) fs p
theorem del_link (fs : List (Nat × Fl)) (s : List UInt8) : (delP fs s).map Prod.snd = delL (fs.map Prod.snd) s := map_del (key := keyP) (key' := Fl.key) Prod.snd (fun _ => rfl) fs s

theorem right_name {f : Fl} (h : f.right = true) : nameR f.name = true := (right_true h).1
theorem right_mk {f : Fl} (h1 : nameR f.name = true) (h2 : f.text.size ≤ 20000) (h3 : 0 ≤ f.kept) (h4 : f.kept ≤ f.text.size) : f.right = true := by
  unfold Fl.right
  simp [h1, h3, h4]
  omega
theorem right_parts {f : Fl} (h : f.right = true) : f.text.size ≤ 20000 ∧ 0 ≤ f.kept ∧ f.kept ≤ f.text.size := by
  have := right_true h
  simp at this
  exact ⟨by omega, this.2.2.1, this.2.2.2⟩

section
variable {l : List Fl} {a : Ac}
/-- Where the heads of the act are right, its outcome alone tells. -/
theorem actL_of (hd : diskR l = true) (hn : nameR a.name = true) (ho : a.kind = 3 ∨ a.to = ByteArray.empty) (hx : a.kind = 1 ∨ a.text = ByteArray.empty) : actL l a = (actOut l a).bind fun o => if diskR o = true then some o else none := by
  unfold actL
  rw [if_neg]
  rintro (h | h | ⟨h1, h2⟩ | ⟨h1, h2⟩)
  · rw [hd] at h; cases h
  · rw [hn] at h; cases h
  · exact ho.elim h1 h2
  · exact hx.elim h1 h2
theorem actL_wrong (h : nameR a.name = false ∨ (a.kind ≠ 3 ∧ a.to ≠ ByteArray.empty) ∨ (a.kind ≠ 1 ∧ a.text ≠ ByteArray.empty)) : actL l a = none := by
  unfold actL
  exact if_pos (.inr h)
theorem actL_out (ho : actOut l a = none) : actL l a = none := by
  unfold actL
  split
  · rfl
  · rw [ho]; rfl
end

theorem length_put_in {l : List Fl} (hd : diskR l = true) {f g : Fl} (hf : f ∈ l) (hg : g.key = f.key) : (putL l g).length ≤ 30 := by
  obtain ⟨h1, _, h3⟩ := diskR_iff.1 hd
  rw [length_put h3, hg, any_of_mem hf]
  exact h1

/-- Of an act: whether it is done, and what it leaves. -/
def Comes (fs : List (Nat × Fl)) (r : Bool × List (Nat × Fl)) (a : Ac) : Prop :=
  actL (fs.map Prod.snd) a = (if r.1 = true then some (r.2.map Prod.snd) else none) ∧ (r.1 = false → r.2.map Prod.snd = fs.map Prod.snd)
theorem comes_no {fs : List (Nat × Fl)} {a : Ac} (h : actL (fs.map Prod.snd) a = none) : Comes fs (false, fs) a := ⟨h, fun _ => rfl⟩

theorem add_comes {fs : List (Nat × Fl)} {a : Ac} (g : Nat) (hd : diskR (fs.map Prod.snd) = true) (hk : a.kind = 1) (ho : a.to = ByteArray.empty) : Comes fs (addP fs g a.name a.text) a := by
  obtain ⟨h1, h2, h3⟩ := diskR_iff.1 hd
  unfold addP
  have hl := find_link fs a.name
  cases hf : findP fs a.name with
  | none =>
    rw [hf] at hl
    simp only []
    have hout : actOut (fs.map Prod.snd) a = some (putL (fs.map Prod.snd) ⟨a.name, a.text, 0⟩) := by
      unfold actOut
      rw [if_pos hk, hl]
      simp
    have hno := findF_no hl
    have hlen : (putL (fs.map Prod.snd) ⟨a.name, a.text, 0⟩).length = fs.length + 1 := by
      rw [length_put h3]
      have : (Fl.key ⟨a.name, a.text, 0⟩) = a.name.data.toList := rfl
      rw [this, hno]
      simp
    split
    · rename_i hc
      refine ⟨?_, fun h => by cases h⟩
      rw [actL_of hd hc.1 (.inr ho) (.inl hk), hout, put_link]
      have : diskR (putL (fs.map Prod.snd) ⟨a.name, a.text, 0⟩) = true := by
        rw [diskR_put hd, hlen, right_mk hc.1 hc.2.2 (Int.le_refl _) (by simp)]
        simp at h1
        simp
        omega
      simp [this]
    · rename_i hc
      refine comes_no ?_
      cases hn : nameR a.name with
      | false => exact actL_wrong (.inl hn)
      | true =>
        rw [actL_of hd hn (.inr ho) (.inl hk), hout]
        have : diskR (putL (fs.map Prod.snd) ⟨a.name, a.text, 0⟩) = false := by
          rw [diskR_put hd, hlen]
          by_cases h30 : fs.length = 30
          · simp [h30]
          · have : ¬ a.text.size ≤ 20000 := fun h => hc ⟨hn, h30, h⟩
            have hr : Fl.right ⟨a.name, a.text, 0⟩ = false := by
              cases hr : Fl.right ⟨a.name, a.text, 0⟩ with
              | false => rfl
              | true => exact absurd (right_parts hr).1 this
            rw [hr]; rfl
        simp [this]
  | some p =>
    rw [hf] at hl
    simp only [Option.map_some] at hl ⊢
    obtain ⟨hm, hnm⟩ := findF_some hl
    have hr := h2 _ hm
    have hn : nameR a.name = true := by rw [← hnm]; exact right_name hr
    obtain ⟨p1, p2, p3⟩ := right_parts hr
    have hout : actOut (fs.map Prod.snd) a = some (putL (fs.map Prod.snd) ⟨p.2.name, p.2.text ++ a.text, p.2.kept⟩) := by
      unfold actOut
      rw [if_pos hk, hl]
      simp
    have hle := length_put_in hd hm (g := ⟨p.2.name, p.2.text ++ a.text, p.2.kept⟩) rfl
    split
    · rename_i hc
      refine ⟨?_, fun h => by cases h⟩
      rw [actL_of hd hn (.inr ho) (.inl hk), hout, put_link]
      have : diskR (putL (fs.map Prod.snd) ⟨p.2.name, p.2.text ++ a.text, p.2.kept⟩) = true := by
        rw [diskR_put hd, right_mk (f := ⟨p.2.name, p.2.text ++ a.text, p.2.kept⟩) (show nameR p.2.name = true from right_name hr) (by simp; exact hc) p2 (by simp; omega), decide_eq_true hle]
        rfl
      simp [this]
    · rename_i hc
      refine comes_no ?_
      rw [actL_of hd hn (.inr ho) (.inl hk), hout]
      have : diskR (putL (fs.map Prod.snd) ⟨p.2.name, p.2.text ++ a.text, p.2.kept⟩) = false := by
        rw [diskR_put hd]
        have hr2 : Fl.right ⟨p.2.name, p.2.text ++ a.text, p.2.kept⟩ = false := by
          cases hr2 : Fl.right ⟨p.2.name, p.2.text ++ a.text, p.2.kept⟩ with
          | false => rfl
          | true => have := (right_parts hr2).1; simp at this; exact absurd this hc
        rw [hr2]; rfl
      simp [this]

theorem keep_comes {fs : List (Nat × Fl)} {a : Ac} (hd : diskR (fs.map Prod.snd) = true) (hk : a.kind = 2) (ho : a.to = ByteArray.empty) (hx : a.text = ByteArray.empty) : Comes fs (keepP fs a.name) a := by
  obtain ⟨h1, h2, h3⟩ := diskR_iff.1 hd
  unfold keepP
  have hl := find_link fs a.name
  cases hf : findP fs a.name with
  | none =>
    rw [hf] at hl
    refine comes_no (actL_out ?_)
    unfold actOut
    rw [if_neg (by simp [hk]), hl]
    rfl
  | some p =>
    rw [hf] at hl
    simp only [Option.map_some] at hl ⊢
    obtain ⟨hm, hnm⟩ := findF_some hl
    have hr := h2 _ hm
    have hn : nameR a.name = true := by rw [← hnm]; exact right_name hr
    obtain ⟨p1, p2, p3⟩ := right_parts hr
    have hout : actOut (fs.map Prod.snd) a = some (putL (fs.map Prod.snd) ⟨p.2.name, p.2.text, (p.2.text.size : Int)⟩) := by
      unfold actOut
      rw [if_neg (by simp [hk]), hl]
      simp [hk]
    have hle := length_put_in hd hm (g := ⟨p.2.name, p.2.text, (p.2.text.size : Int)⟩) rfl
    refine ⟨?_, fun h => by cases h⟩
    rw [actL_of hd hn (.inr ho) (.inr hx), hout, put_link]
    have : diskR (putL (fs.map Prod.snd) ⟨p.2.name, p.2.text, (p.2.text.size : Int)⟩) = true := by
      rw [diskR_put hd, right_mk (f := ⟨p.2.name, p.2.text, (p.2.text.size : Int)⟩) (show nameR p.2.name = true from right_name hr) p1 (by simp) (by simp), decide_eq_true hle]
      rfl
    simp [this]

theorem drop_comes {fs : List (Nat × Fl)} {a : Ac} (hd : diskR (fs.map Prod.snd) = true) (hk : a.kind = 4) (ho : a.to = ByteArray.empty) (hx : a.text = ByteArray.empty) : Comes fs (fs.any (fun p => keyP p == a.name.data.toList), delP fs a.name.data.toList) a := by
  obtain ⟨h1, h2, h3⟩ := diskR_iff.1 hd
  have hl := find_link fs a.name
  cases hf : findP fs a.name with
  | none =>
    rw [hf] at hl
    have hno := findP_none hf
    rw [hno]
    refine ⟨?_, fun _ => ?_⟩
    · simp only [Bool.false_eq_true, if_false]
      refine actL_out ?_
      unfold actOut
      rw [if_neg (by simp [hk]), hl]
      rfl
    · show (delP fs a.name.data.toList).map Prod.snd = fs.map Prod.snd
      have e : delP fs a.name.data.toList = fs := filter_all fun p hp => by
        have := List.any_eq_false.1 hno p hp
        simpa using this
      rw [e]
  | some p =>
    rw [hf] at hl
    simp only [Option.map_some] at hl
    obtain ⟨hp, hkp⟩ := findP_some hf
    have hany : fs.any (fun p => keyP p == a.name.data.toList) = true := List.any_eq_true.2 ⟨p, hp, by simpa using hkp⟩
    obtain ⟨hm, hnm⟩ := findF_some hl
    have hn : nameR a.name = true := by rw [← hnm]; exact right_name (h2 _ hm)
    have hout : actOut (fs.map Prod.snd) a = some (delL (fs.map Prod.snd) a.name.data.toList) := by
      unfold actOut
      rw [if_neg (by simp [hk]), hl]
      simp [hk]
    rw [hany]
    refine ⟨?_, fun h => by cases h⟩
    rw [actL_of hd hn (.inr ho) (.inr hx), hout, del_link]
    simp [diskR_del hd]

theorem move_comes {fs : List (Nat × Fl)} {a : Ac} (hd : diskR (fs.map Prod.snd) = true) (hk : a.kind = 3) (hx : a.text = ByteArray.empty) : Comes fs (moveP fs a.name a.to) a := by
  obtain ⟨h1, h2, h3⟩ := diskR_iff.1 hd
  unfold moveP
  have hl := find_link fs a.name
  cases hf : findP fs a.name with
  | none =>
    rw [hf] at hl
    refine comes_no (actL_out ?_)
    unfold actOut
    rw [if_neg (by simp [hk]), hl]
    rfl
  | some p =>
    rw [hf] at hl
    simp only [Option.map_some] at hl ⊢
    obtain ⟨hm, hnm⟩ := findF_some hl
    have hr := h2 _ hm
    have hn : nameR a.name = true := by rw [← hnm]; exact right_name hr
    obtain ⟨p1, p2, p3⟩ := right_parts hr
    split
    · rename_i hc
      have hout : actOut (fs.map Prod.snd) a = some (putL (delL (fs.map Prod.snd) a.name.data.toList) ⟨a.to, p.2.text, p.2.kept⟩) := by
        unfold actOut
        rw [if_neg (by simp [hk]), hl]
        simp only [hk]
        rw [if_neg (by decide), if_pos trivial, if_neg]
        rintro (h | h | h)
        · omega
        · exact hc.2.2 h
        · rw [hc.2.1] at h; cases h
      have hdd := diskR_del hd a.name.data.toList
      have hlen : (putL (delL (fs.map Prod.snd) a.name.data.toList) ⟨a.to, p.2.text, p.2.kept⟩).length ≤ 30 := by
        have e1 := length_del h3 a.name.data.toList
        have hany : (fs.map Prod.snd).any (fun y => y.key == a.name.data.toList) = true := by rw [← hnm]; exact any_of_mem hm
        rw [hany] at e1
        simp only [if_true] at e1
        rw [length_put (asc_del h3 _)]
        split <;> omega
      refine ⟨?_, fun h => by cases h⟩
      rw [actL_of hd hn (.inl hk) (.inr hx), hout, put_link, del_link]
      have : diskR (putL (delL (fs.map Prod.snd) a.name.data.toList) ⟨a.to, p.2.text, p.2.kept⟩) = true := by
        rw [diskR_put hdd, right_mk (f := ⟨a.to, p.2.text, p.2.kept⟩) hc.2.1 p1 p2 p3, decide_eq_true hlen]
        rfl
      simp [this]
    · rename_i hc
      refine comes_no (actL_out ?_)
      unfold actOut
      rw [if_neg (by simp [hk]), hl]
      simp only [hk]
      rw [if_neg (by decide), if_pos trivial, if_pos]
      by_cases e1 : p.2.kept = (p.2.text.size : Int)
      · by_cases e2 : a.to = a.name
        · exact .inr (.inl e2)
        · right; right
          cases hq : nameR a.to with
          | false => rfl
          | true => exact absurd ⟨e1, hq, e2⟩ hc
      · left; omega

theorem do_comes (fs : List (Nat × Fl)) (g : Nat) (a : Ac) (hd : diskR (fs.map Prod.snd) = true) : Comes fs (doP fs g a) a := by
  unfold doP
  split
  · rename_i h
    refine comes_no (actL_wrong ?_)
    rcases h with ⟨h1, h2⟩ | ⟨h1, h2⟩
    · exact .inr (.inr ⟨h2, h1⟩)
    · exact .inr (.inl ⟨h2, h1⟩)
  · rename_i h
    have hx : a.kind = 1 ∨ a.text = ByteArray.empty := by
      by_cases e : a.kind = 1
      · exact .inl e
      · by_cases e2 : a.text = ByteArray.empty
        · exact .inr e2
        · exact absurd (.inl ⟨e2, e⟩) h
    have ho : a.kind = 3 ∨ a.to = ByteArray.empty := by
      by_cases e : a.kind = 3
      · exact .inl e
      · by_cases e2 : a.to = ByteArray.empty
        · exact .inr e2
        · exact absurd (.inr ⟨e2, e⟩) h
    by_cases k1 : a.kind = 1
    · rw [if_pos k1]
      exact add_comes g hd k1 (ho.resolve_left (by omega))
    · rw [if_neg k1]
      have hx := hx.resolve_left k1
      by_cases k2 : a.kind = 2
      · rw [if_pos k2]
        exact keep_comes hd k2 (ho.resolve_left (by omega)) hx
      · rw [if_neg k2]
        by_cases k3 : a.kind = 3
        · rw [if_pos k3]
          exact move_comes hd k3 hx
        · rw [if_neg k3]
          by_cases k4 : a.kind = 4
          · rw [if_pos k4]
            exact drop_comes hd k4 (ho.resolve_left (by omega)) hx
          · rw [if_neg k4]
            refine comes_no (actL_out ?_)
            unfold actOut
            rw [if_neg k1]
            cases findF (fs.map Prod.snd) a.name with
            | none => rfl
            | some f => simp [k2, k3, k4]
end Go.Proofs.Ytekflgecfcjjiaa
