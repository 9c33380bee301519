/-
  A piece of a field, as the program reads it: plain facts and the walk. A field as the program reads it: plain facts. A field as the program reads it: the walk.
-/
import Derived.Test.YtjmclcjhimcehaaGreatDoorG7
import Derived.Test.YtjmclcjhimcehaaGreatDoorG10
import Derived.Test.YtjmclcjhimcehaaGreatDoorG6
namespace Go.Proofs.YtjmclcjhimcehaaGreatDoor
open Go Go.RowKit
set_option linter.unusedVariables false

/-- A number within a reach. -/
def numOk (s : ByteArray) (lo hi : Int) : Bool := (rd s).2 && decide (lo ≤ (rd s).1) && decide ((rd s).1 ≤ hi)
/-- Two numbers. -/
def twoOk (x y : ByteArray) (lo hi : Int) : Bool := numOk x lo hi && (numOk y lo hi && decide ((rd x).1 ≤ (rd y).1))
theorem rd_not_free {s : ByteArray} (h : ¬ free s 45) : rd s = (0, false) := by
  have h2 : ∃ b ∈ s.data.toList, b.toNat = 45 := by
    apply Classical.byContradiction
    intro hn
    exact h fun b hb e => hn ⟨b, hb, e⟩
  obtain ⟨b, hb, e⟩ := h2
  obtain ⟨k, hk⟩ := List.getElem?_of_mem hb
  rw [Array.getElem?_toList] at hk
  obtain ⟨hlt, he⟩ := Array.getElem?_eq_some_iff.1 hk
  have hlt2 : k < s.size := hlt
  refine rd_none (j := k) hlt2 (.inl ?_)
  have : s[k] = b := he
  rw [this, e]
  decide
theorem piece_one {s : ByteArray} {lo hi : Int} (h1 : s ≠ ⟨#[42]⟩) (h2 : ¬ (2 < s.size ∧ s.extract 0 2 = ⟨#[42, 47]⟩)) (hf : free s 45) : (piece s lo hi).2.2.2 = twoOk s s lo hi ∧ (piece s lo hi).1 = (rd s).1 ∧ (piece s lo hi).2.1 = (rd s).1 ∧ (piece s lo hi).2.2.1 = 1 := by
  unfold piece
  rw [if_neg h1, if_neg h2, split_free hf]
  refine ⟨?_, rfl, rfl, rfl⟩
  show ((rd s).2 && true && decide (1 ≤ 2) && decide (lo ≤ (rd s).1) && decide ((rd s).1 ≤ (rd s).1) && decide ((rd s).1 ≤ hi)) = _
  unfold twoOk numOk
  cases (rd s).2 <;> simp
theorem split_len {s : ByteArray} {c : UInt8} (h : ¬ free s c.toNat) : 2 ≤ (splitB s c.toNat).length := by
  rcases first_of s c with ⟨_, hf⟩ | ⟨i, _, _, hf, he⟩
  · exact absurd hf h
  · rw [he, split_first hf, List.length_cons]
    have := cutsN_some (s.extract (i + 1) s.size) c.toNat
    omega
theorem piece_two {s x y : ByteArray} {lo hi : Int} (h1 : s ≠ ⟨#[42]⟩) (h2 : ¬ (2 < s.size ∧ s.extract 0 2 = ⟨#[42, 47]⟩)) (hf : free x 45) (he : s = x ++ ⟨#[45]⟩ ++ y) : (piece s lo hi).2.2.2 = twoOk x y lo hi ∧ (twoOk x y lo hi = true → (piece s lo hi).1 = (rd x).1 ∧ (piece s lo hi).2.1 = (rd y).1 ∧ (piece s lo hi).2.2.1 = 1) := by
  have hs : splitB s 45 = x :: splitB y 45 := by rw [he]; exact split_first (c := 45) hf
  unfold piece
  rw [if_neg h1, if_neg h2, hs]
  by_cases hy : free y 45
  · rw [split_free hy]
    refine ⟨?_, fun _ => ⟨rfl, rfl, rfl⟩⟩
    show ((rd x).2 && (rd y).2 && decide (2 ≤ 2) && decide (lo ≤ (rd x).1) && decide ((rd x).1 ≤ (rd y).1) && decide ((rd y).1 ≤ hi)) = _
    unfold twoOk numOk
    cases (rd x).2 <;> cases (rd y).2 <;> simp
    rw [Bool.eq_iff_iff]
    simp
    omega
  · have h3 := split_len (c := 45) hy
    have h3' : 2 ≤ (splitB y 45).length := h3
    have hz : twoOk x y lo hi = false := by
      unfold twoOk numOk
      rw [rd_not_free hy]
      simp
    refine ⟨?_, fun h => by rw [hz] at h; cases h⟩
    rw [hz]
    unfold pieceP
    have hl : ¬ (x :: splitB y 45).length ≤ 2 := by rw [List.length_cons]; omega
    simp only [decide_eq_false hl, Bool.and_false, Bool.false_and]
theorem pre_not {s : ByteArray} (h : Lib.hasPrefix s.data.toList [42, 47] = false) : ¬ (2 < s.size ∧ s.extract 0 2 = ⟨#[42, 47]⟩) := by
  rintro ⟨h1, h2⟩
  have h3 : (s.extract 0 2).data.toList = [42, 47] := by rw [h2]
  rw [ByteArray.data_extract, Array.toList_extract] at h3
  simp at h3
  have h4 : Lib.hasPrefix s.data.toList [42, 47] = true := by
    unfold Lib.hasPrefix
    rw [List.isPrefixOf_iff_prefix]
    exact ⟨s.data.toList.drop 2, by rw [← h3, List.take_append_drop]⟩
  rw [h] at h4
  cases h4
theorem pre_steps {s : ByteArray} (h : Lib.hasPrefix s.data.toList [42, 47] = true) : ∃ r : List UInt8, s = ⟨(42 :: 47 :: r).toArray⟩ ∧ Lib.trimPrefix s.data.toList [42, 47] = r := by
  unfold Lib.hasPrefix at h
  obtain ⟨r, hr⟩ := List.isPrefixOf_iff_prefix.1 h
  refine ⟨r, ?_, ?_⟩
  · apply ByteArray.ext
    apply Array.toList_inj.1
    rw [← hr]
    simp
  · unfold Lib.trimPrefix Lib.hasPrefix
    rw [if_pos h, ← hr]
    rfl
theorem piece_steps {r : List UInt8} {lo hi : Int} : (piece ⟨(42 :: 47 :: r).toArray⟩ lo hi).2.2.2 = ((rd ⟨r.toArray⟩).2 && decide (1 ≤ (rd ⟨r.toArray⟩).1)) ∧ (((rd ⟨r.toArray⟩).2 && decide (1 ≤ (rd ⟨r.toArray⟩).1)) = true → (piece ⟨(42 :: 47 :: r).toArray⟩ lo hi).1 = lo ∧ (piece ⟨(42 :: 47 :: r).toArray⟩ lo hi).2.1 = hi ∧ (piece ⟨(42 :: 47 :: r).toArray⟩ lo hi).2.2.1 = (rd ⟨r.toArray⟩).1) := by
  have h1 : (⟨(42 :: 47 :: r).toArray⟩ : ByteArray) ≠ ⟨#[42]⟩ := by
    intro e
    have := congrArg ByteArray.size e
    simp [ByteArray.size] at this
  cases r with
  | nil =>
    have hz : rd ⟨([] : List UInt8).toArray⟩ = (0, false) := rd_out (.inl rfl)
    have hp := piece_one (s := ⟨(42 :: 47 :: ([] : List UInt8)).toArray⟩) (lo := lo) (hi := hi) h1 (by intro h; exact absurd h.1 (by show ¬ 2 < 2; decide)) (by intro b hb; simp at hb; rcases hb with rfl | rfl <;> decide)
    have hr : rd ⟨(42 :: 47 :: ([] : List UInt8)).toArray⟩ = (0, false) := rd_none (j := 0) (by show 0 < 2; decide) (.inl (by show (42 : UInt8).toNat < 48; decide))
    rw [hz, hp.1]
    refine ⟨?_, fun h => by cases h⟩
    unfold twoOk numOk
    rw [hr]
    rfl
  | cons b r =>
    have h2 : 2 < (⟨(42 :: 47 :: b :: r).toArray⟩ : ByteArray).size ∧ (⟨(42 :: 47 :: b :: r).toArray⟩ : ByteArray).extract 0 2 = ⟨#[42, 47]⟩ := by
      refine ⟨by simp [ByteArray.size], ?_⟩
      apply ByteArray.ext
      simp
    have h3 : (⟨(42 :: 47 :: b :: r).toArray⟩ : ByteArray).extract 2 (⟨(42 :: 47 :: b :: r).toArray⟩ : ByteArray).size = ⟨(b :: r).toArray⟩ := by
      apply ByteArray.ext
      simp [ByteArray.size]
    unfold piece
    rw [if_neg h1, if_pos h2, h3]
    exact ⟨rfl, fun _ => ⟨rfl, rfl, rfl⟩⟩
/-- What readPiece answers. -/
def pieceF (s : ByteArray) (lo hi : Int) : Nat → Bool := orNone (piece s lo hi).2.2.2 (eachP (piece s lo hi).1.toNat (piece s lo hi).2.1 (piece s lo hi).2.2.1.toNat)
/-- The library's word of the greatest length is some number. -/
def MaxIs (w : World) : Prop := ∃ m, w.cell? ⟨3, 0, none⟩ = some (.int .i64 m)
theorem MaxIs.up {w w' : World} (h : MaxIs w) (hb : Below w.heap.size w w') : MaxIs w' := by
  obtain ⟨m, hm⟩ := h
  exact ⟨m, cell_up hb hm⟩
theorem cut_is (s : ByteArray) : (free s 45 ∧ Lib.cut s.data.toList [45] = (s.data.toList, [], false)) ∨ ∃ x y : ByteArray, free x 45 ∧ s = x ++ ⟨#[45]⟩ ++ y ∧ Lib.cut s.data.toList [45] = (x.data.toList, y.data.toList, true) := by
  rcases first_of s 45 with ⟨h, hf⟩ | ⟨i, h, hi, hf, he⟩
  · left
    refine ⟨hf, ?_⟩
    have h' : Lib.index s.data.toList [45] = -1 := h
    unfold Lib.cut
    rw [if_neg (by rw [h']; decide)]
  · right
    refine ⟨s.extract 0 i, s.extract (i + 1) s.size, hf, he, ?_⟩
    have h' : Lib.index s.data.toList [45] = (i : Int) := h
    have hsz : s.data.toList.length = s.size := by simp
    unfold Lib.cut
    rw [if_pos (by rw [h']; omega), h', Int.toNat_natCast, ByteArray.data_extract, ByteArray.data_extract]
    refine Prod.ext ?_ (Prod.ext ?_ rfl)
    · simp
    · show List.drop (i + 1) s.data.toList = _
      rw [Array.toList_extract]
      simp
      rw [List.take_of_length_le (by simp)]

def B2c (W : World) (b : Nat) (lo hi : Int) : Prop := W.cell? ⟨b, 0, none⟩ = some (.int .i64 lo) ∧ W.cell? ⟨b, 1, none⟩ = some (.int .i64 hi)
theorem B2c.up {W W' : World} {b : Nat} {lo hi : Int} (h : B2c W b lo hi) (hb : Below W.heap.size W W') : B2c W' b lo hi := ⟨cell_up hb h.1, cell_up hb h.2⟩
set_option maxRecDepth 10000 in
set_option maxHeartbeats 4000000 in
theorem readPiece_any (s : ByteArray) (lo : Nat) (hi : Int) (w : World) (hs : s.size ≤ 1048576) (hlo : lo ≤ 60) (h9 : hi ≤ 59) (hm : MaxIs w) :
    Calls Tryz.prog 193 #[.string s, .agg #[.int .i64 (lo : Int), .int .i64 hi]] w fun e w' => e = .returned (.tuple #[.agg (fldA (pieceF s lo hi)), .bool (piece s lo hi).2.2.2]) ∧ Below w.heap.size w w' := by
  have HM : Hid (∀ W, Below w.heap.size w W → MaxIs W) := fun W hb => hm.up hb
  clear hm
  by_cases h1 : s = ⟨#[42]⟩
  · have HP : Hid (piece s lo hi = ((lo : Int), hi, 1, true)) := by show piece s lo hi = _; unfold piece; rw [if_pos h1]
    have HF : Hid (fldA (pieceF s lo hi) = fldA (eachP lo hi 1)) := by show _ = _; unfold pieceF; rw [HP.out]; rfl
    rw [HF.out, HP.out]
    have HE : Hid (∀ W, Calls Tryz.prog 196 #[.agg #[.int .i64 (lo : Int), .int .i64 hi], .int .i64 1] W fun e w' => e = .returned (.agg (fldA (eachP lo hi 1))) ∧ Below W.heap.size W w') := fun W => eachOf_nat lo 1 hi W hlo h9 (by decide) (by decide)
    clear HP HF
    subst h1
    go_enter Tryz.func193, Tryz.ntmps193
    obtain ⟨V, HV⟩ : ∃ V, Hid ((w.alloc (.cells #[.int .i64 (lo : Int), .int .i64 hi] 206)).alloc (.cells (fldA fun _ => false) 200) = V) := ⟨_, rfl⟩
    have HZ : Hid (Fb 200 V (w.heap.size + 1) (fun _ => false)) := by show Fb _ _ _ _; rw [← HV.out]; exact Fb.new 200 _ _ (by simp)
    have c0 : V.cell? ⟨w.heap.size, 0, none⟩ = some (.int .i64 (lo : Int)) := by rw [← HV.out]; simp [go_sem]
    have c1 : V.cell? ⟨w.heap.size, 1, none⟩ = some (.int .i64 hi) := by rw [← HV.out]; simp [go_sem]
    have BV : Below w.heap.size w V := by rw [← HV.out]; exact ba (ba (Below.refl _ _) _) _
    go_wp2_with (refine wpl_alloc rfl rfl ?_; rw [HV.out])
    refine (HE.out _).mono ?_
    rintro e w1 ⟨rfl, hb1⟩
    have HZ1 : Hid (Fb 200 w1 (w.heap.size + 1) (fun _ => false)) := HZ.out.up hb1
    have B1 := Below.on BV hb1
    clear hb1 c0 c1
    go_wp2_with (refine wpl_store HZ1.out (eachP lo hi 1) (.tmp 4) (.tmp 18) rfl rfl rfl rfl ?_)
    refine bodyPost_ret (ret_f2 rfl rfl rfl (HZ1.out.row _)) rfl ?_
    exact ⟨rfl, below_setRow B1 (by omega) _⟩
  have hq : (s.toList == [42]) = false := by rw [← star_list]; exact ne_list h1
  cases hpre : Lib.hasPrefix s.data.toList [42, 47] with
  | true =>
    obtain ⟨r, hsr, htr⟩ := pre_steps hpre
    have hps := piece_steps (r := r) (lo := lo) (hi := hi)
    rw [← hsr] at hps
    obtain ⟨X, hX⟩ : ∃ X : ByteArray, (⟨r.toArray⟩ : ByteArray) = X := ⟨_, rfl⟩
    rw [hX] at hps
    have hXs : X.size ≤ 9223372036854775807 := by
      rw [← hX]
      have h7 : s.data.size = r.length + 2 := by rw [hsr]; simp
      have h8 : s.data.size = s.size := rfl
      show r.toArray.size ≤ _
      rw [List.size_toArray]
      omega
    have HCP : Hid (∀ W, Calls Tryz.prog 212 #[.string s, .string ⟨#[42, 47]⟩] W fun e w' => e = .returned (.tuple #[.string X, .bool true]) ∧ w' = W) := fun W => by
      have := Tryz.strings_CutPrefix s ⟨#[42, 47]⟩ W
      have e1 : (⟨#[42, 47]⟩ : ByteArray).data.toList = [42, 47] := rfl
      rw [e1, hpre, htr, hX] at this
      exact this
    have HST : Hid (∀ W, Calls Tryz.prog 213 #[.string X, .agg #[.int .i64 (lo : Int), .int .i64 hi]] W fun e w' => e = .returned (.tuple #[.agg (fldA (pieceF s lo hi)), .bool (piece s lo hi).2.2.2]) ∧ Below W.heap.size W w') := fun W => by
      have := readSteps_any X lo hi W hXs hlo h9
      rw [← hps.1] at this
      have e2 : fldA (orNone (piece s lo hi).2.2.2 (eachP lo hi (rd X).1.toNat)) = fldA (pieceF s lo hi) := by
        unfold pieceF
        cases hk : (piece s lo hi).2.2.2 with
        | false => rfl
        | true =>
          obtain ⟨g1, g2, g3⟩ := hps.2 (hps.1.symm.trans hk)
          rw [g1, g2, g3]
          rfl
      rw [e2] at this
      exact this
    obtain ⟨PF, HPF⟩ : ∃ PF, Hid (pieceF s lo hi = PF) := ⟨_, rfl⟩
    obtain ⟨OK, HOK⟩ : ∃ OK, Hid ((piece s lo hi).2.2.2 = OK) := ⟨_, rfl⟩
    rw [HPF.out, HOK.out] at HST
    rw [HPF.out, HOK.out]
    clear HPF HOK hps hsr htr hX hpre h1
    go_enter Tryz.func193, Tryz.ntmps193
    obtain ⟨V, HV⟩ : ∃ V, Hid ((w.alloc (.cells #[.int .i64 (lo : Int), .int .i64 hi] 206)).alloc (.cells (fldA fun _ => false) 200) = V) := ⟨_, rfl⟩
    have HZ : Hid (Fb 200 V (w.heap.size + 1) (fun _ => false)) := by show Fb _ _ _ _; rw [← HV.out]; exact Fb.new 200 _ _ (by simp)
    have c0 : V.cell? ⟨w.heap.size, 0, none⟩ = some (.int .i64 (lo : Int)) := by rw [← HV.out]; simp [go_sem]
    have c1 : V.cell? ⟨w.heap.size, 1, none⟩ = some (.int .i64 hi) := by rw [← HV.out]; simp [go_sem]
    have BV : Below w.heap.size w V := by rw [← HV.out]; exact ba (ba (Below.refl _ _) _) _
    go_wp2_with (first | (refine wpl_alloc rfl rfl ?_; rw [HV.out]) | (go_at_call 212; refine (HCP.out _).mono ?_; rintro e w2 ⟨rfl, hw⟩; have hw2 := hw.symm; subst hw2))
    refine (HST.out _).mono ?_
    rintro e w1 ⟨rfl, hb1⟩
    have HZ1 : Hid (Fb 200 w1 (w.heap.size + 1) (fun _ => false)) := HZ.out.up hb1
    have B1 := Below.on BV hb1
    clear hb1 c0 c1
    go_wp2_with (refine wpl_store HZ1.out PF (.tmp 4) (.tmp 28) rfl rfl rfl rfl ?_)
    refine bodyPost_ret (ret_f2 rfl rfl rfl (HZ1.out.row _)) rfl ?_
    exact ⟨rfl, below_setRow B1 (by omega) _⟩
  | false =>
    have h2 := pre_not hpre
    have HCP : Hid (∀ W, ∃ z, Calls Tryz.prog 212 #[.string s, .string ⟨#[42, 47]⟩] W fun e w' => e = .returned (.tuple #[.string z, .bool false]) ∧ w' = W) := fun W => by
      have := Tryz.strings_CutPrefix s ⟨#[42, 47]⟩ W
      have e1 : (⟨#[42, 47]⟩ : ByteArray).data.toList = [42, 47] := rfl
      rw [e1, hpre] at this
      exact ⟨_, this⟩
    obtain ⟨X, Y, f, HXY⟩ : ∃ (X Y : ByteArray) (f : Bool), Hid (X.size ≤ 9223372036854775807 ∧ Y.size ≤ 9223372036854775807 ∧ (f = false → Y = X) ∧ (∀ W, MaxIs W → ∃ Z, (f = true → Z = Y) ∧ Calls Tryz.prog 214 #[.string s, .string ⟨#[45]⟩] W fun e w' => e = .returned (.tuple #[.string X, .string Z, .bool f]) ∧ Below W.heap.size W w') ∧ (piece s lo hi).2.2.2 = twoOk X Y lo hi ∧ (twoOk X Y lo hi = true → (piece s lo hi).1 = (rd X).1 ∧ (piece s lo hi).2.1 = (rd Y).1 ∧ (piece s lo hi).2.2.1 = 1)) := by
      have hcut : ∀ W, MaxIs W → Calls Tryz.prog 214 #[.string s, .string ⟨#[45]⟩] W fun e w' => e = .returned (.tuple #[.string ⟨(Lib.cut s.data.toList [45]).1.toArray⟩, .string ⟨(Lib.cut s.data.toList [45]).2.1.toArray⟩, .bool (Lib.cut s.data.toList [45]).2.2]) ∧ Below W.heap.size W w' := fun W hW => by
        obtain ⟨m, hm⟩ := hW
        refine (Tryz.strings_Cut s ⟨#[45]⟩ m W (by omega) hm).mono ?_
        rintro e w' ⟨he, n, hw⟩
        exact ⟨he, by rw [hw]; exact bdrewN (Below.refl _ _) n⟩
      rcases cut_is s with ⟨hf, hc⟩ | ⟨x, y, hf, he, hc⟩
      · have hp := piece_one (lo := lo) (hi := hi) h1 h2 hf
        refine ⟨s, s, false, by omega, by omega, fun _ => rfl, fun W hW => ⟨⟨([] : List UInt8).toArray⟩, fun h => (by cases h), ?_⟩, hp.1, fun _ => hp.2⟩
        have := hcut W hW
        rw [hc, back_text] at this
        exact this
      · have hp := piece_two (lo := lo) (hi := hi) h1 h2 hf he
        have hsz := congrArg ByteArray.size he
        rw [ByteArray.size_append, ByteArray.size_append] at hsz
        refine ⟨x, y, true, by omega, by omega, fun h => (by cases h), fun W hW => ⟨y, fun _ => rfl, ?_⟩, hp.1, hp.2⟩
        have := hcut W hW
        rw [hc, back_text, back_text] at this
        exact this
    have HNX : Hid (∀ W, Calls Tryz.prog 215 #[.string X, .agg #[.int .i64 (lo : Int), .int .i64 hi]] W fun e w' => e = .returned (.tuple #[.int .i64 (rd X).1, .bool (numOk X lo hi)]) ∧ Below W.heap.size W w') := fun W => readNumber_any X lo hi W HXY.out.1
    have HNY : Hid (∀ W, Calls Tryz.prog 215 #[.string Y, .agg #[.int .i64 (lo : Int), .int .i64 hi]] W fun e w' => e = .returned (.tuple #[.int .i64 (rd Y).1, .bool (numOk Y lo hi)]) ∧ Below W.heap.size W w') := fun W => readNumber_any Y lo hi W HXY.out.2.1
    have hbx := rd_bd X
    have hby := rd_bd Y
    obtain ⟨x, hx⟩ : ∃ x : Nat, (rd X).1 = x := ⟨(rd X).1.toNat, by omega⟩
    obtain ⟨y, hy⟩ : ∃ y : Nat, (rd Y).1 = y := ⟨(rd Y).1.toNat, by omega⟩
    obtain ⟨qx, hqx⟩ : ∃ q, numOk X lo hi = q := ⟨_, rfl⟩
    obtain ⟨qy, hqy⟩ : ∃ q, numOk Y lo hi = q := ⟨_, rfl⟩
    have HBX : Hid (qx = true → (lo : Int) ≤ x ∧ (x : Int) ≤ hi) := fun h => by
      rw [← hqx] at h
      unfold numOk at h
      rw [hx] at h
      simp only [Bool.and_eq_true, decide_eq_true_eq] at h
      exact ⟨h.1.2, h.2⟩
    have HBY : Hid (qy = true → (lo : Int) ≤ y ∧ (y : Int) ≤ hi) := fun h => by
      rw [← hqy] at h
      unfold numOk at h
      rw [hy] at h
      simp only [Bool.and_eq_true, decide_eq_true_eq] at h
      exact ⟨h.1.2, h.2⟩
    have HTO : Hid (twoOk X Y lo hi = (qx && (qy && decide ((x : Int) ≤ (y : Int))))) := by show _ = _; unfold twoOk; rw [hqx, hqy, hx, hy]
    have HPOK : Hid ((piece s lo hi).2.2.2 = (qx && (qy && decide ((x : Int) ≤ (y : Int))))) := HXY.out.2.2.2.2.1.trans HTO.out
    have HPFN : Hid ((qx && (qy && decide ((x : Int) ≤ (y : Int)))) = false → fldA (pieceF s lo hi) = fldA (fun _ => false)) := fun h => by
      unfold pieceF
      rw [HPOK.out, h]
      rfl
    have HPFY : Hid ((qx && (qy && decide ((x : Int) ≤ (y : Int)))) = true → fldA (pieceF s lo hi) = fldA (eachP x y 1)) := fun h => by
      obtain ⟨g1, g2, g3⟩ := HXY.out.2.2.2.2.2 (HTO.out.trans h)
      unfold pieceF
      rw [HPOK.out, h, g1, g2, g3, hx, hy, Int.toNat_natCast]
      rfl
    rw [hx, hqx] at HNX
    rw [hy, hqy] at HNY
    rw [hx] at hbx
    rw [hy] at hby
    have HC : Hid (∀ W, Below w.heap.size w W → ∃ Z, (f = true → Z = Y) ∧ Calls Tryz.prog 214 #[.string s, .string ⟨#[45]⟩] W fun e w' => e = .returned (.tuple #[.string X, .string Z, .bool f]) ∧ Below W.heap.size W w') := fun W hb => HXY.out.2.2.2.1 W (HM.out W hb)
    have HYX : Hid (f = false → Y = X) := HXY.out.2.2.1
    obtain ⟨PF, HPF⟩ : ∃ PF, Hid (pieceF s lo hi = PF) := ⟨_, rfl⟩
    rw [HPF.out] at HPFN HPFY
    rw [HPF.out, HPOK.out]
    clear HPF HPOK HTO HXY hx hy hqx hqy hpre h1 h2 HM
    go_enter Tryz.func193, Tryz.ntmps193
    obtain ⟨V, HV⟩ : ∃ V, Hid ((w.alloc (.cells #[.int .i64 (lo : Int), .int .i64 hi] 206)).alloc (.cells (fldA fun _ => false) 200) = V) := ⟨_, rfl⟩
    have HZ : Hid (Fb 200 V (w.heap.size + 1) (fun _ => false)) := by show Fb _ _ _ _; rw [← HV.out]; exact Fb.new 200 _ _ (by simp)
    have HZC : Hid (B2c V w.heap.size lo hi) := by show B2c _ _ _ _; rw [← HV.out]; exact ⟨by simp [go_sem], by simp [go_sem]⟩
    have BV : Below w.heap.size w V := by rw [← HV.out]; exact ba (ba (Below.refl _ _) _) _
    obtain ⟨z, hcp⟩ := HCP.out V
    obtain ⟨Z, hZ, hct⟩ := HC.out V BV
    have HCT : Hid (Calls Tryz.prog 214 #[.string s, .string ⟨#[45]⟩] V fun e w' => e = .returned (.tuple #[.string X, .string Z, .bool f]) ∧ Below V.heap.size V w') := hct
    have HCPV : Hid (Calls Tryz.prog 212 #[.string s, .string ⟨#[42, 47]⟩] V fun e w' => e = .returned (.tuple #[.string z, .bool false]) ∧ w' = V) := hcp
    have HZE : Hid (f = true → Z = Y) := hZ
    clear hcp hct hZ HCP HC
    go_wp2_with (first | (refine wpl_alloc rfl rfl ?_; rw [HV.out]) | (go_at_call 212; refine HCPV.out.mono ?_; rintro e w2 ⟨rfl, hw⟩; have hw2 := hw.symm; subst hw2))
    refine HCT.out.mono ?_
    rintro e w1 ⟨rfl, hb1⟩
    have HZ1 : Hid (Fb 200 w1 (w.heap.size + 1) (fun _ => false)) := HZ.out.up hb1
    have HC1 : Hid (B2c w1 w.heap.size lo hi) := HZC.out.up hb1
    have B1 := Below.on BV hb1
    clear hb1 HV HZ HZC BV HCT HCPV
    have c0 := HC1.out.1
    have c1 := HC1.out.2
    cases f with
    | false =>
      have hyx := HYX.out rfl
      subst hyx
      go_wp2_with fail
      refine (HNX.out _).mono ?_
      rintro e w3 ⟨rfl, hb3⟩
      have HZ3 : Hid (Fb 200 w3 (w.heap.size + 1) (fun _ => false)) := HZ1.out.up hb3
      have HC3 : Hid (B2c w3 w.heap.size lo hi) := HC1.out.up hb3
      have B3 := Below.on B1 hb3
      clear hb3 c0 c1
      have c0 := HC3.out.1
      have c1 := HC3.out.2
      go_wp2_with fail
      refine (HNY.out _).mono ?_
      rintro e w4 ⟨rfl, hb4⟩
      have HZ4 : Hid (Fb 200 w4 (w.heap.size + 1) (fun _ => false)) := HZ3.out.up hb4
      have B4 := Below.on B3 hb4
      clear hb4 c0 c1 HC3 HC1 HZ1 HZ3 B3 B1 HNX HNY
      cases qx with
      | false =>
        have HF := HPFN.out rfl
        go_wp2_with (first | (refine wpl_build rfl rfl ?_) | (refine wpl_store HZ4.out (fun _ => false) (.tmp 4) (.tmp 62) rfl rfl rfl rfl ?_))
        refine bodyPost_ret (ret_f2 rfl rfl rfl (HZ4.out.row _)) rfl ?_
        exact ⟨by rw [HF]; rfl, below_setRow B4 (by omega) _⟩
      | true =>
        cases qy with
        | false =>
          have HF := HPFN.out rfl
          go_wp2_with (first | (refine wpl_build rfl rfl ?_) | (refine wpl_store HZ4.out (fun _ => false) (.tmp 4) (.tmp 62) rfl rfl rfl rfl ?_))
          refine bodyPost_ret (ret_f2 rfl rfl rfl (HZ4.out.row _)) rfl ?_
          exact ⟨by rw [HF]; rfl, below_setRow B4 (by omega) _⟩
        | true =>
          obtain ⟨x0, x1⟩ := HBX.out rfl
          obtain ⟨y0, y1⟩ := HBY.out rfl
          by_cases hxy : (x : Int) ≤ (y : Int)
          · have hd : decide ((x : Int) ≤ (y : Int)) = true := decide_eq_true hxy
            have HF : Hid (fldA PF = fldA (eachP x y 1)) := HPFY.out (by rw [hd]; rfl)
            have g1 : decide ((y : Int) < (x : Int)) = false := decide_eq_false (by omega)
            have HE : Hid (∀ W, Calls Tryz.prog 196 #[.agg #[.int .i64 (x : Int), .int .i64 (y : Int)], .int .i64 1] W fun e w' => e = .returned (.agg (fldA (eachP x y 1))) ∧ Below W.heap.size W w') := fun W => eachOf_nat x 1 y W (by omega) (by omega) (by decide) (by decide)
            have HD : Hid (decide ((x : Int) ≤ (y : Int)) = true) := hd
            clear hd
            go_wp2_with fail
            refine (HE.out _).mono ?_
            rintro e w5 ⟨rfl, hb5⟩
            have HZ5 : Hid (Fb 200 w5 (w.heap.size + 1) (fun _ => false)) := HZ4.out.up hb5
            have B5' := Below.on B4 hb5
            clear hb5
            go_wp2_with (refine wpl_store HZ5.out (eachP x y 1) (.tmp 4) (.tmp 66) rfl rfl rfl rfl ?_)
            refine bodyPost_ret (ret_f2 rfl rfl rfl (HZ5.out.row _)) rfl ?_
            exact ⟨by rw [HF.out, HD.out]; rfl, below_setRow B5' (by omega) _⟩
          · have hd : decide ((x : Int) ≤ (y : Int)) = false := decide_eq_false hxy
            have HF : Hid (fldA PF = fldA (fun _ => false)) := HPFN.out (by rw [hd]; rfl)
            have HD : Hid (decide ((x : Int) ≤ (y : Int)) = false) := hd
            have g1 : decide ((y : Int) < (x : Int)) = true := decide_eq_true (by omega)
            clear hd
            go_wp2_with (first | (refine wpl_build rfl rfl ?_) | (refine wpl_store HZ4.out (fun _ => false) (.tmp 4) (.tmp 62) rfl rfl rfl rfl ?_))
            refine bodyPost_ret (ret_f2 rfl rfl rfl (HZ4.out.row _)) rfl ?_
            exact ⟨by rw [HF.out, HD.out]; rfl, below_setRow B4 (by omega) _⟩
    | true =>
      have hzy := HZE.out rfl
      subst hzy
      go_wp2_with fail
      refine (HNX.out _).mono ?_
      rintro e w3 ⟨rfl, hb3⟩
      have HZ3 : Hid (Fb 200 w3 (w.heap.size + 1) (fun _ => false)) := HZ1.out.up hb3
      have HC3 : Hid (B2c w3 w.heap.size lo hi) := HC1.out.up hb3
      have B3 := Below.on B1 hb3
      clear hb3 c0 c1
      have c0 := HC3.out.1
      have c1 := HC3.out.2
      go_wp2_with fail
      refine (HNY.out _).mono ?_
      rintro e w4 ⟨rfl, hb4⟩
      have HZ4 : Hid (Fb 200 w4 (w.heap.size + 1) (fun _ => false)) := HZ3.out.up hb4
      have B4 := Below.on B3 hb4
      clear hb4 c0 c1 HC3 HC1 HZ1 HZ3 B3 B1 HNX HNY
      cases qx with
      | false =>
        have HF := HPFN.out rfl
        go_wp2_with (first | (refine wpl_build rfl rfl ?_) | (refine wpl_store HZ4.out (fun _ => false) (.tmp 4) (.tmp 62) rfl rfl rfl rfl ?_))
        refine bodyPost_ret (ret_f2 rfl rfl rfl (HZ4.out.row _)) rfl ?_
        exact ⟨by rw [HF]; rfl, below_setRow B4 (by omega) _⟩
      | true =>
        cases qy with
        | false =>
          have HF := HPFN.out rfl
          go_wp2_with (first | (refine wpl_build rfl rfl ?_) | (refine wpl_store HZ4.out (fun _ => false) (.tmp 4) (.tmp 62) rfl rfl rfl rfl ?_))
          refine bodyPost_ret (ret_f2 rfl rfl rfl (HZ4.out.row _)) rfl ?_
          exact ⟨by rw [HF]; rfl, below_setRow B4 (by omega) _⟩
        | true =>
          obtain ⟨x0, x1⟩ := HBX.out rfl
          obtain ⟨y0, y1⟩ := HBY.out rfl
          by_cases hxy : (x : Int) ≤ (y : Int)
          · have hd : decide ((x : Int) ≤ (y : Int)) = true := decide_eq_true hxy
            have HF : Hid (fldA PF = fldA (eachP x y 1)) := HPFY.out (by rw [hd]; rfl)
            have g1 : decide ((y : Int) < (x : Int)) = false := decide_eq_false (by omega)
            have HE : Hid (∀ W, Calls Tryz.prog 196 #[.agg #[.int .i64 (x : Int), .int .i64 (y : Int)], .int .i64 1] W fun e w' => e = .returned (.agg (fldA (eachP x y 1))) ∧ Below W.heap.size W w') := fun W => eachOf_nat x 1 y W (by omega) (by omega) (by decide) (by decide)
            have HD : Hid (decide ((x : Int) ≤ (y : Int)) = true) := hd
            clear hd
            go_wp2_with fail
            refine (HE.out _).mono ?_
            rintro e w5 ⟨rfl, hb5⟩
            have HZ5 : Hid (Fb 200 w5 (w.heap.size + 1) (fun _ => false)) := HZ4.out.up hb5
            have B5' := Below.on B4 hb5
            clear hb5
            go_wp2_with (refine wpl_store HZ5.out (eachP x y 1) (.tmp 4) (.tmp 66) rfl rfl rfl rfl ?_)
            refine bodyPost_ret (ret_f2 rfl rfl rfl (HZ5.out.row _)) rfl ?_
            exact ⟨by rw [HF.out, HD.out]; rfl, below_setRow B5' (by omega) _⟩
          · have hd : decide ((x : Int) ≤ (y : Int)) = false := decide_eq_false hxy
            have HF : Hid (fldA PF = fldA (fun _ => false)) := HPFN.out (by rw [hd]; rfl)
            have HD : Hid (decide ((x : Int) ≤ (y : Int)) = false) := hd
            have g1 : decide ((y : Int) < (x : Int)) = true := decide_eq_true (by omega)
            clear hd
            go_wp2_with (first | (refine wpl_build rfl rfl ?_) | (refine wpl_store HZ4.out (fun _ => false) (.tmp 4) (.tmp 62) rfl rfl rfl rfl ?_))
            refine bodyPost_ret (ret_f2 rfl rfl rfl (HZ4.out.row _)) rfl ?_
            exact ⟨by rw [HF.out, HD.out]; rfl, below_setRow B4 (by omega) _⟩
end Go.Proofs.YtjmclcjhimcehaaGreatDoor

namespace Go.Proofs.YtjmclcjhimcehaaGreatDoor
open Go Go.RowKit
set_option linter.unusedVariables false

theorem stamp_all {H : List Bool} {a t x : Nat} : ∀ j, (∀ i, i < j → a + i * t < H.length) → ((stamp H a t j).getD x false = true ↔ (∃ i, i < j ∧ x = a + i * t) ∨ H.getD x false = true)
  | 0, _ => ⟨fun h => .inr h, fun h => h.elim (fun ⟨i, hi, _⟩ => absurd hi (Nat.not_lt_zero _)) id⟩
  | j + 1, h => by
    unfold stamp
    rw [getD_set _ _ _ (by rw [stamp_length]; exact h j (Nat.lt_succ_self j)), Bool.or_eq_true, decide_eq_true_eq, stamp_all j (fun i hi => h i (by omega))]
    constructor
    · rintro (h | ⟨i, hi, rfl⟩ | h)
      · exact .inl ⟨j, Nat.lt_succ_self j, h.symm⟩
      · exact .inl ⟨i, by omega, rfl⟩
      · exact .inr h
    · rintro (⟨i, hi, rfl⟩ | h)
      · by_cases hij : i = j
        · subst hij; exact .inl rfl
        · exact .inr (.inl ⟨i, by omega, rfl⟩)
      · exact .inr (.inr h)
theorem stampP_is {H : List Bool} {q : Int × Int × Int × Bool} {lo hi : Int} (h0 : 0 ≤ lo) (h1 : lo ≤ q.1) (h2 : q.1 ≤ q.2.1) (h3 : q.2.1 ≤ hi) (h4 : 1 ≤ q.2.2.1) (hl : H.length = (hi + 1).toNat) (x : Nat) :
    (stampP H q).getD x false = (H.getD x false || eachP q.1.toNat q.2.1 q.2.2.1.toNat x) := by
  obtain ⟨a, b, t, z⟩ := q
  dsimp only at h1 h2 h3 h4
  obtain ⟨A, hA⟩ : ∃ A : Nat, a = A := ⟨a.toNat, by omega⟩
  obtain ⟨T, hT⟩ : ∃ T : Nat, t = T := ⟨t.toNat, by omega⟩
  obtain ⟨D, hD⟩ : ∃ D : Nat, b - a = D := ⟨(b - a).toNat, by omega⟩
  subst hA hT
  unfold stampP eachP
  dsimp only
  rw [hD, Int.toNat_natCast, Int.toNat_natCast, Int.toNat_natCast]
  have hT1 : 0 < T := by omega
  have hin : ∀ i, i < D / T + 1 → i * T ≤ D := fun i hi => (Nat.le_div_iff_mul_le hT1).1 (by omega)
  rw [Bool.eq_iff_iff, stamp_all _ (fun i hi => by have := hin i hi; omega), Bool.or_eq_true, decide_eq_true_eq]
  constructor
  · rintro (⟨i, hi, rfl⟩ | h)
    · right
      have := hin i hi
      refine ⟨by omega, by omega, ?_⟩
      rw [Nat.add_sub_cancel_left]
      exact Nat.mul_mod_left i T
    · exact .inl h
  · rintro (h | ⟨g1, g2, g3⟩)
    · exact .inr h
    · left
      have e := Nat.div_mul_cancel (Nat.dvd_of_mod_eq_zero g3)
      refine ⟨(x - A) / T, Nat.lt_succ_of_le (Nat.div_le_div_right (by omega)), by omega⟩
theorem stampP_length (H : List Bool) (q : Int × Int × Int × Bool) : (stampP H q).length = H.length := stamp_length _ _ _ _
theorem fieldGo_in {lo hi : Int} (h0 : 0 ≤ lo) (hlh : lo ≤ hi) (x : Nat) : ∀ (l : List ByteArray) (H H' : List Bool), H.length = (hi + 1).toNat → fieldGo lo hi l H = some H' → H'.getD x false = true → H.getD x false = true ∨ (lo ≤ x ∧ (x : Int) ≤ hi)
  | [], H, H', _, h, hx => by
    unfold fieldGo at h
    cases h
    exact .inl hx
  | p :: l, H, H', hl, h, hx => by
    unfold fieldGo at h
    split at h
    · rename_i hp
      obtain ⟨d1, d2, d3, d4, _⟩ := piece_bd hlh hp
      rcases fieldGo_in h0 hlh x l _ H' (by rw [stampP_length]; exact hl) h hx with g | g
      · rw [stampP_is h0 d1 d2 d3 d4 hl, Bool.or_eq_true] at g
        rcases g with g | g
        · exact .inl g
        · unfold eachP at g
          have := of_decide_eq_true g
          exact .inr ⟨by omega, by omega⟩
      · exact .inr g
    · cases h
def flagsO : Option (List Bool) → Nat → Bool
  | none, _ => false
  | some H, i => H.getD i false
/-- What readField answers. -/
def fieldF (s : ByteArray) (lo hi : Int) : Nat → Bool := flagsO (fieldO s lo hi)
theorem getD_none (m x : Nat) : (List.replicate m false).getD x false = false := by
  rw [List.getD_eq_getElem?_getD, List.getElem?_replicate]
  split <;> rfl
theorem fieldF_nums {s : ByteArray} {lo hi : Int} (h0 : 0 ≤ lo) (hlh : lo ≤ hi) (h9 : hi ≤ 59) (n : Nat) (hn : n = 60) : numsTo (fieldF s lo hi) n = fieldL s lo hi := by
  unfold fieldF fieldL
  cases h : fieldO s lo hi with
  | none =>
    show _ = []
    rw [List.eq_nil_iff_forall_not_mem]
    intro x hx
    obtain ⟨i, _, _, hp⟩ := (numsTo_mem _).1 hx
    cases hp
  | some H =>
    show _ = picks H lo (hi - lo + 1).toNat
    refine rise_ext _ _ (numsTo_rise _ _) (picks_rise _) fun x => ?_
    rw [numsTo_mem, mem_picks]
    constructor
    · rintro ⟨i, hi, rfl, hp⟩
      have hp : H.getD i false = true := hp
      rcases fieldGo_in h0 hlh i _ _ _ (List.length_replicate ..) h hp with g | g
      · rw [getD_none] at g; cases g
      · refine ⟨(i - lo).toNat, by omega, by omega, ?_⟩
        rw [show (lo + ((i - lo).toNat : Int)).toNat = i by omega]
        exact hp
    · rintro ⟨i, hi, rfl, hp⟩
      exact ⟨(lo + (i : Int)).toNat, by omega, by omega, hp⟩
end Go.Proofs.YtjmclcjhimcehaaGreatDoor

namespace Go.Proofs.YtjmclcjhimcehaaGreatDoor
open Go Go.RowKit
set_option linter.unusedVariables false

/-- What lies there in the rounds. -/
structure RfS (w : World) (B : Nat) (lo hi : Int) (L : List ByteArray) (W : World) (p : Nat → Bool) : Prop where
  z0 : B2c W B lo hi
  z1 : Fb 200 W (B + 1) (fun _ => false)
  z2 : Fb 200 W (B + 1 + 1) p
  z3 : W.heap[B + 1 + 1 + 1]? = some (.cells (L.map Value.string).toArray 9)
  be : Below B w W
section
variable {w W W' : World} {B : Nat} {lo hi : Int} {L : List ByteArray} {p : Nat → Bool}
theorem RfS.ge (h : RfS w B lo hi L W p) : B ≤ W.heap.size := by have := h.z2.lt; omega
theorem RfS.up (h : RfS w B lo hi L W p) (hb : Below W.heap.size W W') : RfS w B lo hi L W' p :=
  ⟨h.z0.up hb, h.z1.up hb, h.z2.up hb, (hb.block _ (Array.getElem?_eq_some_iff.1 h.z3).1).trans h.z3, h.be.trans (hb.mono h.ge)⟩
theorem RfS.put (h : RfS w B lo hi L W p) (q : Nat → Bool) : RfS w B lo hi L (W.setRow (B + 1 + 1) (fldA q)) q :=
  ⟨⟨(World.cell?_of_block (a := ⟨B, 0, none⟩) (setRow_other W (B + 1 + 1) B _ (by omega))).trans h.z0.1, (World.cell?_of_block (a := ⟨B, 1, none⟩) (setRow_other W (B + 1 + 1) B _ (by omega))).trans h.z0.2⟩, h.z1.rowFar (by omega), h.z2.row q, (setRow_other W (B + 1 + 1) _ _ (by omega)).trans h.z3, below_setRow h.be (by omega) _⟩
theorem RfS.at (h : RfS w B lo hi L W p) {k : Nat} {t : ByteArray} (ht : L[k]? = some t) : W.cell? ⟨B + 1 + 1 + 1, k, none⟩ = some (.string t) := by
  rw [cell_of_row _ _ k _ 9 (0, 0) h.z3]
  simp [ht]
end
set_option maxRecDepth 10000 in
set_option maxHeartbeats 4000000 in
theorem readField_any (s : ByteArray) (lo : Nat) (hi : Int) (w : World) (hs : s.size ≤ 1048576) (hlh : lo ≤ hi) (h9 : hi ≤ 59) (hm : MaxIs w) :
    Calls Tryz.prog 162 #[.string s, .agg #[.int .i64 (lo : Int), .int .i64 hi]] w fun e w' => e = .returned (.tuple #[.agg (fldA (fieldF s lo hi)), .bool (fieldO s lo hi).isSome]) ∧ Below w.heap.size w w' := by
  have HM : Hid (∀ W, Below w.heap.size w W → MaxIs W) := fun W hb => hm.up hb
  obtain ⟨L, HS⟩ : ∃ L, Hid (splitB s 44 = L) := ⟨_, rfl⟩
  have HPZ : Hid (∀ t ∈ L, t.size ≤ 1048576) := fun t ht => by have := splitB_sz s 44 t (by rw [HS.out]; exact ht); omega
  have hL : L.length ≤ 1048577 := by
    rw [← HS.out]; unfold splitB; have := (cutsN_bd s 44 (s.size + 1)).2; omega
  obtain ⟨F, HF⟩ : ∃ F, Hid (fieldO s lo hi = F) := ⟨_, rfl⟩
  have HG : Hid (fieldGo lo hi L (List.replicate (hi + 1).toNat false) = F) := by
    show _ = F; rw [← HF.out]; unfold fieldO; rw [HS.out]
  have HFF : Hid (fieldF s lo hi = flagsO F) := by show _ = _; unfold fieldF; rw [HF.out]
  have HSP : Hid (∀ W, Below w.heap.size w W → Calls Tryz.prog 192 #[.string s, .string ⟨#[44]⟩] W fun e w' => e = .returned (.slice (some ⟨W.heap.size, 0, none⟩) L.length L.length) ∧ w' = W.alloc (.cells (L.map Value.string).toArray 9)) := fun W hb => by
    obtain ⟨m, hm⟩ := HM.out W hb
    have h1 : (1 : Nat) ≤ (⟨#[44]⟩ : ByteArray).size := by show 1 ≤ 1; omega
    have := Tryz.strings_Split s ⟨#[44]⟩ m W (by omega) hm h1
    have e1 := lib_split 44 s.size s (Nat.le_refl _)
    have e2 := Lib.splitB_all ⟨#[44]⟩ h1 0 _ s rfl
    rw [e1] at e2
    rw [← e2, e1, show splitB s (44 : UInt8).toNat = L from HS.out] at this
    exact this
  have HRP : Hid (∀ t, t ∈ L → ∀ W, Below w.heap.size w W → Calls Tryz.prog 193 #[.string t, .agg #[.int .i64 (lo : Int), .int .i64 hi]] W fun e w' => e = .returned (.tuple #[.agg (fldA (pieceF t lo hi)), .bool (piece t lo hi).2.2.2]) ∧ Below W.heap.size W w') := fun t ht W hb => readPiece_any t lo hi W (HPZ.out t ht) (by omega) h9 (HM.out W hb)
  rw [HF.out, HFF.out]
  clear HF HFF HS HPZ hm HM
  go_enter Tryz.func162, Tryz.ntmps162
  obtain ⟨V, HV⟩ : ∃ V, Hid (((w.alloc (.cells #[.int .i64 (lo : Int), .int .i64 hi] 206)).alloc (.cells (fldA fun _ => false) 200)).alloc (.cells (fldA fun _ => false) 200) = V) := ⟨_, rfl⟩
  have HZ : Hid (B2c V w.heap.size lo hi ∧ Fb 200 V (w.heap.size + 1) (fun _ => false) ∧ Fb 200 V (w.heap.size + 1 + 1) (fun _ => false) ∧ Below w.heap.size w V ∧ V.heap.size = w.heap.size + 1 + 1 + 1) := by
    show B2c _ _ _ _ ∧ _
    rw [← HV.out]
    refine ⟨?_, (Fb.new 200 _ _ (by simp)).alloc _, Fb.new 200 _ _ (by simp), ba (ba (ba (Below.refl _ _) _) _) _, by simp⟩
    have h : B2c (w.alloc (.cells #[.int .i64 (lo : Int), .int .i64 hi] 206)) w.heap.size lo hi := ⟨by simp [go_sem], by simp [go_sem]⟩
    exact h.up (ba (ba (Below.refl _ _) _) _)
  go_wp2_with (first | (refine wpl_alloc rfl rfl ?_) | (rw [HV.out]))
  refine (HSP.out _ HZ.out.2.2.2.1).mono ?_
  rintro e w1 ⟨rfl, rfl⟩
  rw [HZ.out.2.2.2.2]
  have HT : Hid (RfS w w.heap.size lo hi L (V.alloc (.cells (L.map Value.string).toArray 9)) fun _ => false) := by
    have hb : Below V.heap.size V (V.alloc (.cells (L.map Value.string).toArray 9)) := ba (Below.refl _ _) _
    refine ⟨HZ.out.1.up hb, HZ.out.2.1.up hb, HZ.out.2.2.1.up hb, ?_, ba HZ.out.2.2.2.1 _⟩
    rw [← HZ.out.2.2.2.2]
    show (V.heap.push _)[V.heap.size]? = _; simp
  clear HZ HV HSP
  generalize V.alloc (.cells (L.map Value.string).toArray 9) = V1 at *
  generalize hB : w.heap.size = B at *
  go_wp2
  go_loopw [14] (fun i wr => ∃ (k : Nat) (H : List Bool) (p : Nat → Bool), k ≤ L.length ∧ i = .int .i64 k ∧ Hid (fieldGo lo hi (L.drop k) H = F ∧ H.length = (hi + 1).toNat ∧ ∀ i, p i = H.getD i false) ∧ Hid (RfS w B lo hi L wr p)) (fun i _ => L.length - (intOf i).toNat)
  case atStart => exact ⟨0, _, _, Nat.zero_le _, rfl, ⟨HG.out, List.length_replicate .., fun i => (getD_none _ i).symm⟩, HT⟩
  case round =>
    obtain ⟨k, H, p, hk, rfl, HE, HSt⟩ := hrel
    clear HT HG
    by_cases hlt : k < L.length
    · obtain ⟨t, ht⟩ : ∃ t, L[k]? = some t := ⟨_, List.getElem?_eq_getElem hlt⟩
      have c0 := HSt.out.at ht
      have c1 := HSt.out.z0.1
      have c2 := HSt.out.z0.2
      have HC : Hid (Calls Tryz.prog 193 #[.string t, .agg #[.int .i64 (lo : Int), .int .i64 hi]] wr fun e w' => e = .returned (.tuple #[.agg (fldA (pieceF t lo hi)), .bool (piece t lo hi).2.2.2]) ∧ Below wr.heap.size wr w') := HRP.out t (List.mem_of_getElem? ht) wr (by have := HSt.out.be; exact this)
      have HE2 : Hid (F = if (piece t lo hi).2.2.2 then fieldGo lo hi (L.drop (k + 1)) (stampP H (piece t lo hi)) else none) := by
        show F = _
        rw [← HE.out.1, fieldGo_at ht]
      have HN : Hid ((piece t lo hi).2.2.2 = true → ∀ i, (p i || pieceF t lo hi i) = (stampP H (piece t lo hi)).getD i false) := fun hz i => by
        obtain ⟨d1, d2, d3, d4, _⟩ := piece_bd hlh hz
        rw [stampP_is (by omega) d1 d2 d3 d4 HE.out.2.1, HE.out.2.2 i]
        unfold pieceF orNone
        rw [hz]
        rfl
      clear ht
      obtain ⟨Q, HQ⟩ : ∃ Q, Hid (pieceF t lo hi = Q) := ⟨_, rfl⟩
      obtain ⟨z, HZ⟩ : ∃ z, Hid ((piece t lo hi).2.2.2 = z) := ⟨_, rfl⟩
      rw [HQ.out, HZ.out] at HC
      rw [HQ.out, HZ.out] at HN
      rw [HZ.out] at HE2
      go_wp2_with fail
      refine HC.out.mono ?_
      rintro e w2 ⟨rfl, hb2⟩
      have HS2 : Hid (RfS w B lo hi L (w2.alloc (.cells (fldA Q) 200)) p) := (HSt.out.up hb2).up (ba (Below.refl _ _) _)
      have HFB : Hid (Fb 200 (w2.alloc (.cells (fldA Q) 200)) w2.heap.size Q) := Fb.new 200 _ _ rfl
      clear hb2 c0 c1 c2 HSt HC
      cases z with
      | false =>
        have HFn : Hid (F = none) := HE2.out
        go_wp2_with (first | (refine wpl_alloc rfl rfl ?_) | (refine wpl_store_new Q (.tmp 9) (.tmp 22) rfl rfl rfl rfl ?_) | (refine wpl_build rfl rfl ?_) | (refine wpl_store HS2.out.z1 (fun _ => false) (.tmp 4) (.tmp 26) rfl rfl rfl rfl ?_))
        refine bodyPost_ret (ret_f2 rfl rfl rfl (HS2.out.z1.row _)) rfl ?_
        subst hB
        exact ⟨by rw [HFn.out]; rfl, below_setRow HS2.out.be (by omega) _⟩
      | true =>
        have HFn : Hid (fieldGo lo hi (L.drop (k + 1)) (stampP H (piece t lo hi)) = F) := HE2.out.symm
        have HNN : Hid (∀ i, (p i || Q i) = (stampP H (piece t lo hi)).getD i false) := HN.out rfl
        have HW : Hid (∀ W, Calls Tryz.prog 194 #[.agg (fldA p), .agg (fldA Q)] W fun e w' => e = .returned (.agg (fldA fun i => p i || Q i)) ∧ Below W.heap.size W w') := fun W => with_any p Q W
        go_wp2_with (first | (refine wpl_alloc rfl rfl ?_) | (refine wpl_store_new Q (.tmp 9) (.tmp 22) rfl rfl rfl rfl ?_) | (refine wpl_load HS2.out.z2 (.tmp 6) rfl rfl rfl ?_) | (refine wpl_load HFB.out (.tmp 9) rfl rfl rfl ?_))
        refine (HW.out _).mono ?_
        rintro e w3 ⟨rfl, hb3⟩
        have HS3 : Hid (RfS w B lo hi L w3 p) := HS2.out.up hb3
        have HS4 : Hid (RfS w B lo hi L (w3.setRow (B + 1 + 1) (fldA fun i => p i || Q i)) (fun i => p i || Q i)) := HS3.out.put _
        clear hb3 HS2 HFB HW
        go_wp2_with (refine wpl_store HS3.out.z2 (fun i => p i || Q i) (.tmp 6) (.tmp 29) rfl rfl rfl rfl ?_)
        go_roundw
        case rel => exact ⟨k + 1, _, _, by omega, by go_num, ⟨HFn.out, by rw [stampP_length]; exact HE.out.2.1, HNN.out⟩, HS4⟩
        case measure => simp [intOf]; omega
    · have hkn : k = L.length := by omega
      have HFs : Hid (F = some H) := by show F = some H; rw [← HE.out.1]; exact fieldGo_end hkn
      have HA : Hid (fldA p = fldA (flagsO F)) := by
        show _ = _
        rw [HFs.out]
        exact fldA_ext fun i _ => HE.out.2.2 i
      go_wp2_with (first | (refine wpl_load HSt.out.z2 (.tmp 6) rfl rfl rfl ?_) | (refine wpl_store HSt.out.z1 p (.tmp 4) (.tmp 31) rfl rfl rfl rfl ?_))
      refine bodyPost_ret (ret_f2 rfl rfl rfl (HSt.out.z1.row _)) rfl ?_
      subst hB
      exact ⟨by rw [HA.out, HFs.out]; rfl, below_setRow HSt.out.be (by omega) _⟩
end Go.Proofs.YtjmclcjhimcehaaGreatDoor
