/-
  A piece of a field, as the program reads it: plain facts and the walk.
-/
import Derived.Test.YtgeimliibddhmaaDoorH3
import Derived.Test.YtgeimliibddhmaaDoorE10
namespace Go.Proofs.YtgeimliibddhmaaDoor
open Go Go.RowKit
set_option linter.unusedVariables false

/-- A number within a reach. -/
def numOk (s : ByteArray) (lo hi : Int) : Bool := (rd s).2 && decide (lo ≤ (rd s).1) && decide ((rd s).1 ≤ hi)
/-- Two numbers. -/
def twoOk (x y : ByteArray) (lo hi : Int) : Bool := numOk x lo hi && (numOk y lo hi && decide ((rd x).1 ≤ (rd y).1))
theorem rd_not_free {s : ByteArray} (h : ¬ free s 45) : rd s = (0, false) := by
  have h2 : ∃ b ∈ s.data.toList, b.toNat = 45 := by
    apply Classical.byContradiction
    intro hn
    exact h fun b hb e => hn ⟨b, hb, e⟩
  obtain ⟨b, hb, e⟩ := h2
  obtain ⟨k, hk⟩ := List.getElem?_of_mem hb
  rw [Array.getElem?_toList] at hk
  obtain ⟨hlt, he⟩ := Array.getElem?_eq_some_iff.1 hk
  have hlt2 : k < s.size := hlt
  refine rd_none (j := k) hlt2 (.inl ?_)
  have : s[k] = b := he
  rw [this, e]
  decide
theorem piece_one {s : ByteArray} {lo hi : Int} (h1 : s ≠ ⟨#[42]⟩) (h2 : ¬ (2 < s.size ∧ s.extract 0 2 = ⟨#[42, 47]⟩)) (hf : free s 45) : (piece s lo hi).2.2.2 = twoOk s s lo hi ∧ (piece s lo hi).1 = (rd s).1 ∧ (piece s lo hi).2.1 = (rd s).1 ∧ (piece s lo hi).2.2.1 = 1 := by
  unfold piece
  rw [if_neg h1, if_neg h2, split_free hf]
  refine ⟨?_, rfl, rfl, rfl⟩
  show ((rd s).2 && true && decide (1 ≤ 2) && decide (lo ≤ (rd s).1) && decide ((rd s).1 ≤ (rd s).1) && decide ((rd s).1 ≤ hi)) = _
  unfold twoOk numOk
  cases (rd s).2 <;> simp
theorem split_len {s : ByteArray} {c : UInt8} (h : ¬ free s c.toNat) : 2 ≤ (splitB s c.toNat).length := by
  rcases first_of s c with ⟨_, hf⟩ | ⟨i, _, _, hf, he⟩
  · exact absurd hf h
  · rw [he, split_first hf, List.length_cons]
    have := cutsN_some (s.extract (i + 1) s.size) c.toNat
    omega
theorem piece_two {s x y : ByteArray} {lo hi : Int} (h1 : s ≠ ⟨#[42]⟩) (h2 : ¬ (2 < s.size ∧ s.extract 0 2 = ⟨#[42, 47]⟩)) (hf : free x 45) (he : s = x ++ ⟨#[45]⟩ ++ y) : (piece s lo hi).2.2.2 = twoOk x y lo hi ∧ (twoOk x y lo hi = true → (piece s lo hi).1 = (rd x).1 ∧ (piece s lo hi).2.1 = (rd y).1 ∧ (piece s lo hi).2.2.1 = 1) := by
  have hs : splitB s 45 = x :: splitB y 45 := by rw [he]; exact split_first (c := 45) hf
  unfold piece
  rw [if_neg h1, if_neg h2, hs]
  by_cases hy : free y 45
  · rw [split_free hy]
    refine ⟨?_, fun _ => ⟨rfl, rfl, rfl⟩⟩
    show ((rd x).2 && (rd y).2 && decide (2 ≤ 2) && decide (lo ≤ (rd x).1) && decide ((rd x).1 ≤ (rd y).1) && decide ((rd y).1 ≤ hi)) = _
    unfold twoOk numOk
    cases (rd x).2 <;> cases (rd y).2 <;> simp
    rw [Bool.eq_iff_iff]
    simp
    omega
  · have h3 := split_len (c := 45) hy
    have h3' : 2 ≤ (splitB y 45).length := h3
    have hz : twoOk x y lo hi = false := by
      unfold twoOk numOk
      rw [rd_not_free hy]
      simp
    refine ⟨?_, fun h => by rw [hz] at h; cases h⟩
    rw [hz]
    unfold pieceP
    have hl : ¬ (x :: splitB y 45).length ≤ 2 := by rw [List.length_cons]; omega
    simp only [decide_eq_false hl, Bool.and_false, Bool.false_and]
theorem pre_not {s : ByteArray} (h : Lib.hasPrefix s.data.toList [42, 47] = false) : ¬ (2 < s.size ∧ s.extract 0 2 = ⟨#[42, 47]⟩) := by
  rintro ⟨h1, h2⟩
  have h3 : (s.extract 0 2).data.toList = [42, 47] := by rw [h2]
  rw [ByteArray.data_extract, Array.toList_extract] at h3
  simp at h3
  have h4 : Lib.hasPrefix s.data.toList [42, 47] = true := by
    unfold Lib.hasPrefix
    rw [List.isPrefixOf_iff_prefix]
    exact ⟨s.data.toList.drop 2, by rw [← h3, List.take_append_drop]⟩
  rw [h] at h4
  cases h4
theorem pre_steps {s : ByteArray} (h : Lib.hasPrefix s.data.toList [42, 47] = true) : ∃ r : List UInt8, s = ⟨(42 :: 47 :: r).toArray⟩ ∧ Lib.trimPrefix s.data.toList [42, 47] = r := by
  unfold Lib.hasPrefix at h
  obtain ⟨r, hr⟩ := List.isPrefixOf_iff_prefix.1 h
  refine ⟨r, ?_, ?_⟩
  · apply ByteArray.ext
    apply Array.toList_inj.1
    rw [← hr]
    simp
  · unfold Lib.trimPrefix Lib.hasPrefix
    rw [if_pos h, ← hr]
    rfl
theorem piece_steps {r : List UInt8} {lo hi : Int} : (piece ⟨(42 :: 47 :: r).toArray⟩ lo hi).2.2.2 = ((rd ⟨r.toArray⟩).2 && decide (1 ≤ (rd ⟨r.toArray⟩).1)) ∧ (((rd ⟨r.toArray⟩).2 && decide (1 ≤ (rd ⟨r.toArray⟩).1)) = true → (piece ⟨(42 :: 47 :: r).toArray⟩ lo hi).1 = lo ∧ (piece ⟨(42 :: 47 :: r).toArray⟩ lo hi).2.1 = hi ∧ (piece ⟨(42 :: 47 :: r).toArray⟩ lo hi).2.2.1 = (rd ⟨r.toArray⟩).1) := by
  have h1 : (⟨(42 :: 47 :: r).toArray⟩ : ByteArray) ≠ ⟨#[42]⟩ := by
    intro e
    have := congrArg ByteArray.size e
    simp [ByteArray.size] at this
  cases r with
  | nil =>
    have hz : rd ⟨([] : List UInt8).toArray⟩ = (0, false) := rd_out (.inl rfl)
    have hp := piece_one (s := ⟨(42 :: 47 :: ([] : List UInt8)).toArray⟩) (lo := lo) (hi := hi) h1 (by intro h; exact absurd h.1 (by show ¬ 2 < 2; decide)) (by intro b hb; simp at hb; rcases hb with rfl | rfl <;> decide)
    have hr : rd ⟨(42 :: 47 :: ([] : List UInt8)).toArray⟩ = (0, false) := rd_none (j := 0) (by show 0 < 2; decide) (.inl (by show (42 : UInt8).toNat < 48; decide))
    rw [hz, hp.1]
    refine ⟨?_, fun h => by cases h⟩
    unfold twoOk numOk
    rw [hr]
    rfl
  | cons b r =>
    have h2 : 2 < (⟨(42 :: 47 :: b :: r).toArray⟩ : ByteArray).size ∧ (⟨(42 :: 47 :: b :: r).toArray⟩ : ByteArray).extract 0 2 = ⟨#[42, 47]⟩ := by
      refine ⟨by simp [ByteArray.size], ?_⟩
      apply ByteArray.ext
      simp
    have h3 : (⟨(42 :: 47 :: b :: r).toArray⟩ : ByteArray).extract 2 (⟨(42 :: 47 :: b :: r).toArray⟩ : ByteArray).size = ⟨(b :: r).toArray⟩ := by
      apply ByteArray.ext
      simp [ByteArray.size]
    unfold piece
    rw [if_neg h1, if_pos h2, h3]
    exact ⟨rfl, fun _ => ⟨rfl, rfl, rfl⟩⟩
/-- What readPiece answers. -/
def pieceF (s : ByteArray) (lo hi : Int) : Nat → Bool := orNone (piece s lo hi).2.2.2 (eachP (piece s lo hi).1.toNat (piece s lo hi).2.1 (piece s lo hi).2.2.1.toNat)
/-- The library's word of the greatest length is some number. -/
def MaxIs (w : World) : Prop := ∃ m, w.cell? ⟨3, 0, none⟩ = some (.int .i64 m)
theorem MaxIs.up {w w' : World} (h : MaxIs w) (hb : Below w.heap.size w w') : MaxIs w' := by
  obtain ⟨m, hm⟩ := h
  exact ⟨m, cell_up hb hm⟩
theorem cut_is (s : ByteArray) : (free s 45 ∧ Lib.cut s.data.toList [45] = (s.data.toList, [], false)) ∨ ∃ x y : ByteArray, free x 45 ∧ s = x ++ ⟨#[45]⟩ ++ y ∧ Lib.cut s.data.toList [45] = (x.data.toList, y.data.toList, true) := by
  rcases first_of s 45 with ⟨h, hf⟩ | ⟨i, h, hi, hf, he⟩
  · left
    refine ⟨hf, ?_⟩
    have h' : Lib.index s.data.toList [45] = -1 := h
    unfold Lib.cut
    rw [if_neg (by rw [h']; decide)]
  · right
    refine ⟨s.extract 0 i, s.extract (i + 1) s.size, hf, he, ?_⟩
    have h' : Lib.index s.data.toList [45] = (i : Int) := h
    have hsz : s.data.toList.length = s.size := by simp
    unfold Lib.cut
    rw [if_pos (by rw [h']; omega), h', Int.toNat_natCast, ByteArray.data_extract, ByteArray.data_extract]
    refine Prod.ext ?_ (Prod.ext ?_ rfl)
    · simp
    · show List.drop (i + 1) s.data.toList = _
      rw [Array.toList_extract]
      simp
      rw [List.take_of_length_le (by simp)]

def B2c (W : World) (b : Nat) (lo hi : Int) : Prop := W.cell? ⟨b, 0, none⟩ = some (.int .i64 lo) ∧ W.cell? ⟨b, 1, none⟩ = some (.int .i64 hi)
theorem B2c.up {W W' : World} {b : Nat} {lo hi : Int} (h : B2c W b lo hi) (hb : Below W.heap.size W W') : B2c W' b lo hi := ⟨cell_up hb h.1, cell_up hb h.2⟩
set_option maxRecDepth 10000 in
set_option maxHeartbeats 4000000 in
theorem readPiece_any (s : ByteArray) (lo : Nat) (hi : Int) (w : World) (hs : s.size ≤ 1048576) (hlo : lo ≤ 60) (h9 : hi ≤ 59) (hm : MaxIs w) :
    Calls Tryd.prog 76 #[.string s, .agg #[.int .i64 (lo : Int), .int .i64 hi]] w fun e w' => e = .returned (.tuple #[.agg (fldA (pieceF s lo hi)), .bool (piece s lo hi).2.2.2]) ∧ Below w.heap.size w w' := by
  have HM : Hid (∀ W, Below w.heap.size w W → MaxIs W) := fun W hb => hm.up hb
  clear hm
  by_cases h1 : s = ⟨#[42]⟩
  · have HP : Hid (piece s lo hi = ((lo : Int), hi, 1, true)) := by show piece s lo hi = _; unfold piece; rw [if_pos h1]
    have HF : Hid (fldA (pieceF s lo hi) = fldA (eachP lo hi 1)) := by show _ = _; unfold pieceF; rw [HP.out]; rfl
    rw [HF.out, HP.out]
    have HE : Hid (∀ W, Calls Tryd.prog 67 #[.agg #[.int .i64 (lo : Int), .int .i64 hi], .int .i64 1] W fun e w' => e = .returned (.agg (fldA (eachP lo hi 1))) ∧ Below W.heap.size W w') := fun W => eachOf_nat lo 1 hi W hlo h9 (by decide) (by decide)
    clear HP HF
    subst h1
    go_enter Tryd.func76, Tryd.ntmps76
    obtain ⟨V, HV⟩ : ∃ V, Hid ((w.alloc (.cells #[.int .i64 (lo : Int), .int .i64 hi] 63)).alloc (.cells (fldA fun _ => false) 55) = V) := ⟨_, rfl⟩
    have HZ : Hid (Fb 55 V (w.heap.size + 1) (fun _ => false)) := by show Fb _ _ _ _; rw [← HV.out]; exact Fb.new 55 _ _ (by simp)
    have c0 : V.cell? ⟨w.heap.size, 0, none⟩ = some (.int .i64 (lo : Int)) := by rw [← HV.out]; simp [go_sem]
    have c1 : V.cell? ⟨w.heap.size, 1, none⟩ = some (.int .i64 hi) := by rw [← HV.out]; simp [go_sem]
    have BV : Below w.heap.size w V := by rw [← HV.out]; exact ba (ba (Below.refl _ _) _) _
    go_wp2_with (refine wpl_alloc rfl rfl ?_; rw [HV.out])
    refine (HE.out _).mono ?_
    rintro e w1 ⟨rfl, hb1⟩
    have HZ1 : Hid (Fb 55 w1 (w.heap.size + 1) (fun _ => false)) := HZ.out.up hb1
    have B1 := Below.on BV hb1
    clear hb1 c0 c1
    go_wp2_with (refine wpl_store HZ1.out (eachP lo hi 1) (.tmp 4) (.tmp 18) rfl rfl rfl rfl ?_)
    refine bodyPost_ret (ret_f2 rfl rfl rfl (HZ1.out.row _)) rfl ?_
    exact ⟨rfl, below_setRow B1 (by omega) _⟩
  have hq : (s.toList == [42]) = false := by rw [← star_list]; exact ne_list h1
  cases hpre : Lib.hasPrefix s.data.toList [42, 47] with
  | true =>
    obtain ⟨r, hsr, htr⟩ := pre_steps hpre
    have hps := piece_steps (r := r) (lo := lo) (hi := hi)
    rw [← hsr] at hps
    obtain ⟨X, hX⟩ : ∃ X : ByteArray, (⟨r.toArray⟩ : ByteArray) = X := ⟨_, rfl⟩
    rw [hX] at hps
    have hXs : X.size ≤ 9223372036854775807 := by
      rw [← hX]
      have h7 : s.data.size = r.length + 2 := by rw [hsr]; simp
      have h8 : s.data.size = s.size := rfl
      show r.toArray.size ≤ _
      rw [List.size_toArray]
      omega
    have HCP : Hid (∀ W, Calls Tryd.prog 95 #[.string s, .string ⟨#[42, 47]⟩] W fun e w' => e = .returned (.tuple #[.string X, .bool true]) ∧ w' = W) := fun W => by
      have := Tryd.strings_CutPrefix s ⟨#[42, 47]⟩ W
      have e1 : (⟨#[42, 47]⟩ : ByteArray).data.toList = [42, 47] := rfl
      rw [e1, hpre, htr, hX] at this
      exact this
    have HST : Hid (∀ W, Calls Tryd.prog 96 #[.string X, .agg #[.int .i64 (lo : Int), .int .i64 hi]] W fun e w' => e = .returned (.tuple #[.agg (fldA (pieceF s lo hi)), .bool (piece s lo hi).2.2.2]) ∧ Below W.heap.size W w') := fun W => by
      have := readSteps_any X lo hi W hXs hlo h9
      rw [← hps.1] at this
      have e2 : fldA (orNone (piece s lo hi).2.2.2 (eachP lo hi (rd X).1.toNat)) = fldA (pieceF s lo hi) := by
        unfold pieceF
        cases hk : (piece s lo hi).2.2.2 with
        | false => rfl
        | true =>
          obtain ⟨g1, g2, g3⟩ := hps.2 (hps.1.symm.trans hk)
          rw [g1, g2, g3]
          rfl
      rw [e2] at this
      exact this
    obtain ⟨PF, HPF⟩ : ∃ PF, Hid (pieceF s lo hi = PF) := ⟨_, rfl⟩
    obtain ⟨OK, HOK⟩ : ∃ OK, Hid ((piece s lo hi).2.2.2 = OK) := ⟨_, rfl⟩
    rw [HPF.out, HOK.out] at HST
    rw [HPF.out, HOK.out]
    clear HPF HOK hps hsr htr hX hpre h1
    go_enter Tryd.func76, Tryd.ntmps76
    obtain ⟨V, HV⟩ : ∃ V, Hid ((w.alloc (.cells #[.int .i64 (lo : Int), .int .i64 hi] 63)).alloc (.cells (fldA fun _ => false) 55) = V) := ⟨_, rfl⟩
    have HZ : Hid (Fb 55 V (w.heap.size + 1) (fun _ => false)) := by show Fb _ _ _ _; rw [← HV.out]; exact Fb.new 55 _ _ (by simp)
    have c0 : V.cell? ⟨w.heap.size, 0, none⟩ = some (.int .i64 (lo : Int)) := by rw [← HV.out]; simp [go_sem]
    have c1 : V.cell? ⟨w.heap.size, 1, none⟩ = some (.int .i64 hi) := by rw [← HV.out]; simp [go_sem]
    have BV : Below w.heap.size w V := by rw [← HV.out]; exact ba (ba (Below.refl _ _) _) _
    go_wp2_with (first | (refine wpl_alloc rfl rfl ?_; rw [HV.out]) | (go_at_call 95; refine (HCP.out _).mono ?_; rintro e w2 ⟨rfl, hw⟩; have hw2 := hw.symm; subst hw2))
    refine (HST.out _).mono ?_
    rintro e w1 ⟨rfl, hb1⟩
    have HZ1 : Hid (Fb 55 w1 (w.heap.size + 1) (fun _ => false)) := HZ.out.up hb1
    have B1 := Below.on BV hb1
    clear hb1 c0 c1
    go_wp2_with (refine wpl_store HZ1.out PF (.tmp 4) (.tmp 28) rfl rfl rfl rfl ?_)
    refine bodyPost_ret (ret_f2 rfl rfl rfl (HZ1.out.row _)) rfl ?_
    exact ⟨rfl, below_setRow B1 (by omega) _⟩
  | false =>
    have h2 := pre_not hpre
    have HCP : Hid (∀ W, ∃ z, Calls Tryd.prog 95 #[.string s, .string ⟨#[42, 47]⟩] W fun e w' => e = .returned (.tuple #[.string z, .bool false]) ∧ w' = W) := fun W => by
      have := Tryd.strings_CutPrefix s ⟨#[42, 47]⟩ W
      have e1 : (⟨#[42, 47]⟩ : ByteArray).data.toList = [42, 47] := rfl
      rw [e1, hpre] at this
      exact ⟨_, this⟩
    obtain ⟨X, Y, f, HXY⟩ : ∃ (X Y : ByteArray) (f : Bool), Hid (X.size ≤ 9223372036854775807 ∧ Y.size ≤ 9223372036854775807 ∧ (f = false → Y = X) ∧ (∀ W, MaxIs W → ∃ Z, (f = true → Z = Y) ∧ Calls Tryd.prog 97 #[.string s, .string ⟨#[45]⟩] W fun e w' => e = .returned (.tuple #[.string X, .string Z, .bool f]) ∧ Below W.heap.size W w') ∧ (piece s lo hi).2.2.2 = twoOk X Y lo hi ∧ (twoOk X Y lo hi = true → (piece s lo hi).1 = (rd X).1 ∧ (piece s lo hi).2.1 = (rd Y).1 ∧ (piece s lo hi).2.2.1 = 1)) := by
      have hcut : ∀ W, MaxIs W → Calls Tryd.prog 97 #[.string s, .string ⟨#[45]⟩] W fun e w' => e = .returned (.tuple #[.string ⟨(Lib.cut s.data.toList [45]).1.toArray⟩, .string ⟨(Lib.cut s.data.toList [45]).2.1.toArray⟩, .bool (Lib.cut s.data.toList [45]).2.2]) ∧ Below W.heap.size W w' := fun W hW => by
        obtain ⟨m, hm⟩ := hW
        refine (Tryd.strings_Cut s ⟨#[45]⟩ m W (by omega) hm).mono ?_
        rintro e w' ⟨he, n, hw⟩
        exact ⟨he, by rw [hw]; exact bdrewN (Below.refl _ _) n⟩
      rcases cut_is s with ⟨hf, hc⟩ | ⟨x, y, hf, he, hc⟩
      · have hp := piece_one (lo := lo) (hi := hi) h1 h2 hf
        refine ⟨s, s, false, by omega, by omega, fun _ => rfl, fun W hW => ⟨⟨([] : List UInt8).toArray⟩, fun h => (by cases h), ?_⟩, hp.1, fun _ => hp.2⟩
        have := hcut W hW
        rw [hc, back_text] at this
        exact this
      · have hp := piece_two (lo := lo) (hi := hi) h1 h2 hf he
        have hsz := congrArg ByteArray.size he
        rw [ByteArray.size_append, ByteArray.size_append] at hsz
        refine ⟨x, y, true, by omega, by omega, fun h => (by cases h), fun W hW => ⟨y, fun _ => rfl, ?_⟩, hp.1, hp.2⟩
        have := hcut W hW
        rw [hc, back_text, back_text] at this
        exact this
    have HNX : Hid (∀ W, Calls Tryd.prog 98 #[.string X, .agg #[.int .i64 (lo : Int), .int .i64 hi]] W fun e w' => e = .returned (.tuple #[.int .i64 (rd X).1, .bool (numOk X lo hi)]) ∧ Below W.heap.size W w') := fun W => readNumber_any X lo hi W HXY.out.1
    have HNY : Hid (∀ W, Calls Tryd.prog 98 #[.string Y, .agg #[.int .i64 (lo : Int), .int .i64 hi]] W fun e w' => e = .returned (.tuple #[.int .i64 (rd Y).1, .bool (numOk Y lo hi)]) ∧ Below W.heap.size W w') := fun W => readNumber_any Y lo hi W HXY.out.2.1
    have hbx := rd_bd X
    have hby := rd_bd Y
    obtain ⟨x, hx⟩ : ∃ x : Nat, (rd X).1 = x := ⟨(rd X).1.toNat, by omega⟩
    obtain ⟨y, hy⟩ : ∃ y : Nat, (rd Y).1 = y := ⟨(rd Y).1.toNat, by omega⟩
    obtain ⟨qx, hqx⟩ : ∃ q, numOk X lo hi = q := ⟨_, rfl⟩
    obtain ⟨qy, hqy⟩ : ∃ q, numOk Y lo hi = q := ⟨_, rfl⟩
    have HBX : Hid (qx = true → (lo : Int) ≤ x ∧ (x : Int) ≤ hi) := fun h => by
      rw [← hqx] at h
      unfold numOk at h
      rw [hx] at h
      simp only [Bool.and_eq_true, decide_eq_true_eq] at h
      exact ⟨h.1.2, h.2⟩
    have HBY : Hid (qy = true → (lo : Int) ≤ y ∧ (y : Int) ≤ hi) := fun h => by
      rw [← hqy] at h
      unfold numOk at h
      rw [hy] at h
      simp only [Bool.and_eq_true, decide_eq_true_eq] at h
      exact ⟨h.1.2, h.2⟩
    have HTO : Hid (twoOk X Y lo hi = (qx && (qy && decide ((x : Int) ≤ (y : Int))))) := by show _ = _; unfold twoOk; rw [hqx, hqy, hx, hy]
    have HPOK : Hid ((piece s lo hi).2.2.2 = (qx && (qy && decide ((x : Int) ≤ (y : Int))))) := HXY.out.2.2.2.2.1.trans HTO.out
    have HPFN : Hid ((qx && (qy && decide ((x : Int) ≤ (y : Int)))) = false → fldA (pieceF s lo hi) = fldA (fun _ => false)) := fun h => by
      unfold pieceF
      rw [HPOK.out, h]
      rfl
    have HPFY : Hid ((qx && (qy && decide ((x : Int) ≤ (y : Int)))) = true → fldA (pieceF s lo hi) = fldA (eachP x y 1)) := fun h => by
      obtain ⟨g1, g2, g3⟩ := HXY.out.2.2.2.2.2 (HTO.out.trans h)
      unfold pieceF
      rw [HPOK.out, h, g1, g2, g3, hx, hy, Int.toNat_natCast]
      rfl
    rw [hx, hqx] at HNX
    rw [hy, hqy] at HNY
    rw [hx] at hbx
    rw [hy] at hby
    have HC : Hid (∀ W, Below w.heap.size w W → ∃ Z, (f = true → Z = Y) ∧ Calls Tryd.prog 97 #[.string s, .string ⟨#[45]⟩] W fun e w' => e = .returned (.tuple #[.string X, .string Z, .bool f]) ∧ Below W.heap.size W w') := fun W hb => HXY.out.2.2.2.1 W (HM.out W hb)
    have HYX : Hid (f = false → Y = X) := HXY.out.2.2.1
    obtain ⟨PF, HPF⟩ : ∃ PF, Hid (pieceF s lo hi = PF) := ⟨_, rfl⟩
    rw [HPF.out] at HPFN HPFY
    rw [HPF.out, HPOK.out]
    clear HPF HPOK HTO HXY hx hy hqx hqy hpre h1 h2 HM
    go_enter Tryd.func76, Tryd.ntmps76
    obtain ⟨V, HV⟩ : ∃ V, Hid ((w.alloc (.cells #[.int .i64 (lo : Int), .int .i64 hi] 63)).alloc (.cells (fldA fun _ => false) 55) = V) := ⟨_, rfl⟩
    have HZ : Hid (Fb 55 V (w.heap.size + 1) (fun _ => false)) := by show Fb _ _ _ _; rw [← HV.out]; exact Fb.new 55 _ _ (by simp)
    have HZC : Hid (B2c V w.heap.size lo hi) := by show B2c _ _ _ _; rw [← HV.out]; exact ⟨by simp [go_sem], by simp [go_sem]⟩
    have BV : Below w.heap.size w V := by rw [← HV.out]; exact ba (ba (Below.refl _ _) _) _
    obtain ⟨z, hcp⟩ := HCP.out V
    obtain ⟨Z, hZ, hct⟩ := HC.out V BV
    have HCT : Hid (Calls Tryd.prog 97 #[.string s, .string ⟨#[45]⟩] V fun e w' => e = .returned (.tuple #[.string X, .string Z, .bool f]) ∧ Below V.heap.size V w') := hct
    have HCPV : Hid (Calls Tryd.prog 95 #[.string s, .string ⟨#[42, 47]⟩] V fun e w' => e = .returned (.tuple #[.string z, .bool false]) ∧ w' = V) := hcp
    have HZE : Hid (f = true → Z = Y) := hZ
    clear hcp hct hZ HCP HC
    go_wp2_with (first | (refine wpl_alloc rfl rfl ?_; rw [HV.out]) | (go_at_call 95; refine HCPV.out.mono ?_; rintro e w2 ⟨rfl, hw⟩; have hw2 := hw.symm; subst hw2))
    refine HCT.out.mono ?_
    rintro e w1 ⟨rfl, hb1⟩
    have HZ1 : Hid (Fb 55 w1 (w.heap.size + 1) (fun _ => false)) := HZ.out.up hb1
    have HC1 : Hid (B2c w1 w.heap.size lo hi) := HZC.out.up hb1
    have B1 := Below.on BV hb1
    clear hb1 HV HZ HZC BV HCT HCPV
    have c0 := HC1.out.1
    have c1 := HC1.out.2
    cases f with
    | false =>
      have hyx := HYX.out rfl
      subst hyx
      go_wp2_with fail
      refine (HNX.out _).mono ?_
      rintro e w3 ⟨rfl, hb3⟩
      have HZ3 : Hid (Fb 55 w3 (w.heap.size + 1) (fun _ => false)) := HZ1.out.up hb3
      have HC3 : Hid (B2c w3 w.heap.size lo hi) := HC1.out.up hb3
      have B3 := Below.on B1 hb3
      clear hb3 c0 c1
      have c0 := HC3.out.1
      have c1 := HC3.out.2
      go_wp2_with fail
      refine (HNY.out _).mono ?_
      rintro e w4 ⟨rfl, hb4⟩
      have HZ4 : Hid (Fb 55 w4 (w.heap.size + 1) (fun _ => false)) := HZ3.out.up hb4
      have B4 := Below.on B3 hb4
      clear hb4 c0 c1 HC3 HC1 HZ1 HZ3 B3 B1 HNX HNY
      cases qx with
      | false =>
        have HF := HPFN.out rfl
        go_wp2_with (first | (refine wpl_build rfl rfl ?_) | (refine wpl_store HZ4.out (fun _ => false) (.tmp 4) (.tmp 62) rfl rfl rfl rfl ?_))
        refine bodyPost_ret (ret_f2 rfl rfl rfl (HZ4.out.row _)) rfl ?_
        exact ⟨by rw [HF]; rfl, below_setRow B4 (by omega) _⟩
      | true =>
        cases qy with
        | false =>
          have HF := HPFN.out rfl
          go_wp2_with (first | (refine wpl_build rfl rfl ?_) | (refine wpl_store HZ4.out (fun _ => false) (.tmp 4) (.tmp 62) rfl rfl rfl rfl ?_))
          refine bodyPost_ret (ret_f2 rfl rfl rfl (HZ4.out.row _)) rfl ?_
          exact ⟨by rw [HF]; rfl, below_setRow B4 (by omega) _⟩
        | true =>
          obtain ⟨x0, x1⟩ := HBX.out rfl
          obtain ⟨y0, y1⟩ := HBY.out rfl
          by_cases hxy : (x : Int) ≤ (y : Int)
          · have hd : decide ((x : Int) ≤ (y : Int)) = true := decide_eq_true hxy
            have HF : Hid (fldA PF = fldA (eachP x y 1)) := HPFY.out (by rw [hd]; rfl)
            have g1 : decide ((y : Int) < (x : Int)) = false := decide_eq_false (by omega)
            have HE : Hid (∀ W, Calls Tryd.prog 67 #[.agg #[.int .i64 (x : Int), .int .i64 (y : Int)], .int .i64 1] W fun e w' => e = .returned (.agg (fldA (eachP x y 1))) ∧ Below W.heap.size W w') := fun W => eachOf_nat x 1 y W (by omega) (by omega) (by decide) (by decide)
            have HD : Hid (decide ((x : Int) ≤ (y : Int)) = true) := hd
            clear hd
            go_wp2_with fail
            refine (HE.out _).mono ?_
            rintro e w5 ⟨rfl, hb5⟩
            have HZ5 : Hid (Fb 55 w5 (w.heap.size + 1) (fun _ => false)) := HZ4.out.up hb5
            have B5' := Below.on B4 hb5
            clear hb5
            go_wp2_with (refine wpl_store HZ5.out (eachP x y 1) (.tmp 4) (.tmp 66) rfl rfl rfl rfl ?_)
            refine bodyPost_ret (ret_f2 rfl rfl rfl (HZ5.out.row _)) rfl ?_
            exact ⟨by rw [HF.out, HD.out]; rfl, below_setRow B5' (by omega) _⟩
          · have hd : decide ((x : Int) ≤ (y : Int)) = false := decide_eq_false hxy
            have HF : Hid (fldA PF = fldA (fun _ => false)) := HPFN.out (by rw [hd]; rfl)
            have HD : Hid (decide ((x : Int) ≤ (y : Int)) = false) := hd
            have g1 : decide ((y : Int) < (x : Int)) = true := decide_eq_true (by omega)
            clear hd
            go_wp2_with (first | (refine wpl_build rfl rfl ?_) | (refine wpl_store HZ4.out (fun _ => false) (.tmp 4) (.tmp 62) rfl rfl rfl rfl ?_))
            refine bodyPost_ret (ret_f2 rfl rfl rfl (HZ4.out.row _)) rfl ?_
            exact ⟨by rw [HF.out, HD.out]; rfl, below_setRow B4 (by omega) _⟩
    | true =>
      have hzy := HZE.out rfl
      subst hzy
      go_wp2_with fail
      refine (HNX.out _).mono ?_
      rintro e w3 ⟨rfl, hb3⟩
      have HZ3 : Hid (Fb 55 w3 (w.heap.size + 1) (fun _ => false)) := HZ1.out.up hb3
      have HC3 : Hid (B2c w3 w.heap.size lo hi) := HC1.out.up hb3
      have B3 := Below.on B1 hb3
      clear hb3 c0 c1
      have c0 := HC3.out.1
      have c1 := HC3.out.2
      go_wp2_with fail
      refine (HNY.out _).mono ?_
      rintro e w4 ⟨rfl, hb4⟩
      have HZ4 : Hid (Fb 55 w4 (w.heap.size + 1) (fun _ => false)) := HZ3.out.up hb4
      have B4 := Below.on B3 hb4
      clear hb4 c0 c1 HC3 HC1 HZ1 HZ3 B3 B1 HNX HNY
      cases qx with
      | false =>
        have HF := HPFN.out rfl
        go_wp2_with (first | (refine wpl_build rfl rfl ?_) | (refine wpl_store HZ4.out (fun _ => false) (.tmp 4) (.tmp 62) rfl rfl rfl rfl ?_))
        refine bodyPost_ret (ret_f2 rfl rfl rfl (HZ4.out.row _)) rfl ?_
        exact ⟨by rw [HF]; rfl, below_setRow B4 (by omega) _⟩
      | true =>
        cases qy with
        | false =>
          have HF := HPFN.out rfl
          go_wp2_with (first | (refine wpl_build rfl rfl ?_) | (refine wpl_store HZ4.out (fun _ => false) (.tmp 4) (.tmp 62) rfl rfl rfl rfl ?_))
          refine bodyPost_ret (ret_f2 rfl rfl rfl (HZ4.out.row _)) rfl ?_
          exact ⟨by rw [HF]; rfl, below_setRow B4 (by omega) _⟩
        | true =>
          obtain ⟨x0, x1⟩ := HBX.out rfl
          obtain ⟨y0, y1⟩ := HBY.out rfl
          by_cases hxy : (x : Int) ≤ (y : Int)
          · have hd : decide ((x : Int) ≤ (y : Int)) = true := decide_eq_true hxy
            have HF : Hid (fldA PF = fldA (eachP x y 1)) := HPFY.out (by rw [hd]; rfl)
            have g1 : decide ((y : Int) < (x : Int)) = false := decide_eq_false (by omega)
            have HE : Hid (∀ W, Calls Tryd.prog 67 #[.agg #[.int .i64 (x : Int), .int .i64 (y : Int)], .int .i64 1] W fun e w' => e = .returned (.agg (fldA (eachP x y 1))) ∧ Below W.heap.size W w') := fun W => eachOf_nat x 1 y W (by omega) (by omega) (by decide) (by decide)
            have HD : Hid (decide ((x : Int) ≤ (y : Int)) = true) := hd
            clear hd
            go_wp2_with fail
            refine (HE.out _).mono ?_
            rintro e w5 ⟨rfl, hb5⟩
            have HZ5 : Hid (Fb 55 w5 (w.heap.size + 1) (fun _ => false)) := HZ4.out.up hb5
            have B5' := Below.on B4 hb5
            clear hb5
            go_wp2_with (refine wpl_store HZ5.out (eachP x y 1) (.tmp 4) (.tmp 66) rfl rfl rfl rfl ?_)
            refine bodyPost_ret (ret_f2 rfl rfl rfl (HZ5.out.row _)) rfl ?_
            exact ⟨by rw [HF.out, HD.out]; rfl, below_setRow B5' (by omega) _⟩
          · have hd : decide ((x : Int) ≤ (y : Int)) = false := decide_eq_false hxy
            have HF : Hid (fldA PF = fldA (fun _ => false)) := HPFN.out (by rw [hd]; rfl)
            have HD : Hid (decide ((x : Int) ≤ (y : Int)) = false) := hd
            have g1 : decide ((y : Int) < (x : Int)) = true := decide_eq_true (by omega)
            clear hd
            go_wp2_with (first | (refine wpl_build rfl rfl ?_) | (refine wpl_store HZ4.out (fun _ => false) (.tmp 4) (.tmp 62) rfl rfl rfl rfl ?_))
            refine bodyPost_ret (ret_f2 rfl rfl rfl (HZ4.out.row _)) rfl ?_
            exact ⟨by rw [HF.out, HD.out]; rfl, below_setRow B4 (by omega) _⟩
end Go.Proofs.YtgeimliibddhmaaDoor
