/-
  A field as the program reads it: plain facts. A field as the program reads it: the walk. Contracts of the library, proved once there, laid at this program by the kit (its plain words).
-/
import Derived.Test.YteefacjjdalncaaGreatDoorA12
import Derived.Test.YteefacjjdalncaaGreatDoorA5
import Derived.Shelf.Strconv.Itoa0
import Derived.Shelf.Strconv.Itoa1
import Derived.Shelf.LaysM
import Derived.Shelf.Strconv.Itoa2
import Derived.Shelf.Strconv.Itoa3
import Derived.Shelf.Strconv.Clone
import Derived.Shelf.Strings.Fields
import Derived.Shelf.Strings.SplitShaped
import Derived.Shelf.Unicode.Latin
import Derived.Shelf.Unicode.Is16White
import Derived.Shelf.Unicode.IsSpaceAny
import Derived.Shelf.Unicode.Is16Any
import Derived.Shelf.Unicode.Is32Any
import Derived.Shelf.Unicode.ExclAny
import Derived.Test.YteefacjjdalncaaGreatDoorProg
namespace Go.Proofs.YteefacjjdalncaaGreatDoor
open Go Go.RowKit
set_option linter.unusedVariables false

theorem stamp_all {H : List Bool} {a t x : Nat} : ∀ j, (∀ i, i < j → a + i * t < H.length) → ((stamp H a t j).getD x false = true ↔ (∃ i, i < j ∧ x = a + i * t) ∨ H.getD x false = true)
  | 0, _ => ⟨fun h => .inr h, fun h => h.elim (fun ⟨i, hi, _⟩ => absurd hi (Nat.not_lt_zero _)) id⟩
  | j + 1, h => by
    unfold stamp
    rw [getD_set _ _ _ (by rw [stamp_length]; exact h j (Nat.lt_succ_self j)), Bool.or_eq_true, decide_eq_true_eq, stamp_all j (fun i hi => h i (by omega))]
    constructor
    · rintro (h | ⟨i, hi, rfl⟩ | h)
      · exact .inl ⟨j, Nat.lt_succ_self j, h.symm⟩
      · exact .inl ⟨i, by omega, rfl⟩
      · exact .inr h
    · rintro (⟨i, hi, rfl⟩ | h)
      · by_cases hij : i = j
        · subst hij; exact .inl rfl
        · exact .inr (.inl ⟨i, by omega, rfl⟩)
      · exact .inr (.inr h)
theorem stampP_is {H : List Bool} {q : Int × Int × Int × Bool} {lo hi : Int} (h0 : 0 ≤ lo) (h1 : lo ≤ q.1) (h2 : q.1 ≤ q.2.1) (h3 : q.2.1 ≤ hi) (h4 : 1 ≤ q.2.2.1) (hl : H.length = (hi + 1).toNat) (x : Nat) :
    (stampP H q).getD x false = (H.getD x false || eachP q.1.toNat q.2.1 q.2.2.1.toNat x) := by
  obtain ⟨a, b, t, z⟩ := q
  dsimp only at h1 h2 h3 h4
  obtain ⟨A, hA⟩ : ∃ A : Nat, a = A := ⟨a.toNat, by omega⟩
  obtain ⟨T, hT⟩ : ∃ T : Nat, t = T := ⟨t.toNat, by omega⟩
  obtain ⟨D, hD⟩ : ∃ D : Nat, b - a = D := ⟨(b - a).toNat, by omega⟩
  subst hA hT
  unfold stampP eachP
  dsimp only
  rw [hD, Int.toNat_natCast, Int.toNat_natCast, Int.toNat_natCast]
  have hT1 : 0 < T := by omega
  have hin : ∀ i, i < D / T + 1 → i * T ≤ D := fun i hi => (Nat.le_div_iff_mul_le hT1).1 (by omega)
  rw [Bool.eq_iff_iff, stamp_all _ (fun i hi => by have := hin i hi; omega), Bool.or_eq_true, decide_eq_true_eq]
  constructor
  · rintro (⟨i, hi, rfl⟩ | h)
    · right
      have := hin i hi
      refine ⟨by omega, by omega, ?_⟩
      rw [Nat.add_sub_cancel_left]
      exact Nat.mul_mod_left i T
    · exact .inl h
  · rintro (h | ⟨g1, g2, g3⟩)
    · exact .inr h
    · left
      have e := Nat.div_mul_cancel (Nat.dvd_of_mod_eq_zero g3)
      refine ⟨(x - A) / T, Nat.lt_succ_of_le (Nat.div_le_div_right (by omega)), by omega⟩
theorem stampP_length (H : List Bool) (q : Int × Int × Int × Bool) : (stampP H q).length = H.length := stamp_length _ _ _ _
theorem fieldGo_in {lo hi : Int} (h0 : 0 ≤ lo) (hlh : lo ≤ hi) (x : Nat) : ∀ (l : List ByteArray) (H H' : List Bool), H.length = (hi + 1).toNat → fieldGo lo hi l H = some H' → H'.getD x false = true → H.getD x false = true ∨ (lo ≤ x ∧ (x : Int) ≤ hi)
  | [], H, H', _, h, hx => by
    unfold fieldGo at h
    cases h
    exact .inl hx
  | p :: l, H, H', hl, h, hx => by
    unfold fieldGo at h
    split at h
    · rename_i hp
      obtain ⟨d1, d2, d3, d4, _⟩ := piece_bd hlh hp
      rcases fieldGo_in h0 hlh x l _ H' (by rw [stampP_length]; exact hl) h hx with g | g
      · rw [stampP_is h0 d1 d2 d3 d4 hl, Bool.or_eq_true] at g
        rcases g with g | g
        · exact .inl g
        · unfold eachP at g
          have := of_decide_eq_true g
          exact .inr ⟨by omega, by omega⟩
      · exact .inr g
    · cases h
def flagsO : Option (List Bool) → Nat → Bool
  | none, _ => false
  | some H, i => H.getD i false
/-- What readField answers. -/
def fieldF (s : ByteArray) (lo hi : Int) : Nat → Bool := flagsO (fieldO s lo hi)
theorem getD_none (m x : Nat) : (List.replicate m false).getD x false = false := by
  rw [List.getD_eq_getElem?_getD, List.getElem?_replicate]
  split <;> rfl
theorem fieldF_nums {s : ByteArray} {lo hi : Int} (h0 : 0 ≤ lo) (hlh : lo ≤ hi) (h9 : hi ≤ 59) (n : Nat) (hn : n = 60) : numsTo (fieldF s lo hi) n = fieldL s lo hi := by
  unfold fieldF fieldL
  cases h : fieldO s lo hi with
  | none =>
    show _ = []
    rw [List.eq_nil_iff_forall_not_mem]
    intro x hx
    obtain ⟨i, _, _, hp⟩ := (numsTo_mem _).1 hx
    cases hp
  | some H =>
    show _ = picks H lo (hi - lo + 1).toNat
    refine rise_ext _ _ (numsTo_rise _ _) (picks_rise _) fun x => ?_
    rw [numsTo_mem, mem_picks]
    constructor
    · rintro ⟨i, hi, rfl, hp⟩
      have hp : H.getD i false = true := hp
      rcases fieldGo_in h0 hlh i _ _ _ (List.length_replicate ..) h hp with g | g
      · rw [getD_none] at g; cases g
      · refine ⟨(i - lo).toNat, by omega, by omega, ?_⟩
        rw [show (lo + ((i - lo).toNat : Int)).toNat = i by omega]
        exact hp
    · rintro ⟨i, hi, rfl, hp⟩
      exact ⟨(lo + (i : Int)).toNat, by omega, by omega, hp⟩
end Go.Proofs.YteefacjjdalncaaGreatDoor

namespace Go.Proofs.YteefacjjdalncaaGreatDoor
open Go Go.RowKit
set_option linter.unusedVariables false

/-- What lies there in the rounds. -/
structure RfS (w : World) (B : Nat) (lo hi : Int) (L : List ByteArray) (W : World) (p : Nat → Bool) : Prop where
  z0 : B2c W B lo hi
  z1 : Fb 160 W (B + 1) (fun _ => false)
  z2 : Fb 160 W (B + 1 + 1) p
  z3 : W.heap[B + 1 + 1 + 1]? = some (.cells (L.map Value.string).toArray 9)
  be : Below B w W
section
variable {w W W' : World} {B : Nat} {lo hi : Int} {L : List ByteArray} {p : Nat → Bool}
theorem RfS.ge (h : RfS w B lo hi L W p) : B ≤ W.heap.size := by have := h.z2.lt; omega
theorem RfS.up (h : RfS w B lo hi L W p) (hb : Below W.heap.size W W') : RfS w B lo hi L W' p :=
  ⟨h.z0.up hb, h.z1.up hb, h.z2.up hb, (hb.block _ (Array.getElem?_eq_some_iff.1 h.z3).1).trans h.z3, h.be.trans (hb.mono h.ge)⟩
theorem RfS.put (h : RfS w B lo hi L W p) (q : Nat → Bool) : RfS w B lo hi L (W.setRow (B + 1 + 1) (fldA q)) q :=
  ⟨⟨(World.cell?_of_block (a := ⟨B, 0, none⟩) (setRow_other W (B + 1 + 1) B _ (by omega))).trans h.z0.1, (World.cell?_of_block (a := ⟨B, 1, none⟩) (setRow_other W (B + 1 + 1) B _ (by omega))).trans h.z0.2⟩, h.z1.rowFar (by omega), h.z2.row q, (setRow_other W (B + 1 + 1) _ _ (by omega)).trans h.z3, below_setRow h.be (by omega) _⟩
theorem RfS.at (h : RfS w B lo hi L W p) {k : Nat} {t : ByteArray} (ht : L[k]? = some t) : W.cell? ⟨B + 1 + 1 + 1, k, none⟩ = some (.string t) := by
  rw [cell_of_row _ _ k _ 9 (0, 0) h.z3]
  simp [ht]
end
set_option maxRecDepth 10000 in
set_option maxHeartbeats 4000000 in
theorem readField_any (s : ByteArray) (lo : Nat) (hi : Int) (w : World) (hs : s.size ≤ 1048576) (hlh : lo ≤ hi) (h9 : hi ≤ 59) (hm : MaxIs w) :
    Calls Tryz.prog 152 #[.string s, .agg #[.int .i64 (lo : Int), .int .i64 hi]] w fun e w' => e = .returned (.tuple #[.agg (fldA (fieldF s lo hi)), .bool (fieldO s lo hi).isSome]) ∧ Below w.heap.size w w' := by
  have HM : Hid (∀ W, Below w.heap.size w W → MaxIs W) := fun W hb => hm.up hb
  obtain ⟨L, HS⟩ : ∃ L, Hid (splitB s 44 = L) := ⟨_, rfl⟩
  have HPZ : Hid (∀ t ∈ L, t.size ≤ 1048576) := fun t ht => by have := splitB_sz s 44 t (by rw [HS.out]; exact ht); omega
  have hL : L.length ≤ 1048577 := by
    rw [← HS.out]; unfold splitB; have := (cutsN_bd s 44 (s.size + 1)).2; omega
  obtain ⟨F, HF⟩ : ∃ F, Hid (fieldO s lo hi = F) := ⟨_, rfl⟩
  have HG : Hid (fieldGo lo hi L (List.replicate (hi + 1).toNat false) = F) := by
    show _ = F; rw [← HF.out]; unfold fieldO; rw [HS.out]
  have HFF : Hid (fieldF s lo hi = flagsO F) := by show _ = _; unfold fieldF; rw [HF.out]
  have HSP : Hid (∀ W, Below w.heap.size w W → Calls Tryz.prog 140 #[.string s, .string ⟨#[44]⟩] W fun e w' => e = .returned (.slice (some ⟨W.heap.size, 0, none⟩) L.length L.length) ∧ w' = W.alloc (.cells (L.map Value.string).toArray 9)) := fun W hb => by
    obtain ⟨m, hm⟩ := HM.out W hb
    have h1 : (1 : Nat) ≤ (⟨#[44]⟩ : ByteArray).size := by show 1 ≤ 1; omega
    have := Tryz.strings_Split s ⟨#[44]⟩ m W (by omega) hm h1
    have e1 := lib_split 44 s.size s (Nat.le_refl _)
    have e2 := Lib.splitB_all ⟨#[44]⟩ h1 0 _ s rfl
    rw [e1] at e2
    rw [← e2, e1, show splitB s (44 : UInt8).toNat = L from HS.out] at this
    exact this
  have HRP : Hid (∀ t, t ∈ L → ∀ W, Below w.heap.size w W → Calls Tryz.prog 183 #[.string t, .agg #[.int .i64 (lo : Int), .int .i64 hi]] W fun e w' => e = .returned (.tuple #[.agg (fldA (pieceF t lo hi)), .bool (piece t lo hi).2.2.2]) ∧ Below W.heap.size W w') := fun t ht W hb => readPiece_any t lo hi W (HPZ.out t ht) (by omega) h9 (HM.out W hb)
  rw [HF.out, HFF.out]
  clear HF HFF HS HPZ hm HM
  go_enter Tryz.func152, Tryz.ntmps152
  obtain ⟨V, HV⟩ : ∃ V, Hid (((w.alloc (.cells #[.int .i64 (lo : Int), .int .i64 hi] 166)).alloc (.cells (fldA fun _ => false) 160)).alloc (.cells (fldA fun _ => false) 160) = V) := ⟨_, rfl⟩
  have HZ : Hid (B2c V w.heap.size lo hi ∧ Fb 160 V (w.heap.size + 1) (fun _ => false) ∧ Fb 160 V (w.heap.size + 1 + 1) (fun _ => false) ∧ Below w.heap.size w V ∧ V.heap.size = w.heap.size + 1 + 1 + 1) := by
    show B2c _ _ _ _ ∧ _
    rw [← HV.out]
    refine ⟨?_, (Fb.new 160 _ _ (by simp)).alloc _, Fb.new 160 _ _ (by simp), ba (ba (ba (Below.refl _ _) _) _) _, by simp⟩
    have h : B2c (w.alloc (.cells #[.int .i64 (lo : Int), .int .i64 hi] 166)) w.heap.size lo hi := ⟨by simp [go_sem], by simp [go_sem]⟩
    exact h.up (ba (ba (Below.refl _ _) _) _)
  go_wp2_with (first | (refine wpl_alloc rfl rfl ?_) | (rw [HV.out]))
  refine (HSP.out _ HZ.out.2.2.2.1).mono ?_
  rintro e w1 ⟨rfl, rfl⟩
  rw [HZ.out.2.2.2.2]
  have HT : Hid (RfS w w.heap.size lo hi L (V.alloc (.cells (L.map Value.string).toArray 9)) fun _ => false) := by
    have hb : Below V.heap.size V (V.alloc (.cells (L.map Value.string).toArray 9)) := ba (Below.refl _ _) _
    refine ⟨HZ.out.1.up hb, HZ.out.2.1.up hb, HZ.out.2.2.1.up hb, ?_, ba HZ.out.2.2.2.1 _⟩
    rw [← HZ.out.2.2.2.2]
    show (V.heap.push _)[V.heap.size]? = _; simp
  clear HZ HV HSP
  generalize V.alloc (.cells (L.map Value.string).toArray 9) = V1 at *
  generalize hB : w.heap.size = B at *
  go_wp2
  go_loopw [14] (fun i wr => ∃ (k : Nat) (H : List Bool) (p : Nat → Bool), k ≤ L.length ∧ i = .int .i64 k ∧ Hid (fieldGo lo hi (L.drop k) H = F ∧ H.length = (hi + 1).toNat ∧ ∀ i, p i = H.getD i false) ∧ Hid (RfS w B lo hi L wr p)) (fun i _ => L.length - (intOf i).toNat)
  case atStart => exact ⟨0, _, _, Nat.zero_le _, rfl, ⟨HG.out, List.length_replicate .., fun i => (getD_none _ i).symm⟩, HT⟩
  case round =>
    obtain ⟨k, H, p, hk, rfl, HE, HSt⟩ := hrel
    clear HT HG
    by_cases hlt : k < L.length
    · obtain ⟨t, ht⟩ : ∃ t, L[k]? = some t := ⟨_, List.getElem?_eq_getElem hlt⟩
      have c0 := HSt.out.at ht
      have c1 := HSt.out.z0.1
      have c2 := HSt.out.z0.2
      have HC : Hid (Calls Tryz.prog 183 #[.string t, .agg #[.int .i64 (lo : Int), .int .i64 hi]] wr fun e w' => e = .returned (.tuple #[.agg (fldA (pieceF t lo hi)), .bool (piece t lo hi).2.2.2]) ∧ Below wr.heap.size wr w') := HRP.out t (List.mem_of_getElem? ht) wr (by have := HSt.out.be; exact this)
      have HE2 : Hid (F = if (piece t lo hi).2.2.2 then fieldGo lo hi (L.drop (k + 1)) (stampP H (piece t lo hi)) else none) := by
        show F = _
        rw [← HE.out.1, fieldGo_at ht]
      have HN : Hid ((piece t lo hi).2.2.2 = true → ∀ i, (p i || pieceF t lo hi i) = (stampP H (piece t lo hi)).getD i false) := fun hz i => by
        obtain ⟨d1, d2, d3, d4, _⟩ := piece_bd hlh hz
        rw [stampP_is (by omega) d1 d2 d3 d4 HE.out.2.1, HE.out.2.2 i]
        unfold pieceF orNone
        rw [hz]
        rfl
      clear ht
      obtain ⟨Q, HQ⟩ : ∃ Q, Hid (pieceF t lo hi = Q) := ⟨_, rfl⟩
      obtain ⟨z, HZ⟩ : ∃ z, Hid ((piece t lo hi).2.2.2 = z) := ⟨_, rfl⟩
      rw [HQ.out, HZ.out] at HC
      rw [HQ.out, HZ.out] at HN
      rw [HZ.out] at HE2
      go_wp2_with fail
      refine HC.out.mono ?_
      rintro e w2 ⟨rfl, hb2⟩
      have HS2 : Hid (RfS w B lo hi L (w2.alloc (.cells (fldA Q) 160)) p) := (HSt.out.up hb2).up (ba (Below.refl _ _) _)
      have HFB : Hid (Fb 160 (w2.alloc (.cells (fldA Q) 160)) w2.heap.size Q) := Fb.new 160 _ _ rfl
      clear hb2 c0 c1 c2 HSt HC
      cases z with
      | false =>
        have HFn : Hid (F = none) := HE2.out
        go_wp2_with (first | (refine wpl_alloc rfl rfl ?_) | (refine wpl_store_new Q (.tmp 9) (.tmp 22) rfl rfl rfl rfl ?_) | (refine wpl_build rfl rfl ?_) | (refine wpl_store HS2.out.z1 (fun _ => false) (.tmp 4) (.tmp 26) rfl rfl rfl rfl ?_))
        refine bodyPost_ret (ret_f2 rfl rfl rfl (HS2.out.z1.row _)) rfl ?_
        subst hB
        exact ⟨by rw [HFn.out]; rfl, below_setRow HS2.out.be (by omega) _⟩
      | true =>
        have HFn : Hid (fieldGo lo hi (L.drop (k + 1)) (stampP H (piece t lo hi)) = F) := HE2.out.symm
        have HNN : Hid (∀ i, (p i || Q i) = (stampP H (piece t lo hi)).getD i false) := HN.out rfl
        have HW : Hid (∀ W, Calls Tryz.prog 184 #[.agg (fldA p), .agg (fldA Q)] W fun e w' => e = .returned (.agg (fldA fun i => p i || Q i)) ∧ Below W.heap.size W w') := fun W => with_any p Q W
        go_wp2_with (first | (refine wpl_alloc rfl rfl ?_) | (refine wpl_store_new Q (.tmp 9) (.tmp 22) rfl rfl rfl rfl ?_) | (refine wpl_load HS2.out.z2 (.tmp 6) rfl rfl rfl ?_) | (refine wpl_load HFB.out (.tmp 9) rfl rfl rfl ?_))
        refine (HW.out _).mono ?_
        rintro e w3 ⟨rfl, hb3⟩
        have HS3 : Hid (RfS w B lo hi L w3 p) := HS2.out.up hb3
        have HS4 : Hid (RfS w B lo hi L (w3.setRow (B + 1 + 1) (fldA fun i => p i || Q i)) (fun i => p i || Q i)) := HS3.out.put _
        clear hb3 HS2 HFB HW
        go_wp2_with (refine wpl_store HS3.out.z2 (fun i => p i || Q i) (.tmp 6) (.tmp 29) rfl rfl rfl rfl ?_)
        go_roundw
        case rel => exact ⟨k + 1, _, _, by omega, by go_num, ⟨HFn.out, by rw [stampP_length]; exact HE.out.2.1, HNN.out⟩, HS4⟩
        case measure => simp [intOf]; omega
    · have hkn : k = L.length := by omega
      have HFs : Hid (F = some H) := by show F = some H; rw [← HE.out.1]; exact fieldGo_end hkn
      have HA : Hid (fldA p = fldA (flagsO F)) := by
        show _ = _
        rw [HFs.out]
        exact fldA_ext fun i _ => HE.out.2.2 i
      go_wp2_with (first | (refine wpl_load HSt.out.z2 (.tmp 6) rfl rfl rfl ?_) | (refine wpl_store HSt.out.z1 p (.tmp 4) (.tmp 31) rfl rfl rfl rfl ?_))
      refine bodyPost_ret (ret_f2 rfl rfl rfl (HSt.out.z1.row _)) rfl ?_
      subst hB
      exact ⟨by rw [HA.out, HFs.out]; rfl, below_setRow HSt.out.be (by omega) _⟩
end Go.Proofs.YteefacjjdalncaaGreatDoor

namespace Go.Proofs
open Go.Shelf
def Tryz.laysM316_ren : Go.Shelf.Ren := ⟨fun | 316 => 146 | n => n, fun | 9 => 9 | 3 => 3 | 4 => 4 | 37 => 22 | 0 => 0 | 127 => 188 | 5 => 5 | n => n, fun | n => n⟩
theorem Tryz.laysM316 : Go.Proofs.LaysM.n316 Tryz.prog Tryz.laysM316_ren := {
  mixed := by kernel_rfl
  f316 := Tryz.func146.trans (congrArg some (by kernel_rfl))
  t0 := Tryz.underlying0
  a0 := Tryz.isAgg0
  z0 := Tryz.sizeOf0
  v0 := Tryz.zeroValue0
  t3 := Tryz.underlying3
  a3 := Tryz.isAgg3
  z3 := Tryz.sizeOf3
  v3 := Tryz.zeroValue3
  t4 := Tryz.underlying4
  a4 := Tryz.isAgg4
  z4 := Tryz.sizeOf4
  v4 := Tryz.zeroValue4
  t9 := Tryz.underlying9
  a9 := Tryz.isAgg9
  z9 := Tryz.sizeOf9
  v9 := Tryz.zeroValue9
  t37 := Tryz.underlying22
  a37 := Tryz.isAgg22
  z37 := Tryz.sizeOf22
  v37 := Tryz.zeroValue22
  t127 := Tryz.underlying188
  a127 := Tryz.isAgg188
  z127 := Tryz.sizeOf188
  v127 := Tryz.zeroValue188
  t5 := Tryz.underlying5
  a5 := Tryz.isAgg5
  z5 := Tryz.sizeOf5
  v5 := Tryz.zeroValue5
  i0 := by kernel_rfl
  i3 := by kernel_rfl
  i4 := by kernel_rfl
  i5 := by kernel_rfl
  i9 := by kernel_rfl
  i37 := by kernel_rfl
  i127 := by kernel_rfl }
open Go.RowKit in
theorem Tryz.stringslite_Clone (s : ByteArray) (w : World) (hlim : s.size ≤ 281474976710656) :
    Calls Tryz.prog 146 #[.string s] w fun e w' => e = .returned (.string s) ∧ Below w.heap.size w w' := Any.stringslite_Clone Tryz.laysM316 s w hlim
def Tryz.lays157_ren : Go.Shelf.Ren := ⟨fun | 157 => 103 | 229 => 144 | 199 => 145 | 261 => 181 | 311 => 212 | 312 => 213 | n => n, fun | 9 => 9 | 31 => 43 | 3 => 3 | 5 => 5 | 4 => 4 | 119 => 152 | 0 => 0 | 40 => 154 | 152 => 193 | 21 => 21 | 154 => 195 | 51 => 184 | 141 => 197 | 196 => 227 | 193 => 224 | 198 => 230 | 49 => 228 | 194 => 225 | 201 => 233 | 226 => 251 | 46 => 133 | 227 => 252 | n => n, fun | 0 => 0 | 6 => 2 | n => n⟩
theorem Tryz.lays157 : Go.Proofs.Lays.n157 Tryz.prog Tryz.lays157_ren := {
  mixed := by kernel_rfl
  f157 := Tryz.func103.trans (congrArg some (by kernel_rfl))
  f199 := Tryz.func145.trans (congrArg some (by kernel_rfl))
  f229 := Tryz.func144.trans (congrArg some (by kernel_rfl))
  f261 := Tryz.func181.trans (congrArg some (by kernel_rfl))
  f311 := Tryz.func212.trans (congrArg some (by kernel_rfl))
  f312 := Tryz.func213.trans (congrArg some (by kernel_rfl))
  t0 := Tryz.underlying0
  a0 := Tryz.isAgg0
  z0 := Tryz.sizeOf0
  v0 := Tryz.zeroValue0
  t3 := Tryz.underlying3
  a3 := Tryz.isAgg3
  z3 := Tryz.sizeOf3
  v3 := Tryz.zeroValue3
  t4 := Tryz.underlying4
  a4 := Tryz.isAgg4
  z4 := Tryz.sizeOf4
  v4 := Tryz.zeroValue4
  t5 := Tryz.underlying5
  a5 := Tryz.isAgg5
  z5 := Tryz.sizeOf5
  v5 := Tryz.zeroValue5
  t9 := Tryz.underlying9
  a9 := Tryz.isAgg9
  z9 := Tryz.sizeOf9
  v9 := Tryz.zeroValue9
  t21 := Tryz.underlying21
  a21 := Tryz.isAgg21
  z21 := Tryz.sizeOf21
  v21 := Tryz.zeroValue21
  t31 := Tryz.underlying43
  a31 := Tryz.isAgg43
  z31 := Tryz.sizeOf43
  v31 := Tryz.zeroValue43
  t40 := Tryz.underlying154
  a40 := Tryz.isAgg154
  z40 := Tryz.sizeOf154
  v40 := Tryz.zeroValue154
  t46 := Tryz.underlying133
  a46 := Tryz.isAgg133
  z46 := Tryz.sizeOf133
  v46 := Tryz.zeroValue133
  t49 := Tryz.underlying228
  a49 := Tryz.isAgg228
  z49 := Tryz.sizeOf228
  v49 := Tryz.zeroValue228
  t51 := Tryz.underlying184
  a51 := Tryz.isAgg184
  z51 := Tryz.sizeOf184
  v51 := Tryz.zeroValue184
  t119 := Tryz.underlying152
  a119 := Tryz.isAgg152
  z119 := Tryz.sizeOf152
  t141 := Tryz.underlying197
  a141 := Tryz.isAgg197
  z141 := Tryz.sizeOf197
  v141 := Tryz.zeroValue197
  t152 := Tryz.underlying193
  a152 := Tryz.isAgg193
  z152 := Tryz.sizeOf193
  v152 := Tryz.zeroValue193
  t154 := Tryz.underlying195
  a154 := Tryz.isAgg195
  z154 := Tryz.sizeOf195
  v154 := Tryz.zeroValue195
  t193 := Tryz.underlying224
  a193 := Tryz.isAgg224
  z193 := Tryz.sizeOf224
  v193 := Tryz.zeroValue224
  t194 := Tryz.underlying225
  a194 := Tryz.isAgg225
  z194 := Tryz.sizeOf225
  v194 := Tryz.zeroValue225
  t196 := Tryz.underlying227
  a196 := Tryz.isAgg227
  z196 := Tryz.sizeOf227
  v196 := Tryz.zeroValue227
  t198 := Tryz.underlying230
  a198 := Tryz.isAgg230
  z198 := Tryz.sizeOf230
  v198 := Tryz.zeroValue230
  t201 := Tryz.underlying233
  a201 := Tryz.isAgg233
  z201 := Tryz.sizeOf233
  v201 := Tryz.zeroValue233
  t226 := Tryz.underlying251
  a226 := Tryz.isAgg251
  z226 := Tryz.sizeOf251
  v226 := Tryz.zeroValue251
  t227 := Tryz.underlying252
  a227 := Tryz.isAgg252
  z227 := Tryz.sizeOf252
  v227 := Tryz.zeroValue252
  g0 := by kernel_rfl
  g6 := by kernel_rfl }
open Go.RowKit Go.Lib in
theorem Tryz.strings_Fields (s : ByteArray) (w : World) (hs : s.size < 4294967281) (hascii : ∀ (j : Nat) b, s.data.toList[j]? = some b → b.toNat < 128) (htab : Lib.TabIs Tryz.prog w "strings.asciiSpace" .u8 Lib.asciiSpaceTab) :
    Calls Tryz.prog 103 #[.string s] w fun e w' =>
      e = .returned (.slice (some ⟨w.heap.size, 0, none⟩) (Lib.fields s.data.toList).length (Lib.fields s.data.toList).length) ∧ w' = w.alloc (.cells ((Lib.fields s.data.toList).map fun l => Value.string ⟨l.toArray⟩).toArray 9) := Any.strings_Fields Tryz.lays157 (by kernel_rfl) (by kernel_rfl) s w hs hascii htab
end Go.Proofs
