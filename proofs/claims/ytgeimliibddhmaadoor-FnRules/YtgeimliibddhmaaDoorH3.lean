/-
  A number of a reach, steps of a reach, and two fields together, as the program reads them: the walks. A rule comes back from its text: plain facts. Texts split and cut at a byte: what the library's words come to. Plain facts. A rule comes back from its text, whole: plain facts.
-/
import Derived.Test.YtgeimliibddhmaaDoorAt
import Derived.Test.YtgeimliibddhmaaDoorNum
import Derived.Test.YtgeimliibddhmaaDoorE6
import Derived.Test.YtgeimliibddhmaaDoorE9
import Derived.Test.YtgeimliibddhmaaDoorNfp
import Derived.Test.YtgeimliibddhmaaDoorFul
import Derived.Lib.SplitLaws
import Derived.Lib.CutLaws
import Derived.Lib.CountLaws
import Derived.Lib.IndexLaws
import Derived.Lib.IndexBytes
namespace Go.Proofs.YtgeimliibddhmaaDoor
open Go Go.RowKit
set_option linter.unusedVariables false

theorem readDec_all (s : ByteArray) (w : World) (hs : s.size ≤ 9223372036854775807) :
    Calls Tryd.prog 113 #[.string s] w fun e w' => e = .returned (.tuple #[.int .i64 (rd s).1, .bool (rd s).2]) ∧ Below w.heap.size w w' := by
  by_cases h : s.size = 0 ∨ 10 < s.size
  · rw [rd_out h]
    exact readDec_out s w hs h
  · exact readDec_any s w (by omega) _ _ rfl

set_option maxRecDepth 10000 in
set_option maxHeartbeats 1000000 in
theorem readNumber_any (s : ByteArray) (lo hi : Int) (w : World) (hs : s.size ≤ 9223372036854775807) :
    Calls Tryd.prog 98 #[.string s, .agg #[.int .i64 lo, .int .i64 hi]] w fun e w' => e = .returned (.tuple #[.int .i64 (rd s).1, .bool ((rd s).2 && decide (lo ≤ (rd s).1) && decide ((rd s).1 ≤ hi))]) ∧ Below w.heap.size w w' := by
  have HR : Hid (∀ W, Calls Tryd.prog 113 #[.string s] W fun e w' => e = .returned (.tuple #[.int .i64 (rd s).1, .bool (rd s).2]) ∧ Below W.heap.size W w') := fun W => readDec_all s W hs
  obtain ⟨x, hx⟩ : ∃ x, (rd s).1 = x := ⟨_, rfl⟩
  obtain ⟨q, hq⟩ : ∃ q, (rd s).2 = q := ⟨_, rfl⟩
  rw [hx, hq] at HR
  rw [hx, hq]
  clear hx hq
  go_enter Tryd.func98, Tryd.ntmps98
  go_wp2_with fail
  refine (HR.out _).mono ?_
  rintro e w1 ⟨rfl, hb1⟩
  have c0 : w1.cell? ⟨w.heap.size, 0, none⟩ = some (.int .i64 lo) := (hb1.cell (by simp)).trans (by simp [go_sem])
  have c1 : w1.cell? ⟨w.heap.size, 1, none⟩ = some (.int .i64 hi) := (hb1.cell (by simp)).trans (by simp [go_sem])
  have B1 := below_new hb1
  clear hb1 HR
  cases q with
  | false =>
    go_wp2
    go_quiet (fail)
    go_wp2
    go_ret2
    exact ⟨by simp, bdrewN B1 _⟩
  | true =>
    by_cases h1 : lo ≤ x
    · have g1 : decide (lo ≤ x) = true := decide_eq_true h1
      go_wp2
      go_quiet (fail)
      go_wp2
      go_ret2
      exact ⟨by simp [h1], bdrewN B1 _⟩
    · have g1 : decide (lo ≤ x) = false := decide_eq_false h1
      go_wp2
      go_quiet (fail)
      go_wp2
      go_ret2
      exact ⟨by simp; omega, bdrewN B1 _⟩

/-- Flags, or none. -/
def orNone (q : Bool) (p : Nat → Bool) : Nat → Bool := if q then p else fun _ => false
set_option maxRecDepth 10000 in
set_option maxHeartbeats 1000000 in
theorem readSteps_any (s : ByteArray) (lo : Nat) (hi : Int) (w : World) (hs : s.size ≤ 9223372036854775807) (hlo : lo ≤ 60) (h9 : hi ≤ 59) :
    Calls Tryd.prog 96 #[.string s, .agg #[.int .i64 (lo : Int), .int .i64 hi]] w fun e w' => e = .returned (.tuple #[.agg (fldA (orNone ((rd s).2 && decide (1 ≤ (rd s).1)) (eachP lo hi (rd s).1.toNat))), .bool ((rd s).2 && decide (1 ≤ (rd s).1))]) ∧ Below w.heap.size w w' := by
  have HR : Hid (∀ W, Calls Tryd.prog 113 #[.string s] W fun e w' => e = .returned (.tuple #[.int .i64 (rd s).1, .bool (rd s).2]) ∧ Below W.heap.size W w') := fun W => readDec_all s W hs
  have hbd := rd_bd s
  obtain ⟨x, hx⟩ : ∃ x : Nat, (rd s).1 = x := ⟨(rd s).1.toNat, by omega⟩
  obtain ⟨q, hq⟩ : ∃ q, (rd s).2 = q := ⟨_, rfl⟩
  rw [hx, hq] at HR
  rw [hx] at hbd
  rw [hx, hq, Int.toNat_natCast]
  clear hx hq
  have HE : Hid (1 ≤ x → ∀ W, Calls Tryd.prog 67 #[.agg #[.int .i64 (lo : Int), .int .i64 hi], .int .i64 (x : Int)] W fun e w' => e = .returned (.agg (fldA (eachP lo hi x))) ∧ Below W.heap.size W w') := fun h W => eachOf_nat lo x hi W hlo h9 h (by omega)
  go_enter Tryd.func96, Tryd.ntmps96
  obtain ⟨V, HV⟩ : ∃ V, Hid ((w.alloc (.cells #[.int .i64 (lo : Int), .int .i64 hi] 63)).alloc (.cells (fldA fun _ => false) 55) = V) := ⟨_, rfl⟩
  have HZ : Hid (Fb 55 V (w.heap.size + 1) (fun _ => false)) := by show Fb _ _ _ _; rw [← HV.out]; exact Fb.new 55 _ _ (by simp)
  have c0 : V.cell? ⟨w.heap.size, 0, none⟩ = some (.int .i64 (lo : Int)) := by rw [← HV.out]; simp [go_sem]
  have c1 : V.cell? ⟨w.heap.size, 1, none⟩ = some (.int .i64 hi) := by rw [← HV.out]; simp [go_sem]
  have BV : Below w.heap.size w V := by rw [← HV.out]; exact ba (ba (Below.refl _ _) _) _
  go_wp2_with (first | (refine wpl_alloc rfl rfl ?_; rw [HV.out]))
  refine (HR.out _).mono ?_
  rintro e w1 ⟨rfl, hb1⟩
  have d0 := cell_up hb1 c0
  have d1 := cell_up hb1 c1
  have B1 := Below.on BV hb1
  have HZ1 : Hid (Fb 55 w1 (w.heap.size + 1) (fun _ => false)) := HZ.out.up hb1
  clear hb1 HR c0 c1 BV HZ HV
  by_cases hok : q = true ∧ 1 ≤ x
  · obtain ⟨rfl, h1⟩ := hok
    have g1 : decide ((x : Int) < 1) = false := decide_eq_false (by omega)
    have g2 : decide (1 ≤ (x : Int)) = true := decide_eq_true (by omega)
    have HE1 := HE.out h1
    have HEE : Hid (∀ W, Calls Tryd.prog 67 #[.agg #[.int .i64 (lo : Int), .int .i64 hi], .int .i64 (x : Int)] W fun e w' => e = .returned (.agg (fldA (eachP lo hi x))) ∧ Below W.heap.size W w') := HE1
    clear HE HE1
    go_wp2_with fail
    refine (HEE.out _).mono ?_
    rintro e w2 ⟨rfl, hb2⟩
    have HZ2 : Hid (Fb 55 w2 (w.heap.size + 1) (fun _ => false)) := HZ1.out.up hb2
    have B2 := Below.on B1 hb2
    clear hb2 d0 d1
    go_wp2_with (refine wpl_store HZ2.out (eachP lo hi x) (.tmp 4) (.tmp 22) rfl rfl rfl rfl ?_)
    refine bodyPost_ret (ret_f2 rfl rfl rfl (HZ2.out.row _)) rfl ?_
    exact ⟨by rw [g2]; rfl, below_setRow B2 (by omega) _⟩
  · have hr : (q && decide (1 ≤ (x : Int))) = false := by
      cases q with
      | false => rfl
      | true => rw [decide_eq_false (fun h => hok ⟨rfl, by omega⟩)]; rfl
    have HRR : Hid ((q && decide (1 ≤ (x : Int))) = false) := hr
    clear hr HE
    cases q with
    | false =>
      go_wp2_with (first | (refine wpl_build rfl rfl ?_) | (refine wpl_store HZ1.out (fun _ => false) (.tmp 4) (.tmp 19) rfl rfl rfl rfl ?_))
      refine bodyPost_ret (ret_f2 rfl rfl rfl (HZ1.out.row _)) rfl ?_
      exact ⟨by rw [HRR.out]; rfl, below_setRow B1 (by omega) _⟩
    | true =>
      have g1 : decide ((x : Int) < 1) = true := decide_eq_true (by have : ¬ 1 ≤ x := fun h => hok ⟨rfl, h⟩; omega)
      clear hok
      go_wp2_with (first | (refine wpl_build rfl rfl ?_) | (refine wpl_store HZ1.out (fun _ => false) (.tmp 4) (.tmp 19) rfl rfl rfl rfl ?_))
      refine bodyPost_ret (ret_f2 rfl rfl rfl (HZ1.out.row _)) rfl ?_
      exact ⟨by rw [HRR.out]; rfl, below_setRow B1 (by omega) _⟩

set_option maxRecDepth 10000 in
set_option maxHeartbeats 1000000 in
theorem with_any (p q : Nat → Bool) (w : World) :
    Calls Tryd.prog 77 #[.agg (fldA p), .agg (fldA q)] w fun e w' => e = .returned (.agg (fldA fun i => p i || q i)) ∧ Below w.heap.size w w' := by
  have HIX : Hid (∀ k : Nat, k < 60 → ∀ wx, (Instr.index 55 (.agg (fldA q)) (.int .i64 (k : Int))).run Tryd.prog wx = .ok (.bool (q k)) wx) := fun k hk wx => index55 hk wx
  obtain ⟨R, HRR⟩ : ∃ R, Hid (fldA (fun i => p i || q i) = R) := ⟨_, rfl⟩
  rw [HRR.out]
  go_enter Tryd.func77, Tryd.ntmps77
  obtain ⟨V, HV⟩ : ∃ V, Hid (((w.alloc (.cells (fldA p) 55)).alloc (.cells (fldA q) 55)).alloc (.cells (fldA fun _ => false) 55) = V) := ⟨_, rfl⟩
  have Z0 : Fb 55 V w.heap.size p := by rw [← HV.out]; exact ((Fb.new 55 w p rfl).alloc _).alloc _
  have Z1 : Fb 55 V (w.heap.size + 1) q := by rw [← HV.out]; exact (Fb.new 55 _ q (by simp)).alloc _
  have Z2 : Fb 55 V (w.heap.size + 1 + 1) (fun _ => false) := by rw [← HV.out]; exact Fb.new 55 _ _ (by simp)
  have BV : Below w.heap.size w V := by rw [← HV.out]; exact ba (ba (ba (Below.refl _ _) _) _) _
  have HZ : Hid (Fb 55 V w.heap.size p ∧ Fb 55 V (w.heap.size + 1) q ∧ Fb 55 V (w.heap.size + 1 + 1) (fun _ => false) ∧ Below w.heap.size w V) := ⟨Z0, Z1, Z2, BV⟩
  clear Z0 Z1 Z2 BV
  go_wp2_with (first | (refine wpl_alloc rfl rfl ?_; rw [HV.out]) | (refine wpl_load HZ.out.2.1 (.tmp 3) rfl rfl rfl ?_))
  obtain ⟨F, HFF⟩ : ∃ F, Hid (fldA q = F) := ⟨_, rfl⟩
  obtain ⟨F2, HF2⟩ : ∃ F, Hid (fldA p = F) := ⟨_, rfl⟩
  rw [HFF.out] at HIX
  rw [HFF.out, HF2.out]
  clear HFF HF2 HV
  generalize hB : w.heap.size = B at *
  go_loopw [8] (fun i wr => ∃ (k : Nat) (r : Nat → Bool), k ≤ 60 ∧ i = .int .i64 k ∧ Hid (∀ i, r i = (p i || (decide (i < k) && q i))) ∧ Hid (Fb 55 wr B r ∧ Fb 55 wr (B + 1 + 1) (fun _ => false) ∧ Below B w wr)) (fun i _ => 60 - (intOf i).toNat)
  case atStart => exact ⟨0, p, Nat.zero_le _, rfl, fun i => by simp, HZ.out.1, HZ.out.2.2.1, HZ.out.2.2.2⟩
  case round =>
    obtain ⟨k, r, hk, rfl, HE, HS⟩ := hrel
    clear HZ
    by_cases hlt : k < 60
    · have hidx := HIX.out k hlt
      have e0 := HS.out.1.cell (i := k) hlt
      have f0 := HS.out.1.fr k
      cases hp : q k with
      | true =>
        rw [hp] at hidx
        have HN : Hid (∀ i, (if i = k then true else r i) = (p i || (decide (i < k + 1) && q i))) := fun i => by
          by_cases hi : i = k
          · subst hi; simp [hp]
          · rw [if_neg hi, HE.out i]
            congr 2
            by_cases h : i < k
            · rw [decide_eq_true h, decide_eq_true (show i < k + 1 by omega)]
            · rw [decide_eq_false h, decide_eq_false (show ¬ i < k + 1 by omega)]
        have HT : Hid (Fb 55 (wr.setCell ⟨B, k, none⟩ (.bool true)) B (fun i => if i = k then true else r i) ∧ Fb 55 (wr.setCell ⟨B, k, none⟩ (.bool true)) (B + 1 + 1) (fun _ => false) ∧ Below B w (wr.setCell ⟨B, k, none⟩ (.bool true))) := ⟨HS.out.1.set k true, HS.out.2.1.far (by show B ≠ B + 1 + 1; omega) _, HS.out.2.2.setCell (Nat.le_refl _) _⟩
        clear hp
        go_wp2
        go_roundw
        case rel => exact ⟨k + 1, _, by omega, by go_num, HN, HT⟩
        case measure => simp [intOf]; omega
      | false =>
        rw [hp] at hidx
        have HN : Hid (∀ i, r i = (p i || (decide (i < k + 1) && q i))) := fun i => by
          rw [HE.out i]
          by_cases hi : i = k
          · subst hi; simp [hp]
          · congr 2
            by_cases h : i < k
            · rw [decide_eq_true h, decide_eq_true (show i < k + 1 by omega)]
            · rw [decide_eq_false h, decide_eq_false (show ¬ i < k + 1 by omega)]
        clear hp
        go_wp2
        go_roundw
        case rel => exact ⟨k + 1, r, by omega, by go_num, HN, HS⟩
        case measure => simp [intOf]; omega
    · have HF : Hid (fldA r = R) := by
        show _ = _
        rw [← HRR.out]
        exact fldA_ext fun i hi => by rw [HE.out i, decide_eq_true (show i < k by omega), Bool.true_and]
      go_wp2_with (first | (refine wpl_load HS.out.1 (.tmp 2) rfl rfl rfl ?_) | (refine wpl_store HS.out.2.1 r (.tmp 4) (.tmp 16) rfl rfl rfl rfl ?_))
      refine bodyPost_ret (ret_f rfl rfl (HS.out.2.1.row r)) rfl ?_
      subst hB
      exact ⟨by rw [HF.out], below_setRow HS.out.2.2 (by omega) _⟩
end Go.Proofs.YtgeimliibddhmaaDoor

namespace Go.Proofs.YtgeimliibddhmaaDoor
open Go Go.RowKit

/-- A number in words. -/
def numS (x : Int) : ByteArray := bstr (decI x.toNat)
theorem num_all : ∀ n : Fin 60, bstr (decI n.val) ≠ ⟨#[42]⟩ ∧ (bstr (decI n.val)).size ≤ 2 ∧ splitB (bstr (decI n.val)) 45 = [bstr (decI n.val)] ∧ rd (bstr (decI n.val)) = ((n.val : Int), true) ∧ (∀ b ∈ (bstr (decI n.val)).data.toList, 48 ≤ b.toNat ∧ b.toNat ≤ 57) ∧ (bstr (decI n.val)).data.toList ≠ [] := by decide +kernel
theorem num_is {x : Int} (h0 : 0 ≤ x) (h1 : x < 60) : numS x ≠ ⟨#[42]⟩ ∧ (numS x).size ≤ 2 ∧ splitB (numS x) 45 = [numS x] ∧ rd (numS x) = (x, true) ∧ (∀ b ∈ (numS x).data.toList, 48 ≤ b.toNat ∧ b.toNat ≤ 57) ∧ (numS x).data.toList ≠ [] := by
  have := num_all ⟨x.toNat, by omega⟩
  rw [show ((⟨x.toNat, by omega⟩ : Fin 60).val : Int) = x from Int.toNat_of_nonneg h0] at this
  exact this
theorem piece_num {x lo hi : Int} (h0 : 0 ≤ x) (h1 : x < 60) (hl : lo ≤ x) (hh : x ≤ hi) : piece (numS x) lo hi = (x, x, 1, true) := by
  obtain ⟨h2, h3, h4, h5, _⟩ := num_is h0 h1
  unfold piece
  rw [if_neg h2, if_neg (by omega), h4]
  unfold pieceP
  simp [h5, hl, hh]

theorem byte_left (s t : ByteArray) {i : Nat} (h : i < s.size) : (s ++ t).data[i]? = s.data[i]? := by
  have h' : i < s.data.size := h
  simp [ByteArray.data_append, Array.getElem?_append_left h']
theorem extract_left (s t : ByteArray) {b i : Nat} (h : i ≤ s.size) : (s ++ t).extract b i = s.extract b i := by
  have h' : i ≤ s.data.size := h
  apply ByteArray.ext
  simp [ByteArray.data_extract, ByteArray.data_append]
  omega
theorem cutsN_left (s t : ByteArray) (c : Nat) : ∀ i, i ≤ s.size → cutsN (s ++ t) c i = cutsN s c i
  | 0, _ => rfl
  | i + 1, h => by
    have hs : (s ++ t).size = s.size + t.size := ByteArray.size_append
    unfold cutsN
    rw [cutsN_left s t c i (by omega), byte_left s t (by omega), extract_left s t (by omega)]
    by_cases hc : (s.data[i]?.map fun b => b.toNat) = some c
    · rw [if_pos (.inr hc), if_pos (.inr hc)]
    · rw [if_neg (by rintro (e | e); omega; exact hc e), if_neg (by rintro (e | e); omega; exact hc e)]
/-- No byte of it is c. -/
def free (s : ByteArray) (c : Nat) : Prop := ∀ b ∈ s.data.toList, b.toNat ≠ c
theorem free_at {s : ByteArray} {c : Nat} (h : free s c) (i : Nat) : (s.data[i]?.map fun b => b.toNat) ≠ some c := by
  intro e
  cases hb : s.data[i]? with
  | none => rw [hb] at e; cases e
  | some b =>
    rw [hb] at e
    have : b ∈ s.data.toList := by
      obtain ⟨hi, rfl⟩ := Array.getElem?_eq_some_iff.1 hb
      exact Array.getElem_mem_toList hi
    exact h b this (Option.some.inj e)
theorem split_free {t : ByteArray} {c : Nat} (h : free t c) : splitB t c = [t] := by
  have key : ∀ j, j ≤ t.size → cutsN t c j = ([], 0) := by
    intro j
    induction j with
    | zero => intro _; rfl
    | succ j ih =>
      intro hj
      unfold cutsN
      rw [if_neg (by rintro (e | e); omega; exact free_at h j e)]
      exact ih (by omega)
  unfold splitB
  rw [cutsN, if_pos (.inl rfl), key t.size (Nat.le_refl _)]
  simp
theorem byte_right (s t : ByteArray) (j : Nat) : (s ++ t).data[s.size + j]? = t.data[j]? := by
  have : s.data.size = s.size := rfl
  rw [ByteArray.data_append, Array.getElem?_append_right (by omega)]
  congr 1
  omega
theorem extract_behind {α : Type} (x t : Array α) : (x ++ t).extract x.size (x.size + t.size) = t := by
  simp [Array.extract_append]
theorem split_more {s t : ByteArray} {c : UInt8} (h : free t c.toNat) : splitB (s ++ ⟨#[c]⟩ ++ t) c.toNat = splitB s c.toNat ++ [t] := by
  have hz : (s ++ ⟨#[c]⟩ ++ t).size = s.size + 1 + t.size := by rw [ByteArray.size_append, ByteArray.size_append]; rfl
  have ha : s ++ ⟨#[c]⟩ ++ t = s ++ (⟨#[c]⟩ ++ t) := ByteArray.append_assoc
  have h1 : cutsN (s ++ ⟨#[c]⟩ ++ t) c.toNat (s.size + 1) = cutsN s c.toNat (s.size + 1) := by
    have hb : ((s ++ (⟨#[c]⟩ ++ t)).data[s.size]?.map fun b => b.toNat) = some c.toNat := by
      have := byte_right s (⟨#[c]⟩ ++ t) 0
      rw [Nat.add_zero] at this
      rw [this, byte_left _ _ (by show 0 < 1; omega)]
      rfl
    unfold cutsN
    rw [ha, if_pos (.inr hb), if_pos (.inl rfl), cutsN_left _ _ _ _ (Nat.le_refl _), extract_left _ _ (Nat.le_refl _)]
  have key : ∀ j, j ≤ t.size → cutsN (s ++ ⟨#[c]⟩ ++ t) c.toNat (s.size + 1 + j) = cutsN s c.toNat (s.size + 1) := by
    intro j
    induction j with
    | zero => intro _; exact h1
    | succ j ih =>
      intro hj
      have hb : ((s ++ ⟨#[c]⟩ ++ t).data[s.size + 1 + j]?.map fun b => b.toNat) ≠ some c.toNat := by
        have := byte_right (s ++ ⟨#[c]⟩) t j
        rw [show (s ++ (⟨#[c]⟩ : ByteArray)).size = s.size + 1 by rw [ByteArray.size_append]; rfl] at this
        rw [this]
        exact free_at h j
      rw [show s.size + 1 + (j + 1) = s.size + 1 + j + 1 by omega, cutsN, if_neg (by rintro (e | e); omega; exact hb e)]
      exact ih (by omega)
  have h2 : (cutsN s c.toNat (s.size + 1)).2 = s.size + 1 := by rw [cutsN, if_pos (.inl rfl)]
  unfold splitB
  rw [hz, cutsN, if_pos (.inl hz.symm), key t.size (Nat.le_refl _), h2]
  show _ ++ [_] = _ ++ [_]
  congr 2
  apply ByteArray.ext
  rw [ByteArray.data_extract, ByteArray.data_append]
  have e1 : (s ++ (⟨#[c]⟩ : ByteArray)).data.size = s.size + 1 := by show (s ++ (⟨#[c]⟩ : ByteArray)).size = _; rw [ByteArray.size_append]; rfl
  rw [← e1]
  show ((s ++ (⟨#[c]⟩ : ByteArray)).data ++ t.data).extract (s ++ (⟨#[c]⟩ : ByteArray)).data.size ((s ++ (⟨#[c]⟩ : ByteArray)).data.size + t.data.size) = t.data
  exact extract_behind _ _

/-- The numbers of a list, in words. -/
theorem num_free {x : Int} (h0 : 0 ≤ x) (h1 : x < 60) {c : Nat} (hc : c < 48) : free (numS x) c := fun b hb => by
  have := (num_is h0 h1).2.2.2.2.1 b hb
  omega
theorem split_show {l : List Int} (h : ∀ x ∈ l, 0 ≤ x ∧ x < 60) : ∀ k, k < l.length → splitB (showP l (k + 1)) 44 = (l.take (k + 1)).map numS
  | 0, hk => by
    have hx := h _ (List.getElem_mem hk)
    have hg : l[0]? = some l[0] := List.getElem?_eq_getElem hk
    rw [showP, if_pos rfl, showP, hg]
    show splitB (ByteArray.empty ++ numS l[0]) 44 = _
    rw [ByteArray.empty_append, split_free (num_free hx.1 hx.2 (by decide)), List.take_add_one, hg]
    rfl
  | k + 1, hk => by
    have hx := h _ (List.getElem_mem hk)
    have hg : l[k + 1]? = some l[k + 1] := List.getElem?_eq_getElem hk
    have ih := split_show h k (by omega)
    rw [showP, if_neg (by omega), hg]
    show splitB (showP l (k + 1) ++ ⟨#[44]⟩ ++ numS l[k + 1]) (44 : UInt8).toNat = _
    rw [split_more (num_free hx.1 hx.2 (by decide))]
    show splitB (showP l (k + 1)) 44 ++ _ = _
    rw [ih, List.take_add_one (i := k + 1), hg, List.map_append]
    rfl
/-- Bytes of a list in words: figures and commas. -/
theorem show_bytes {l : List Int} (h : ∀ x ∈ l, 0 ≤ x ∧ x < 60) : ∀ k, k ≤ l.length → ∀ b ∈ (showP l k).data.toList, 44 ≤ b.toNat ∧ b.toNat ≤ 57
  | 0, _, b, hb => by simp [showP] at hb
  | k + 1, hk, b, hb => by
    have hx := h _ (List.getElem_mem (show k < l.length by omega))
    have hg : l[k]? = some l[k] := List.getElem?_eq_getElem (by omega)
    rw [showP, hg, ByteArray.data_append, Array.toList_append, List.mem_append] at hb
    rcases hb with hb | hb
    · split at hb
      · exact show_bytes h k (by omega) b hb
      · rw [ByteArray.data_append, Array.toList_append, List.mem_append] at hb
        rcases hb with hb | hb
        · exact show_bytes h k (by omega) b hb
        · simp at hb; subst hb; decide
    · have := (num_is hx.1 hx.2).2.2.2.2.1 b hb
      omega
theorem show_some {l : List Int} (h : ∀ x ∈ l, 0 ≤ x ∧ x < 60) {k : Nat} (hk : k < l.length) : (showP l (k + 1)).data.toList ≠ [] := by
  have hx := h _ (List.getElem_mem hk)
  have hg : l[k]? = some l[k] := List.getElem?_eq_getElem hk
  rw [showP, hg, ByteArray.data_append, Array.toList_append]
  intro e
  exact (num_is hx.1 hx.2).2.2.2.2.2 (List.append_eq_nil_iff.1 e).2

theorem mem_picks {H : List Bool} {lo x : Int} : ∀ k : Nat, x ∈ picks H lo k ↔ ∃ i : Nat, i < k ∧ x = lo + i ∧ H.getD (lo + i).toNat false = true
  | 0 => ⟨fun h => (by cases h), fun ⟨i, h, _⟩ => by omega⟩
  | k + 1 => by
    rw [picks, List.mem_append, mem_picks k]
    constructor
    · rintro (⟨i, h1, h2⟩ | h)
      · exact ⟨i, by omega, h2⟩
      · split at h
        · rename_i hH
          exact ⟨k, by omega, by simpa using h, hH⟩
        · cases h
    · rintro ⟨i, h1, h2, h3⟩
      by_cases e : i = k
      · subst e
        right
        rw [if_pos h3]
        simp [h2]
      · exact .inl ⟨i, by omega, h2, h3⟩
theorem picks_rise {H : List Bool} {lo : Int} : ∀ k : Nat, (picks H lo k).Pairwise (· < ·)
  | 0 => List.Pairwise.nil
  | k + 1 => by
    rw [picks, List.pairwise_append]
    refine ⟨picks_rise k, by split <;> simp, fun x hx y hy => ?_⟩
    obtain ⟨i, h1, h2, _⟩ := (mem_picks k).1 hx
    split at hy
    · simp at hy; omega
    · cases hy
/-- What flags pick that are set just at the numbers of a list. -/
theorem picks_list {H : List Bool} {lo hi : Int} {l : List Int} (hlh : lo ≤ hi + 1) (hl : ∀ x ∈ l, lo ≤ x ∧ x ≤ hi) (hr : l.Pairwise (· < ·)) (hH : ∀ x, lo ≤ x → x ≤ hi → (H.getD x.toNat false = true ↔ x ∈ l)) : picks H lo (hi - lo + 1).toNat = l := by
  refine rise_ext _ _ (picks_rise _) hr fun x => ?_
  rw [mem_picks]
  constructor
  · rintro ⟨i, h1, rfl, h3⟩
    exact (hH _ (by omega) (by omega)).1 h3
  · intro hx
    have := hl x hx
    refine ⟨(x - lo).toNat, by omega, by omega, ?_⟩
    rw [show lo + ((x - lo).toNat : Int) = x by omega]
    exact (hH x this.1 this.2).2 hx
end Go.Proofs.YtgeimliibddhmaaDoor

namespace Go.Proofs.YtgeimliibddhmaaDoor
open Go Go.RowKit
set_option linter.unusedVariables false

theorem cuts_first {x y : ByteArray} {c : UInt8} (h : free x c.toNat) : ∀ i, i ≤ y.size + 1 → cutsN (x ++ ⟨#[c]⟩ ++ y) c.toNat (x.size + 1 + i) = (x :: (cutsN y c.toNat i).1, x.size + 1 + (cutsN y c.toNat i).2)
  | 0, _ => by
    have ha : x ++ ⟨#[c]⟩ ++ y = x ++ (⟨#[c]⟩ ++ y) := ByteArray.append_assoc
    have hb : ((x ++ (⟨#[c]⟩ ++ y)).data[x.size]?.map fun b => b.toNat) = some c.toNat := by
      have := byte_right x (⟨#[c]⟩ ++ y) 0
      rw [Nat.add_zero] at this
      rw [this, byte_left _ _ (by show 0 < 1; omega)]
      rfl
    have key : ∀ j, j ≤ x.size → cutsN x c.toNat j = ([], 0) := by
      intro j
      induction j with
      | zero => intro _; rfl
      | succ j ih =>
        intro hj
        unfold cutsN
        rw [if_neg (by rintro (e | e); omega; exact free_at h j e)]
        exact ih (by omega)
    have e0 : cutsN (x ++ (⟨#[c]⟩ ++ y)) c.toNat (x.size + 1) = ((cutsN (x ++ (⟨#[c]⟩ ++ y)) c.toNat x.size).1 ++ [(x ++ (⟨#[c]⟩ ++ y)).extract (cutsN (x ++ (⟨#[c]⟩ ++ y)) c.toNat x.size).2 x.size], x.size + 1) := by
      rw [cutsN, if_pos (.inr hb)]
    rw [Nat.add_zero, ha, e0, cutsN_left _ _ _ _ (Nat.le_refl _), key x.size (Nat.le_refl _), extract_left _ _ (Nat.le_refl _)]
    simp [cutsN]
  | i + 1, hi => by
    have ih := cuts_first (y := y) h i (by omega)
    have hz : (x ++ ⟨#[c]⟩ ++ y).size = x.size + 1 + y.size := by rw [ByteArray.size_append, ByteArray.size_append]; rfl
    have e1 : (x ++ (⟨#[c]⟩ : ByteArray)).size = x.size + 1 := by rw [ByteArray.size_append]; rfl
    have hbyte : (x ++ ⟨#[c]⟩ ++ y).data[x.size + 1 + i]? = y.data[i]? := by
      have := byte_right (x ++ ⟨#[c]⟩) y i
      rwa [e1] at this
    have hex : ∀ b, (x ++ ⟨#[c]⟩ ++ y).extract (x.size + 1 + b) (x.size + 1 + i) = y.extract b i := by
      intro b
      apply ByteArray.ext
      rw [ByteArray.data_extract, ByteArray.data_extract, ByteArray.data_append]
      have e2 : (x ++ (⟨#[c]⟩ : ByteArray)).data.size = x.size + 1 := e1
      rw [← e2, Array.extract_append]
      simp
    rw [show x.size + 1 + (i + 1) = x.size + 1 + i + 1 by omega, cutsN, ih, hbyte, hex]
    rw [cutsN]
    by_cases hc : i = y.size ∨ (y.data[i]?.map fun b => b.toNat) = some c.toNat
    · rw [if_pos hc, if_pos (by rcases hc with e | e; left; omega; right; exact e)]
      simp
      omega
    · rw [if_neg hc, if_neg (by rintro (e | e); exact hc (.inl (by omega)); exact hc (.inr e))]
theorem split_first {x y : ByteArray} {c : UInt8} (h : free x c.toNat) : splitB (x ++ ⟨#[c]⟩ ++ y) c.toNat = x :: splitB y c.toNat := by
  have hz : (x ++ ⟨#[c]⟩ ++ y).size = x.size + 1 + y.size := by rw [ByteArray.size_append, ByteArray.size_append]; rfl
  unfold splitB
  rw [hz, show x.size + 1 + y.size + 1 = x.size + 1 + (y.size + 1) by omega, cuts_first h (y.size + 1) (Nat.le_refl _)]
/-- A text at its first such byte. -/
theorem first_of (s : ByteArray) (c : UInt8) : (Lib.indexB s ⟨#[c]⟩ = -1 ∧ free s c.toNat) ∨ ∃ i : Nat, Lib.indexB s ⟨#[c]⟩ = i ∧ i < s.size ∧ free (s.extract 0 i) c.toNat ∧ s = s.extract 0 i ++ ⟨#[c]⟩ ++ s.extract (i + 1) s.size := by
  have hix : Lib.indexB s ⟨#[c]⟩ = Lib.indexByte s.data.toList c := Lib.index_one _ _
  rcases Lib.indexB_cases s ⟨#[c]⟩ with h | ⟨i, h, hi⟩
  · left
    refine ⟨h, fun b hb e => ?_⟩
    rw [hix] at h
    obtain ⟨k, hk⟩ := List.getElem?_of_mem hb
    exact Lib.indexByte_none h k (by rw [hk]; congr 1; exact UInt8.toNat_inj.1 e)
  · right
    have hi2 : i + 1 ≤ s.size := hi
    rw [hix] at h
    obtain ⟨h1, h2⟩ := Lib.indexByte_some h
    refine ⟨i, by rw [hix]; exact h, by omega, fun b hb e => ?_, ?_⟩
    · obtain ⟨k, hk⟩ := List.getElem?_of_mem hb
      have hb2 : b = c := UInt8.toNat_inj.1 e
      subst hb2
      rw [ByteArray.data_extract, Array.getElem?_toList, Array.getElem?_extract] at hk
      split at hk
      · rename_i hlt
        refine h2 k (by omega) ?_
        rw [Array.getElem?_toList]
        simpa using hk
      · cases hk
    · apply ByteArray.ext
      apply Array.toList_inj.1
      rw [ByteArray.data_append, ByteArray.data_append, ByteArray.data_extract, ByteArray.data_extract]
      have hsz : s.data.size = s.size := rfl
      obtain ⟨h3, h4⟩ := List.getElem?_eq_some_iff.1 h1
      have e : s.data.toList = s.data.toList.take i ++ (c :: s.data.toList.drop (i + 1)) := by
        conv => lhs; rw [← List.take_append_drop i s.data.toList, List.drop_eq_getElem_cons h3, h4]
      simp only [Array.toList_append, Array.toList_extract]
      rw [show s.size = s.data.toList.length by simp [hsz]]
      simp
      have e5 : List.take (s.size - (i + 1)) (List.drop (i + 1) s.data.toList) = List.drop (i + 1) s.data.toList := List.take_of_length_le (by simp)
      rw [e5]
      exact e
theorem lib_split (c : UInt8) : ∀ (n : Nat) (s : ByteArray), s.size ≤ n → Lib.splitB ⟨#[c]⟩ 0 (Lib.countB s ⟨#[c]⟩) s = splitB s c.toNat
  | n, s, hn => by
    rcases first_of s c with ⟨h, hf⟩ | ⟨i, h, hi, hf, he⟩
    · rw [Lib.splitB_miss _ _ _ _ h, split_free hf]
    · cases n with
      | zero => omega
      | succ n =>
        have h1 : (1 : Nat) ≤ (⟨#[c]⟩ : ByteArray).size := by show 1 ≤ 1; omega
        have hs1 : (⟨#[c]⟩ : ByteArray).size = 1 := rfl
        rw [Lib.countB_hit s _ i h1 h, Nat.add_comm 1, Lib.splitB_hit _ _ _ _ i h, hs1, Nat.add_zero]
        have ih := lib_split c n (s.extract (i + 1) s.size) (by rw [ByteArray.size_extract]; omega)
        rw [ih]
        conv => rhs; rw [he, split_first hf]
end Go.Proofs.YtgeimliibddhmaaDoor

namespace Go.Proofs.YtgeimliibddhmaaDoor
open Go Go.RowKit

theorem getD_set (H : List Bool) (i j : Nat) (hi : i < H.length) : (H.set i true).getD j false = (decide (i = j) || H.getD j false) := by
  rw [List.getD_eq_getElem?_getD, List.getElem?_set, List.getD_eq_getElem?_getD]
  by_cases h : i = j
  · subst h; simp [hi]
  · simp [h]
theorem stamp_getD (H : List Bool) (a x : Nat) : ∀ j, a + j ≤ H.length → (stamp H a 1 j).getD x false = (decide (a ≤ x ∧ x < a + j) || H.getD x false)
  | 0, _ => by rw [stamp, decide_eq_false (by omega)]; rfl
  | j + 1, h => by
    rw [stamp, getD_set _ _ _ (by rw [stamp_length]; omega), stamp_getD H a x j (by omega), ← Bool.or_assoc, ← Bool.decide_or]
    congr 1
    exact decide_eq_decide.2 (by omega)
/-- The flags of a list. -/
def marks (H : List Bool) : List Int → List Bool
  | [] => H
  | x :: r => marks (H.set x.toNat true) r
theorem marks_length : ∀ (l : List Int) (H : List Bool), (marks H l).length = H.length
  | [], _ => rfl
  | x :: r, H => by rw [marks, marks_length r, List.length_set]
theorem marks_getD (x : Nat) : ∀ (l : List Int) (H : List Bool), (∀ y ∈ l, 0 ≤ y ∧ y.toNat < H.length) → (marks H l).getD x false = (decide ((x : Int) ∈ l) || H.getD x false)
  | [], H, _ => by simp [marks]
  | y :: r, H, h => by
    have hy := h y (List.mem_cons_self ..)
    rw [marks, marks_getD x r _ (fun z hz => by rw [List.length_set]; exact h z (List.mem_cons_of_mem _ hz)), getD_set _ _ _ hy.2, ← Bool.or_assoc, ← Bool.decide_or]
    congr 1
    refine decide_eq_decide.2 ?_
    rw [List.mem_cons]
    constructor
    · rintro (e | e)
      · exact .inr e
      · left; omega
    · rintro (e | e)
      · right; omega
      · exact .inl e
theorem fieldGo_nums {lo hi : Int} : ∀ (l : List Int) (H : List Bool), (∀ x ∈ l, lo ≤ x ∧ x ≤ hi ∧ 0 ≤ x ∧ x < 60) → fieldGo lo hi (l.map numS) H = some (marks H l)
  | [], _, _ => rfl
  | x :: r, H, h => by
    have hx := h x (List.mem_cons_self ..)
    rw [List.map_cons, fieldGo, piece_num hx.2.2.1 hx.2.2.2 hx.1 hx.2.1, if_pos rfl, fieldGo_nums r _ (fun y hy => h y (List.mem_cons_of_mem _ hy)), marks]
    congr 2
    show stamp H x.toNat (1 : Int).toNat ((x - x).toNat / (1 : Int).toNat + 1) = _
    rw [Int.sub_self]
    show stamp H x.toNat 1 1 = _
    rw [stamp, stamp]
    congr 1
/-- A list comes back from its words. -/
theorem field_back {lo hi z : Int} {l : List Int} (h0 : 0 ≤ lo) (hh : hi ≤ 59) (hlh : lo ≤ hi) (hz : z = hi - lo + 1) (hB : listB lo hi l = true) : ∃ H, fieldO (showS l z) lo hi = some H ∧ picks H lo (hi - lo + 1).toNat = l := by
  obtain ⟨hl, hr, hn⟩ := listB_up hB
  have h60 : ∀ x ∈ l, 0 ≤ x ∧ x < 60 := fun x hx => by have := hl x hx; omega
  have hrep : ∀ j : Nat, (List.replicate (hi + 1).toNat false).getD j false = false := fun j => by
    rw [List.getD_eq_getElem?_getD, List.getElem?_replicate]; split <;> rfl
  unfold fieldO showS
  by_cases hf : (l.length : Int) = z
  · rw [if_pos hf, split_free (by intro b hb; simp at hb; subst hb; decide), fieldGo]
    have hp : piece ⟨#[42]⟩ lo hi = (lo, hi, 1, true) := by unfold piece; rw [if_pos rfl]
    rw [hp, if_pos rfl, fieldGo]
    refine ⟨_, rfl, picks_list (by omega) hl hr fun x hx0 hx1 => ?_⟩
    show (stamp _ lo.toNat (1 : Int).toNat ((hi - lo).toNat / (1 : Int).toNat + 1)).getD x.toNat false = true ↔ _
    rw [show (1 : Int).toNat = 1 from rfl, Nat.div_one, stamp_getD _ _ _ _ (by rw [List.length_replicate]; omega), hrep, Bool.or_false, decide_eq_true_eq]
    exact ⟨fun _ => full_list hl hr (by omega) hx0 hx1, fun _ => by omega⟩
  · rw [if_neg hf]
    have hs := split_show h60 (l.length - 1) (by omega)
    rw [show l.length - 1 + 1 = l.length by omega, List.take_length] at hs
    rw [hs, fieldGo_nums l _ (fun x hx => ⟨(hl x hx).1, (hl x hx).2, h60 x hx⟩)]
    refine ⟨_, rfl, picks_list (by omega) hl hr fun x hx0 hx1 => ?_⟩
    rw [marks_getD _ l _ (fun y hy => by rw [List.length_replicate]; have := hl y hy; omega), hrep, Bool.or_false, decide_eq_true_eq, Int.toNat_of_nonneg (by omega)]

theorem go_word : ∀ (w cur r : List UInt8), (∀ b ∈ w, Lib.isSp b = false) → cur ++ w ≠ [] → Lib.fieldsGo cur (w ++ 32 :: r) = (cur ++ w) :: Lib.fieldsGo [] r
  | [], cur, r, _, h => by
    rw [List.append_nil] at h
    have : cur.isEmpty = false := by cases cur; exact absurd rfl h; rfl
    simp [Lib.fieldsGo, this, show Lib.isSp 32 = true from by decide]
  | b :: w, cur, r, hw, h => by
    rw [List.cons_append, Lib.fieldsGo, hw b (List.mem_cons_self ..)]
    rw [if_neg (by decide), go_word w (cur ++ [b]) r (fun x hx => hw x (List.mem_cons_of_mem _ hx)) (by simp)]
    simp
theorem go_last : ∀ (w cur : List UInt8), (∀ b ∈ w, Lib.isSp b = false) → cur ++ w ≠ [] → Lib.fieldsGo cur w = [cur ++ w]
  | [], cur, _, h => by
    rw [List.append_nil] at h ⊢
    have : cur.isEmpty = false := by cases cur; exact absurd rfl h; rfl
    simp [Lib.fieldsGo, this]
  | b :: w, cur, hw, h => by
    rw [Lib.fieldsGo, hw b (List.mem_cons_self ..), if_neg (by decide), go_last w (cur ++ [b]) (fun x hx => hw x (List.mem_cons_of_mem _ hx)) (by simp)]
    simp
/-- What a list in words is made of. -/
theorem show_word {lo hi z : Int} {l : List Int} (h0 : 0 ≤ lo) (hh : hi ≤ 59) (hB : listB lo hi l = true) : (∀ b ∈ (showS l z).data.toList, 42 ≤ b.toNat ∧ b.toNat ≤ 57) ∧ (showS l z).data.toList ≠ [] ∧ (showS l z).size ≤ 3 * l.length + 1 := by
  obtain ⟨hl, hr, hn⟩ := listB_up hB
  have h60 : ∀ x ∈ l, 0 ≤ x ∧ x < 60 := fun x hx => by have := hl x hx; omega
  unfold showS
  split
  · refine ⟨fun b hb => by simp at hb; subst hb; decide, by simp, by show 1 ≤ _; omega⟩
  · refine ⟨fun b hb => by have := show_bytes h60 _ (Nat.le_refl _) b hb; omega, ?_, ?_⟩
    · have := show_some h60 (k := l.length - 1) (by omega)
      rwa [show l.length - 1 + 1 = l.length by omega] at this
    · have := showP_size (l := l) (fun x hx => by have := h60 x hx; omega) l.length (Nat.le_refl _)
      omega
theorem back_text (s : ByteArray) : (⟨s.data.toList.toArray⟩ : ByteArray) = s := by cases s; rfl
/-- A right rule comes back from its text. -/
theorem rule_back {a b c d e : List Int} (h : cronB a b c d e = true) : pcO (cronS a b c d e) = some [a, b, c, d, e] := by
  unfold cronB at h
  simp only [Bool.and_eq_true] at h
  obtain ⟨h1, h2, h3, h4, h5⟩ := h
  obtain ⟨b1, s1, z1⟩ := show_word (z := 60) (by decide) (by decide) h1
  obtain ⟨b2, s2, z2⟩ := show_word (z := 24) (by decide) (by decide) h2
  obtain ⟨b3, s3, z3⟩ := show_word (z := 31) (by decide) (by decide) h3
  obtain ⟨b4, s4, z4⟩ := show_word (z := 12) (by decide) (by decide) h4
  obtain ⟨b5, s5, z5⟩ := show_word (z := 7) (by decide) (by decide) h5
  have n1 := list_len h1
  have n2 := list_len h2
  have n3 := list_len h3
  have n4 := list_len h4
  have n5 := list_len h5
  have one : (ByteArray.mk #[32]).size = 1 := rfl
  have hsz : (cronS a b c d e).size ≤ 600 := by
    unfold cronS
    simp only [ByteArray.size_append, one]
    omega
  have hbytes : (cronS a b c d e).data.toList = (showS a 60).data.toList ++ 32 :: ((showS b 24).data.toList ++ 32 :: ((showS c 31).data.toList ++ 32 :: ((showS d 12).data.toList ++ 32 :: (showS e 7).data.toList))) := by
    unfold cronS
    simp [ByteArray.data_append]
  have sp : ∀ {x : ByteArray}, (∀ b ∈ x.data.toList, 42 ≤ b.toNat ∧ b.toNat ≤ 57) → ∀ b ∈ x.data.toList, Lib.isSp b = false := fun hx b hb => by
    have := hx b hb
    rw [isSp_plain (by omega)]
    exact decide_eq_false (by omega)
  have hf : Lib.fields (cronS a b c d e).data.toList = [(showS a 60).data.toList, (showS b 24).data.toList, (showS c 31).data.toList, (showS d 12).data.toList, (showS e 7).data.toList] := by
    rw [hbytes]
    unfold Lib.fields
    rw [go_word _ [] _ (sp b1) (by simpa using s1), go_word _ [] _ (sp b2) (by simpa using s2), go_word _ [] _ (sp b3) (by simpa using s3), go_word _ [] _ (sp b4) (by simpa using s4), go_last _ [] (sp b5) (by simpa using s5)]
    rfl
  have hpl : ∀ x ∈ (cronS a b c d e).data.toList, 32 ≤ x.toNat ∧ x.toNat ≤ 126 := by
    intro x hx
    rw [hbytes] at hx
    simp only [List.mem_append, List.mem_cons] at hx
    rcases hx with h | h | h | h | h | h | h | h | h
    · have := b1 x h; omega
    · subst h; decide
    · have := b2 x h; omega
    · subst h; decide
    · have := b3 x h; omega
    · subst h; decide
    · have := b4 x h; omega
    · subst h; decide
    · have := b5 x h; omega
  have hparts : partsR (cronS a b c d e) = (Lib.fields (cronS a b c d e).data.toList, true) := by
    unfold partsR
    rw [if_neg (by omega), if_pos hpl, if_neg (by rw [hf]; simp)]
  unfold pcO
  rw [hparts, if_pos rfl, hf]
  show pcT [⟨_⟩, ⟨_⟩, ⟨_⟩, ⟨_⟩, ⟨_⟩] = _
  rw [back_text, back_text, back_text, back_text, back_text]
  obtain ⟨H1, e1, p1⟩ := field_back (z := 60) (by decide) (by decide) (by decide) (by decide) h1
  obtain ⟨H2, e2, p2⟩ := field_back (z := 24) (by decide) (by decide) (by decide) (by decide) h2
  obtain ⟨H3, e3, p3⟩ := field_back (z := 31) (by decide) (by decide) (by decide) (by decide) h3
  obtain ⟨H4, e4, p4⟩ := field_back (z := 12) (by decide) (by decide) (by decide) (by decide) h4
  obtain ⟨H5, e5, p5⟩ := field_back (z := 7) (by decide) (by decide) (by decide) (by decide) h5
  unfold pcT fieldL
  simp only []
  rw [e1, e2, e3, e4, e5]
  show some [picks H1 0 _, picks H2 0 _, picks H3 1 _, picks H4 1 _, picks H5 0 _] = _
  rw [p1, p2, p3, p4, p5]
end Go.Proofs.YtgeimliibddhmaaDoor
