/- Hex,DecP,Rd -/
import Derived.Test.YtpjpheicldegkaaGreatDoorGM4
import Derived.Deep.RegionHeldLaw
import Derived.Test.YtpjpheicldegkaaGreatDoorGM1
import Derived.Deep.QuietTactic
import Derived.BigQuiet
import Derived.WalkMore
namespace Go.Proofs.YtpjpheicldegkaaGreatDoor
open Go.RowKit

theorem ownsB.drew {w : World} {B : Nat} {e : TypeId} {v : Value} {l : List Int} (h : ownsB w B e v l) : ownsB w.drew B e v l := World.ownsRow.drew h

def fig (x : Int) : Int := if x < 10 then 48 + x else 87 + x

def hexTo (s : ByteArray) : Nat → List Int
  | 0 => []
  | k + 1 => hexTo s k ++ [fig (((s.data.toList.getD k 0).toNat : Int) / 16), fig (((s.data.toList.getD k 0).toNat : Int) % 16)]
theorem byteAt (s : ByteArray) (k : Nat) (h : k < s.size) : s.data.toList.getD k 0 = s[k] := by
  have h2 : k < s.data.toList.length := by simpa using h
  rw [List.getD_eq_getElem?_getD, List.getElem?_eq_getElem h2]
  rfl

set_option maxHeartbeats 400000 in
theorem l01Figure_any (x : Int) (w : World) (h0 : 0 ≤ x) (h1 : x < 16) :
    Calls Tryz.prog 115 #[.int .i64 x] w fun e w' => e = .returned (.int .u8 (fig x)) ∧ w' = w := by
  by_cases h : x < 10
  · go_enter Tryz.func115, Tryz.ntmps115
    go_wp2
    go_ret
    exact ⟨by simp [fig, h], rfl⟩
  · go_enter Tryz.func115, Tryz.ntmps115
    go_wp2
    go_ret
    exact ⟨by simp [fig]; omega, rfl⟩

end Go.Proofs.YtpjpheicldegkaaGreatDoor

namespace Go.Proofs.YtpjpheicldegkaaGreatDoor
open Go.RowKit

set_option maxRecDepth 10000 in
set_option maxHeartbeats 400000 in
theorem specDecimal_zero (w : World) :
    Calls Tryz.prog 105 #[.int .i64 0] w fun e w' => e = .returned (.string (bstr (decI 0))) ∧ Below w.heap.size w w' := by
  go_enter Tryz.func105, Tryz.ntmps105
  go_wp2
  go_ret
  exact ⟨rfl, Below.refl _ _⟩

set_option maxRecDepth 10000 in
set_option maxHeartbeats 400000 in
theorem specDecimal_pos (n : Nat) (w : World) (h0 : 0 < n) (hn : n ≤ 1000000000) :
    Calls Tryz.prog 105 #[.int .i64 n] w fun e w' => e = .returned (.string (bstr (decI n))) ∧ Below w.heap.size w w' := by
  have hz : ((n : Int) == 0) = false := by simp; omega
  have hneg : decide ((n : Int) < 0) = false := by simp
  go_enter Tryz.func105, Tryz.ntmps105
  go_wp2
  go_loopw [0, 4] (fun c st wr => ∃ (m : Nat) (t : List Int), c = .int .i64 m ∧ st = .string (bstr t) ∧ t.length + m ≤ n ∧ Hid (decI n = decPre m ++ t) ∧ Below w.heap.size w wr) (fun c _ _ => (intOf c).toNat)
  case atStart => exact ⟨n, [], rfl, rfl, by simp, (by show decI n = decPre n ++ []; unfold decPre; rw [if_neg (by omega)]; simp), Below.refl _ _⟩
  case round =>
    obtain ⟨m, t, rfl, rfl, hle, HE, hbel⟩ := hrel
    have hsz := hbel.size
    by_cases hm : m = 0
    · subst hm
      go_wp2
      go_ret
      exact ⟨by rw [HE.out]; rfl, hbel⟩
    · have hm2 : ((m : Int) != 0) = true := by rw [bne_iff_ne]; omega
      have hcv := qcc wr (fig ((m : Int) % 10))
      have hadd : ∀ wx, (Op.stringOp .add (bstr [fig ((m : Int) % 10)]) (bstr t)).run Tryz.prog wx = .ok (.string (bstr (fig ((m : Int) % 10) :: t))) wx := fun wx => by
        rw [run_string_add_sum wx _ _ (by rw [qra, qra]; simp; omega), bstr_cons]
      go_wp2_with (go_at_call 115; refine (l01Figure_any _ _ (by omega) (by omega)).mono ?_; rintro e w' ⟨rfl, hw⟩; have hw2 := hw.symm; subst hw2)
      go_roundw
      case rel => exact ⟨m / 10, fig ((m : Int) % 10) :: t, by go_num, rfl, by simp; omega, (by show decI n = _; rw [HE.out, decPre_step hm, show fig ((m : Int) % 10) = 48 + (m : Int) % 10 by unfold fig; rw [if_pos (by omega)]]), hbel.alloc hsz _⟩
      case measure => simp [intOf]; omega

theorem qhc (n : Int) (w : World) (h0 : 0 ≤ n) (hn : n ≤ 1000000000) :
    Calls Tryz.prog 105 #[.int .i64 n] w fun e w' => e = .returned (.string (bstr (decI n.toNat))) ∧ Below w.heap.size w w' := by
  obtain ⟨k, rfl⟩ := Int.eq_ofNat_of_zero_le h0
  by_cases hk : k = 0
  · subst hk; exact specDecimal_zero w
  · exact specDecimal_pos k w (by omega) (by omega)

def figTo (s : ByteArray) (l : List Nat) : Prop := l.length ≤ s.size ∧ (∀ d ∈ l, d < 10) ∧ ∀ j (h : j < s.size), j < l.length → l[j]? = some (s[j].toNat - 48) ∧ 48 ≤ s[j].toNat
def rd (s : ByteArray) : Int × Bool :=
  if s.size = 0 ∨ 10 < s.size then (0, false)
  else if (s.data.toList.getD 0 0).toNat = 48 ∧ 1 < s.size then (0, false)
  else if ∀ b ∈ s.data.toList, 48 ≤ b.toNat ∧ b.toNat ≤ 57 then
    if 1000000000 < valD (s.data.toList.map fun b => b.toNat - 48) then (0, false) else ((valD (s.data.toList.map fun b => b.toNat - 48) : Nat), true)
  else (0, false)

theorem figTo_nil (s : ByteArray) : figTo s [] := ⟨by simp, by simp, by simp⟩
theorem figTo_snoc {s : ByteArray} {l : List Nat} (h : figTo s l) (hlt : l.length < s.size) (h1 : 48 ≤ s[l.length].toNat) (h2 : s[l.length].toNat ≤ 57) : figTo s (l ++ [s[l.length].toNat - 48]) := by
  refine ⟨by simp; omega, ?_, fun j hj hk => ?_⟩
  · intro d hd
    rcases List.mem_append.1 hd with hd | hd
    · exact h.2.1 d hd
    · simp at hd; omega
  · by_cases e : j < l.length
    · rw [List.getElem?_append_left e]; exact h.2.2 j hj e
    · have e2 : j = l.length := by simp at hk; omega
      subst e2
      simp [h1]
theorem figTo_all {s : ByteArray} {l : List Nat} (h : figTo s l) (he : l.length = s.size) : (s.data.toList.map fun b => b.toNat - 48) = l ∧ ∀ b ∈ s.data.toList, 48 ≤ b.toNat ∧ b.toNat ≤ 57 := by
  have hsz : s.data.toList.length = s.size := by simp
  have key : ∀ j (hj : j < s.size), l[j]? = some (s[j].toNat - 48) ∧ 48 ≤ s[j].toNat := fun j hj => h.2.2 j hj (by omega)
  constructor
  · apply List.ext_getElem?
    intro j
    by_cases hj : j < s.size
    · rw [(key j hj).1]
      simp [hj]
      rfl
    · rw [List.getElem?_eq_none (by simpa using hj), List.getElem?_eq_none (by omega)]
  · intro b hb
    obtain ⟨j, hj, rfl⟩ := List.mem_iff_getElem.1 hb
    have hj' : j < s.size := by simpa using hj
    have e : s.data.toList[j] = s[j] := rfl
    have k := key j hj'
    have hd := h.2.1 (s[j].toNat - 48) (List.mem_of_getElem? k.1)
    rw [e]
    omega
theorem rd_none {s : ByteArray} {j : Nat} (hj : j < s.size) (hb : s[j].toNat < 48 ∨ 57 < s[j].toNat) : rd s = (0, false) := by
  unfold rd
  split
  · rfl
  · split
    · rfl
    · rw [if_neg]
      intro h
      have := h s[j] (by
        have e : s[j] = s.data.toList[j]'(by simpa using hj) := rfl
        rw [e]; exact List.getElem_mem _)
      omega
theorem rd_all {s : ByteArray} {l : List Nat} (h : figTo s l) (he : l.length = s.size) (h0 : ¬ (s.size = 0 ∨ 10 < s.size)) (hz : ¬ ((s.data.toList.getD 0 0).toNat = 48 ∧ 1 < s.size)) (hm : valD l ≤ 1000000000) : rd s = (((valD l : Nat) : Int), true) := by
  obtain ⟨e1, e2⟩ := figTo_all h he
  unfold rd
  rw [if_neg h0, if_neg hz, if_pos e2, e1, if_neg (by omega)]
theorem rd_big {s : ByteArray} {l : List Nat} (h : figTo s l) (he : l.length = s.size) (hm : 1000000000 < valD l) : rd s = (0, false) := by
  obtain ⟨e1, e2⟩ := figTo_all h he
  unfold rd
  by_cases h1 : s.size = 0 ∨ 10 < s.size
  · rw [if_pos h1]
  · rw [if_neg h1]
    by_cases h2 : (s.data.toList.getD 0 0).toNat = 48 ∧ 1 < s.size
    · rw [if_pos h2]
    · rw [if_neg h2, if_pos e2, e1, if_pos hm]
theorem rd_out {s : ByteArray} (h : s.size = 0 ∨ 10 < s.size) : rd s = (0, false) := by unfold rd; rw [if_pos h]
theorem rd_nought {s : ByteArray} (h : 1 < s.size) (hz : s[0].toNat = 48) : rd s = (0, false) := by
  unfold rd
  split
  · rfl
  · rw [if_pos ⟨by rw [byteAt s 0 (by omega)]; exact hz, h⟩]

theorem same_figs {s : ByteArray} {l : List Nat} (h : figTo s l) (he : l.length = s.size) :
    ((bstr (decI (valD l))).toList == s.toList) = decide (s.size ≠ 0 ∧ ¬ ((s.data.toList.getD 0 0).toNat = 48 ∧ 1 < s.size)) := by
  obtain ⟨e1, e2⟩ := figTo_all h he
  have hs : s = bstr (figs l) := by
    apply ByteArray.ext
    apply Array.ext
    · simp [bstr, figs, ← he]
    · intro i h1 h2
      have hi : i < l.length := by simpa [bstr, figs] using h2
      have k := h.2.2 i (by omega) hi
      have e : l[i] = s[i].toNat - 48 := by simpa [List.getElem?_eq_getElem hi] using k.1
      have : s.data[i] = s[i] := rfl
      simp [bstr, figs, e, this]
      have h3 : (48 + ((s[i].toNat - 48 : Nat) : Int)).toNat = s[i].toNat := by omega
      rw [h3]
      simp
  by_cases h0 : s.size = 0
  · have hl : l = [] := List.eq_nil_of_length_eq_zero (by omega)
    subst hl
    have hne : ¬ (s.size ≠ 0 ∧ ¬ ((s.data.toList.getD 0 0).toNat = 48 ∧ 1 < s.size)) := fun hh => hh.1 h0
    rw [decide_eq_false hne]
    refine beq_eq_false_iff_ne.2 fun e => ?_
    rw [ByteArray.toList_eq, ByteArray.toList_eq] at e
    have := congrArg List.length e
    simp [bstr, valD, qnc] at this
    omega
  · have hb : s[0]'(by omega) = s.data.toList.getD 0 0 := (byteAt s 0 (by omega)).symm
    have hne : l ≠ [] := by intro e; subst e; simp at he; omega
    have hr : ∀ x ∈ figs l, 0 ≤ x ∧ x < 256 := by
      intro x hx
      simp [figs] at hx
      obtain ⟨y, hy, rfl⟩ := hx
      have := h.2.1 y hy
      omega
    have k := h.2.2 0 (by omega) (by omega)
    by_cases hz : (s.data.toList.getD 0 0).toNat = 48 ∧ 1 < s.size
    · rw [decide_eq_false (fun hh => hh.2 hz)]
      refine beq_eq_false_iff_ne.2 fun e => ?_
      rw [ByteArray.toList_eq, ByteArray.toList_eq] at e
      have e3 := ByteArray.ext (Array.toList_inj.1 e)
      rw [hs] at e3
      refine decI_valD_not l (by omega) ?_ (bstr_inj (decI_range _ _ (Nat.le_refl _)) hr e3)
      rw [List.head?_eq_getElem?, k.1, hb, hz.1]
    · rw [decide_eq_true ⟨h0, hz⟩]
      have hd : decI (valD l) = figs l := by
        refine decI_valD _ l rfl hne h.2.1 ?_
        by_cases h1 : l.length = 1
        · exact Or.inl h1
        · right
          rw [List.head?_eq_getElem?, k.1, hb]
          intro e
          have e4 := Option.some.inj e
          have := k.2
          rw [hb] at this
          exact hz ⟨by omega, by omega⟩
      rw [hd, ← hs]
      simp

end Go.Proofs.YtpjpheicldegkaaGreatDoor

namespace Go.Proofs.YtpjpheicldegkaaGreatDoor
open Go.RowKit

theorem rd_ret {s : ByteArray} {x a : Int} {z b : Bool} (HR : Hid (rd s = (x, z))) (h : rd s = (a, b)) : Ending.returned (.tuple #[.int .i64 a, .bool b]) = .returned (.tuple #[.int .i64 x, .bool z]) := by
  rw [HR.out] at h
  simp only [Prod.mk.injEq] at h
  rw [h.1, h.2]
theorem valD_bd {s : ByteArray} {l : List Nat} (h : figTo s l) (hs : s.size ≤ 10) (hlt : l.length < s.size) : valD l < 1000000000 := by
  have h1 := valD_lt l h.2.1
  have h2 : 10 ^ l.length ≤ 10 ^ 9 := Nat.pow_le_pow_right (by decide) (by omega)
  omega
theorem valD_bd' {s : ByteArray} {l : List Nat} (h : figTo s l) (hs : s.size ≤ 10) : valD l < 10000000000 := by
  have h1 := valD_lt l h.2.1
  have h2 : 10 ^ l.length ≤ 10 ^ 10 := Nat.pow_le_pow_right (by decide) (by have := h.1; omega)
  omega

set_option maxRecDepth 10000 in
set_option maxHeartbeats 400000 in
theorem specReadDec_long (s : ByteArray) (w : World) (hs0 : s.size ≤ 9223372036854775807) (hs : 10 < s.size) :
    Calls Tryz.prog 122 #[.string s] w fun e w' => e = .returned (.tuple #[.int .i64 0, .bool false]) ∧ Below w.heap.size w w' := by
  go_enter Tryz.func122, Tryz.ntmps122
  go_wp2
  go_ret2
  exact ⟨rfl, Below.refl _ _⟩

theorem figTo_next {s : ByteArray} {i m : Nat} {l : List Nat} (HF : Hid (figTo s l ∧ l.length = i ∧ valD l = m)) (hlt : i < s.size) (h1 : 48 ≤ s[i].toNat) (h2 : s[i].toNat ≤ 57) :
    Hid (figTo s (l ++ [s[i].toNat - 48]) ∧ (l ++ [s[i].toNat - 48]).length = i + 1 ∧ valD (l ++ [s[i].toNat - 48]) = 10 * m + (s[i].toNat - 48)) := by
  obtain ⟨f1, f2, f3⟩ := HF.out
  subst f2
  exact ⟨figTo_snoc f1 hlt h1 h2, by simp, by rw [valD_snoc, f3]⟩
theorem rd_end_bad {s : ByteArray} {i m : Nat} {l : List Nat} (HF : Hid (figTo s l ∧ l.length = i ∧ valD l = m)) (hlt : ¬ i < s.size) (hi : i ≤ s.size) (hne : (!(bstr (decI ((m : Int).toNat))).toList == s.toList) = true) : rd s = (0, false) := by
  obtain ⟨f1, f2, f3⟩ := HF.out
  rw [Int.toNat_natCast, ← f3, same_figs f1 (by omega)] at hne
  by_cases h0 : s.size = 0
  · exact rd_out (Or.inl h0)
  · have hz : (s.data.toList.getD 0 0).toNat = 48 ∧ 1 < s.size := by
      by_cases hz : (s.data.toList.getD 0 0).toNat = 48 ∧ 1 < s.size
      · exact hz
      · rw [decide_eq_true ⟨h0, hz⟩] at hne
        simp at hne
    rw [byteAt s 0 (by omega)] at hz
    exact rd_nought hz.2 hz.1
theorem rd_end_ok {s : ByteArray} {i m : Nat} {l : List Nat} (HF : Hid (figTo s l ∧ l.length = i ∧ valD l = m)) (hlt : ¬ i < s.size) (hi : i ≤ s.size) (hs : s.size ≤ 10) (hm : m ≤ 1000000000) (hne : (!(bstr (decI ((m : Int).toNat))).toList == s.toList) = false) :
    rd s = ((m : Int), true) := by
  obtain ⟨f1, f2, f3⟩ := HF.out
  rw [Int.toNat_natCast, ← f3, same_figs f1 (by omega)] at hne
  have hh : s.size ≠ 0 ∧ ¬ ((s.data.toList.getD 0 0).toNat = 48 ∧ 1 < s.size) := by
    by_cases hh : s.size ≠ 0 ∧ ¬ ((s.data.toList.getD 0 0).toNat = 48 ∧ 1 < s.size)
    · exact hh
    · rw [decide_eq_false hh] at hne
      simp at hne
  rw [← f3]
  exact rd_all f1 (by omega) (by omega) hh.2 (by omega)

set_option maxRecDepth 10000 in
set_option maxHeartbeats 1000000 in
theorem specReadDec_any (s : ByteArray) (w : World) (hs : s.size ≤ 10) (x : Int) (z : Bool) (HR : Hid (rd s = (x, z))) :
    Calls Tryz.prog 122 #[.string s] w fun e w' => e = .returned (.tuple #[.int .i64 x, .bool z]) ∧ Below w.heap.size w w' := by
  go_enter Tryz.func122, Tryz.ntmps122
  go_wp2
  go_loop [4, 5] (fun n c => ∃ (i m : Nat) (l : List Nat), i ≤ s.size ∧ c = .int .i64 i ∧ n = .int .i64 m ∧ Hid (figTo s l ∧ l.length = i ∧ valD l = m)) (fun _ c => s.size - (intOf c).toNat)
  case atStart => exact ⟨0, 0, [], Nat.zero_le _, rfl, rfl, figTo_nil s, rfl, rfl⟩
  case round =>
    obtain ⟨i, m, l, hi, rfl, rfl, HF⟩ := hrel
    by_cases hlt : i < s.size
    · have hm : m < 1000000000 := by obtain ⟨h1, h2, h3⟩ := HF.out; rw [← h3]; exact valD_bd h1 hs (by omega)
      have h256 := s[i].toNat_lt
      by_cases h1 : s[i].toNat < 48
      · go_wp2
        go_ret2
        exact ⟨rd_ret HR (rd_none hlt (Or.inl (by omega))), Below.refl _ _⟩
      · by_cases h2 : 57 < s[i].toNat
        · go_wp2
          go_ret2
          exact ⟨rd_ret HR (rd_none hlt (Or.inr (by omega))), Below.refl _ _⟩
        · go_wp2
          go_round
          case rel => exact ⟨i + 1, 10 * m + (s[i].toNat - 48), l ++ [s[i].toNat - 48], by omega, by go_num, by go_num, figTo_next HF hlt (by omega) (by omega)⟩
          case measure => simp [intOf]; omega
    · have hm : m < 10000000000 := by obtain ⟨h1, h2, h3⟩ := HF.out; rw [← h3]; exact valD_bd' h1 hs
      by_cases hx : 1000000000 < m
      · go_wp2
        go_ret2
        exact ⟨rd_ret HR (by obtain ⟨h1, h2, h3⟩ := HF.out; exact rd_big h1 (by omega) (by omega)), Below.refl _ _⟩
      · have hx' : decide (1000000000 < (m : Int)) = false := by simp; omega
        go_wp2_with (go_at_call 105; refine (qhc _ _ (by omega) (by omega)).mono ?_; rintro e w1 ⟨rfl, hb1⟩)
        · have hne : (!(bstr (decI ((m : Int).toNat))).toList == s.toList) = true := by assumption
          go_ret2
          exact ⟨rd_ret HR (rd_end_bad HF hlt hi hne), hb1⟩
        · have hne : (!(bstr (decI ((m : Int).toNat))).toList == s.toList) = false := by assumption
          go_ret2
          exact ⟨rd_ret HR (rd_end_ok HF hlt hi hs (by omega) hne), hb1⟩

end Go.Proofs.YtpjpheicldegkaaGreatDoor
