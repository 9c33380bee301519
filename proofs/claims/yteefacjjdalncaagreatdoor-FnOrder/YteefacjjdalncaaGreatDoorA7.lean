/-
  The plain side of decimal figures: no Go in sight. Decimal figures read: the walks. Decimal figures read: the walks of the two readers.
-/
import Derived.Test.YteefacjjdalncaaGreatDoorA5
import Derived.Test.YteefacjjdalncaaGreatDoorDci
import Derived.Test.YteefacjjdalncaaGreatDoorA6
import Derived.Deep.QuietTactic
import Derived.BigQuiet
import Derived.WalkMore
namespace Go.Proofs.YteefacjjdalncaaGreatDoor
open Go Go.RowKit

theorem decI_ne : ∀ (f n : Nat), n ≤ f → decI n ≠ []
  | 0, n, h => by rw [decI_one (by omega)]; simp
  | f + 1, n, h => by
    by_cases hn : n < 10
    · rw [decI_one hn]; simp
    · rw [decI_more hn]; simp
theorem decI_head : ∀ (f n : Nat) (t : List Int), n ≤ f → decI n = 48 :: t → n = 0
  | 0, n, t, h, e => by omega
  | f + 1, n, t, h, e => by
    by_cases hn : n < 10
    · rw [decI_one hn] at e
      simp at e
      omega
    · rw [decI_more hn] at e
      match hd : decI (n / 10) with
      | [] => exact absurd hd (decI_ne _ _ (Nat.le_refl _))
      | x :: t' =>
        rw [hd] at e
        simp at e
        obtain ⟨rfl, _⟩ := e
        have := decI_head f (n / 10) t' (by omega) hd
        omega
theorem decI_range : ∀ (f n : Nat), n ≤ f → ∀ x ∈ decI n, 0 ≤ x ∧ x < 256
  | 0, n, h, x, hx => by
    rw [decI_one (by omega)] at hx
    simp at hx; omega
  | f + 1, n, h, x, hx => by
    by_cases hn : n < 10
    · rw [decI_one hn] at hx
      simp at hx; omega
    · rw [decI_more hn] at hx
      rcases List.mem_append.1 hx with hx | hx
      · exact decI_range f (n / 10) (by omega) x hx
      · simp at hx; omega

/-- The number of figures. -/
def valD : List Nat → Nat := fun l => l.foldl (fun a d => 10 * a + d) 0
theorem valD_snoc (l : List Nat) (d : Nat) : valD (l ++ [d]) = 10 * valD l + d := by simp [valD, List.foldl_append]
theorem valD_lt (l : List Nat) : (∀ d ∈ l, d < 10) → valD l < 10 ^ l.length := by
  have h : ∀ (n : Nat) (l : List Nat), l.length = n → (∀ d ∈ l, d < 10) → valD l < 10 ^ l.length := by
    intro n
    induction n with
    | zero => intro l hl _; have : l = [] := List.eq_nil_of_length_eq_zero hl; subst this; simp [valD]
    | succ n ih =>
      intro l hl hd
      have hne : l ≠ [] := by intro e; subst e; simp at hl
      have e := List.dropLast_concat_getLast hne
      rw [← e, valD_snoc]
      have h1 := ih l.dropLast (by simp; omega) (fun d hd' => hd d (List.dropLast_subset l hd'))
      have h2 := hd (l.getLast hne) (List.getLast_mem hne)
      simp only [List.length_append, List.length_cons, List.length_nil, Nat.zero_add, Nat.pow_succ]
      omega
  exact h _ l rfl

def figs (l : List Nat) : List Int := l.map fun (d : Nat) => 48 + Int.ofNat d

theorem valD_pos : ∀ (l : List Nat) (x : Nat) , x ≠ 0 → 0 < valD (x :: l) := by
  intro l x hx
  have h : ∀ (l : List Nat) (a : Nat), 0 < a → 0 < l.foldl (fun a d => 10 * a + d) a := by
    intro l
    induction l with
    | nil => intro a ha; simpa using ha
    | cons y l ih => intro a ha; simp only [List.foldl_cons]; exact ih _ (by omega)
  simp only [valD, List.foldl_cons]
  exact h l _ (by omega)

/-- Figures without a needless nought are those of their number. -/
theorem decI_valD (n : Nat) : ∀ (l : List Nat), l.length = n → l ≠ [] → (∀ d ∈ l, d < 10) → (l.length = 1 ∨ l.head? ≠ some 0) → decI (valD l) = figs l := by
  induction n with
  | zero => intro l hl hne; exact absurd (List.eq_nil_of_length_eq_zero hl) hne
  | succ n ih =>
    intro l hl hne hd hz
    have e := List.dropLast_concat_getLast hne
    have h2 := hd (l.getLast hne) (List.getLast_mem hne)
    rw [← e, valD_snoc]
    by_cases hn : n = 0
    · subst hn
      have : l.dropLast = [] := List.eq_nil_of_length_eq_zero (by simp; omega)
      rw [this]
      simp only [valD, List.foldl_nil, Nat.mul_zero, Nat.zero_add, List.nil_append]
      rw [decI_one h2]
      rfl
    · have hne2 : l.dropLast ≠ [] := by intro e'; have := congrArg List.length e'; simp at this; omega
      match hl' : l.dropLast with
      | [] => exact absurd hl' hne2
      | x :: t =>
        have hx : x ≠ 0 := by
          intro e0; subst e0
          rcases hz with hz | hz
          · omega
          · apply hz
            rw [← e, hl']
            rfl
        have hpos := valD_pos t x hx
        have h1 := ih l.dropLast (by simp; omega) hne2 (fun d hd' => hd d (List.dropLast_subset l hd')) (by rw [hl']; right; simpa using hx)
        rw [hl'] at h1
        rw [decI_more (by omega), show (10 * valD (x :: t) + l.getLast hne) / 10 = valD (x :: t) by omega, h1]
        simp only [figs, List.map_append, List.map_cons, List.map_nil, Int.ofNat_eq_natCast]
        congr 2
        omega

theorem decI_valD_not (l : List Nat) (hl : 1 < l.length) (hz : l.head? = some 0) : decI (valD l) ≠ figs l := by
  match l, hl, hz with
  | x :: y :: t, _, hz =>
    simp at hz
    subst hz
    intro e
    have h0 := decI_head _ _ _ (Nat.le_refl _) (show decI (valD (0 :: y :: t)) = 48 :: figs (y :: t) from e)
    rw [h0, decI_one (by omega)] at e
    have := congrArg List.length e
    simp [figs] at this
end Go.Proofs.YteefacjjdalncaaGreatDoor

namespace Go.Proofs.YteefacjjdalncaaGreatDoor
open Go.RowKit

set_option maxRecDepth 10000 in
set_option maxHeartbeats 400000 in
theorem specDecimal_zero (w : World) :
    Calls Tryz.prog 151 #[.int .i64 0] w fun e w' => e = .returned (.string (bstr (decI 0))) ∧ Below w.heap.size w w' := by
  go_enter Tryz.func151, Tryz.ntmps151
  go_wp2
  go_ret
  exact ⟨rfl, Below.refl _ _⟩

set_option maxRecDepth 10000 in
set_option maxHeartbeats 400000 in
theorem specDecimal_pos (n : Nat) (w : World) (h0 : 0 < n) (hn : n ≤ 1000000000) :
    Calls Tryz.prog 151 #[.int .i64 n] w fun e w' => e = .returned (.string (bstr (decI n))) ∧ Below w.heap.size w w' := by
  have hz : ((n : Int) == 0) = false := by simp; omega
  have hneg : decide ((n : Int) < 0) = false := by simp
  go_enter Tryz.func151, Tryz.ntmps151
  go_wp2
  go_loopw [0, 4] (fun c st wr => ∃ (m : Nat) (t : List Int), c = .int .i64 m ∧ st = .string (bstr t) ∧ t.length + m ≤ n ∧ Hid (decI n = decPre m ++ t) ∧ Below w.heap.size w wr) (fun c _ _ => (intOf c).toNat)
  case atStart => exact ⟨n, [], rfl, rfl, by simp, (by show decI n = decPre n ++ []; unfold decPre; rw [if_neg (by omega)]; simp), Below.refl _ _⟩
  case round =>
    obtain ⟨m, t, rfl, rfl, hle, HE, hbel⟩ := hrel
    have hsz := hbel.size
    by_cases hm : m = 0
    · subst hm
      go_wp2
      go_ret
      exact ⟨by rw [HE.out]; rfl, hbel⟩
    · have hm2 : ((m : Int) != 0) = true := by rw [bne_iff_ne]; omega
      have hcv := run_one_string wr (fig ((m : Int) % 10))
      have hadd : ∀ wx, (Op.stringOp .add (bstr [fig ((m : Int) % 10)]) (bstr t)).run Tryz.prog wx = .ok (.string (bstr (fig ((m : Int) % 10) :: t))) wx := fun wx => by
        rw [run_string_add_sum wx _ _ (by rw [bstr_size', bstr_size']; simp; omega), bstr_cons]
      go_wp2_with (go_at_call 182; refine (l01Figure_any _ _ (by omega) (by omega)).mono ?_; rintro e w' ⟨rfl, hw⟩; have hw2 := hw.symm; subst hw2)
      go_roundw
      case rel => exact ⟨m / 10, fig ((m : Int) % 10) :: t, by go_num, rfl, by simp; omega, (by show decI n = _; rw [HE.out, decPre_step hm, show fig ((m : Int) % 10) = 48 + (m : Int) % 10 by unfold fig; rw [if_pos (by omega)]]), hbel.alloc hsz _⟩
      case measure => simp [intOf]; omega

theorem specDecimal_any (n : Int) (w : World) (h0 : 0 ≤ n) (hn : n ≤ 1000000000) :
    Calls Tryz.prog 151 #[.int .i64 n] w fun e w' => e = .returned (.string (bstr (decI n.toNat))) ∧ Below w.heap.size w w' := by
  obtain ⟨k, rfl⟩ := Int.eq_ofNat_of_zero_le h0
  by_cases hk : k = 0
  · subst hk; exact specDecimal_zero w
  · exact specDecimal_pos k w (by omega) (by omega)

/-- The figures of the first k bytes, if they are figures. -/
def figTo (s : ByteArray) (l : List Nat) : Prop := l.length ≤ s.size ∧ (∀ d ∈ l, d < 10) ∧ ∀ j (h : j < s.size), j < l.length → l[j]? = some (s[j].toNat - 48) ∧ 48 ≤ s[j].toNat
/-- What ReadDecimal comes to. -/
def rd (s : ByteArray) : Int × Bool :=
  if s.size = 0 ∨ 10 < s.size then (0, false)
  else if (s.data.toList.getD 0 0).toNat = 48 ∧ 1 < s.size then (0, false)
  else if ∀ b ∈ s.data.toList, 48 ≤ b.toNat ∧ b.toNat ≤ 57 then
    if 1000000000 < valD (s.data.toList.map fun b => b.toNat - 48) then (0, false) else ((valD (s.data.toList.map fun b => b.toNat - 48) : Nat), true)
  else (0, false)

theorem figTo_nil (s : ByteArray) : figTo s [] := ⟨by simp, by simp, by simp⟩
theorem figTo_snoc {s : ByteArray} {l : List Nat} (h : figTo s l) (hlt : l.length < s.size) (h1 : 48 ≤ s[l.length].toNat) (h2 : s[l.length].toNat ≤ 57) : figTo s (l ++ [s[l.length].toNat - 48]) := by
  refine ⟨by simp; omega, ?_, fun j hj hk => ?_⟩
  · intro d hd
    rcases List.mem_append.1 hd with hd | hd
    · exact h.2.1 d hd
    · simp at hd; omega
  · by_cases e : j < l.length
    · rw [List.getElem?_append_left e]; exact h.2.2 j hj e
    · have e2 : j = l.length := by simp at hk; omega
      subst e2
      simp [h1]
/-- All bytes are figures: the list is theirs. -/
theorem figTo_all {s : ByteArray} {l : List Nat} (h : figTo s l) (he : l.length = s.size) : (s.data.toList.map fun b => b.toNat - 48) = l ∧ ∀ b ∈ s.data.toList, 48 ≤ b.toNat ∧ b.toNat ≤ 57 := by
  have hsz : s.data.toList.length = s.size := by simp
  have key : ∀ j (hj : j < s.size), l[j]? = some (s[j].toNat - 48) ∧ 48 ≤ s[j].toNat := fun j hj => h.2.2 j hj (by omega)
  constructor
  · apply List.ext_getElem?
    intro j
    by_cases hj : j < s.size
    · rw [(key j hj).1]
      simp [hj]
      rfl
    · rw [List.getElem?_eq_none (by simpa using hj), List.getElem?_eq_none (by omega)]
  · intro b hb
    obtain ⟨j, hj, rfl⟩ := List.mem_iff_getElem.1 hb
    have hj' : j < s.size := by simpa using hj
    have e : s.data.toList[j] = s[j] := rfl
    have k := key j hj'
    have hd := h.2.1 (s[j].toNat - 48) (List.mem_of_getElem? k.1)
    rw [e]
    omega
theorem rd_none {s : ByteArray} {j : Nat} (hj : j < s.size) (hb : s[j].toNat < 48 ∨ 57 < s[j].toNat) : rd s = (0, false) := by
  unfold rd
  split
  · rfl
  · split
    · rfl
    · rw [if_neg]
      intro h
      have := h s[j] (by
        have e : s[j] = s.data.toList[j]'(by simpa using hj) := rfl
        rw [e]; exact List.getElem_mem _)
      omega
theorem rd_all {s : ByteArray} {l : List Nat} (h : figTo s l) (he : l.length = s.size) (h0 : ¬ (s.size = 0 ∨ 10 < s.size)) (hz : ¬ ((s.data.toList.getD 0 0).toNat = 48 ∧ 1 < s.size)) (hm : valD l ≤ 1000000000) : rd s = (((valD l : Nat) : Int), true) := by
  obtain ⟨e1, e2⟩ := figTo_all h he
  unfold rd
  rw [if_neg h0, if_neg hz, if_pos e2, e1, if_neg (by omega)]
theorem rd_big {s : ByteArray} {l : List Nat} (h : figTo s l) (he : l.length = s.size) (hm : 1000000000 < valD l) : rd s = (0, false) := by
  obtain ⟨e1, e2⟩ := figTo_all h he
  unfold rd
  by_cases h1 : s.size = 0 ∨ 10 < s.size
  · rw [if_pos h1]
  · rw [if_neg h1]
    by_cases h2 : (s.data.toList.getD 0 0).toNat = 48 ∧ 1 < s.size
    · rw [if_pos h2]
    · rw [if_neg h2, if_pos e2, e1, if_pos hm]
theorem rd_out {s : ByteArray} (h : s.size = 0 ∨ 10 < s.size) : rd s = (0, false) := by unfold rd; rw [if_pos h]
theorem rd_nought {s : ByteArray} (h : 1 < s.size) (hz : s[0].toNat = 48) : rd s = (0, false) := by
  unfold rd
  split
  · rfl
  · rw [if_pos ⟨by rw [byteAt s 0 (by omega)]; exact hz, h⟩]

/-- The figures of the number are the text just when no nought is needless. -/
theorem same_figs {s : ByteArray} {l : List Nat} (h : figTo s l) (he : l.length = s.size) :
    ((bstr (decI (valD l))).toList == s.toList) = decide (s.size ≠ 0 ∧ ¬ ((s.data.toList.getD 0 0).toNat = 48 ∧ 1 < s.size)) := by
  obtain ⟨e1, e2⟩ := figTo_all h he
  have hs : s = bstr (figs l) := by
    apply ByteArray.ext
    apply Array.ext
    · simp [bstr, figs, ← he]
    · intro i h1 h2
      have hi : i < l.length := by simpa [bstr, figs] using h2
      have k := h.2.2 i (by omega) hi
      have e : l[i] = s[i].toNat - 48 := by simpa [List.getElem?_eq_getElem hi] using k.1
      have : s.data[i] = s[i] := rfl
      simp [bstr, figs, e, this]
      have h3 : (48 + ((s[i].toNat - 48 : Nat) : Int)).toNat = s[i].toNat := by omega
      rw [h3]
      simp
  by_cases h0 : s.size = 0
  · have hl : l = [] := List.eq_nil_of_length_eq_zero (by omega)
    subst hl
    have hne : ¬ (s.size ≠ 0 ∧ ¬ ((s.data.toList.getD 0 0).toNat = 48 ∧ 1 < s.size)) := fun hh => hh.1 h0
    rw [decide_eq_false hne]
    refine beq_eq_false_iff_ne.2 fun e => ?_
    rw [ByteArray.toList_eq, ByteArray.toList_eq] at e
    have := congrArg List.length e
    simp [bstr, valD, decI_one] at this
    omega
  · have hb : s[0]'(by omega) = s.data.toList.getD 0 0 := (byteAt s 0 (by omega)).symm
    have hne : l ≠ [] := by intro e; subst e; simp at he; omega
    have hr : ∀ x ∈ figs l, 0 ≤ x ∧ x < 256 := by
      intro x hx
      simp [figs] at hx
      obtain ⟨y, hy, rfl⟩ := hx
      have := h.2.1 y hy
      omega
    have k := h.2.2 0 (by omega) (by omega)
    by_cases hz : (s.data.toList.getD 0 0).toNat = 48 ∧ 1 < s.size
    · rw [decide_eq_false (fun hh => hh.2 hz)]
      refine beq_eq_false_iff_ne.2 fun e => ?_
      rw [ByteArray.toList_eq, ByteArray.toList_eq] at e
      have e3 := ByteArray.ext (Array.toList_inj.1 e)
      rw [hs] at e3
      refine decI_valD_not l (by omega) ?_ (bstr_inj (decI_range _ _ (Nat.le_refl _)) hr e3)
      rw [List.head?_eq_getElem?, k.1, hb, hz.1]
    · rw [decide_eq_true ⟨h0, hz⟩]
      have hd : decI (valD l) = figs l := by
        refine decI_valD _ l rfl hne h.2.1 ?_
        by_cases h1 : l.length = 1
        · exact Or.inl h1
        · right
          rw [List.head?_eq_getElem?, k.1, hb]
          intro e
          have e4 := Option.some.inj e
          have := k.2
          rw [hb] at this
          exact hz ⟨by omega, by omega⟩
      rw [hd, ← hs]
      simp

end Go.Proofs.YteefacjjdalncaaGreatDoor

namespace Go.Proofs.YteefacjjdalncaaGreatDoor
open Go.RowKit

theorem rd_ret {s : ByteArray} {x a : Int} {z b : Bool} (HR : Hid (rd s = (x, z))) (h : rd s = (a, b)) : Ending.returned (.tuple #[.int .i64 a, .bool b]) = .returned (.tuple #[.int .i64 x, .bool z]) := by
  rw [HR.out] at h
  simp only [Prod.mk.injEq] at h
  rw [h.1, h.2]
theorem valD_bd {s : ByteArray} {l : List Nat} (h : figTo s l) (hs : s.size ≤ 10) (hlt : l.length < s.size) : valD l < 1000000000 := by
  have h1 := valD_lt l h.2.1
  have h2 : 10 ^ l.length ≤ 10 ^ 9 := Nat.pow_le_pow_right (by decide) (by omega)
  omega
theorem valD_bd' {s : ByteArray} {l : List Nat} (h : figTo s l) (hs : s.size ≤ 10) : valD l < 10000000000 := by
  have h1 := valD_lt l h.2.1
  have h2 : 10 ^ l.length ≤ 10 ^ 10 := Nat.pow_le_pow_right (by decide) (by have := h.1; omega)
  omega

set_option maxRecDepth 10000 in
set_option maxHeartbeats 400000 in
theorem specReadDec_long (s : ByteArray) (w : World) (hs0 : s.size ≤ 9223372036854775807) (hs : 10 < s.size) :
    Calls Tryz.prog 118 #[.string s] w fun e w' => e = .returned (.tuple #[.int .i64 0, .bool false]) ∧ Below w.heap.size w w' := by
  go_enter Tryz.func118, Tryz.ntmps118
  go_wp2
  go_ret2
  exact ⟨rfl, Below.refl _ _⟩

theorem figTo_next {s : ByteArray} {i m : Nat} {l : List Nat} (HF : Hid (figTo s l ∧ l.length = i ∧ valD l = m)) (hlt : i < s.size) (h1 : 48 ≤ s[i].toNat) (h2 : s[i].toNat ≤ 57) :
    Hid (figTo s (l ++ [s[i].toNat - 48]) ∧ (l ++ [s[i].toNat - 48]).length = i + 1 ∧ valD (l ++ [s[i].toNat - 48]) = 10 * m + (s[i].toNat - 48)) := by
  obtain ⟨f1, f2, f3⟩ := HF.out
  subst f2
  exact ⟨figTo_snoc f1 hlt h1 h2, by simp, by rw [valD_snoc, f3]⟩
theorem rd_end_bad {s : ByteArray} {i m : Nat} {l : List Nat} (HF : Hid (figTo s l ∧ l.length = i ∧ valD l = m)) (hlt : ¬ i < s.size) (hi : i ≤ s.size) (hne : (!(bstr (decI ((m : Int).toNat))).toList == s.toList) = true) : rd s = (0, false) := by
  obtain ⟨f1, f2, f3⟩ := HF.out
  rw [Int.toNat_natCast, ← f3, same_figs f1 (by omega)] at hne
  by_cases h0 : s.size = 0
  · exact rd_out (Or.inl h0)
  · have hz : (s.data.toList.getD 0 0).toNat = 48 ∧ 1 < s.size := by
      by_cases hz : (s.data.toList.getD 0 0).toNat = 48 ∧ 1 < s.size
      · exact hz
      · rw [decide_eq_true ⟨h0, hz⟩] at hne
        simp at hne
    rw [byteAt s 0 (by omega)] at hz
    exact rd_nought hz.2 hz.1
theorem rd_end_ok {s : ByteArray} {i m : Nat} {l : List Nat} (HF : Hid (figTo s l ∧ l.length = i ∧ valD l = m)) (hlt : ¬ i < s.size) (hi : i ≤ s.size) (hs : s.size ≤ 10) (hm : m ≤ 1000000000) (hne : (!(bstr (decI ((m : Int).toNat))).toList == s.toList) = false) :
    rd s = ((m : Int), true) := by
  obtain ⟨f1, f2, f3⟩ := HF.out
  rw [Int.toNat_natCast, ← f3, same_figs f1 (by omega)] at hne
  have hh : s.size ≠ 0 ∧ ¬ ((s.data.toList.getD 0 0).toNat = 48 ∧ 1 < s.size) := by
    by_cases hh : s.size ≠ 0 ∧ ¬ ((s.data.toList.getD 0 0).toNat = 48 ∧ 1 < s.size)
    · exact hh
    · rw [decide_eq_false hh] at hne
      simp at hne
  rw [← f3]
  exact rd_all f1 (by omega) (by omega) hh.2 (by omega)

set_option maxRecDepth 10000 in
set_option maxHeartbeats 1000000 in
theorem specReadDec_any (s : ByteArray) (w : World) (hs : s.size ≤ 10) (x : Int) (z : Bool) (HR : Hid (rd s = (x, z))) :
    Calls Tryz.prog 118 #[.string s] w fun e w' => e = .returned (.tuple #[.int .i64 x, .bool z]) ∧ Below w.heap.size w w' := by
  go_enter Tryz.func118, Tryz.ntmps118
  go_wp2
  go_loop [4, 5] (fun n c => ∃ (i m : Nat) (l : List Nat), i ≤ s.size ∧ c = .int .i64 i ∧ n = .int .i64 m ∧ Hid (figTo s l ∧ l.length = i ∧ valD l = m)) (fun _ c => s.size - (intOf c).toNat)
  case atStart => exact ⟨0, 0, [], Nat.zero_le _, rfl, rfl, figTo_nil s, rfl, rfl⟩
  case round =>
    obtain ⟨i, m, l, hi, rfl, rfl, HF⟩ := hrel
    by_cases hlt : i < s.size
    · have hm : m < 1000000000 := by obtain ⟨h1, h2, h3⟩ := HF.out; rw [← h3]; exact valD_bd h1 hs (by omega)
      have h256 := s[i].toNat_lt
      by_cases h1 : s[i].toNat < 48
      · go_wp2
        go_ret2
        exact ⟨rd_ret HR (rd_none hlt (Or.inl (by omega))), Below.refl _ _⟩
      · by_cases h2 : 57 < s[i].toNat
        · go_wp2
          go_ret2
          exact ⟨rd_ret HR (rd_none hlt (Or.inr (by omega))), Below.refl _ _⟩
        · go_wp2
          go_round
          case rel => exact ⟨i + 1, 10 * m + (s[i].toNat - 48), l ++ [s[i].toNat - 48], by omega, by go_num, by go_num, figTo_next HF hlt (by omega) (by omega)⟩
          case measure => simp [intOf]; omega
    · have hm : m < 10000000000 := by obtain ⟨h1, h2, h3⟩ := HF.out; rw [← h3]; exact valD_bd' h1 hs
      by_cases hx : 1000000000 < m
      · go_wp2
        go_ret2
        exact ⟨rd_ret HR (by obtain ⟨h1, h2, h3⟩ := HF.out; exact rd_big h1 (by omega) (by omega)), Below.refl _ _⟩
      · have hx' : decide (1000000000 < (m : Int)) = false := by simp; omega
        go_wp2_with (go_at_call 151; refine (specDecimal_any _ _ (by omega) (by omega)).mono ?_; rintro e w1 ⟨rfl, hb1⟩)
        · have hne : (!(bstr (decI ((m : Int).toNat))).toList == s.toList) = true := by assumption
          go_ret2
          exact ⟨rd_ret HR (rd_end_bad HF hlt hi hne), hb1⟩
        · have hne : (!(bstr (decI ((m : Int).toNat))).toList == s.toList) = false := by assumption
          go_ret2
          exact ⟨rd_ret HR (rd_end_ok HF hlt hi hs (by omega) hne), hb1⟩

set_option maxRecDepth 10000 in
set_option maxHeartbeats 400000 in
theorem readDec_out (s : ByteArray) (w : World) (hs0 : s.size ≤ 9223372036854775807) (hs : s.size = 0 ∨ 10 < s.size) :
    Calls Tryz.prog 138 #[.string s] w fun e w' => e = .returned (.tuple #[.int .i64 0, .bool false]) ∧ Below w.heap.size w w' := by
  by_cases h1 : s.size = 0
  · have h2 : ((s.size : Int) == 0) = true := beq_iff_eq.2 (by omega)
    clear hs h1
    go_enter Tryz.func138, Tryz.ntmps138
    go_wp2
    go_step3
    go_wp2
    rw [Exit.noGoto_ret]
    go_ret2
    exact ⟨rfl, Below.refl _ _⟩
  · have h2 : ((s.size : Int) == 0) = false := beq_eq_false_iff_ne.2 (by omega)
    have h3 : 10 < s.size := by omega
    clear hs h1
    go_enter Tryz.func138, Tryz.ntmps138
    go_wp2
    go_step3
    go_wp2
    rw [Exit.noGoto_ret]
    go_ret2
    exact ⟨rfl, Below.refl _ _⟩

set_option maxRecDepth 10000 in
set_option maxHeartbeats 400000 in
theorem readDec_nought (s : ByteArray) (w : World) (hs : s.size ≤ 10) (h1 : 1 < s.size) (hz : s[0].toNat = 48) :
    Calls Tryz.prog 138 #[.string s] w fun e w' => e = .returned (.tuple #[.int .i64 0, .bool false]) ∧ Below w.heap.size w w' := by
  have h2 : ((s.size : Int) == 0) = false := beq_eq_false_iff_ne.2 (by omega)
  have hz2 : ((s[0].toNat : Int) == 48) = true := beq_iff_eq.2 (by omega)
  clear hz
  go_enter Tryz.func138, Tryz.ntmps138
  go_wp2
  go_step3
  go_wp2
  rw [Exit.noGoto_ret]
  go_ret2
  exact ⟨rfl, Below.refl _ _⟩

set_option maxRecDepth 10000 in
set_option maxHeartbeats 1000000 in
theorem readDec_in (s : ByteArray) (w : World) (hs : s.size ≤ 10) (h1 : 0 < s.size) (hz : ¬ (s[0].toNat = 48 ∧ 1 < s.size)) (x : Int) (z : Bool) (HR : Hid (rd s = (x, z))) :
    Calls Tryz.prog 138 #[.string s] w fun e w' => e = .returned (.tuple #[.int .i64 x, .bool z]) ∧ Below w.heap.size w w' := by
  have h2 : ((s.size : Int) == 0) = false := beq_eq_false_iff_ne.2 (by omega)
  have HZ : Hid (¬ (s[0].toNat = 48 ∧ 1 < s.size)) := hz
  have hcase : ((s[0].toNat : Int) == 48) = false ∨ (((s[0].toNat : Int) == 48) = true ∧ ¬ (1 : Int) < (s.size : Int)) := by
    by_cases h : s[0].toNat = 48
    · right; exact ⟨beq_iff_eq.2 (by omega), by intro h'; exact hz ⟨h, by omega⟩⟩
    · left; exact beq_eq_false_iff_ne.2 (by omega)
  clear hz
  rcases hcase with hc | ⟨hc, hc2⟩
  all_goals
    go_enter Tryz.func138, Tryz.ntmps138
    go_wp2
    go_step3
    go_wp2
    go_step3
    go_wp2
    go_loop [4, 5] (fun n c => ∃ (i m : Nat) (l : List Nat), i ≤ s.size ∧ c = .int .i64 i ∧ n = .int .i64 m ∧ Hid (figTo s l ∧ l.length = i ∧ valD l = m)) (fun _ c => s.size - (intOf c).toNat)
    case atStart => exact ⟨0, 0, [], Nat.zero_le _, rfl, rfl, figTo_nil s, rfl, rfl⟩
    case round =>
      obtain ⟨i, m, l, hi, rfl, rfl, HF⟩ := hrel
      clear hc
      by_cases hlt : i < s.size
      · have hm : m < 1000000000 := by obtain ⟨h1, h2, h3⟩ := HF.out; rw [← h3]; exact valD_bd h1 hs (by omega)
        have h256 := s[i].toNat_lt
        have hne : ((i : Int) != (s.size : Int)) = true := by rw [bne_iff_ne]; omega
        by_cases h1 : s[i].toNat < 48
        · go_wp2
          go_ret2
          exact ⟨rd_ret HR (rd_none hlt (Or.inl (by omega))), Below.refl _ _⟩
        · by_cases h2 : 57 < s[i].toNat
          · go_wp2
            go_ret2
            exact ⟨rd_ret HR (rd_none hlt (Or.inr (by omega))), Below.refl _ _⟩
          · go_wp2
            go_round
            case rel => exact ⟨i + 1, 10 * m + (s[i].toNat - 48), l ++ [s[i].toNat - 48], by omega, by go_num, by go_num, figTo_next HF hlt (by omega) (by omega)⟩
            case measure => simp [intOf]; omega
      · have hm : m < 10000000000 := by obtain ⟨h1, h2, h3⟩ := HF.out; rw [← h3]; exact valD_bd' h1 hs
        have hne : ((i : Int) != (s.size : Int)) = false := by rw [bne_eq_false_iff_eq]; omega
        by_cases hx : 1000000000 < m
        · go_wp2
          go_ret2
          exact ⟨rd_ret HR (by obtain ⟨h1, h2, h3⟩ := HF.out; exact rd_big h1 (by omega) (by omega)), Below.refl _ _⟩
        · go_wp2
          go_ret2
          exact ⟨rd_ret HR (by obtain ⟨h1, h2, h3⟩ := HF.out; rw [← h3]; exact rd_all h1 (by omega) (by omega) (by rw [byteAt s 0 (by omega)]; exact HZ.out) (by omega)), Below.refl _ _⟩

theorem readDec_any (s : ByteArray) (w : World) (hs : s.size ≤ 10) (x : Int) (z : Bool) (HR : Hid (rd s = (x, z))) :
    Calls Tryz.prog 138 #[.string s] w fun e w' => e = .returned (.tuple #[.int .i64 x, .bool z]) ∧ Below w.heap.size w w' := by
  by_cases h0 : s.size = 0
  · have := readDec_out s w (by omega) (Or.inl h0)
    rw [← Ending.returned.inj (rd_ret HR (rd_out (Or.inl h0)))]
    exact this
  · by_cases hz : s[0].toNat = 48 ∧ 1 < s.size
    · have := readDec_nought s w hs hz.2 hz.1
      rw [← Ending.returned.inj (rd_ret HR (rd_nought hz.2 hz.1))]
      exact this
    · exact readDec_in s w hs (by omega) hz x z HR

end Go.Proofs.YteefacjjdalncaaGreatDoor
