/-
  A rule comes back from its text, whole: plain facts. Words that are a rule make one that is right: plain facts. The law on how often a drawn rule fires in two parts of a time: the walk.
-/
import Derived.Test.YtgeimliibddhmaaDoorC15
import Derived.Test.YtgeimliibddhmaaDoorDcr
import Derived.Test.YtgeimliibddhmaaDoorC8
import Derived.Test.YtgeimliibddhmaaDoorC9
import Derived.Test.YtgeimliibddhmaaDoorC10
import Derived.Test.YtgeimliibddhmaaDoorC14
namespace Go.Proofs.YtgeimliibddhmaaDoor
open Go Go.RowKit

theorem getD_set (H : List Bool) (i j : Nat) (hi : i < H.length) : (H.set i true).getD j false = (decide (i = j) || H.getD j false) := by
  rw [List.getD_eq_getElem?_getD, List.getElem?_set, List.getD_eq_getElem?_getD]
  by_cases h : i = j
  · subst h; simp [hi]
  · simp [h]
theorem stamp_getD (H : List Bool) (a x : Nat) : ∀ j, a + j ≤ H.length → (stamp H a 1 j).getD x false = (decide (a ≤ x ∧ x < a + j) || H.getD x false)
  | 0, _ => by rw [stamp, decide_eq_false (by omega)]; rfl
  | j + 1, h => by
    rw [stamp, getD_set _ _ _ (by rw [stamp_length]; omega), stamp_getD H a x j (by omega), ← Bool.or_assoc, ← Bool.decide_or]
    congr 1
    exact decide_eq_decide.2 (by omega)
/-- The flags of a list. -/
def marks (H : List Bool) : List Int → List Bool
  | [] => H
  | x :: r => marks (H.set x.toNat true) r
theorem marks_length : ∀ (l : List Int) (H : List Bool), (marks H l).length = H.length
  | [], _ => rfl
  | x :: r, H => by rw [marks, marks_length r, List.length_set]
theorem marks_getD (x : Nat) : ∀ (l : List Int) (H : List Bool), (∀ y ∈ l, 0 ≤ y ∧ y.toNat < H.length) → (marks H l).getD x false = (decide ((x : Int) ∈ l) || H.getD x false)
  | [], H, _ => by simp [marks]
  | y :: r, H, h => by
    have hy := h y (List.mem_cons_self ..)
    rw [marks, marks_getD x r _ (fun z hz => by rw [List.length_set]; exact h z (List.mem_cons_of_mem _ hz)), getD_set _ _ _ hy.2, ← Bool.or_assoc, ← Bool.decide_or]
    congr 1
    refine decide_eq_decide.2 ?_
    rw [List.mem_cons]
    constructor
    · rintro (e | e)
      · exact .inr e
      · left; omega
    · rintro (e | e)
      · right; omega
      · exact .inl e
theorem fieldGo_nums {lo hi : Int} : ∀ (l : List Int) (H : List Bool), (∀ x ∈ l, lo ≤ x ∧ x ≤ hi ∧ 0 ≤ x ∧ x < 60) → fieldGo lo hi (l.map numS) H = some (marks H l)
  | [], _, _ => rfl
  | x :: r, H, h => by
    have hx := h x (List.mem_cons_self ..)
    rw [List.map_cons, fieldGo, piece_num hx.2.2.1 hx.2.2.2 hx.1 hx.2.1, if_pos rfl, fieldGo_nums r _ (fun y hy => h y (List.mem_cons_of_mem _ hy)), marks]
    congr 2
    show stamp H x.toNat (1 : Int).toNat ((x - x).toNat / (1 : Int).toNat + 1) = _
    rw [Int.sub_self]
    show stamp H x.toNat 1 1 = _
    rw [stamp, stamp]
    congr 1
/-- A list comes back from its words. -/
theorem field_back {lo hi z : Int} {l : List Int} (h0 : 0 ≤ lo) (hh : hi ≤ 59) (hlh : lo ≤ hi) (hz : z = hi - lo + 1) (hB : listB lo hi l = true) : ∃ H, fieldO (showS l z) lo hi = some H ∧ picks H lo (hi - lo + 1).toNat = l := by
  obtain ⟨hl, hr, hn⟩ := listB_up hB
  have h60 : ∀ x ∈ l, 0 ≤ x ∧ x < 60 := fun x hx => by have := hl x hx; omega
  have hrep : ∀ j : Nat, (List.replicate (hi + 1).toNat false).getD j false = false := fun j => by
    rw [List.getD_eq_getElem?_getD, List.getElem?_replicate]; split <;> rfl
  unfold fieldO showS
  by_cases hf : (l.length : Int) = z
  · rw [if_pos hf, split_free (by intro b hb; simp at hb; subst hb; decide), fieldGo]
    have hp : piece ⟨#[42]⟩ lo hi = (lo, hi, 1, true) := by unfold piece; rw [if_pos rfl]
    rw [hp, if_pos rfl, fieldGo]
    refine ⟨_, rfl, picks_list (by omega) hl hr fun x hx0 hx1 => ?_⟩
    show (stamp _ lo.toNat (1 : Int).toNat ((hi - lo).toNat / (1 : Int).toNat + 1)).getD x.toNat false = true ↔ _
    rw [show (1 : Int).toNat = 1 from rfl, Nat.div_one, stamp_getD _ _ _ _ (by rw [List.length_replicate]; omega), hrep, Bool.or_false, decide_eq_true_eq]
    exact ⟨fun _ => full_list hl hr (by omega) hx0 hx1, fun _ => by omega⟩
  · rw [if_neg hf]
    have hs := split_show h60 (l.length - 1) (by omega)
    rw [show l.length - 1 + 1 = l.length by omega, List.take_length] at hs
    rw [hs, fieldGo_nums l _ (fun x hx => ⟨(hl x hx).1, (hl x hx).2, h60 x hx⟩)]
    refine ⟨_, rfl, picks_list (by omega) hl hr fun x hx0 hx1 => ?_⟩
    rw [marks_getD _ l _ (fun y hy => by rw [List.length_replicate]; have := hl y hy; omega), hrep, Bool.or_false, decide_eq_true_eq, Int.toNat_of_nonneg (by omega)]

theorem go_word : ∀ (w cur r : List UInt8), (∀ b ∈ w, Lib.isSp b = false) → cur ++ w ≠ [] → Lib.fieldsGo cur (w ++ 32 :: r) = (cur ++ w) :: Lib.fieldsGo [] r
  | [], cur, r, _, h => by
    rw [List.append_nil] at h
    have : cur.isEmpty = false := by cases cur; exact absurd rfl h; rfl
    simp [Lib.fieldsGo, this, show Lib.isSp 32 = true from by decide]
  | b :: w, cur, r, hw, h => by
    rw [List.cons_append, Lib.fieldsGo, hw b (List.mem_cons_self ..)]
    rw [if_neg (by decide), go_word w (cur ++ [b]) r (fun x hx => hw x (List.mem_cons_of_mem _ hx)) (by simp)]
    simp
theorem go_last : ∀ (w cur : List UInt8), (∀ b ∈ w, Lib.isSp b = false) → cur ++ w ≠ [] → Lib.fieldsGo cur w = [cur ++ w]
  | [], cur, _, h => by
    rw [List.append_nil] at h ⊢
    have : cur.isEmpty = false := by cases cur; exact absurd rfl h; rfl
    simp [Lib.fieldsGo, this]
  | b :: w, cur, hw, h => by
    rw [Lib.fieldsGo, hw b (List.mem_cons_self ..), if_neg (by decide), go_last w (cur ++ [b]) (fun x hx => hw x (List.mem_cons_of_mem _ hx)) (by simp)]
    simp
/-- What a list in words is made of. -/
theorem show_word {lo hi z : Int} {l : List Int} (h0 : 0 ≤ lo) (hh : hi ≤ 59) (hB : listB lo hi l = true) : (∀ b ∈ (showS l z).data.toList, 42 ≤ b.toNat ∧ b.toNat ≤ 57) ∧ (showS l z).data.toList ≠ [] ∧ (showS l z).size ≤ 3 * l.length + 1 := by
  obtain ⟨hl, hr, hn⟩ := listB_up hB
  have h60 : ∀ x ∈ l, 0 ≤ x ∧ x < 60 := fun x hx => by have := hl x hx; omega
  unfold showS
  split
  · refine ⟨fun b hb => by simp at hb; subst hb; decide, by simp, by show 1 ≤ _; omega⟩
  · refine ⟨fun b hb => by have := show_bytes h60 _ (Nat.le_refl _) b hb; omega, ?_, ?_⟩
    · have := show_some h60 (k := l.length - 1) (by omega)
      rwa [show l.length - 1 + 1 = l.length by omega] at this
    · have := showP_size (l := l) (fun x hx => by have := h60 x hx; omega) l.length (Nat.le_refl _)
      omega
theorem back_text (s : ByteArray) : (⟨s.data.toList.toArray⟩ : ByteArray) = s := by cases s; rfl
/-- A right rule comes back from its text. -/
theorem rule_back {a b c d e : List Int} (h : cronB a b c d e = true) : pcO (cronS a b c d e) = some [a, b, c, d, e] := by
  unfold cronB at h
  simp only [Bool.and_eq_true] at h
  obtain ⟨h1, h2, h3, h4, h5⟩ := h
  obtain ⟨b1, s1, z1⟩ := show_word (z := 60) (by decide) (by decide) h1
  obtain ⟨b2, s2, z2⟩ := show_word (z := 24) (by decide) (by decide) h2
  obtain ⟨b3, s3, z3⟩ := show_word (z := 31) (by decide) (by decide) h3
  obtain ⟨b4, s4, z4⟩ := show_word (z := 12) (by decide) (by decide) h4
  obtain ⟨b5, s5, z5⟩ := show_word (z := 7) (by decide) (by decide) h5
  have n1 := list_len h1
  have n2 := list_len h2
  have n3 := list_len h3
  have n4 := list_len h4
  have n5 := list_len h5
  have one : (ByteArray.mk #[32]).size = 1 := rfl
  have hsz : (cronS a b c d e).size ≤ 600 := by
    unfold cronS
    simp only [ByteArray.size_append, one]
    omega
  have hbytes : (cronS a b c d e).data.toList = (showS a 60).data.toList ++ 32 :: ((showS b 24).data.toList ++ 32 :: ((showS c 31).data.toList ++ 32 :: ((showS d 12).data.toList ++ 32 :: (showS e 7).data.toList))) := by
    unfold cronS
    simp [ByteArray.data_append]
  have sp : ∀ {x : ByteArray}, (∀ b ∈ x.data.toList, 42 ≤ b.toNat ∧ b.toNat ≤ 57) → ∀ b ∈ x.data.toList, Lib.isSp b = false := fun hx b hb => by
    have := hx b hb
    rw [isSp_plain (by omega)]
    exact decide_eq_false (by omega)
  have hf : Lib.fields (cronS a b c d e).data.toList = [(showS a 60).data.toList, (showS b 24).data.toList, (showS c 31).data.toList, (showS d 12).data.toList, (showS e 7).data.toList] := by
    rw [hbytes]
    unfold Lib.fields
    rw [go_word _ [] _ (sp b1) (by simpa using s1), go_word _ [] _ (sp b2) (by simpa using s2), go_word _ [] _ (sp b3) (by simpa using s3), go_word _ [] _ (sp b4) (by simpa using s4), go_last _ [] (sp b5) (by simpa using s5)]
    rfl
  have hpl : ∀ x ∈ (cronS a b c d e).data.toList, 32 ≤ x.toNat ∧ x.toNat ≤ 126 := by
    intro x hx
    rw [hbytes] at hx
    simp only [List.mem_append, List.mem_cons] at hx
    rcases hx with h | h | h | h | h | h | h | h | h
    · have := b1 x h; omega
    · subst h; decide
    · have := b2 x h; omega
    · subst h; decide
    · have := b3 x h; omega
    · subst h; decide
    · have := b4 x h; omega
    · subst h; decide
    · have := b5 x h; omega
  have hparts : partsR (cronS a b c d e) = (Lib.fields (cronS a b c d e).data.toList, true) := by
    unfold partsR
    rw [if_neg (by omega), if_pos hpl, if_neg (by rw [hf]; simp)]
  unfold pcO
  rw [hparts, if_pos rfl, hf]
  show pcT [⟨_⟩, ⟨_⟩, ⟨_⟩, ⟨_⟩, ⟨_⟩] = _
  rw [back_text, back_text, back_text, back_text, back_text]
  obtain ⟨H1, e1, p1⟩ := field_back (z := 60) (by decide) (by decide) (by decide) (by decide) h1
  obtain ⟨H2, e2, p2⟩ := field_back (z := 24) (by decide) (by decide) (by decide) (by decide) h2
  obtain ⟨H3, e3, p3⟩ := field_back (z := 31) (by decide) (by decide) (by decide) (by decide) h3
  obtain ⟨H4, e4, p4⟩ := field_back (z := 12) (by decide) (by decide) (by decide) (by decide) h4
  obtain ⟨H5, e5, p5⟩ := field_back (z := 7) (by decide) (by decide) (by decide) (by decide) h5
  unfold pcT fieldL
  simp only []
  rw [e1, e2, e3, e4, e5]
  show some [picks H1 0 _, picks H2 0 _, picks H3 1 _, picks H4 1 _, picks H5 0 _] = _
  rw [p1, p2, p3, p4, p5]
end Go.Proofs.YtgeimliibddhmaaDoor

namespace Go.Proofs.YtgeimliibddhmaaDoor
open Go Go.RowKit

theorem set_keep {H : List Bool} {i x : Nat} (h : H.getD x false = true) : (H.set i true).getD x false = true := by
  by_cases hi : i < H.length
  · rw [getD_set _ _ _ hi, h, Bool.or_true]
  · rw [List.set_eq_of_length_le (by omega)]; exact h
theorem stamp_keep {H : List Bool} {a t x : Nat} (h : H.getD x false = true) : ∀ j, (stamp H a t j).getD x false = true
  | 0 => h
  | j + 1 => set_keep (stamp_keep h j)
theorem stamp_first {H : List Bool} {a t : Nat} (ha : a < H.length) : ∀ j, (stamp H a t (j + 1)).getD a false = true
  | 0 => by
    rw [stamp, stamp, Nat.zero_mul, Nat.add_zero, getD_set _ _ _ ha, decide_eq_true rfl]
    rfl
  | j + 1 => set_keep (stamp_first ha j)
theorem fieldGo_keep {lo hi : Int} {x : Nat} : ∀ (l : List ByteArray) (H H' : List Bool), H.getD x false = true → fieldGo lo hi l H = some H' → H'.getD x false = true
  | [], H, H', h, e => by cases e; exact h
  | p :: r, H, H', h, e => by
    rw [fieldGo] at e
    split at e
    · exact fieldGo_keep r _ H' (stamp_keep h _) e
    · cases e
theorem fieldGo_first {lo hi : Int} (h0 : 0 ≤ lo) (hlh : lo ≤ hi) : ∀ (l : List ByteArray) (H H' : List Bool), H.length = (hi + 1).toNat → 0 < l.length → fieldGo lo hi l H = some H' → ∃ x : Int, lo ≤ x ∧ x ≤ hi ∧ H'.getD x.toNat false = true
  | [], _, _, _, hl, _ => by simp at hl
  | p :: r, H, H', hH, _, e => by
    rw [fieldGo] at e
    split at e
    · rename_i hp
      have hb := piece_bd hlh hp
      refine ⟨(piece p lo hi).1, hb.1, by omega, fieldGo_keep r _ H' ?_ e⟩
      exact stamp_first (by rw [hH]; omega) _
    · cases e
theorem field_right {s : ByteArray} {lo hi : Int} {H : List Bool} (h0 : 0 ≤ lo) (hlh : lo ≤ hi) (h : fieldO s lo hi = some H) : listB lo hi (fieldL s lo hi) = true := by
  unfold fieldL
  rw [h]
  show listB lo hi (picks H lo (hi - lo + 1).toNat) = true
  obtain ⟨x, hx0, hx1, hx⟩ := fieldGo_first h0 hlh _ _ H (by rw [List.length_replicate]) (cutsN_some s 44) h
  unfold listB
  rw [rise_of _ none (picks_rise _) (fun y hy => ?_) (fun y hy => by cases hy), Bool.and_true]
  · have hm : x ∈ picks H lo (hi - lo + 1).toNat := (mem_picks _).2 ⟨(x - lo).toNat, by omega, by omega, by rw [show lo + ((x - lo).toNat : Int) = x by omega]; exact hx⟩
    cases hq : picks H lo (hi - lo + 1).toNat with
    | nil => rw [hq] at hm; cases hm
    | cons y r => rfl
  · obtain ⟨i, h1, rfl, _⟩ := (mem_picks _).1 hy
    omega
/-- Words that are a rule make a right one. -/
theorem rule_right {s : ByteArray} {l : List (List Int)} (h : pcO s = some l) : ∃ a b c d e, l = [a, b, c, d, e] ∧ cronB a b c d e = true := by
  unfold pcO at h
  split at h
  · unfold pcT at h
    split at h
    · split at h
      · rename_i hq
        simp only [Bool.and_eq_true, Option.isSome_iff_exists] at hq
        obtain ⟨⟨H1, e1⟩, ⟨H2, e2⟩, ⟨H3, e3⟩, ⟨H4, e4⟩, ⟨H5, e5⟩⟩ := hq
        refine ⟨_, _, _, _, _, (Option.some.inj h).symm, ?_⟩
        unfold cronB
        rw [field_right (by decide) (by decide) e1, field_right (by decide) (by decide) e2, field_right (by decide) (by decide) e3, field_right (by decide) (by decide) e4, field_right (by decide) (by decide) e5]
        rfl
      · cases h
    · cases h
  · cases h
end Go.Proofs.YtgeimliibddhmaaDoor

namespace Go.Proofs.YtgeimliibddhmaaDoor
open Go Go.RowKit
set_option linter.unusedVariables false

theorem pcN_short (s : ByteArray) (k : Nat) : (pcN (pcO s) k).length ≤ 60 := by
  cases h : pcO s with
  | none => simp [pcN]
  | some l =>
    obtain ⟨a, b, c, d, e, rfl, hc⟩ := rule_right h
    have := cron_short hc
    match k with
    | 0 => show a.length ≤ 60; omega
    | 1 => show b.length ≤ 60; omega
    | 2 => show c.length ≤ 60; omega
    | 3 => show d.length ≤ 60; omega
    | 4 => show e.length ≤ 60; omega
    | k + 5 => simp [pcN]
theorem countR_add {a b c d e : List Int} {m k j : Int} (h0 : 0 ≤ m) (h1 : m < 60000000) (h2 : 0 ≤ k) (h3 : k < 3000) (h4 : 0 ≤ j) (h5 : j < 3000) : countR a b c d e m (m + (k + j)) = countR a b c d e m (m + k) + countR a b c d e (m + k) (m + (k + j)) := by
  by_cases hc : cronB a b c d e = true
  · rw [countR_yes ⟨hc, ⟨h0, by omega⟩, ⟨by omega, by omega⟩, by omega⟩, countR_yes ⟨hc, ⟨h0, by omega⟩, ⟨by omega, by omega⟩, by omega⟩, countR_yes ⟨hc, ⟨by omega, by omega⟩, ⟨by omega, by omega⟩, by omega⟩]
    have := countN_add (firesB a b c d e) m k.toNat j.toNat
    rw [show (m + (k + j) - m).toNat = k.toNat + j.toNat by omega, show (m + k - m).toNat = k.toNat by omega, show (m + (k + j) - (m + k)).toNat = j.toNat by omega, this, show m + (k.toNat : Int) = m + k by omega]
    simp
  · rw [countR_no fun h => hc h.1, countR_no fun h => hc h.1, countR_no fun h => hc h.1]
    rfl
theorem countR_same {a b c d e : List Int} {m : Int} : countR a b c d e m m = 0 := by
  unfold countR
  split
  · rw [show (m - m).toNat = 0 by omega]; rfl
  · rfl
theorem countR_one {a b c d e : List Int} {m : Int} (h0 : 0 ≤ m) (h1 : m < 60000000) : countR a b c d e m (m + 1) = if (cronB a b c d e && firesB a b c d e m) = true then 1 else 0 := by
  cases hc : cronB a b c d e with
  | true =>
    rw [countR_yes ⟨hc, ⟨h0, by omega⟩, ⟨by omega, by omega⟩, by omega⟩, show (m + 1 - m).toNat = 1 by omega]
    unfold countN countN
    rw [show m + ((0 : Nat) : Int) = m by omega]
    cases firesB a b c d e m <;> rfl
  | false =>
    rw [countR_no fun h => by rw [hc] at h; cases h.1]
    simp

set_option maxRecDepth 10000 in
set_option maxHeartbeats 4000000 in
theorem law_FnCounts (v : Value) (n : Nat) (w : World) (hn : n ≤ 9223372036854775807) (hc : CodeAt w w.heap.size v n) (hg : RchIs w) :
    Calls Tryd.prog 5 #[v] w fun e w' => e = .returned (.bool true) ∧ Below w.heap.size w w' := by
  have HC : Hid (CodeAt w w.heap.size v n) := hc
  have HG : Hid (∀ W, Below w.heap.size w W → RchIs W) := fun W hb => hg.up hb
  obtain ⟨va, cap, rfl, -⟩ := hc
  clear hg
  by_cases hbig : 1048576 < n
  · have HB : Hid (∀ w, Calls Tryd.prog 12 #[.slice va n cap] w fun e w' => e = .returned (.bool true) ∧ w' = w) := by
      intro w; have := big_any va n cap w hn; rwa [decide_eq_true hbig] at this
    go_enter Tryd.func5, Tryd.ntmps5
    go_wp2_with (go_at_call 12; refine (HB.out _).mono ?_; rintro e w1 ⟨rfl, hw⟩; have hw2 := hw.symm; subst hw2)
    go_ret
    exact ⟨rfl, Below.refl _ _⟩
  · have HB : Hid (∀ w, Calls Tryd.prog 12 #[.slice va n cap] w fun e w' => e = .returned (.bool false) ∧ w' = w) := by
      intro w; have := big_any va n cap w hn; rwa [decide_eq_false hbig] at this
    have HN : Hid (n ≤ 1048576) := by show n ≤ 1048576; omega
    go_enter Tryd.func5, Tryd.ntmps5
    go_wp2_with fail
    refine (HB.out _).mono ?_
    rintro e w1 ⟨rfl, hw⟩
    have hw2 := hw.symm
    subst hw2
    clear HB
    go_wp2_with fail
    refine (drawCron_any _ n _ HN.out HC.out).mono ?_
    rintro x w2 ⟨v0, v1, v2, v3, v4, a, b, c, d, e, m, rfl, ⟨⟨r0, r1, r2, r3, r4⟩, hcr⟩, m0, m1, B2⟩
    obtain ⟨p0, s0, rfl, -⟩ := id r0
    obtain ⟨p1, s1, rfl, -⟩ := id r1
    obtain ⟨o2, k2, rfl, -⟩ := id r2
    obtain ⟨o3, k3, rfl, -⟩ := id r3
    obtain ⟨o4, k4, rfl, -⟩ := id r4
    have hsh := cron_short hcr
    have HRA : Hid (Reads w2 (.slice p0 a.length s0) a ∧ Reads w2 (.slice p1 b.length s1) b) := ⟨r0, r1⟩
    have HAB : Hid (a.length ≤ 60 ∧ b.length ≤ 60) := ⟨hsh.1, by omega⟩
    have HCA : Hid (∀ W, Below w2.heap.size w2 W → CodeAt W W.heap.size (.slice va n cap) n) := fun W hb => HC.out.on (Below.on B2 hb)
    have HW : Hid (Below w.heap.size w w2) := B2
    clear r0 r1 r2 r3 r4 hsh HC hcr B2
    generalize hq0 : a.length = q0 at *
    generalize hq1 : b.length = q1 at *
    generalize hm2 : c.length = m2 at *
    generalize hm3 : d.length = m3 at *
    generalize hm4 : e.length = m4 at *
    have HQ : Hid (a.length = q0 ∧ b.length = q1) := ⟨hq0, hq1⟩
    clear hq0 hq1 hm2 hm3 hm4
    clear c d e
    obtain ⟨S, HSS⟩ : ∃ S : ByteArray, Hid (({ data := #[42, 32, 42, 32, 42, 32, 42, 32, 42] } : ByteArray) = S ∧ S.size ≤ 1048576) := ⟨_, rfl, by decide⟩
    go_wp2_with fail
    refine (parseCron_any _ _ (by decide)).mono ?_
    rintro x w3 ⟨u0, u1, u2, u3, u4, rfl, t0, t1, t2, t3, t4, hb3⟩
    have HX3 : Hid (B5 26 w3 w2.heap.size (.slice p0 q0 s0) (.slice p1 q1 s1) (.slice o2 m2 k2) (.slice o3 m3 k3) (.slice o4 m4 k4)) := (B5.new 26 w2 _ _ _ _ _).up hb3
    have HB3 : Hid (Below w2.heap.size w2 w3) := below_new hb3
    have hsz : w2.heap.size < w3.heap.size := HX3.out.lt
    obtain ⟨z0, y0, x0, rfl⟩ := t0.slice3
    obtain ⟨z1, y1, x1, rfl⟩ := t1.slice3
    obtain ⟨z2, y2, x2, rfl⟩ := t2.slice3
    obtain ⟨z3, y3, x3, rfl⟩ := t3.slice3
    obtain ⟨z4, y4, x4, rfl⟩ := t4.slice3
    obtain ⟨c, HCc⟩ : ∃ c, Hid (pcN (pcO ({ data := #[42, 32, 42, 32, 42, 32, 42, 32, 42] } : ByteArray)) 2 = c ∧ c.length ≤ 60) := ⟨_, rfl, pcN_short _ _⟩
    obtain ⟨d, HCd⟩ : ∃ d, Hid (pcN (pcO ({ data := #[42, 32, 42, 32, 42, 32, 42, 32, 42] } : ByteArray)) 3 = d ∧ d.length ≤ 60) := ⟨_, rfl, pcN_short _ _⟩
    obtain ⟨e, HCe⟩ : ∃ e, Hid (pcN (pcO ({ data := #[42, 32, 42, 32, 42, 32, 42, 32, 42] } : ByteArray)) 4 = e ∧ e.length ≤ 60) := ⟨_, rfl, pcN_short _ _⟩
    rw [HCc.out.1] at t2
    rw [HCd.out.1] at t3
    rw [HCe.out.1] at t4
    have bs : (w2.alloc (.cells #[.slice p0 q0 s0, .slice p1 q1 s1, .slice o2 m2 k2, .slice o3 m3 k3, .slice o4 m4 k4] 26)).heap.size = w2.heap.size + 1 := by simp
    have HRC : Hid (Reads w3 (.slice z2 y2 x2) c ∧ Reads w3 (.slice z3 y3 x3) d ∧ Reads w3 (.slice z4 y4 x4) e) := ⟨t2.reads, t3.reads, t4.reads⟩
    have HBC : Hid (∀ x, z2 = some x ∨ z3 = some x ∨ z4 = some x → x.block ≠ w2.heap.size) := by
      rintro x (h | h | h)
      · have := t2.blockOf x h; omega
      · have := t3.blockOf x h; omega
      · have := t4.blockOf x h; omega
    obtain ⟨okq, hokq⟩ : ∃ q, (pcO ({ data := #[42, 32, 42, 32, 42, 32, 42, 32, 42] } : ByteArray)).isSome = q := ⟨_, rfl⟩
    rw [hokq]
    clear hokq t0 t1 t2 t3 t4 hb3 bs HSS
    -- the second box, and the three stores
    have HX4 : Hid (B5 26 (w3.alloc (.cells #[.slice z0 y0 x0, .slice z1 y1 x1, .slice z2 y2 x2, .slice z3 y3 x3, .slice z4 y4 x4] 26)) w2.heap.size (.slice p0 q0 s0) (.slice p1 q1 s1) (.slice o2 m2 k2) (.slice o3 m3 k3) (.slice o4 m4 k4)) := HX3.out.alloc _
    have HY4 : Hid (B5 26 (w3.alloc (.cells #[.slice z0 y0 x0, .slice z1 y1 x1, .slice z2 y2 x2, .slice z3 y3 x3, .slice z4 y4 x4] 26)) w3.heap.size (.slice z0 y0 x0) (.slice z1 y1 x1) (.slice z2 y2 x2) (.slice z3 y3 x3) (.slice z4 y4 x4)) := B5.new 26 w3 _ _ _ _ _
    obtain ⟨w4, HW4⟩ : ∃ w4, Hid (w3.alloc (.cells #[.slice z0 y0 x0, .slice z1 y1 x1, .slice z2 y2 x2, .slice z3 y3 x3, .slice z4 y4 x4] 26) = w4) := ⟨_, rfl⟩
    have HB4 : Hid (Below w2.heap.size w2 w4) := by show Below _ _ _; rw [← HW4.out]; exact ba HB3.out _
    have HRC4 : Hid (Reads w4 (.slice z2 y2 x2) c ∧ Reads w4 (.slice z3 y3 x3) d ∧ Reads w4 (.slice z4 y4 x4) e) := by show _ ∧ _ ∧ _; rw [← HW4.out]; exact ⟨HRC.out.1.alloc _, HRC.out.2.1.alloc _, HRC.out.2.2.alloc _⟩
    rw [HW4.out] at HX4 HY4
    have c2' := HX4.out.c2
    have c3' := HX4.out.c3
    have c4' := HX4.out.c4
    have fr2 := HX4.out.fr 2
    have fr3 := HX4.out.fr 3
    have fr4 := HX4.out.fr 4
    have d2 := HY4.out.c2
    have d3 := HY4.out.c3
    have d4 := HY4.out.c4
    have hne : w3.heap.size ≠ w2.heap.size := by omega
    have e3 : (w4.setCell ⟨w2.heap.size, 2, none⟩ (.slice z2 y2 x2)).cell? ⟨w3.heap.size, 3, none⟩ = some (.slice z3 y3 x3) := cell_not d3 hne _
    have e4 : ((w4.setCell ⟨w2.heap.size, 2, none⟩ (.slice z2 y2 x2)).setCell ⟨w2.heap.size, 3, none⟩ (.slice z3 y3 x3)).cell? ⟨w3.heap.size, 4, none⟩ = some (.slice z4 y4 x4) := cell_not (cell_not d4 hne _) hne _
    obtain ⟨w5, HW5⟩ : ∃ w5, Hid (((w4.setCell ⟨w2.heap.size, 2, none⟩ (.slice z2 y2 x2)).setCell ⟨w2.heap.size, 3, none⟩ (.slice z3 y3 x3)).setCell ⟨w2.heap.size, 4, none⟩ (.slice z4 y4 x4) = w5) := ⟨_, rfl⟩
    have HX5 : Hid (B5 26 w5 w2.heap.size (.slice p0 q0 s0) (.slice p1 q1 s1) (.slice z2 y2 x2) (.slice z3 y3 x3) (.slice z4 y4 x4)) := by show B5 _ _ _ _ _ _ _ _; rw [← HW5.out]; exact ((HX4.out.s2 _).s3 _).s4 _
    have HB5 : Hid (Below w2.heap.size w2 w5) := by show Below _ _ _; rw [← HW5.out]; exact Below.setCell (Below.setCell (Below.setCell HB4.out (Nat.le_refl _) _) (Nat.le_refl _) _) (Nat.le_refl _) _
    have HS5 : Hid (Save w2.heap.size w4 w5) := by
      show Save _ _ _
      rw [← HW5.out]
      have h0 : Save w2.heap.size w4 (w4.setCell ⟨w2.heap.size, 2, none⟩ (.slice z2 y2 x2)) := (Save.refl _ w4).setCell (p := ⟨w2.heap.size, 2, none⟩) rfl _
      have h1 := h0.setCell (p := ⟨w2.heap.size, 3, none⟩) rfl (.slice z3 y3 x3)
      exact h1.setCell (p := ⟨w2.heap.size, 4, none⟩) rfl (.slice z4 y4 x4)
    have HRD : Hid (Reads w5 (.slice p0 q0 s0) a ∧ Reads w5 (.slice p1 q1 s1) b ∧ Reads w5 (.slice z2 y2 x2) c ∧ Reads w5 (.slice z3 y3 x3) d ∧ Reads w5 (.slice z4 y4 x4) e) := ⟨HRA.out.1.below HB5.out, HRA.out.2.below HB5.out, HRC4.out.1.save HS5.out (fun x h => HBC.out x (.inl h)), HRC4.out.2.1.save HS5.out (fun x h => HBC.out x (.inr (.inl h))), HRC4.out.2.2.save HS5.out (fun x h => HBC.out x (.inr (.inr h)))⟩
    clear HX3 HB3 HRA HRC HBC HY4 HS5
    go_wp2_with (rw [HW4.out])
    rw [HW5.out]
    clear c2' c3' c4' fr2 fr3 fr4 d2 d3 d4 e3 e4 hne HX4 HRC4 HB4 HW4 HW5 hsz
    refine (places_any _ n _ HN.out (HCA.out _ HB5.out)).mono ?_
    rintro x w6 ⟨u, l, rfl, hu, hl, hlx, hb6⟩
    have HX6 : Hid (B5 26 w6 w2.heap.size (.slice p0 q0 s0) (.slice p1 q1 s1) (.slice z2 y2 x2) (.slice z3 y3 x3) (.slice z4 y4 x4)) := HX5.out.up hb6
    have HB6 : Hid (Below w2.heap.size w2 w6) := Below.on HB5.out hb6
    have HR6 : Hid (Reads w6 (.slice p0 q0 s0) a ∧ Reads w6 (.slice p1 q1 s1) b ∧ Reads w6 (.slice z2 y2 x2) c ∧ Reads w6 (.slice z3 y3 x3) d ∧ Reads w6 (.slice z4 y4 x4) e) := ⟨HRD.out.1.below hb6, HRD.out.2.1.below hb6, HRD.out.2.2.1.below hb6, HRD.out.2.2.2.1.below hb6, HRD.out.2.2.2.2.below hb6⟩
    obtain ⟨rr, rc, _, rfl, -, hcell⟩ := ownsI_first hu hl
    obtain ⟨i0, hi0⟩ : ∃ t, l[0]? = some t := ⟨_, List.getElem?_eq_getElem (by omega)⟩
    obtain ⟨i1, hi1⟩ : ∃ t, l[1]? = some t := ⟨_, List.getElem?_eq_getElem (by omega)⟩
    have ci0 := hcell 0 i0 hi0
    have ci1 := hcell 1 i1 hi1
    have hx0 := hlx i0 (List.mem_of_getElem? hi0)
    have hx1 := hlx i1 (List.mem_of_getElem? hi1)
    have i00 := hx0.1
    have i01 := hx0.2
    have i10 := hx1.1
    have i11 := hx1.2
    clear hcell hu hl hlx hb6 hi0 hi1 hx0 hx1 HCA HN HRD HX5 HB5
    have HL : Hid (a.length ≤ 1048577 ∧ b.length ≤ 1048577 ∧ c.length ≤ 1048577 ∧ d.length ≤ 1048577 ∧ e.length ≤ 1048577) := by
      have h1 := HQ.out
      have h2 := HAB.out
      have h3 := HCc.out.2
      have h4 := HCd.out.2
      have h5 := HCe.out.2
      exact ⟨by omega, by omega, by omega, by omega, by omega⟩
    have HCNT : Hid (∀ (fr up : Int) (W : World), Below w6.heap.size w6 W → Calls Tryd.prog 26 #[.agg #[.slice p0 q0 s0, .slice p1 q1 s1, .slice z2 y2 x2, .slice z3 y3 x3, .slice z4 y4 x4], .int .i64 fr, .int .i64 up] W fun x w' => x = .returned (.int .i64 (countR a b c d e fr up)) ∧ Below W.heap.size W w') := fun fr up W hb => implCount_any _ _ _ _ _ a b c d e fr up W (HR6.out.1.below hb) (HR6.out.2.1.below hb) (HR6.out.2.2.1.below hb) (HR6.out.2.2.2.1.below hb) (HR6.out.2.2.2.2.below hb) HL.out.1 HL.out.2.1 HL.out.2.2.1 HL.out.2.2.2.1 HL.out.2.2.2.2 (HG.out W (Below.on HW.out (Below.on HB6.out hb)))
    have HSC : Hid (∀ (fr up : Int) (W : World), Below w6.heap.size w6 W → Calls Tryd.prog 27 #[.agg #[.slice p0 q0 s0, .slice p1 q1 s1, .slice z2 y2 x2, .slice z3 y3 x3, .slice z4 y4 x4], .int .i64 fr, .int .i64 up] W fun x w' => x = .returned (.int .i64 (countR a b c d e fr up)) ∧ Below W.heap.size W w') := fun fr up W hb => specCount_any _ _ _ _ _ a b c d e fr up W (HR6.out.1.below hb) (HR6.out.2.1.below hb) (HR6.out.2.2.1.below hb) (HR6.out.2.2.2.1.below hb) (HR6.out.2.2.2.2.below hb) HL.out.1 HL.out.2.1 HL.out.2.2.1 HL.out.2.2.2.1 HL.out.2.2.2.2
    have HFR : Hid (∀ (W : World), Below w6.heap.size w6 W → Calls Tryd.prog 25 #[.agg #[.slice p0 q0 s0, .slice p1 q1 s1, .slice z2 y2 x2, .slice z3 y3 x3, .slice z4 y4 x4], .int .i64 m] W fun x w' => x = .returned (.bool (cronB a b c d e && firesB a b c d e m)) ∧ Below W.heap.size W w') := fun W hb => implFires_any _ _ _ _ _ a b c d e m W (HR6.out.1.below hb) (HR6.out.2.1.below hb) (HR6.out.2.2.1.below hb) (HR6.out.2.2.2.1.below hb) (HR6.out.2.2.2.2.below hb) HL.out.1 HL.out.2.1 HL.out.2.2.1 HL.out.2.2.2.1 HL.out.2.2.2.2 (HG.out W (Below.on HW.out (Below.on HB6.out hb)))
    obtain ⟨ka, hka⟩ : ∃ k, i0 % 3000 = k := ⟨_, rfl⟩
    obtain ⟨kb, hkb⟩ : ∃ k, i1 % 3000 = k := ⟨_, rfl⟩
    have ka0 : 0 ≤ ka := by omega
    have ka1 : ka < 3000 := by omega
    have kb0 : 0 ≤ kb := by omega
    have kb1 : kb < 3000 := by omega
    obtain ⟨A, HA⟩ : ∃ A, Hid (countR a b c d e m (m + ka) = A) := ⟨_, rfl⟩
    obtain ⟨Bc, HBc⟩ : ∃ A, Hid (countR a b c d e (m + ka) (m + (ka + kb)) = A) := ⟨_, rfl⟩
    have HTT : Hid (countR a b c d e m (m + (ka + kb)) = A + Bc) := by show _ = _; rw [countR_add m0 m1 ka0 ka1 kb0 kb1, HA.out, HBc.out]
    have HAR : Hid (0 ≤ A ∧ A ≤ 3000 ∧ 0 ≤ Bc ∧ Bc ≤ 3000) := by
      have hle : ∀ fr up, countR a b c d e fr up = 0 ∨ (0 ≤ countR a b c d e fr up ∧ countR a b c d e fr up ≤ (up - fr).toNat) := fun fr up => by
        unfold countR
        split
        · right
          have := countN_le (firesB a b c d e) fr (up - fr).toNat
          omega
        · left; rfl
      have h1 := hle m (m + ka)
      have h2 := hle (m + ka) (m + (ka + kb))
      rw [HA.out] at h1
      rw [HBc.out] at h2
      exact ⟨by omega, by omega, by omega, by omega⟩
    have HA1 : Hid (∀ W : World, Below w6.heap.size w6 W → Calls Tryd.prog 26 #[.agg #[.slice p0 q0 s0, .slice p1 q1 s1, .slice z2 y2 x2, .slice z3 y3 x3, .slice z4 y4 x4], .int .i64 m, .int .i64 (m + ka)] W fun e w' => e = .returned (.int .i64 (A)) ∧ Below W.heap.size W w') := fun W hb => by rw [← HA.out]; exact HCNT.out m (m + ka) W hb
    have HA2 : Hid (∀ W : World, Below w6.heap.size w6 W → Calls Tryd.prog 26 #[.agg #[.slice p0 q0 s0, .slice p1 q1 s1, .slice z2 y2 x2, .slice z3 y3 x3, .slice z4 y4 x4], .int .i64 (m + ka), .int .i64 (m + (ka + kb))] W fun e w' => e = .returned (.int .i64 (Bc)) ∧ Below W.heap.size W w') := fun W hb => by rw [← HBc.out]; exact HCNT.out (m + ka) (m + (ka + kb)) W hb
    have HT : Hid (∀ W : World, Below w6.heap.size w6 W → Calls Tryd.prog 26 #[.agg #[.slice p0 q0 s0, .slice p1 q1 s1, .slice z2 y2 x2, .slice z3 y3 x3, .slice z4 y4 x4], .int .i64 m, .int .i64 (m + (ka + kb))] W fun e w' => e = .returned (.int .i64 (A + Bc)) ∧ Below W.heap.size W w') := fun W hb => by rw [← HTT.out]; exact HCNT.out m (m + (ka + kb)) W hb
    have HO : Hid (∀ W : World, Below w6.heap.size w6 W → Calls Tryd.prog 26 #[.agg #[.slice p0 q0 s0, .slice p1 q1 s1, .slice z2 y2 x2, .slice z3 y3 x3, .slice z4 y4 x4], .int .i64 m, .int .i64 m] W fun e w' => e = .returned (.int .i64 (0)) ∧ Below W.heap.size W w') := fun W hb => by have := HCNT.out m m W hb; rwa [countR_same] at this
    have HSP : Hid (∀ W : World, Below w6.heap.size w6 W → Calls Tryd.prog 27 #[.agg #[.slice p0 q0 s0, .slice p1 q1 s1, .slice z2 y2 x2, .slice z3 y3 x3, .slice z4 y4 x4], .int .i64 m, .int .i64 (m + ka)] W fun e w' => e = .returned (.int .i64 A) ∧ Below W.heap.size W w') := fun W hb => by rw [← HA.out]; exact HSC.out m (m + ka) W hb
    have hA0 := HAR.out.1
    have hA1 := HAR.out.2.1
    have hB0 := HAR.out.2.2.1
    have hB1 := HAR.out.2.2.2
    obtain ⟨f, hf⟩ : ∃ f, (cronB a b c d e && firesB a b c d e m) = f := ⟨_, rfl⟩
    have HONE : Hid (countR a b c d e m (m + 1) = if f = true then 1 else 0) := by show _ = _; rw [countR_one m0 m1, hf]
    rw [hf] at HFR
    clear hf HA HBc HTT HAR HSC HR6 HL HG HAB HQ HCc HCd HCe
    have c0 := HX6.out.c0
    have c1 := HX6.out.c1
    have c2 := HX6.out.c2
    have c3 := HX6.out.c3
    have c4 := HX6.out.c4
    go_wp2_with fail
    refine (HA1.out _ (Below.refl _ _)).mono ?_
    rintro x w7 ⟨rfl, hb7⟩
    have X7 := HX6.out.up hb7
    have B7 : Below w6.heap.size w6 w7 := hb7
    clear hb7 c0 c1 c2 c3 c4 ci0 ci1
    have c0 := X7.c0
    have c1 := X7.c1
    have c2 := X7.c2
    have c3 := X7.c3
    have c4 := X7.c4
    go_wp2_with fail
    refine (HA2.out _ B7).mono ?_
    rintro x w8 ⟨rfl, hb8⟩
    have X8 := X7.up hb8
    have B8 : Below w6.heap.size w6 w8 := Below.on B7 hb8
    clear hb8 c0 c1 c2 c3 c4 X7 B7
    have HT8 : Hid (∀ x : Wd w8, Below w6.heap.size w6 x.at') := fun x => Below.on B8 x.ok
    have c0 := Wd.cell X8.c0
    have c1 := Wd.cell X8.c1
    have c2 := Wd.cell X8.c2
    have c3 := Wd.cell X8.c3
    have c4 := Wd.cell X8.c4
    clear X8
    cases f with
    | true =>
      have H1 : Hid (∀ W : World, Below w6.heap.size w6 W → Calls Tryd.prog 26 #[.agg #[.slice p0 q0 s0, .slice p1 q1 s1, .slice z2 y2 x2, .slice z3 y3 x3, .slice z4 y4 x4], .int .i64 m, .int .i64 (m + 1)] W fun e w' => e = .returned (.int .i64 (1)) ∧ Below W.heap.size W w') := fun W hb => by have := HCNT.out m (m + 1) W hb; rwa [HONE.out, if_pos rfl] at this
      clear HCNT HONE
      go_wp2
      refine wp_region_wd (by kernel_rfl) (by kernel_rfl) ?_
      repeat (go_big_quiet_step ((first | (go_at_call 26; first | (refine calls_wd (v := .int .i64 (A + Bc)) ?_; with_reducible exact HT.out _ (HT8.out _)) | (refine calls_wd (v := .int .i64 0) ?_; with_reducible exact HO.out _ (HT8.out _)) | (refine calls_wd (v := .int .i64 1) ?_; with_reducible exact H1.out _ (HT8.out _))) | (go_at_call 27; refine calls_wd (v := .int .i64 A) ?_; with_reducible exact HSP.out _ (HT8.out _)) | (go_at_call 25; refine calls_wd (v := .bool true) ?_; with_reducible exact HFR.out _ (HT8.out _)))))
      refine wpQuiet_nil ?_
      rintro _ ⟨y, rfl⟩
      have BY := Below.on HW.out (Below.on HB6.out (HT8.out y))
      go_wp2
      go_ret
      exact ⟨rfl, BY⟩
    | false =>
      have H1 : Hid (∀ W : World, Below w6.heap.size w6 W → Calls Tryd.prog 26 #[.agg #[.slice p0 q0 s0, .slice p1 q1 s1, .slice z2 y2 x2, .slice z3 y3 x3, .slice z4 y4 x4], .int .i64 m, .int .i64 (m + 1)] W fun e w' => e = .returned (.int .i64 (0)) ∧ Below W.heap.size W w') := fun W hb => by have := HCNT.out m (m + 1) W hb; rwa [HONE.out, if_neg (by decide)] at this
      clear HCNT HONE
      go_wp2
      refine wp_region_wd (by kernel_rfl) (by kernel_rfl) ?_
      repeat (go_big_quiet_step ((first | (go_at_call 26; first | (refine calls_wd (v := .int .i64 (A + Bc)) ?_; with_reducible exact HT.out _ (HT8.out _)) | (refine calls_wd (v := .int .i64 0) ?_; with_reducible exact HO.out _ (HT8.out _)) | (refine calls_wd (v := .int .i64 0) ?_; with_reducible exact H1.out _ (HT8.out _))) | (go_at_call 27; refine calls_wd (v := .int .i64 A) ?_; with_reducible exact HSP.out _ (HT8.out _)) | (go_at_call 25; refine calls_wd (v := .bool false) ?_; with_reducible exact HFR.out _ (HT8.out _)))))
      refine wpQuiet_nil ?_
      rintro _ ⟨y, rfl⟩
      have BY := Below.on HW.out (Below.on HB6.out (HT8.out y))
      go_wp2
      go_ret
      exact ⟨rfl, BY⟩
end Go.Proofs.YtgeimliibddhmaaDoor
