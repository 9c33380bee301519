/-
  A rule in words, as the specification writes it. A rule comes back from its text: plain facts. Texts split and cut at a byte: what the library's words come to. Plain facts. Contracts of the library, proved once there, laid at this program by the kit (its plain words). A rule comes back from its text, whole: plain facts.
-/
import Derived.Test.YtjmclcjhimcehaaGreatDoorG9
import Derived.Test.YtjmclcjhimcehaaGreatDoorG5
import Derived.Lib.SplitLaws
import Derived.Lib.CutLaws
import Derived.Lib.CountLaws
import Derived.Lib.IndexLaws
import Derived.Lib.IndexBytes
import Derived.Shelf.Strings.Builder1
import Derived.Shelf.Strings.Builder2
import Derived.Shelf.Strings.OnBuilder
import Derived.Shelf.Small.Wraps
import Derived.Shelf.Utf8.RuneCount
import Derived.Shelf.Strconv.Itoa0
import Derived.Shelf.Strconv.Itoa1
import Derived.Shelf.LaysM
import Derived.Shelf.Strconv.Itoa2
import Derived.Shelf.Strconv.Itoa3
import Derived.Shelf.Strconv.Clone
import Derived.Shelf.Strings.Search1
import Derived.Shelf.Strings.Search2
import Derived.Shelf.Strings.Search3
import Derived.Shelf.Strings.Cut
import Derived.Shelf.Strings.Count
import Derived.Shelf.Strings.Shaped
import Derived.Shelf.Strings.Prefix
import Derived.Shelf.Strings.Split
import Derived.Shelf.Strings.Fields
import Derived.Shelf.Strings.SplitShaped
import Derived.Shelf.Unicode.Latin
import Derived.Shelf.Unicode.Decode
import Derived.Shelf.Strings.RuneCount
import Derived.Shelf.Strings.Explode
import Derived.Shelf.Unicode.DecodeSlow
import Derived.Shelf.Unicode.DecodeAny
import Derived.Shelf.Unicode.Is16White
import Derived.Shelf.Unicode.IsSpaceAny
import Derived.Shelf.Unicode.Is16Any
import Derived.Shelf.Unicode.Is32Any
import Derived.Shelf.Unicode.ExclAny
import Derived.Test.YtjmclcjhimcehaaGreatDoorProg
namespace Go.Proofs.YtjmclcjhimcehaaGreatDoor
open Go Go.RowKit

theorem rise_bd {lo hi : Int} : ∀ (l : List Int) (p : Option Int) (q : Int), (∀ y, p = some y → q ≤ y + 1) → (p = none → q ≤ lo) → lo ≤ q → q ≤ hi + 1 → riseB lo hi p l = true → (∀ x ∈ l, lo ≤ x ∧ x ≤ hi) ∧ (l.length : Int) ≤ hi + 1 - q
  | [], _, q, _, _, _, h4, _ => ⟨fun x hx => by (cases hx), by simp; omega⟩
  | x :: r, p, q, h1, h2, h3, h4, h => by
    unfold riseB at h
    simp only [Bool.and_eq_true, decide_eq_true_eq] at h
    obtain ⟨⟨⟨ha, hb⟩, hc⟩, hd⟩ := h
    have hq : q ≤ x := by
      cases p with
      | none => have := h2 rfl; omega
      | some y => have := h1 y rfl; simp at hc; omega
    have ih := rise_bd r (some x) (x + 1) (fun y hy => by cases hy; omega) (fun hn => by cases hn) (by omega) (by omega) hd
    refine ⟨fun y hy => ?_, ?_⟩
    · rcases List.mem_cons.1 hy with rfl | hy
      · exact ⟨ha, hb⟩
      · exact ih.1 y hy
    · have := ih.2
      simp only [List.length_cons]
      omega
theorem listB_bd {lo hi : Int} {l : List Int} (h0 : 0 ≤ lo) (hh : lo ≤ hi) (h9 : hi ≤ 59) (h : listB lo hi l = true) : (∀ x ∈ l, 0 ≤ x ∧ x < 100) ∧ l.length ≤ 60 := by
  unfold listB at h
  rw [Bool.and_eq_true] at h
  have := rise_bd l none lo (fun y hy => by cases hy) (fun _ => Int.le_refl _) (Int.le_refl _) (by omega) h.2
  exact ⟨fun x hx => by have := this.1 x hx; omega, by have := this.2; omega⟩
theorem showS_size {l : List Int} (z : Int) (h : (∀ x ∈ l, 0 ≤ x ∧ x < 100) ∧ l.length ≤ 60) : (showS l z).size ≤ 180 := by
  unfold showS
  split
  · decide
  · have := showP_size h.1 l.length (Nat.le_refl _)
    omega
/-- A rule in words. -/
def cronS (a b c d e : List Int) : ByteArray := showS a 60 ++ ⟨#[32]⟩ ++ showS b 24 ++ ⟨#[32]⟩ ++ showS c 31 ++ ⟨#[32]⟩ ++ showS d 12 ++ ⟨#[32]⟩ ++ showS e 7
def cronX (a b c d e : List Int) : ByteArray := if cronB a b c d e then cronS a b c d e else ⟨#[]⟩

set_option maxRecDepth 10000 in
set_option maxHeartbeats 2000000 in
theorem cronText_any (va vb vc vd ve : Value) (a b c d e : List Int) (w : World) (h1 : Reads w va a) (h2 : Reads w vb b) (h3 : Reads w vc c) (h4 : Reads w vd d) (h5 : Reads w ve e)
    (n1 : a.length ≤ 1048577) (n2 : b.length ≤ 1048577) (n3 : c.length ≤ 1048577) (n4 : d.length ≤ 1048577) (n5 : e.length ≤ 1048577) :
    Calls Tryz.prog 90 #[.agg #[va, vb, vc, vd, ve]] w fun x w' => x = .returned (.tuple #[.string (cronX a b c d e), .bool (cronB a b c d e)]) ∧ Below w.heap.size w w' := by
  obtain ⟨ao, ac, rfl, _⟩ := id h1
  obtain ⟨bo, bc, rfl, _⟩ := id h2
  obtain ⟨co, cc, rfl, _⟩ := id h3
  obtain ⟨d0, dc, rfl, _⟩ := id h4
  obtain ⟨eo, ec, rfl, _⟩ := id h5
  have HC : Hid (∀ W, Below w.heap.size w W → Calls Tryz.prog 134 #[.agg #[.slice ao a.length ac, .slice bo b.length bc, .slice co c.length cc, .slice d0 d.length dc, .slice eo e.length ec]] W fun x w' => x = .returned (.bool (cronB a b c d e)) ∧ Below W.heap.size W w') := fun W hb => cronOk_any _ _ _ _ _ a b c d e W (h1.below hb) (h2.below hb) (h3.below hb) (h4.below hb) (h5.below hb) n1 n2 n3 n4 n5
  cases hq : cronB a b c d e with
  | false =>
    have HX : Hid (cronX a b c d e = ⟨#[]⟩) := by show _ = _; unfold cronX; rw [hq]; rfl
    rw [hq] at HC
    rw [HX.out]
    clear h1 h2 h3 h4 h5 hq
    generalize a.length = la at *
    generalize b.length = lb at *
    generalize c.length = lc at *
    generalize d.length = ld at *
    generalize e.length = le at *
    go_enter Tryz.func90, Tryz.ntmps90
    go_wp2_with (go_at_call 134; refine (HC.out _ (ba (Below.refl _ _) _)).mono ?_; rintro x w1 ⟨rfl, hb1⟩)
    go_ret2
    exact ⟨rfl, below_new hb1⟩
  | true =>
    have HX : Hid (cronX a b c d e = cronS a b c d e) := by show _ = _; unfold cronX; rw [hq]; rfl
    rw [hq] at HC
    rw [HX.out]
    unfold cronB at hq
    simp only [Bool.and_eq_true] at hq
    obtain ⟨q0, q1, q2, q3, q4⟩ := hq
    have k0 := listB_bd (by decide) (by decide) (by decide) q0
    have y0 := showS_size 60 k0
    have C0 : Hid (∀ W, Below w.heap.size w W → Calls Tryz.prog 135 #[.slice ao a.length ac, .int .i64 60] W fun x w' => x = .returned (.string (showS a 60)) ∧ Below W.heap.size W w') := fun W hb => l10Show_any 60 (h1.below hb) (by omega) k0.1
    have k1 := listB_bd (by decide) (by decide) (by decide) q1
    have y1 := showS_size 24 k1
    have C1 : Hid (∀ W, Below w.heap.size w W → Calls Tryz.prog 135 #[.slice bo b.length bc, .int .i64 24] W fun x w' => x = .returned (.string (showS b 24)) ∧ Below W.heap.size W w') := fun W hb => l10Show_any 24 (h2.below hb) (by omega) k1.1
    have k2 := listB_bd (by decide) (by decide) (by decide) q2
    have y2 := showS_size 31 k2
    have C2 : Hid (∀ W, Below w.heap.size w W → Calls Tryz.prog 135 #[.slice co c.length cc, .int .i64 31] W fun x w' => x = .returned (.string (showS c 31)) ∧ Below W.heap.size W w') := fun W hb => l10Show_any 31 (h3.below hb) (by omega) k2.1
    have k3 := listB_bd (by decide) (by decide) (by decide) q3
    have y3 := showS_size 12 k3
    have C3 : Hid (∀ W, Below w.heap.size w W → Calls Tryz.prog 135 #[.slice d0 d.length dc, .int .i64 12] W fun x w' => x = .returned (.string (showS d 12)) ∧ Below W.heap.size W w') := fun W hb => l10Show_any 12 (h4.below hb) (by omega) k3.1
    have k4 := listB_bd (by decide) (by decide) (by decide) q4
    have y4 := showS_size 7 k4
    have C4 : Hid (∀ W, Below w.heap.size w W → Calls Tryz.prog 135 #[.slice eo e.length ec, .int .i64 7] W fun x w' => x = .returned (.string (showS e 7)) ∧ Below W.heap.size W w') := fun W hb => l10Show_any 7 (h5.below hb) (by omega) k4.1
    unfold cronS
    clear h1 h2 h3 h4 h5 HX q0 q1 q2 q3 q4 k0 k1 k2 k3 k4
    generalize showS a 60 = s0 at *
    generalize showS b 24 = s1 at *
    generalize showS c 31 = s2 at *
    generalize showS d 12 = s3 at *
    generalize showS e 7 = s4 at *
    generalize a.length = la at *
    generalize b.length = lb at *
    generalize c.length = lc at *
    generalize d.length = ld at *
    generalize e.length = le at *
    go_enter Tryz.func90, Tryz.ntmps90
    go_wp2_with fail
    refine (HC.out _ (ba (Below.refl _ _) _)).mono ?_
    rintro x w1 ⟨rfl, hb1⟩
    have Z1 : B5 120 w1 w.heap.size (.slice ao la ac) (.slice bo lb bc) (.slice co lc cc) (.slice d0 ld dc) (.slice eo le ec) := (B5.new 120 w _ _ _ _ _).up hb1
    have B1 : Below w.heap.size w w1 := below_new hb1
    have K0 := Wd.cell Z1.c0
    have K1 := Wd.cell Z1.c1
    have K2 := Wd.cell Z1.c2
    have K3 := Wd.cell Z1.c3
    have K4 := Wd.cell Z1.c4
    clear hb1 Z1 HC
    have one : (ByteArray.mk #[32]).size = 1 := rfl
    have z1 : (s0 ++ ⟨#[32]⟩).size = s0.size + 1 := by rw [ByteArray.size_append, one]
    have v1 : (s0 ++ ⟨#[32]⟩ ++ s1).size = s0.size+s1.size + 1 := by rw [ByteArray.size_append, z1]; omega
    have z2 : (s0 ++ ⟨#[32]⟩ ++ s1 ++ ⟨#[32]⟩).size = s0.size+s1.size + 2 := by rw [ByteArray.size_append, one]; omega
    have v2 : (s0 ++ ⟨#[32]⟩ ++ s1 ++ ⟨#[32]⟩ ++ s2).size = s0.size+s1.size+s2.size + 2 := by rw [ByteArray.size_append, z2]; omega
    have z3 : (s0 ++ ⟨#[32]⟩ ++ s1 ++ ⟨#[32]⟩ ++ s2 ++ ⟨#[32]⟩).size = s0.size+s1.size+s2.size + 3 := by rw [ByteArray.size_append, one]; omega
    have v3 : (s0 ++ ⟨#[32]⟩ ++ s1 ++ ⟨#[32]⟩ ++ s2 ++ ⟨#[32]⟩ ++ s3).size = s0.size+s1.size+s2.size+s3.size + 3 := by rw [ByteArray.size_append, z3]; omega
    have z4 : (s0 ++ ⟨#[32]⟩ ++ s1 ++ ⟨#[32]⟩ ++ s2 ++ ⟨#[32]⟩ ++ s3 ++ ⟨#[32]⟩).size = s0.size+s1.size+s2.size+s3.size + 4 := by rw [ByteArray.size_append, one]; omega
    have v4 : (s0 ++ ⟨#[32]⟩ ++ s1 ++ ⟨#[32]⟩ ++ s2 ++ ⟨#[32]⟩ ++ s3 ++ ⟨#[32]⟩ ++ s4).size = s0.size+s1.size+s2.size+s3.size+s4.size + 4 := by rw [ByteArray.size_append, z4]; omega
    clear one
    go_wp2_with fail
    refine wp_region_wd (by kernel_rfl) (by kernel_rfl) ?_
    repeat (go_big_quiet_step (first | (go_at_call 135; refine calls_wd (v := .string s0) ?_; with_reducible exact C0.out _ (Below.on B1 (Wd.ok _))) | (go_at_call 135; refine calls_wd (v := .string s1) ?_; with_reducible exact C1.out _ (Below.on B1 (Wd.ok _))) | (go_at_call 135; refine calls_wd (v := .string s2) ?_; with_reducible exact C2.out _ (Below.on B1 (Wd.ok _))) | (go_at_call 135; refine calls_wd (v := .string s3) ?_; with_reducible exact C3.out _ (Below.on B1 (Wd.ok _))) | (go_at_call 135; refine calls_wd (v := .string s4) ?_; with_reducible exact C4.out _ (Below.on B1 (Wd.ok _)))))
    refine wpQuiet_nil ?_
    rintro _ ⟨x, rfl⟩
    go_wp2
    go_ret2
    exact ⟨rfl, Below.on B1 x.ok⟩
end Go.Proofs.YtjmclcjhimcehaaGreatDoor

namespace Go.Proofs.YtjmclcjhimcehaaGreatDoor
open Go Go.RowKit

/-- A number in words. -/
def numS (x : Int) : ByteArray := bstr (decI x.toNat)
theorem num_all : ∀ n : Fin 60, bstr (decI n.val) ≠ ⟨#[42]⟩ ∧ (bstr (decI n.val)).size ≤ 2 ∧ splitB (bstr (decI n.val)) 45 = [bstr (decI n.val)] ∧ rd (bstr (decI n.val)) = ((n.val : Int), true) ∧ (∀ b ∈ (bstr (decI n.val)).data.toList, 48 ≤ b.toNat ∧ b.toNat ≤ 57) ∧ (bstr (decI n.val)).data.toList ≠ [] := by decide +kernel
theorem num_is {x : Int} (h0 : 0 ≤ x) (h1 : x < 60) : numS x ≠ ⟨#[42]⟩ ∧ (numS x).size ≤ 2 ∧ splitB (numS x) 45 = [numS x] ∧ rd (numS x) = (x, true) ∧ (∀ b ∈ (numS x).data.toList, 48 ≤ b.toNat ∧ b.toNat ≤ 57) ∧ (numS x).data.toList ≠ [] := by
  have := num_all ⟨x.toNat, by omega⟩
  rw [show ((⟨x.toNat, by omega⟩ : Fin 60).val : Int) = x from Int.toNat_of_nonneg h0] at this
  exact this
theorem piece_num {x lo hi : Int} (h0 : 0 ≤ x) (h1 : x < 60) (hl : lo ≤ x) (hh : x ≤ hi) : piece (numS x) lo hi = (x, x, 1, true) := by
  obtain ⟨h2, h3, h4, h5, _⟩ := num_is h0 h1
  unfold piece
  rw [if_neg h2, if_neg (by omega), h4]
  unfold pieceP
  simp [h5, hl, hh]

theorem byte_left (s t : ByteArray) {i : Nat} (h : i < s.size) : (s ++ t).data[i]? = s.data[i]? := by
  have h' : i < s.data.size := h
  simp [ByteArray.data_append, Array.getElem?_append_left h']
theorem extract_left (s t : ByteArray) {b i : Nat} (h : i ≤ s.size) : (s ++ t).extract b i = s.extract b i := by
  have h' : i ≤ s.data.size := h
  apply ByteArray.ext
  simp [ByteArray.data_extract, ByteArray.data_append]
  omega
theorem cutsN_left (s t : ByteArray) (c : Nat) : ∀ i, i ≤ s.size → cutsN (s ++ t) c i = cutsN s c i
  | 0, _ => rfl
  | i + 1, h => by
    have hs : (s ++ t).size = s.size + t.size := ByteArray.size_append
    unfold cutsN
    rw [cutsN_left s t c i (by omega), byte_left s t (by omega), extract_left s t (by omega)]
    by_cases hc : (s.data[i]?.map fun b => b.toNat) = some c
    · rw [if_pos (.inr hc), if_pos (.inr hc)]
    · rw [if_neg (by rintro (e | e); omega; exact hc e), if_neg (by rintro (e | e); omega; exact hc e)]
/-- No byte of it is c. -/
def free (s : ByteArray) (c : Nat) : Prop := ∀ b ∈ s.data.toList, b.toNat ≠ c
theorem free_at {s : ByteArray} {c : Nat} (h : free s c) (i : Nat) : (s.data[i]?.map fun b => b.toNat) ≠ some c := by
  intro e
  cases hb : s.data[i]? with
  | none => rw [hb] at e; cases e
  | some b =>
    rw [hb] at e
    have : b ∈ s.data.toList := by
      obtain ⟨hi, rfl⟩ := Array.getElem?_eq_some_iff.1 hb
      exact Array.getElem_mem_toList hi
    exact h b this (Option.some.inj e)
theorem split_free {t : ByteArray} {c : Nat} (h : free t c) : splitB t c = [t] := by
  have key : ∀ j, j ≤ t.size → cutsN t c j = ([], 0) := by
    intro j
    induction j with
    | zero => intro _; rfl
    | succ j ih =>
      intro hj
      unfold cutsN
      rw [if_neg (by rintro (e | e); omega; exact free_at h j e)]
      exact ih (by omega)
  unfold splitB
  rw [cutsN, if_pos (.inl rfl), key t.size (Nat.le_refl _)]
  simp
theorem byte_right (s t : ByteArray) (j : Nat) : (s ++ t).data[s.size + j]? = t.data[j]? := by
  have : s.data.size = s.size := rfl
  rw [ByteArray.data_append, Array.getElem?_append_right (by omega)]
  congr 1
  omega
theorem extract_behind {α : Type} (x t : Array α) : (x ++ t).extract x.size (x.size + t.size) = t := by
  simp [Array.extract_append]
theorem split_more {s t : ByteArray} {c : UInt8} (h : free t c.toNat) : splitB (s ++ ⟨#[c]⟩ ++ t) c.toNat = splitB s c.toNat ++ [t] := by
  have hz : (s ++ ⟨#[c]⟩ ++ t).size = s.size + 1 + t.size := by rw [ByteArray.size_append, ByteArray.size_append]; rfl
  have ha : s ++ ⟨#[c]⟩ ++ t = s ++ (⟨#[c]⟩ ++ t) := ByteArray.append_assoc
  have h1 : cutsN (s ++ ⟨#[c]⟩ ++ t) c.toNat (s.size + 1) = cutsN s c.toNat (s.size + 1) := by
    have hb : ((s ++ (⟨#[c]⟩ ++ t)).data[s.size]?.map fun b => b.toNat) = some c.toNat := by
      have := byte_right s (⟨#[c]⟩ ++ t) 0
      rw [Nat.add_zero] at this
      rw [this, byte_left _ _ (by show 0 < 1; omega)]
      rfl
    unfold cutsN
    rw [ha, if_pos (.inr hb), if_pos (.inl rfl), cutsN_left _ _ _ _ (Nat.le_refl _), extract_left _ _ (Nat.le_refl _)]
  have key : ∀ j, j ≤ t.size → cutsN (s ++ ⟨#[c]⟩ ++ t) c.toNat (s.size + 1 + j) = cutsN s c.toNat (s.size + 1) := by
    intro j
    induction j with
    | zero => intro _; exact h1
    | succ j ih =>
      intro hj
      have hb : ((s ++ ⟨#[c]⟩ ++ t).data[s.size + 1 + j]?.map fun b => b.toNat) ≠ some c.toNat := by
        have := byte_right (s ++ ⟨#[c]⟩) t j
        rw [show (s ++ (⟨#[c]⟩ : ByteArray)).size = s.size + 1 by rw [ByteArray.size_append]; rfl] at this
        rw [this]
        exact free_at h j
      rw [show s.size + 1 + (j + 1) = s.size + 1 + j + 1 by omega, cutsN, if_neg (by rintro (e | e); omega; exact hb e)]
      exact ih (by omega)
  have h2 : (cutsN s c.toNat (s.size + 1)).2 = s.size + 1 := by rw [cutsN, if_pos (.inl rfl)]
  unfold splitB
  rw [hz, cutsN, if_pos (.inl hz.symm), key t.size (Nat.le_refl _), h2]
  show _ ++ [_] = _ ++ [_]
  congr 2
  apply ByteArray.ext
  rw [ByteArray.data_extract, ByteArray.data_append]
  have e1 : (s ++ (⟨#[c]⟩ : ByteArray)).data.size = s.size + 1 := by show (s ++ (⟨#[c]⟩ : ByteArray)).size = _; rw [ByteArray.size_append]; rfl
  rw [← e1]
  show ((s ++ (⟨#[c]⟩ : ByteArray)).data ++ t.data).extract (s ++ (⟨#[c]⟩ : ByteArray)).data.size ((s ++ (⟨#[c]⟩ : ByteArray)).data.size + t.data.size) = t.data
  exact extract_behind _ _

/-- The numbers of a list, in words. -/
theorem num_free {x : Int} (h0 : 0 ≤ x) (h1 : x < 60) {c : Nat} (hc : c < 48) : free (numS x) c := fun b hb => by
  have := (num_is h0 h1).2.2.2.2.1 b hb
  omega
theorem split_show {l : List Int} (h : ∀ x ∈ l, 0 ≤ x ∧ x < 60) : ∀ k, k < l.length → splitB (showP l (k + 1)) 44 = (l.take (k + 1)).map numS
  | 0, hk => by
    have hx := h _ (List.getElem_mem hk)
    have hg : l[0]? = some l[0] := List.getElem?_eq_getElem hk
    rw [showP, if_pos rfl, showP, hg]
    show splitB (ByteArray.empty ++ numS l[0]) 44 = _
    rw [ByteArray.empty_append, split_free (num_free hx.1 hx.2 (by decide)), List.take_add_one, hg]
    rfl
  | k + 1, hk => by
    have hx := h _ (List.getElem_mem hk)
    have hg : l[k + 1]? = some l[k + 1] := List.getElem?_eq_getElem hk
    have ih := split_show h k (by omega)
    rw [showP, if_neg (by omega), hg]
    show splitB (showP l (k + 1) ++ ⟨#[44]⟩ ++ numS l[k + 1]) (44 : UInt8).toNat = _
    rw [split_more (num_free hx.1 hx.2 (by decide))]
    show splitB (showP l (k + 1)) 44 ++ _ = _
    rw [ih, List.take_add_one (i := k + 1), hg, List.map_append]
    rfl
/-- Bytes of a list in words: figures and commas. -/
theorem show_bytes {l : List Int} (h : ∀ x ∈ l, 0 ≤ x ∧ x < 60) : ∀ k, k ≤ l.length → ∀ b ∈ (showP l k).data.toList, 44 ≤ b.toNat ∧ b.toNat ≤ 57
  | 0, _, b, hb => by simp [showP] at hb
  | k + 1, hk, b, hb => by
    have hx := h _ (List.getElem_mem (show k < l.length by omega))
    have hg : l[k]? = some l[k] := List.getElem?_eq_getElem (by omega)
    rw [showP, hg, ByteArray.data_append, Array.toList_append, List.mem_append] at hb
    rcases hb with hb | hb
    · split at hb
      · exact show_bytes h k (by omega) b hb
      · rw [ByteArray.data_append, Array.toList_append, List.mem_append] at hb
        rcases hb with hb | hb
        · exact show_bytes h k (by omega) b hb
        · simp at hb; subst hb; decide
    · have := (num_is hx.1 hx.2).2.2.2.2.1 b hb
      omega
theorem show_some {l : List Int} (h : ∀ x ∈ l, 0 ≤ x ∧ x < 60) {k : Nat} (hk : k < l.length) : (showP l (k + 1)).data.toList ≠ [] := by
  have hx := h _ (List.getElem_mem hk)
  have hg : l[k]? = some l[k] := List.getElem?_eq_getElem hk
  rw [showP, hg, ByteArray.data_append, Array.toList_append]
  intro e
  exact (num_is hx.1 hx.2).2.2.2.2.2 (List.append_eq_nil_iff.1 e).2

theorem mem_picks {H : List Bool} {lo x : Int} : ∀ k : Nat, x ∈ picks H lo k ↔ ∃ i : Nat, i < k ∧ x = lo + i ∧ H.getD (lo + i).toNat false = true
  | 0 => ⟨fun h => (by cases h), fun ⟨i, h, _⟩ => by omega⟩
  | k + 1 => by
    rw [picks, List.mem_append, mem_picks k]
    constructor
    · rintro (⟨i, h1, h2⟩ | h)
      · exact ⟨i, by omega, h2⟩
      · split at h
        · rename_i hH
          exact ⟨k, by omega, by simpa using h, hH⟩
        · cases h
    · rintro ⟨i, h1, h2, h3⟩
      by_cases e : i = k
      · subst e
        right
        rw [if_pos h3]
        simp [h2]
      · exact .inl ⟨i, by omega, h2, h3⟩
theorem picks_rise {H : List Bool} {lo : Int} : ∀ k : Nat, (picks H lo k).Pairwise (· < ·)
  | 0 => List.Pairwise.nil
  | k + 1 => by
    rw [picks, List.pairwise_append]
    refine ⟨picks_rise k, by split <;> simp, fun x hx y hy => ?_⟩
    obtain ⟨i, h1, h2, _⟩ := (mem_picks k).1 hx
    split at hy
    · simp at hy; omega
    · cases hy
/-- What flags pick that are set just at the numbers of a list. -/
theorem picks_list {H : List Bool} {lo hi : Int} {l : List Int} (hlh : lo ≤ hi + 1) (hl : ∀ x ∈ l, lo ≤ x ∧ x ≤ hi) (hr : l.Pairwise (· < ·)) (hH : ∀ x, lo ≤ x → x ≤ hi → (H.getD x.toNat false = true ↔ x ∈ l)) : picks H lo (hi - lo + 1).toNat = l := by
  refine rise_ext _ _ (picks_rise _) hr fun x => ?_
  rw [mem_picks]
  constructor
  · rintro ⟨i, h1, rfl, h3⟩
    exact (hH _ (by omega) (by omega)).1 h3
  · intro hx
    have := hl x hx
    refine ⟨(x - lo).toNat, by omega, by omega, ?_⟩
    rw [show lo + ((x - lo).toNat : Int) = x by omega]
    exact (hH x this.1 this.2).2 hx
end Go.Proofs.YtjmclcjhimcehaaGreatDoor

namespace Go.Proofs.YtjmclcjhimcehaaGreatDoor
open Go Go.RowKit
set_option linter.unusedVariables false

theorem cuts_first {x y : ByteArray} {c : UInt8} (h : free x c.toNat) : ∀ i, i ≤ y.size + 1 → cutsN (x ++ ⟨#[c]⟩ ++ y) c.toNat (x.size + 1 + i) = (x :: (cutsN y c.toNat i).1, x.size + 1 + (cutsN y c.toNat i).2)
  | 0, _ => by
    have ha : x ++ ⟨#[c]⟩ ++ y = x ++ (⟨#[c]⟩ ++ y) := ByteArray.append_assoc
    have hb : ((x ++ (⟨#[c]⟩ ++ y)).data[x.size]?.map fun b => b.toNat) = some c.toNat := by
      have := byte_right x (⟨#[c]⟩ ++ y) 0
      rw [Nat.add_zero] at this
      rw [this, byte_left _ _ (by show 0 < 1; omega)]
      rfl
    have key : ∀ j, j ≤ x.size → cutsN x c.toNat j = ([], 0) := by
      intro j
      induction j with
      | zero => intro _; rfl
      | succ j ih =>
        intro hj
        unfold cutsN
        rw [if_neg (by rintro (e | e); omega; exact free_at h j e)]
        exact ih (by omega)
    have e0 : cutsN (x ++ (⟨#[c]⟩ ++ y)) c.toNat (x.size + 1) = ((cutsN (x ++ (⟨#[c]⟩ ++ y)) c.toNat x.size).1 ++ [(x ++ (⟨#[c]⟩ ++ y)).extract (cutsN (x ++ (⟨#[c]⟩ ++ y)) c.toNat x.size).2 x.size], x.size + 1) := by
      rw [cutsN, if_pos (.inr hb)]
    rw [Nat.add_zero, ha, e0, cutsN_left _ _ _ _ (Nat.le_refl _), key x.size (Nat.le_refl _), extract_left _ _ (Nat.le_refl _)]
    simp [cutsN]
  | i + 1, hi => by
    have ih := cuts_first (y := y) h i (by omega)
    have hz : (x ++ ⟨#[c]⟩ ++ y).size = x.size + 1 + y.size := by rw [ByteArray.size_append, ByteArray.size_append]; rfl
    have e1 : (x ++ (⟨#[c]⟩ : ByteArray)).size = x.size + 1 := by rw [ByteArray.size_append]; rfl
    have hbyte : (x ++ ⟨#[c]⟩ ++ y).data[x.size + 1 + i]? = y.data[i]? := by
      have := byte_right (x ++ ⟨#[c]⟩) y i
      rwa [e1] at this
    have hex : ∀ b, (x ++ ⟨#[c]⟩ ++ y).extract (x.size + 1 + b) (x.size + 1 + i) = y.extract b i := by
      intro b
      apply ByteArray.ext
      rw [ByteArray.data_extract, ByteArray.data_extract, ByteArray.data_append]
      have e2 : (x ++ (⟨#[c]⟩ : ByteArray)).data.size = x.size + 1 := e1
      rw [← e2, Array.extract_append]
      simp
    rw [show x.size + 1 + (i + 1) = x.size + 1 + i + 1 by omega, cutsN, ih, hbyte, hex]
    rw [cutsN]
    by_cases hc : i = y.size ∨ (y.data[i]?.map fun b => b.toNat) = some c.toNat
    · rw [if_pos hc, if_pos (by rcases hc with e | e; left; omega; right; exact e)]
      simp
      omega
    · rw [if_neg hc, if_neg (by rintro (e | e); exact hc (.inl (by omega)); exact hc (.inr e))]
theorem split_first {x y : ByteArray} {c : UInt8} (h : free x c.toNat) : splitB (x ++ ⟨#[c]⟩ ++ y) c.toNat = x :: splitB y c.toNat := by
  have hz : (x ++ ⟨#[c]⟩ ++ y).size = x.size + 1 + y.size := by rw [ByteArray.size_append, ByteArray.size_append]; rfl
  unfold splitB
  rw [hz, show x.size + 1 + y.size + 1 = x.size + 1 + (y.size + 1) by omega, cuts_first h (y.size + 1) (Nat.le_refl _)]
/-- A text at its first such byte. -/
theorem first_of (s : ByteArray) (c : UInt8) : (Lib.indexB s ⟨#[c]⟩ = -1 ∧ free s c.toNat) ∨ ∃ i : Nat, Lib.indexB s ⟨#[c]⟩ = i ∧ i < s.size ∧ free (s.extract 0 i) c.toNat ∧ s = s.extract 0 i ++ ⟨#[c]⟩ ++ s.extract (i + 1) s.size := by
  have hix : Lib.indexB s ⟨#[c]⟩ = Lib.indexByte s.data.toList c := Lib.index_one _ _
  rcases Lib.indexB_cases s ⟨#[c]⟩ with h | ⟨i, h, hi⟩
  · left
    refine ⟨h, fun b hb e => ?_⟩
    rw [hix] at h
    obtain ⟨k, hk⟩ := List.getElem?_of_mem hb
    exact Lib.indexByte_none h k (by rw [hk]; congr 1; exact UInt8.toNat_inj.1 e)
  · right
    have hi2 : i + 1 ≤ s.size := hi
    rw [hix] at h
    obtain ⟨h1, h2⟩ := Lib.indexByte_some h
    refine ⟨i, by rw [hix]; exact h, by omega, fun b hb e => ?_, ?_⟩
    · obtain ⟨k, hk⟩ := List.getElem?_of_mem hb
      have hb2 : b = c := UInt8.toNat_inj.1 e
      subst hb2
      rw [ByteArray.data_extract, Array.getElem?_toList, Array.getElem?_extract] at hk
      split at hk
      · rename_i hlt
        refine h2 k (by omega) ?_
        rw [Array.getElem?_toList]
        simpa using hk
      · cases hk
    · apply ByteArray.ext
      apply Array.toList_inj.1
      rw [ByteArray.data_append, ByteArray.data_append, ByteArray.data_extract, ByteArray.data_extract]
      have hsz : s.data.size = s.size := rfl
      obtain ⟨h3, h4⟩ := List.getElem?_eq_some_iff.1 h1
      have e : s.data.toList = s.data.toList.take i ++ (c :: s.data.toList.drop (i + 1)) := by
        conv => lhs; rw [← List.take_append_drop i s.data.toList, List.drop_eq_getElem_cons h3, h4]
      simp only [Array.toList_append, Array.toList_extract]
      rw [show s.size = s.data.toList.length by simp [hsz]]
      simp
      have e5 : List.take (s.size - (i + 1)) (List.drop (i + 1) s.data.toList) = List.drop (i + 1) s.data.toList := List.take_of_length_le (by simp)
      rw [e5]
      exact e
theorem lib_split (c : UInt8) : ∀ (n : Nat) (s : ByteArray), s.size ≤ n → Lib.splitB ⟨#[c]⟩ 0 (Lib.countB s ⟨#[c]⟩) s = splitB s c.toNat
  | n, s, hn => by
    rcases first_of s c with ⟨h, hf⟩ | ⟨i, h, hi, hf, he⟩
    · rw [Lib.splitB_miss _ _ _ _ h, split_free hf]
    · cases n with
      | zero => omega
      | succ n =>
        have h1 : (1 : Nat) ≤ (⟨#[c]⟩ : ByteArray).size := by show 1 ≤ 1; omega
        have hs1 : (⟨#[c]⟩ : ByteArray).size = 1 := rfl
        rw [Lib.countB_hit s _ i h1 h, Nat.add_comm 1, Lib.splitB_hit _ _ _ _ i h, hs1, Nat.add_zero]
        have ih := lib_split c n (s.extract (i + 1) s.size) (by rw [ByteArray.size_extract]; omega)
        rw [ih]
        conv => rhs; rw [he, split_first hf]
end Go.Proofs.YtjmclcjhimcehaaGreatDoor

namespace Go.Proofs
open Go.Shelf
def Tryz.lays156_ren : Go.Shelf.Ren := ⟨fun | 156 => 166 | 165 => 198 | 166 => 199 | 169 => 200 | 240 => 217 | 241 => 218 | 276 => 228 | 277 => 229 | n => n, fun | 31 => 86 | 9 => 9 | 3 => 3 | 4 => 4 | 0 => 0 | 20 => 20 | 72 => 243 | 76 => 247 | 70 => 241 | 37 => 177 | 75 => 246 | 127 => 178 | 164 => 278 | 5 => 5 | 80 => 249 | n => n, fun | n => n⟩
theorem Tryz.lays156 : Go.Proofs.Lays.n156 Tryz.prog Tryz.lays156_ren := {
  mixed := by kernel_rfl
  f156 := Tryz.func166.trans (congrArg some (by kernel_rfl))
  f165 := Tryz.func198.trans (congrArg some (by kernel_rfl))
  f166 := Tryz.func199.trans (congrArg some (by kernel_rfl))
  f169 := Tryz.func200.trans (congrArg some (by kernel_rfl))
  f240 := Tryz.func217.trans (congrArg some (by kernel_rfl))
  f241 := Tryz.func218.trans (congrArg some (by kernel_rfl))
  f276 := Tryz.func228.trans (congrArg some (by kernel_rfl))
  f277 := Tryz.func229.trans (congrArg some (by kernel_rfl))
  t0 := Tryz.underlying0
  a0 := Tryz.isAgg0
  z0 := Tryz.sizeOf0
  v0 := Tryz.zeroValue0
  t3 := Tryz.underlying3
  a3 := Tryz.isAgg3
  z3 := Tryz.sizeOf3
  v3 := Tryz.zeroValue3
  t4 := Tryz.underlying4
  a4 := Tryz.isAgg4
  z4 := Tryz.sizeOf4
  v4 := Tryz.zeroValue4
  t9 := Tryz.underlying9
  a9 := Tryz.isAgg9
  z9 := Tryz.sizeOf9
  v9 := Tryz.zeroValue9
  t20 := Tryz.underlying20
  a20 := Tryz.isAgg20
  z20 := Tryz.sizeOf20
  v20 := Tryz.zeroValue20
  t31 := Tryz.underlying86
  a31 := Tryz.isAgg86
  z31 := Tryz.sizeOf86
  v31 := Tryz.zeroValue86
  t37 := Tryz.underlying177
  a37 := Tryz.isAgg177
  z37 := Tryz.sizeOf177
  v37 := Tryz.zeroValue177
  t70 := Tryz.underlying241
  a70 := Tryz.isAgg241
  z70 := Tryz.sizeOf241
  v70 := Tryz.zeroValue241
  t72 := Tryz.underlying243
  a72 := Tryz.isAgg243
  z72 := Tryz.sizeOf243
  v72 := Tryz.zeroValue243
  t75 := Tryz.underlying246
  a75 := Tryz.isAgg246
  z75 := Tryz.sizeOf246
  v75 := Tryz.zeroValue246
  t76 := Tryz.underlying247
  a76 := Tryz.isAgg247
  z76 := Tryz.sizeOf247
  v76 := Tryz.zeroValue247
  t127 := Tryz.underlying178
  a127 := Tryz.isAgg178
  z127 := Tryz.sizeOf178
  v127 := Tryz.zeroValue178
  t164 := Tryz.underlying278
  a164 := Tryz.isAgg278
  z164 := Tryz.sizeOf278
  v164 := Tryz.zeroValue278 }
theorem Tryz.Builder_Extra_156 : Builder.Extra Tryz.prog Tryz.lays156_ren := {
  sizeBuilder := by kernel_rfl
  liesBuilder := by kernel_rfl
  t5 := Tryz.underlying5
  a5 := Tryz.isAgg5
  z5 := Tryz.sizeOf5
  v5 := Tryz.zeroValue5
  infoByte := by kernel_rfl
  cellsByte := by kernel_rfl
  sizeByte := by kernel_rfl
  neB5 := by decide }
open Go.RowKit in
theorem Tryz.strings_Join_none (a : Option Addr) (c : Nat) (sep : ByteArray) (w : World) :
    Calls Tryz.prog 166 #[.slice a 0 c, .string sep] w fun e w' => e = .returned (.string ⟨#[]⟩) ∧ w' = w := Any.strings_Join_none Tryz.lays156 Tryz.Builder_Extra_156 a c sep w
open Go.RowKit in
theorem Tryz.strings_Join (bk o c : Nat) (xs : List ByteArray) (sep : ByteArray) (w : World) (hcells : ∀ (j : Nat) x, xs[j]? = some x → w.cell? ⟨bk, o + j, none⟩ = some (.string x)) (hbk : bk < w.heap.size) (hN : xs.length ≤ 140737488355328) (hcap : xs.length ≤ c) (hlen : (Lib.join (xs.map (·.data.toList)) sep.data.toList).length ≤ 140737488355328) :
    Calls Tryz.prog 166 #[.slice (some ⟨bk, o, none⟩) xs.length c, .string sep] w fun e w' => e = .returned (.string ⟨(Lib.join (xs.map (·.data.toList)) sep.data.toList).toArray⟩) ∧ Below w.heap.size w w' := Any.strings_Join Tryz.lays156 Tryz.Builder_Extra_156 bk o c xs sep w hcells hbk hN hcap hlen
def Tryz.lays103_ren : Go.Shelf.Ren := ⟨fun | 103 => 212 | 210 => 224 | 206 => 236 | n => n, fun | 9 => 9 | 4 => 4 | 24 => 123 | 3 => 3 | n => n, fun | n => n⟩
theorem Tryz.lays103 : Go.Proofs.Lays.n103 Tryz.prog Tryz.lays103_ren := {
  mixed := by kernel_rfl
  f103 := Tryz.func212.trans (congrArg some (by kernel_rfl))
  f206 := Tryz.func236.trans (congrArg some (by kernel_rfl))
  f210 := Tryz.func224.trans (congrArg some (by kernel_rfl))
  t3 := Tryz.underlying3
  a3 := Tryz.isAgg3
  z3 := Tryz.sizeOf3
  v3 := Tryz.zeroValue3
  t4 := Tryz.underlying4
  a4 := Tryz.isAgg4
  z4 := Tryz.sizeOf4
  v4 := Tryz.zeroValue4
  t9 := Tryz.underlying9
  a9 := Tryz.isAgg9
  z9 := Tryz.sizeOf9
  v9 := Tryz.zeroValue9
  t24 := Tryz.underlying123
  a24 := Tryz.isAgg123
  z24 := Tryz.sizeOf123
  v24 := Tryz.zeroValue123 }
open Go.RowKit in
theorem Tryz.strings_CutPrefix (s p : ByteArray) (w : World) :
    Calls Tryz.prog 212 #[.string s, .string p] w fun e w' => e = .returned (.tuple #[.string ⟨(Lib.trimPrefix s.data.toList p.data.toList).toArray⟩, .bool (Lib.hasPrefix s.data.toList p.data.toList)]) ∧ w' = w := Any.strings_CutPrefix Tryz.lays103 s p w
def Tryz.lays145_ren : Go.Shelf.Ren := ⟨fun | 145 => 214 | 220 => 226 | 219 => 235 | 217 => 239 | 225 => 240 | 224 => 241 | 267 => 242 | 266 => 247 | 314 => 248 | n => n, fun | 9 => 9 | 4 => 4 | 59 => 266 | 3 => 3 | 5 => 5 | 46 => 182 | 146 => 306 | 51 => 224 | n => n, fun | 1 => 3 | n => n⟩
theorem Tryz.lays145 : Go.Proofs.Lays.n145 Tryz.prog Tryz.lays145_ren := {
  mixed := by kernel_rfl
  f145 := Tryz.func214.trans (congrArg some (by kernel_rfl))
  f217 := Tryz.func239.trans (congrArg some (by kernel_rfl))
  f219 := Tryz.func235.trans (congrArg some (by kernel_rfl))
  f220 := Tryz.func226.trans (congrArg some (by kernel_rfl))
  f224 := Tryz.func241.trans (congrArg some (by kernel_rfl))
  f225 := Tryz.func240.trans (congrArg some (by kernel_rfl))
  f266 := Tryz.func247.trans (congrArg some (by kernel_rfl))
  f267 := Tryz.func242.trans (congrArg some (by kernel_rfl))
  f314 := Tryz.func248.trans (congrArg some (by kernel_rfl))
  t3 := Tryz.underlying3
  a3 := Tryz.isAgg3
  z3 := Tryz.sizeOf3
  v3 := Tryz.zeroValue3
  t4 := Tryz.underlying4
  a4 := Tryz.isAgg4
  z4 := Tryz.sizeOf4
  v4 := Tryz.zeroValue4
  t5 := Tryz.underlying5
  a5 := Tryz.isAgg5
  z5 := Tryz.sizeOf5
  v5 := Tryz.zeroValue5
  t9 := Tryz.underlying9
  a9 := Tryz.isAgg9
  z9 := Tryz.sizeOf9
  v9 := Tryz.zeroValue9
  t46 := Tryz.underlying182
  a46 := Tryz.isAgg182
  z46 := Tryz.sizeOf182
  v46 := Tryz.zeroValue182
  t51 := Tryz.underlying224
  a51 := Tryz.isAgg224
  z51 := Tryz.sizeOf224
  v51 := Tryz.zeroValue224
  t59 := Tryz.underlying266
  a59 := Tryz.isAgg266
  z59 := Tryz.sizeOf266
  v59 := Tryz.zeroValue266
  t146 := Tryz.underlying306
  a146 := Tryz.isAgg306
  z146 := Tryz.sizeOf306
  v146 := Tryz.zeroValue306
  g1 := by kernel_rfl }
open Go.RowKit Go.Lib in
theorem Tryz.strings_Cut (s sep : ByteArray) (m : Int) (w : World) (hs : s.size < 4294967281) (hm : w.cell? ⟨3, 0, none⟩ = some (.int .i64 m)) :
    Calls Tryz.prog 214 #[.string s, .string sep] w fun e w' => e = .returned (.tuple #[.string ⟨(Lib.cut s.data.toList sep.data.toList).1.toArray⟩, .string ⟨(Lib.cut s.data.toList sep.data.toList).2.1.toArray⟩, .bool (Lib.cut s.data.toList sep.data.toList).2.2]) ∧ ∃ n, w' = w.drewN n := Any.strings_Cut Tryz.lays145 s sep m w hs hm
def Tryz.lays146_ren : Go.Shelf.Ren := ⟨fun | 146 => 192 | 221 => 211 | 268 => 221 | 138 => 222 | 143 => 223 | 195 => 232 | 197 => 233 | 218 => 234 | 219 => 235 | 260 => 238 | 217 => 239 | 225 => 240 | 224 => 241 | 267 => 242 | 266 => 247 | 314 => 248 | n => n, fun | 9 => 9 | 31 => 86 | 3 => 3 | 4 => 4 | 0 => 0 | 105 => 292 | 21 => 21 | 5 => 5 | 46 => 182 | 119 => 261 | 139 => 305 | 138 => 304 | 146 => 306 | 51 => 224 | n => n, fun | 1 => 3 | 3 => 4 | 4 => 5 | n => n⟩
theorem Tryz.lays146 : Go.Proofs.Lays.n146 Tryz.prog Tryz.lays146_ren := {
  mixed := by kernel_rfl
  f138 := Tryz.func222.trans (congrArg some (by kernel_rfl))
  f143 := Tryz.func223.trans (congrArg some (by kernel_rfl))
  f146 := Tryz.func192.trans (congrArg some (by kernel_rfl))
  f195 := Tryz.func232.trans (congrArg some (by kernel_rfl))
  f197 := Tryz.func233.trans (congrArg some (by kernel_rfl))
  f217 := Tryz.func239.trans (congrArg some (by kernel_rfl))
  f218 := Tryz.func234.trans (congrArg some (by kernel_rfl))
  f219 := Tryz.func235.trans (congrArg some (by kernel_rfl))
  f221 := Tryz.func211.trans (congrArg some (by kernel_rfl))
  f224 := Tryz.func241.trans (congrArg some (by kernel_rfl))
  f225 := Tryz.func240.trans (congrArg some (by kernel_rfl))
  f260 := Tryz.func238.trans (congrArg some (by kernel_rfl))
  f266 := Tryz.func247.trans (congrArg some (by kernel_rfl))
  f267 := Tryz.func242.trans (congrArg some (by kernel_rfl))
  f268 := Tryz.func221.trans (congrArg some (by kernel_rfl))
  f314 := Tryz.func248.trans (congrArg some (by kernel_rfl))
  t0 := Tryz.underlying0
  a0 := Tryz.isAgg0
  z0 := Tryz.sizeOf0
  v0 := Tryz.zeroValue0
  t3 := Tryz.underlying3
  a3 := Tryz.isAgg3
  z3 := Tryz.sizeOf3
  v3 := Tryz.zeroValue3
  t4 := Tryz.underlying4
  a4 := Tryz.isAgg4
  z4 := Tryz.sizeOf4
  v4 := Tryz.zeroValue4
  t5 := Tryz.underlying5
  a5 := Tryz.isAgg5
  z5 := Tryz.sizeOf5
  v5 := Tryz.zeroValue5
  t9 := Tryz.underlying9
  a9 := Tryz.isAgg9
  z9 := Tryz.sizeOf9
  v9 := Tryz.zeroValue9
  t21 := Tryz.underlying21
  a21 := Tryz.isAgg21
  z21 := Tryz.sizeOf21
  v21 := Tryz.zeroValue21
  t31 := Tryz.underlying86
  a31 := Tryz.isAgg86
  z31 := Tryz.sizeOf86
  v31 := Tryz.zeroValue86
  t46 := Tryz.underlying182
  a46 := Tryz.isAgg182
  z46 := Tryz.sizeOf182
  v46 := Tryz.zeroValue182
  t51 := Tryz.underlying224
  a51 := Tryz.isAgg224
  z51 := Tryz.sizeOf224
  v51 := Tryz.zeroValue224
  t105 := Tryz.underlying292
  a105 := Tryz.isAgg292
  z105 := Tryz.sizeOf292
  v105 := Tryz.zeroValue292
  t119 := Tryz.underlying261
  a119 := Tryz.isAgg261
  z119 := Tryz.sizeOf261
  t138 := Tryz.underlying304
  a138 := Tryz.isAgg304
  z138 := Tryz.sizeOf304
  v138 := Tryz.zeroValue304
  t139 := Tryz.underlying305
  a139 := Tryz.isAgg305
  z139 := Tryz.sizeOf305
  v139 := Tryz.zeroValue305
  t146 := Tryz.underlying306
  a146 := Tryz.isAgg306
  z146 := Tryz.sizeOf306
  v146 := Tryz.zeroValue306
  g1 := by kernel_rfl
  g3 := by kernel_rfl
  g4 := by kernel_rfl }
open Go.RowKit Go.Lib in
theorem Tryz.strings_Split (s sep : ByteArray) (m : Int) (w : World) (hs : s.size < 4294967281) (hm : w.cell? ⟨3, 0, none⟩ = some (.int .i64 m)) (h1 : 1 ≤ sep.size) :
    Calls Tryz.prog 192 #[.string s, .string sep] w fun e w' =>
      e = .returned (.slice (some ⟨w.heap.size, 0, none⟩) (Lib.countB s sep + 1) (Lib.countB s sep + 1)) ∧ w' = w.alloc (.cells ((Lib.splitB sep 0 (Lib.countB s sep) s).map Value.string).toArray 9) := Any.strings_Split Tryz.lays146 (by kernel_rfl) s sep m w hs hm h1
end Go.Proofs

namespace Go.Proofs.YtjmclcjhimcehaaGreatDoor
open Go Go.RowKit

theorem getD_set (H : List Bool) (i j : Nat) (hi : i < H.length) : (H.set i true).getD j false = (decide (i = j) || H.getD j false) := by
  rw [List.getD_eq_getElem?_getD, List.getElem?_set, List.getD_eq_getElem?_getD]
  by_cases h : i = j
  · subst h; simp [hi]
  · simp [h]
theorem stamp_getD (H : List Bool) (a x : Nat) : ∀ j, a + j ≤ H.length → (stamp H a 1 j).getD x false = (decide (a ≤ x ∧ x < a + j) || H.getD x false)
  | 0, _ => by rw [stamp, decide_eq_false (by omega)]; rfl
  | j + 1, h => by
    rw [stamp, getD_set _ _ _ (by rw [stamp_length]; omega), stamp_getD H a x j (by omega), ← Bool.or_assoc, ← Bool.decide_or]
    congr 1
    exact decide_eq_decide.2 (by omega)
/-- The flags of a list. -/
def marks (H : List Bool) : List Int → List Bool
  | [] => H
  | x :: r => marks (H.set x.toNat true) r
theorem marks_length : ∀ (l : List Int) (H : List Bool), (marks H l).length = H.length
  | [], _ => rfl
  | x :: r, H => by rw [marks, marks_length r, List.length_set]
theorem marks_getD (x : Nat) : ∀ (l : List Int) (H : List Bool), (∀ y ∈ l, 0 ≤ y ∧ y.toNat < H.length) → (marks H l).getD x false = (decide ((x : Int) ∈ l) || H.getD x false)
  | [], H, _ => by simp [marks]
  | y :: r, H, h => by
    have hy := h y (List.mem_cons_self ..)
    rw [marks, marks_getD x r _ (fun z hz => by rw [List.length_set]; exact h z (List.mem_cons_of_mem _ hz)), getD_set _ _ _ hy.2, ← Bool.or_assoc, ← Bool.decide_or]
    congr 1
    refine decide_eq_decide.2 ?_
    rw [List.mem_cons]
    constructor
    · rintro (e | e)
      · exact .inr e
      · left; omega
    · rintro (e | e)
      · right; omega
      · exact .inl e
theorem fieldGo_nums {lo hi : Int} : ∀ (l : List Int) (H : List Bool), (∀ x ∈ l, lo ≤ x ∧ x ≤ hi ∧ 0 ≤ x ∧ x < 60) → fieldGo lo hi (l.map numS) H = some (marks H l)
  | [], _, _ => rfl
  | x :: r, H, h => by
    have hx := h x (List.mem_cons_self ..)
    rw [List.map_cons, fieldGo, piece_num hx.2.2.1 hx.2.2.2 hx.1 hx.2.1, if_pos rfl, fieldGo_nums r _ (fun y hy => h y (List.mem_cons_of_mem _ hy)), marks]
    congr 2
    show stamp H x.toNat (1 : Int).toNat ((x - x).toNat / (1 : Int).toNat + 1) = _
    rw [Int.sub_self]
    show stamp H x.toNat 1 1 = _
    rw [stamp, stamp]
    congr 1
/-- A list comes back from its words. -/
theorem field_back {lo hi z : Int} {l : List Int} (h0 : 0 ≤ lo) (hh : hi ≤ 59) (hlh : lo ≤ hi) (hz : z = hi - lo + 1) (hB : listB lo hi l = true) : ∃ H, fieldO (showS l z) lo hi = some H ∧ picks H lo (hi - lo + 1).toNat = l := by
  obtain ⟨hl, hr, hn⟩ := listB_up hB
  have h60 : ∀ x ∈ l, 0 ≤ x ∧ x < 60 := fun x hx => by have := hl x hx; omega
  have hrep : ∀ j : Nat, (List.replicate (hi + 1).toNat false).getD j false = false := fun j => by
    rw [List.getD_eq_getElem?_getD, List.getElem?_replicate]; split <;> rfl
  unfold fieldO showS
  by_cases hf : (l.length : Int) = z
  · rw [if_pos hf, split_free (by intro b hb; simp at hb; subst hb; decide), fieldGo]
    have hp : piece ⟨#[42]⟩ lo hi = (lo, hi, 1, true) := by unfold piece; rw [if_pos rfl]
    rw [hp, if_pos rfl, fieldGo]
    refine ⟨_, rfl, picks_list (by omega) hl hr fun x hx0 hx1 => ?_⟩
    show (stamp _ lo.toNat (1 : Int).toNat ((hi - lo).toNat / (1 : Int).toNat + 1)).getD x.toNat false = true ↔ _
    rw [show (1 : Int).toNat = 1 from rfl, Nat.div_one, stamp_getD _ _ _ _ (by rw [List.length_replicate]; omega), hrep, Bool.or_false, decide_eq_true_eq]
    exact ⟨fun _ => full_list hl hr (by omega) hx0 hx1, fun _ => by omega⟩
  · rw [if_neg hf]
    have hs := split_show h60 (l.length - 1) (by omega)
    rw [show l.length - 1 + 1 = l.length by omega, List.take_length] at hs
    rw [hs, fieldGo_nums l _ (fun x hx => ⟨(hl x hx).1, (hl x hx).2, h60 x hx⟩)]
    refine ⟨_, rfl, picks_list (by omega) hl hr fun x hx0 hx1 => ?_⟩
    rw [marks_getD _ l _ (fun y hy => by rw [List.length_replicate]; have := hl y hy; omega), hrep, Bool.or_false, decide_eq_true_eq, Int.toNat_of_nonneg (by omega)]

theorem go_word : ∀ (w cur r : List UInt8), (∀ b ∈ w, Lib.isSp b = false) → cur ++ w ≠ [] → Lib.fieldsGo cur (w ++ 32 :: r) = (cur ++ w) :: Lib.fieldsGo [] r
  | [], cur, r, _, h => by
    rw [List.append_nil] at h
    have : cur.isEmpty = false := by cases cur; exact absurd rfl h; rfl
    simp [Lib.fieldsGo, this, show Lib.isSp 32 = true from by decide]
  | b :: w, cur, r, hw, h => by
    rw [List.cons_append, Lib.fieldsGo, hw b (List.mem_cons_self ..)]
    rw [if_neg (by decide), go_word w (cur ++ [b]) r (fun x hx => hw x (List.mem_cons_of_mem _ hx)) (by simp)]
    simp
theorem go_last : ∀ (w cur : List UInt8), (∀ b ∈ w, Lib.isSp b = false) → cur ++ w ≠ [] → Lib.fieldsGo cur w = [cur ++ w]
  | [], cur, _, h => by
    rw [List.append_nil] at h ⊢
    have : cur.isEmpty = false := by cases cur; exact absurd rfl h; rfl
    simp [Lib.fieldsGo, this]
  | b :: w, cur, hw, h => by
    rw [Lib.fieldsGo, hw b (List.mem_cons_self ..), if_neg (by decide), go_last w (cur ++ [b]) (fun x hx => hw x (List.mem_cons_of_mem _ hx)) (by simp)]
    simp
/-- What a list in words is made of. -/
theorem show_word {lo hi z : Int} {l : List Int} (h0 : 0 ≤ lo) (hh : hi ≤ 59) (hB : listB lo hi l = true) : (∀ b ∈ (showS l z).data.toList, 42 ≤ b.toNat ∧ b.toNat ≤ 57) ∧ (showS l z).data.toList ≠ [] ∧ (showS l z).size ≤ 3 * l.length + 1 := by
  obtain ⟨hl, hr, hn⟩ := listB_up hB
  have h60 : ∀ x ∈ l, 0 ≤ x ∧ x < 60 := fun x hx => by have := hl x hx; omega
  unfold showS
  split
  · refine ⟨fun b hb => by simp at hb; subst hb; decide, by simp, by show 1 ≤ _; omega⟩
  · refine ⟨fun b hb => by have := show_bytes h60 _ (Nat.le_refl _) b hb; omega, ?_, ?_⟩
    · have := show_some h60 (k := l.length - 1) (by omega)
      rwa [show l.length - 1 + 1 = l.length by omega] at this
    · have := showP_size (l := l) (fun x hx => by have := h60 x hx; omega) l.length (Nat.le_refl _)
      omega
theorem back_text (s : ByteArray) : (⟨s.data.toList.toArray⟩ : ByteArray) = s := by cases s; rfl
/-- A right rule comes back from its text. -/
theorem rule_back {a b c d e : List Int} (h : cronB a b c d e = true) : pcO (cronS a b c d e) = some [a, b, c, d, e] := by
  unfold cronB at h
  simp only [Bool.and_eq_true] at h
  obtain ⟨h1, h2, h3, h4, h5⟩ := h
  obtain ⟨b1, s1, z1⟩ := show_word (z := 60) (by decide) (by decide) h1
  obtain ⟨b2, s2, z2⟩ := show_word (z := 24) (by decide) (by decide) h2
  obtain ⟨b3, s3, z3⟩ := show_word (z := 31) (by decide) (by decide) h3
  obtain ⟨b4, s4, z4⟩ := show_word (z := 12) (by decide) (by decide) h4
  obtain ⟨b5, s5, z5⟩ := show_word (z := 7) (by decide) (by decide) h5
  have n1 := list_len h1
  have n2 := list_len h2
  have n3 := list_len h3
  have n4 := list_len h4
  have n5 := list_len h5
  have one : (ByteArray.mk #[32]).size = 1 := rfl
  have hsz : (cronS a b c d e).size ≤ 600 := by
    unfold cronS
    simp only [ByteArray.size_append, one]
    omega
  have hbytes : (cronS a b c d e).data.toList = (showS a 60).data.toList ++ 32 :: ((showS b 24).data.toList ++ 32 :: ((showS c 31).data.toList ++ 32 :: ((showS d 12).data.toList ++ 32 :: (showS e 7).data.toList))) := by
    unfold cronS
    simp [ByteArray.data_append]
  have sp : ∀ {x : ByteArray}, (∀ b ∈ x.data.toList, 42 ≤ b.toNat ∧ b.toNat ≤ 57) → ∀ b ∈ x.data.toList, Lib.isSp b = false := fun hx b hb => by
    have := hx b hb
    rw [isSp_plain (by omega)]
    exact decide_eq_false (by omega)
  have hf : Lib.fields (cronS a b c d e).data.toList = [(showS a 60).data.toList, (showS b 24).data.toList, (showS c 31).data.toList, (showS d 12).data.toList, (showS e 7).data.toList] := by
    rw [hbytes]
    unfold Lib.fields
    rw [go_word _ [] _ (sp b1) (by simpa using s1), go_word _ [] _ (sp b2) (by simpa using s2), go_word _ [] _ (sp b3) (by simpa using s3), go_word _ [] _ (sp b4) (by simpa using s4), go_last _ [] (sp b5) (by simpa using s5)]
    rfl
  have hpl : ∀ x ∈ (cronS a b c d e).data.toList, 32 ≤ x.toNat ∧ x.toNat ≤ 126 := by
    intro x hx
    rw [hbytes] at hx
    simp only [List.mem_append, List.mem_cons] at hx
    rcases hx with h | h | h | h | h | h | h | h | h
    · have := b1 x h; omega
    · subst h; decide
    · have := b2 x h; omega
    · subst h; decide
    · have := b3 x h; omega
    · subst h; decide
    · have := b4 x h; omega
    · subst h; decide
    · have := b5 x h; omega
  have hparts : partsR (cronS a b c d e) = (Lib.fields (cronS a b c d e).data.toList, true) := by
    unfold partsR
    rw [if_neg (by omega), if_pos hpl, if_neg (by rw [hf]; simp)]
  unfold pcO
  rw [hparts, if_pos rfl, hf]
  show pcT [⟨_⟩, ⟨_⟩, ⟨_⟩, ⟨_⟩, ⟨_⟩] = _
  rw [back_text, back_text, back_text, back_text, back_text]
  obtain ⟨H1, e1, p1⟩ := field_back (z := 60) (by decide) (by decide) (by decide) (by decide) h1
  obtain ⟨H2, e2, p2⟩ := field_back (z := 24) (by decide) (by decide) (by decide) (by decide) h2
  obtain ⟨H3, e3, p3⟩ := field_back (z := 31) (by decide) (by decide) (by decide) (by decide) h3
  obtain ⟨H4, e4, p4⟩ := field_back (z := 12) (by decide) (by decide) (by decide) (by decide) h4
  obtain ⟨H5, e5, p5⟩ := field_back (z := 7) (by decide) (by decide) (by decide) (by decide) h5
  unfold pcT fieldL
  simp only []
  rw [e1, e2, e3, e4, e5]
  show some [picks H1 0 _, picks H2 0 _, picks H3 1 _, picks H4 1 _, picks H5 0 _] = _
  rw [p1, p2, p3, p4, p5]
end Go.Proofs.YtjmclcjhimcehaaGreatDoor
