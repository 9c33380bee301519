/-
  A list of a rule in words, as the specification shows it. A rule in words, as the specification writes it. A rule comes back from its text: plain facts.
-/
import Derived.Test.YtgeimliibddhmaaDoorC14
import Derived.Test.YtgeimliibddhmaaDoorCrk
import Derived.Test.YtgeimliibddhmaaDoorNfp
import Derived.Test.YtgeimliibddhmaaDoorFul
namespace Go.Proofs.YtgeimliibddhmaaDoor
open Go Go.RowKit

/-- The first k numbers, with a comma between. -/
def showP (l : List Int) : Nat → ByteArray
  | 0 => ByteArray.empty
  | k + 1 => (if k = 0 then showP l k else showP l k ++ ⟨#[44]⟩) ++ bstr (decI ((l[k]?).getD 0).toNat)
def showS (l : List Int) (n : Int) : ByteArray := if (l.length : Int) = n then ⟨#[42]⟩ else showP l l.length
theorem decI_two {n : Nat} (h : n < 100) : (decI n).length ≤ 2 := by
  by_cases h1 : n < 10
  · rw [decI_one h1]; simp
  · rw [decI_more h1, decI_one (by omega)]; simp
theorem showP_size {l : List Int} (h : ∀ x ∈ l, 0 ≤ x ∧ x < 100) : ∀ k, k ≤ l.length → (showP l k).size ≤ 3 * k
  | 0, _ => by simp [showP]
  | k + 1, hk => by
    have ih := showP_size h k (by omega)
    have hm : l[k] ∈ l := List.getElem_mem _
    have hx := h _ hm
    have h2 : (decI ((l[k]?).getD 0).toNat).length ≤ 2 := by
      rw [List.getElem?_eq_getElem (by omega)]
      exact decI_two (by simp; omega)
    unfold showP
    rw [ByteArray.size_append, bstr_size']
    split
    · omega
    · rw [ByteArray.size_append]
      have : (ByteArray.mk #[44]).size = 1 := rfl
      omega

set_option maxHeartbeats 1000000 in
theorem l10Show_try (ao : Option Addr) (n c : Nat) (l : List Int) (z : Int) (w : World) (hr : Reads w (.slice ao n c) l) (hn : l.length ≤ 1000) (hx : ∀ x ∈ l, 0 ≤ x ∧ x < 100) :
    Calls Tryd.prog 48 #[.slice ao n c, .int .i64 z] w fun e w' => e = .returned (.string (showS l z)) ∧ Below w.heap.size w w' := by
  have HR : Hid (Reads w (.slice ao n c) l) := hr
  have HN : Hid (n = l.length) := hr.len
  have hn1 : n ≤ 1000 := by rw [hr.len]; exact hn
  have HB : Hid (∀ x ∈ l, 0 ≤ x ∧ x < 100) := hx
  clear hr hx hn
  by_cases hz : (n : Int) = z
  · have HF : Hid (showS l z = ⟨#[42]⟩) := by show _ = _; unfold showS; rw [← HN.out, if_pos hz]
    go_enter Tryd.func48, Tryd.ntmps48
    go_wp2
    go_ret
    exact ⟨by rw [HF.out]; rfl, Below.refl _ _⟩
  · have HF : Hid (showS l z = showP l n) := by show _ = _; unfold showS; rw [← HN.out, if_neg hz]
    go_enter Tryd.func48, Tryd.ntmps48
    go_wp2
    rw [beq_eq_false_iff_ne.2 hz]
    go_loopw [5, 6] (fun t i wr => ∃ (k : Nat) (y : ByteArray), k ≤ n ∧ i = .int .i64 k ∧ t = .string y ∧ Hid (showP l k = y) ∧ y.size ≤ 3 * k ∧ Below w.heap.size w wr) (fun _ i _ => n - (intOf i).toNat)
    case atStart => exact ⟨0, ⟨#[]⟩, Nat.zero_le _, rfl, rfl, rfl, Nat.zero_le _, Below.refl _ _⟩
    case round =>
      obtain ⟨k, y, hk, rfl, rfl, HY, hy3, hbel⟩ := hrel
      by_cases hlt : k < n
      · obtain ⟨x, hx⟩ : ∃ x, l[k]? = some x := ⟨_, List.getElem?_eq_getElem (by rw [← HN.out]; exact hlt)⟩
        have hb2 := HB.out x (List.mem_of_getElem? hx)
        have HS : Hid (showP l (k + 1) = (if k = 0 then y else y ++ ⟨#[44]⟩) ++ bstr (decI x.toNat)) := by
          show _ = _
          rw [showP, hx, HY.out]; rfl
        have h2 : (bstr (decI x.toNat)).size ≤ 2 := by rw [bstr_size']; exact decI_two (by omega)
        obtain ⟨u, hu⟩ : ∃ u, bstr (decI x.toNat) = u := ⟨_, rfl⟩
        have CD : Hid (∀ W, Calls Tryd.prog 82 #[.int .i64 x] W fun e w' => e = .returned (.string u) ∧ Below W.heap.size W w') := fun W => by rw [← hu]; exact specDecimal_any x W hb2.1 (by omega)
        rw [hu] at HS h2
        obtain ⟨b, o, rfl, hb, c0⟩ := int_at (HR.out.below hbel) hx
        clear hx hu
        by_cases hk0 : k = 0
        · have HS2 : Hid (showP l (k + 1) = y ++ u) := by show _ = _; have := HS.out; rwa [if_pos hk0] at this
          have hk1 : ¬ (0 : Int) < (k : Int) := by omega
          clear hk0
          go_wp2_with (go_at_call 82; refine (CD.out _).mono ?_; rintro e w1 ⟨rfl, hb1⟩)
          go_roundw
          case rel => exact ⟨k + 1, y ++ u, by omega, by go_num, rfl, HS2, by rw [ByteArray.size_append]; omega, Below.on hbel hb1⟩
          case measure => simp [intOf]; omega
        · have HS2 : Hid (showP l (k + 1) = y ++ ⟨#[44]⟩ ++ u) := by show _ = _; have := HS.out; rwa [if_neg hk0] at this
          have hs1 : (y ++ (⟨#[44]⟩ : ByteArray)).size ≤ 3 * k + 1 := by
            rw [ByteArray.size_append]
            have : (ByteArray.mk #[44]).size = 1 := rfl
            omega
          have hk1 : (0 : Int) < (k : Int) := by omega
          go_wp2_with (go_at_call 82; refine (CD.out _).mono ?_; rintro e w1 ⟨rfl, hb1⟩)
          go_roundw
          case rel => exact ⟨k + 1, y ++ ⟨#[44]⟩ ++ u, by omega, by go_num, rfl, HS2, by rw [ByteArray.size_append]; omega, Below.on hbel hb1⟩
          case measure => simp [intOf]; omega
      · have hkn : k = n := by omega
        subst hkn
        go_wp2
        go_ret
        exact ⟨by rw [HF.out, HY.out]; rfl, hbel⟩
theorem l10Show_any {w : World} {v : Value} {l : List Int} (z : Int) (hr : Reads w v l) (hn : l.length ≤ 1000) (hx : ∀ x ∈ l, 0 ≤ x ∧ x < 100) :
    Calls Tryd.prog 48 #[v, .int .i64 z] w fun e w' => e = .returned (.string (showS l z)) ∧ Below w.heap.size w w' := by
  obtain ⟨ao, c, rfl, _⟩ := id hr
  exact l10Show_try ao _ c l z w hr hn hx
end Go.Proofs.YtgeimliibddhmaaDoor

namespace Go.Proofs.YtgeimliibddhmaaDoor
open Go Go.RowKit

theorem rise_bd {lo hi : Int} : ∀ (l : List Int) (p : Option Int) (q : Int), (∀ y, p = some y → q ≤ y + 1) → (p = none → q ≤ lo) → lo ≤ q → q ≤ hi + 1 → riseB lo hi p l = true → (∀ x ∈ l, lo ≤ x ∧ x ≤ hi) ∧ (l.length : Int) ≤ hi + 1 - q
  | [], _, q, _, _, _, h4, _ => ⟨fun x hx => by (cases hx), by simp; omega⟩
  | x :: r, p, q, h1, h2, h3, h4, h => by
    unfold riseB at h
    simp only [Bool.and_eq_true, decide_eq_true_eq] at h
    obtain ⟨⟨⟨ha, hb⟩, hc⟩, hd⟩ := h
    have hq : q ≤ x := by
      cases p with
      | none => have := h2 rfl; omega
      | some y => have := h1 y rfl; simp at hc; omega
    have ih := rise_bd r (some x) (x + 1) (fun y hy => by cases hy; omega) (fun hn => by cases hn) (by omega) (by omega) hd
    refine ⟨fun y hy => ?_, ?_⟩
    · rcases List.mem_cons.1 hy with rfl | hy
      · exact ⟨ha, hb⟩
      · exact ih.1 y hy
    · have := ih.2
      simp only [List.length_cons]
      omega
theorem listB_bd {lo hi : Int} {l : List Int} (h0 : 0 ≤ lo) (hh : lo ≤ hi) (h9 : hi ≤ 59) (h : listB lo hi l = true) : (∀ x ∈ l, 0 ≤ x ∧ x < 100) ∧ l.length ≤ 60 := by
  unfold listB at h
  rw [Bool.and_eq_true] at h
  have := rise_bd l none lo (fun y hy => by cases hy) (fun _ => Int.le_refl _) (Int.le_refl _) (by omega) h.2
  exact ⟨fun x hx => by have := this.1 x hx; omega, by have := this.2; omega⟩
theorem showS_size {l : List Int} (z : Int) (h : (∀ x ∈ l, 0 ≤ x ∧ x < 100) ∧ l.length ≤ 60) : (showS l z).size ≤ 180 := by
  unfold showS
  split
  · decide
  · have := showP_size h.1 l.length (Nat.le_refl _)
    omega
/-- A rule in words. -/
def cronS (a b c d e : List Int) : ByteArray := showS a 60 ++ ⟨#[32]⟩ ++ showS b 24 ++ ⟨#[32]⟩ ++ showS c 31 ++ ⟨#[32]⟩ ++ showS d 12 ++ ⟨#[32]⟩ ++ showS e 7
def cronX (a b c d e : List Int) : ByteArray := if cronB a b c d e then cronS a b c d e else ⟨#[]⟩

set_option maxRecDepth 10000 in
set_option maxHeartbeats 2000000 in
theorem cronText_any (va vb vc vd ve : Value) (a b c d e : List Int) (w : World) (h1 : Reads w va a) (h2 : Reads w vb b) (h3 : Reads w vc c) (h4 : Reads w vd d) (h5 : Reads w ve e)
    (n1 : a.length ≤ 1048577) (n2 : b.length ≤ 1048577) (n3 : c.length ≤ 1048577) (n4 : d.length ≤ 1048577) (n5 : e.length ≤ 1048577) :
    Calls Tryd.prog 20 #[.agg #[va, vb, vc, vd, ve]] w fun x w' => x = .returned (.tuple #[.string (cronX a b c d e), .bool (cronB a b c d e)]) ∧ Below w.heap.size w w' := by
  obtain ⟨ao, ac, rfl, _⟩ := id h1
  obtain ⟨bo, bc, rfl, _⟩ := id h2
  obtain ⟨co, cc, rfl, _⟩ := id h3
  obtain ⟨d0, dc, rfl, _⟩ := id h4
  obtain ⟨eo, ec, rfl, _⟩ := id h5
  have HC : Hid (∀ W, Below w.heap.size w W → Calls Tryd.prog 21 #[.agg #[.slice ao a.length ac, .slice bo b.length bc, .slice co c.length cc, .slice d0 d.length dc, .slice eo e.length ec]] W fun x w' => x = .returned (.bool (cronB a b c d e)) ∧ Below W.heap.size W w') := fun W hb => cronOk_any _ _ _ _ _ a b c d e W (h1.below hb) (h2.below hb) (h3.below hb) (h4.below hb) (h5.below hb) n1 n2 n3 n4 n5
  cases hq : cronB a b c d e with
  | false =>
    have HX : Hid (cronX a b c d e = ⟨#[]⟩) := by show _ = _; unfold cronX; rw [hq]; rfl
    rw [hq] at HC
    rw [HX.out]
    clear h1 h2 h3 h4 h5 hq
    generalize a.length = la at *
    generalize b.length = lb at *
    generalize c.length = lc at *
    generalize d.length = ld at *
    generalize e.length = le at *
    go_enter Tryd.func20, Tryd.ntmps20
    go_wp2_with (go_at_call 21; refine (HC.out _ (ba (Below.refl _ _) _)).mono ?_; rintro x w1 ⟨rfl, hb1⟩)
    go_ret2
    exact ⟨rfl, below_new hb1⟩
  | true =>
    have HX : Hid (cronX a b c d e = cronS a b c d e) := by show _ = _; unfold cronX; rw [hq]; rfl
    rw [hq] at HC
    rw [HX.out]
    unfold cronB at hq
    simp only [Bool.and_eq_true] at hq
    obtain ⟨q0, q1, q2, q3, q4⟩ := hq
    have k0 := listB_bd (by decide) (by decide) (by decide) q0
    have y0 := showS_size 60 k0
    have C0 : Hid (∀ W, Below w.heap.size w W → Calls Tryd.prog 48 #[.slice ao a.length ac, .int .i64 60] W fun x w' => x = .returned (.string (showS a 60)) ∧ Below W.heap.size W w') := fun W hb => l10Show_any 60 (h1.below hb) (by omega) k0.1
    have k1 := listB_bd (by decide) (by decide) (by decide) q1
    have y1 := showS_size 24 k1
    have C1 : Hid (∀ W, Below w.heap.size w W → Calls Tryd.prog 48 #[.slice bo b.length bc, .int .i64 24] W fun x w' => x = .returned (.string (showS b 24)) ∧ Below W.heap.size W w') := fun W hb => l10Show_any 24 (h2.below hb) (by omega) k1.1
    have k2 := listB_bd (by decide) (by decide) (by decide) q2
    have y2 := showS_size 31 k2
    have C2 : Hid (∀ W, Below w.heap.size w W → Calls Tryd.prog 48 #[.slice co c.length cc, .int .i64 31] W fun x w' => x = .returned (.string (showS c 31)) ∧ Below W.heap.size W w') := fun W hb => l10Show_any 31 (h3.below hb) (by omega) k2.1
    have k3 := listB_bd (by decide) (by decide) (by decide) q3
    have y3 := showS_size 12 k3
    have C3 : Hid (∀ W, Below w.heap.size w W → Calls Tryd.prog 48 #[.slice d0 d.length dc, .int .i64 12] W fun x w' => x = .returned (.string (showS d 12)) ∧ Below W.heap.size W w') := fun W hb => l10Show_any 12 (h4.below hb) (by omega) k3.1
    have k4 := listB_bd (by decide) (by decide) (by decide) q4
    have y4 := showS_size 7 k4
    have C4 : Hid (∀ W, Below w.heap.size w W → Calls Tryd.prog 48 #[.slice eo e.length ec, .int .i64 7] W fun x w' => x = .returned (.string (showS e 7)) ∧ Below W.heap.size W w') := fun W hb => l10Show_any 7 (h5.below hb) (by omega) k4.1
    unfold cronS
    clear h1 h2 h3 h4 h5 HX q0 q1 q2 q3 q4 k0 k1 k2 k3 k4
    generalize showS a 60 = s0 at *
    generalize showS b 24 = s1 at *
    generalize showS c 31 = s2 at *
    generalize showS d 12 = s3 at *
    generalize showS e 7 = s4 at *
    generalize a.length = la at *
    generalize b.length = lb at *
    generalize c.length = lc at *
    generalize d.length = ld at *
    generalize e.length = le at *
    go_enter Tryd.func20, Tryd.ntmps20
    go_wp2_with fail
    refine (HC.out _ (ba (Below.refl _ _) _)).mono ?_
    rintro x w1 ⟨rfl, hb1⟩
    have Z1 : B5 26 w1 w.heap.size (.slice ao la ac) (.slice bo lb bc) (.slice co lc cc) (.slice d0 ld dc) (.slice eo le ec) := (B5.new 26 w _ _ _ _ _).up hb1
    have B1 : Below w.heap.size w w1 := below_new hb1
    have K0 := Wd.cell Z1.c0
    have K1 := Wd.cell Z1.c1
    have K2 := Wd.cell Z1.c2
    have K3 := Wd.cell Z1.c3
    have K4 := Wd.cell Z1.c4
    clear hb1 Z1 HC
    have one : (ByteArray.mk #[32]).size = 1 := rfl
    have z1 : (s0 ++ ⟨#[32]⟩).size = s0.size + 1 := by rw [ByteArray.size_append, one]
    have v1 : (s0 ++ ⟨#[32]⟩ ++ s1).size = s0.size+s1.size + 1 := by rw [ByteArray.size_append, z1]; omega
    have z2 : (s0 ++ ⟨#[32]⟩ ++ s1 ++ ⟨#[32]⟩).size = s0.size+s1.size + 2 := by rw [ByteArray.size_append, one]; omega
    have v2 : (s0 ++ ⟨#[32]⟩ ++ s1 ++ ⟨#[32]⟩ ++ s2).size = s0.size+s1.size+s2.size + 2 := by rw [ByteArray.size_append, z2]; omega
    have z3 : (s0 ++ ⟨#[32]⟩ ++ s1 ++ ⟨#[32]⟩ ++ s2 ++ ⟨#[32]⟩).size = s0.size+s1.size+s2.size + 3 := by rw [ByteArray.size_append, one]; omega
    have v3 : (s0 ++ ⟨#[32]⟩ ++ s1 ++ ⟨#[32]⟩ ++ s2 ++ ⟨#[32]⟩ ++ s3).size = s0.size+s1.size+s2.size+s3.size + 3 := by rw [ByteArray.size_append, z3]; omega
    have z4 : (s0 ++ ⟨#[32]⟩ ++ s1 ++ ⟨#[32]⟩ ++ s2 ++ ⟨#[32]⟩ ++ s3 ++ ⟨#[32]⟩).size = s0.size+s1.size+s2.size+s3.size + 4 := by rw [ByteArray.size_append, one]; omega
    have v4 : (s0 ++ ⟨#[32]⟩ ++ s1 ++ ⟨#[32]⟩ ++ s2 ++ ⟨#[32]⟩ ++ s3 ++ ⟨#[32]⟩ ++ s4).size = s0.size+s1.size+s2.size+s3.size+s4.size + 4 := by rw [ByteArray.size_append, z4]; omega
    clear one
    go_wp2_with fail
    refine wp_region_wd (by kernel_rfl) (by kernel_rfl) ?_
    repeat (go_big_quiet_step (first | (go_at_call 48; refine calls_wd (v := .string s0) ?_; with_reducible exact C0.out _ (Below.on B1 (Wd.ok _))) | (go_at_call 48; refine calls_wd (v := .string s1) ?_; with_reducible exact C1.out _ (Below.on B1 (Wd.ok _))) | (go_at_call 48; refine calls_wd (v := .string s2) ?_; with_reducible exact C2.out _ (Below.on B1 (Wd.ok _))) | (go_at_call 48; refine calls_wd (v := .string s3) ?_; with_reducible exact C3.out _ (Below.on B1 (Wd.ok _))) | (go_at_call 48; refine calls_wd (v := .string s4) ?_; with_reducible exact C4.out _ (Below.on B1 (Wd.ok _)))))
    refine wpQuiet_nil ?_
    rintro _ ⟨x, rfl⟩
    go_wp2
    go_ret2
    exact ⟨rfl, Below.on B1 x.ok⟩
end Go.Proofs.YtgeimliibddhmaaDoor

namespace Go.Proofs.YtgeimliibddhmaaDoor
open Go Go.RowKit

/-- A number in words. -/
def numS (x : Int) : ByteArray := bstr (decI x.toNat)
theorem num_all : ∀ n : Fin 60, bstr (decI n.val) ≠ ⟨#[42]⟩ ∧ (bstr (decI n.val)).size ≤ 2 ∧ splitB (bstr (decI n.val)) 45 = [bstr (decI n.val)] ∧ rd (bstr (decI n.val)) = ((n.val : Int), true) ∧ (∀ b ∈ (bstr (decI n.val)).data.toList, 48 ≤ b.toNat ∧ b.toNat ≤ 57) ∧ (bstr (decI n.val)).data.toList ≠ [] := by decide +kernel
theorem num_is {x : Int} (h0 : 0 ≤ x) (h1 : x < 60) : numS x ≠ ⟨#[42]⟩ ∧ (numS x).size ≤ 2 ∧ splitB (numS x) 45 = [numS x] ∧ rd (numS x) = (x, true) ∧ (∀ b ∈ (numS x).data.toList, 48 ≤ b.toNat ∧ b.toNat ≤ 57) ∧ (numS x).data.toList ≠ [] := by
  have := num_all ⟨x.toNat, by omega⟩
  rw [show ((⟨x.toNat, by omega⟩ : Fin 60).val : Int) = x from Int.toNat_of_nonneg h0] at this
  exact this
theorem piece_num {x lo hi : Int} (h0 : 0 ≤ x) (h1 : x < 60) (hl : lo ≤ x) (hh : x ≤ hi) : piece (numS x) lo hi = (x, x, 1, true) := by
  obtain ⟨h2, h3, h4, h5, _⟩ := num_is h0 h1
  unfold piece
  rw [if_neg h2, if_neg (by omega), h4]
  unfold pieceP
  simp [h5, hl, hh]

theorem byte_left (s t : ByteArray) {i : Nat} (h : i < s.size) : (s ++ t).data[i]? = s.data[i]? := by
  have h' : i < s.data.size := h
  simp [ByteArray.data_append, Array.getElem?_append_left h']
theorem extract_left (s t : ByteArray) {b i : Nat} (h : i ≤ s.size) : (s ++ t).extract b i = s.extract b i := by
  have h' : i ≤ s.data.size := h
  apply ByteArray.ext
  simp [ByteArray.data_extract, ByteArray.data_append]
  omega
theorem cutsN_left (s t : ByteArray) (c : Nat) : ∀ i, i ≤ s.size → cutsN (s ++ t) c i = cutsN s c i
  | 0, _ => rfl
  | i + 1, h => by
    have hs : (s ++ t).size = s.size + t.size := ByteArray.size_append
    unfold cutsN
    rw [cutsN_left s t c i (by omega), byte_left s t (by omega), extract_left s t (by omega)]
    by_cases hc : (s.data[i]?.map fun b => b.toNat) = some c
    · rw [if_pos (.inr hc), if_pos (.inr hc)]
    · rw [if_neg (by rintro (e | e); omega; exact hc e), if_neg (by rintro (e | e); omega; exact hc e)]
/-- No byte of it is c. -/
def free (s : ByteArray) (c : Nat) : Prop := ∀ b ∈ s.data.toList, b.toNat ≠ c
theorem free_at {s : ByteArray} {c : Nat} (h : free s c) (i : Nat) : (s.data[i]?.map fun b => b.toNat) ≠ some c := by
  intro e
  cases hb : s.data[i]? with
  | none => rw [hb] at e; cases e
  | some b =>
    rw [hb] at e
    have : b ∈ s.data.toList := by
      obtain ⟨hi, rfl⟩ := Array.getElem?_eq_some_iff.1 hb
      exact Array.getElem_mem_toList hi
    exact h b this (Option.some.inj e)
theorem split_free {t : ByteArray} {c : Nat} (h : free t c) : splitB t c = [t] := by
  have key : ∀ j, j ≤ t.size → cutsN t c j = ([], 0) := by
    intro j
    induction j with
    | zero => intro _; rfl
    | succ j ih =>
      intro hj
      unfold cutsN
      rw [if_neg (by rintro (e | e); omega; exact free_at h j e)]
      exact ih (by omega)
  unfold splitB
  rw [cutsN, if_pos (.inl rfl), key t.size (Nat.le_refl _)]
  simp
theorem byte_right (s t : ByteArray) (j : Nat) : (s ++ t).data[s.size + j]? = t.data[j]? := by
  have : s.data.size = s.size := rfl
  rw [ByteArray.data_append, Array.getElem?_append_right (by omega)]
  congr 1
  omega
theorem extract_behind {α : Type} (x t : Array α) : (x ++ t).extract x.size (x.size + t.size) = t := by
  simp [Array.extract_append]
theorem split_more {s t : ByteArray} {c : UInt8} (h : free t c.toNat) : splitB (s ++ ⟨#[c]⟩ ++ t) c.toNat = splitB s c.toNat ++ [t] := by
  have hz : (s ++ ⟨#[c]⟩ ++ t).size = s.size + 1 + t.size := by rw [ByteArray.size_append, ByteArray.size_append]; rfl
  have ha : s ++ ⟨#[c]⟩ ++ t = s ++ (⟨#[c]⟩ ++ t) := ByteArray.append_assoc
  have h1 : cutsN (s ++ ⟨#[c]⟩ ++ t) c.toNat (s.size + 1) = cutsN s c.toNat (s.size + 1) := by
    have hb : ((s ++ (⟨#[c]⟩ ++ t)).data[s.size]?.map fun b => b.toNat) = some c.toNat := by
      have := byte_right s (⟨#[c]⟩ ++ t) 0
      rw [Nat.add_zero] at this
      rw [this, byte_left _ _ (by show 0 < 1; omega)]
      rfl
    unfold cutsN
    rw [ha, if_pos (.inr hb), if_pos (.inl rfl), cutsN_left _ _ _ _ (Nat.le_refl _), extract_left _ _ (Nat.le_refl _)]
  have key : ∀ j, j ≤ t.size → cutsN (s ++ ⟨#[c]⟩ ++ t) c.toNat (s.size + 1 + j) = cutsN s c.toNat (s.size + 1) := by
    intro j
    induction j with
    | zero => intro _; exact h1
    | succ j ih =>
      intro hj
      have hb : ((s ++ ⟨#[c]⟩ ++ t).data[s.size + 1 + j]?.map fun b => b.toNat) ≠ some c.toNat := by
        have := byte_right (s ++ ⟨#[c]⟩) t j
        rw [show (s ++ (⟨#[c]⟩ : ByteArray)).size = s.size + 1 by rw [ByteArray.size_append]; rfl] at this
        rw [this]
        exact free_at h j
      rw [show s.size + 1 + (j + 1) = s.size + 1 + j + 1 by omega, cutsN, if_neg (by rintro (e | e); omega; exact hb e)]
      exact ih (by omega)
  have h2 : (cutsN s c.toNat (s.size + 1)).2 = s.size + 1 := by rw [cutsN, if_pos (.inl rfl)]
  unfold splitB
  rw [hz, cutsN, if_pos (.inl hz.symm), key t.size (Nat.le_refl _), h2]
  show _ ++ [_] = _ ++ [_]
  congr 2
  apply ByteArray.ext
  rw [ByteArray.data_extract, ByteArray.data_append]
  have e1 : (s ++ (⟨#[c]⟩ : ByteArray)).data.size = s.size + 1 := by show (s ++ (⟨#[c]⟩ : ByteArray)).size = _; rw [ByteArray.size_append]; rfl
  rw [← e1]
  show ((s ++ (⟨#[c]⟩ : ByteArray)).data ++ t.data).extract (s ++ (⟨#[c]⟩ : ByteArray)).data.size ((s ++ (⟨#[c]⟩ : ByteArray)).data.size + t.data.size) = t.data
  exact extract_behind _ _

/-- The numbers of a list, in words. -/
theorem num_free {x : Int} (h0 : 0 ≤ x) (h1 : x < 60) {c : Nat} (hc : c < 48) : free (numS x) c := fun b hb => by
  have := (num_is h0 h1).2.2.2.2.1 b hb
  omega
theorem split_show {l : List Int} (h : ∀ x ∈ l, 0 ≤ x ∧ x < 60) : ∀ k, k < l.length → splitB (showP l (k + 1)) 44 = (l.take (k + 1)).map numS
  | 0, hk => by
    have hx := h _ (List.getElem_mem hk)
    have hg : l[0]? = some l[0] := List.getElem?_eq_getElem hk
    rw [showP, if_pos rfl, showP, hg]
    show splitB (ByteArray.empty ++ numS l[0]) 44 = _
    rw [ByteArray.empty_append, split_free (num_free hx.1 hx.2 (by decide)), List.take_add_one, hg]
    rfl
  | k + 1, hk => by
    have hx := h _ (List.getElem_mem hk)
    have hg : l[k + 1]? = some l[k + 1] := List.getElem?_eq_getElem hk
    have ih := split_show h k (by omega)
    rw [showP, if_neg (by omega), hg]
    show splitB (showP l (k + 1) ++ ⟨#[44]⟩ ++ numS l[k + 1]) (44 : UInt8).toNat = _
    rw [split_more (num_free hx.1 hx.2 (by decide))]
    show splitB (showP l (k + 1)) 44 ++ _ = _
    rw [ih, List.take_add_one (i := k + 1), hg, List.map_append]
    rfl
/-- Bytes of a list in words: figures and commas. -/
theorem show_bytes {l : List Int} (h : ∀ x ∈ l, 0 ≤ x ∧ x < 60) : ∀ k, k ≤ l.length → ∀ b ∈ (showP l k).data.toList, 44 ≤ b.toNat ∧ b.toNat ≤ 57
  | 0, _, b, hb => by simp [showP] at hb
  | k + 1, hk, b, hb => by
    have hx := h _ (List.getElem_mem (show k < l.length by omega))
    have hg : l[k]? = some l[k] := List.getElem?_eq_getElem (by omega)
    rw [showP, hg, ByteArray.data_append, Array.toList_append, List.mem_append] at hb
    rcases hb with hb | hb
    · split at hb
      · exact show_bytes h k (by omega) b hb
      · rw [ByteArray.data_append, Array.toList_append, List.mem_append] at hb
        rcases hb with hb | hb
        · exact show_bytes h k (by omega) b hb
        · simp at hb; subst hb; decide
    · have := (num_is hx.1 hx.2).2.2.2.2.1 b hb
      omega
theorem show_some {l : List Int} (h : ∀ x ∈ l, 0 ≤ x ∧ x < 60) {k : Nat} (hk : k < l.length) : (showP l (k + 1)).data.toList ≠ [] := by
  have hx := h _ (List.getElem_mem hk)
  have hg : l[k]? = some l[k] := List.getElem?_eq_getElem hk
  rw [showP, hg, ByteArray.data_append, Array.toList_append]
  intro e
  exact (num_is hx.1 hx.2).2.2.2.2.2 (List.append_eq_nil_iff.1 e).2

theorem mem_picks {H : List Bool} {lo x : Int} : ∀ k : Nat, x ∈ picks H lo k ↔ ∃ i : Nat, i < k ∧ x = lo + i ∧ H.getD (lo + i).toNat false = true
  | 0 => ⟨fun h => (by cases h), fun ⟨i, h, _⟩ => by omega⟩
  | k + 1 => by
    rw [picks, List.mem_append, mem_picks k]
    constructor
    · rintro (⟨i, h1, h2⟩ | h)
      · exact ⟨i, by omega, h2⟩
      · split at h
        · rename_i hH
          exact ⟨k, by omega, by simpa using h, hH⟩
        · cases h
    · rintro ⟨i, h1, h2, h3⟩
      by_cases e : i = k
      · subst e
        right
        rw [if_pos h3]
        simp [h2]
      · exact .inl ⟨i, by omega, h2, h3⟩
theorem picks_rise {H : List Bool} {lo : Int} : ∀ k : Nat, (picks H lo k).Pairwise (· < ·)
  | 0 => List.Pairwise.nil
  | k + 1 => by
    rw [picks, List.pairwise_append]
    refine ⟨picks_rise k, by split <;> simp, fun x hx y hy => ?_⟩
    obtain ⟨i, h1, h2, _⟩ := (mem_picks k).1 hx
    split at hy
    · simp at hy; omega
    · cases hy
/-- What flags pick that are set just at the numbers of a list. -/
theorem picks_list {H : List Bool} {lo hi : Int} {l : List Int} (hlh : lo ≤ hi + 1) (hl : ∀ x ∈ l, lo ≤ x ∧ x ≤ hi) (hr : l.Pairwise (· < ·)) (hH : ∀ x, lo ≤ x → x ≤ hi → (H.getD x.toNat false = true ↔ x ∈ l)) : picks H lo (hi - lo + 1).toNat = l := by
  refine rise_ext _ _ (picks_rise _) hr fun x => ?_
  rw [mem_picks]
  constructor
  · rintro ⟨i, h1, rfl, h3⟩
    exact (hH _ (by omega) (by omega)).1 h3
  · intro hx
    have := hl x hx
    refine ⟨(x - lo).toNat, by omega, by omega, ?_⟩
    rw [show lo + ((x - lo).toNat : Int) = x by omega]
    exact (hH x this.1 this.2).2 hx
end Go.Proofs.YtgeimliibddhmaaDoor
