/-
  A list of a rule in words, as the specification shows it. A rule in words, as the specification writes it. A rule comes back from its text: plain facts. Texts split and cut at a byte: what the library's words come to. Plain facts. Contracts of the library, proved once there, laid at this program by the kit (its plain words). A rule comes back from its text, whole: plain facts. A piece of a field, as the program reads it: plain facts and the walk. A field as the program reads it: plain facts. A field as the program reads it: the walk.
-/
import Derived.Test.YtgeimliibddhmaaDoorPc
import Derived.Test.YtgeimliibddhmaaDoorCrk
import Derived.Test.YtgeimliibddhmaaDoorNfp
import Derived.Test.YtgeimliibddhmaaDoorFul
import Derived.Lib.SplitLaws
import Derived.Lib.CutLaws
import Derived.Lib.CountLaws
import Derived.Lib.IndexLaws
import Derived.Lib.IndexBytes
import Derived.Shelf.Strings.Builder1
import Derived.Shelf.Strings.Builder2
import Derived.Shelf.Strings.OnBuilder
import Derived.Shelf.Small.Wraps
import Derived.Shelf.Utf8.RuneCount
import Derived.Shelf.Strconv.Itoa0
import Derived.Shelf.Strconv.Itoa1
import Derived.Shelf.LaysM
import Derived.Shelf.Strconv.Itoa2
import Derived.Shelf.Strconv.Itoa3
import Derived.Shelf.Strconv.Clone
import Derived.Shelf.Strings.Search1
import Derived.Shelf.Strings.Search2
import Derived.Shelf.Strings.Search3
import Derived.Shelf.Strings.Cut
import Derived.Shelf.Strings.Count
import Derived.Shelf.Strings.Shaped
import Derived.Shelf.Strings.Prefix
import Derived.Shelf.Strings.Split
import Derived.Shelf.Strings.Fields
import Derived.Shelf.Strings.SplitShaped
import Derived.Shelf.Unicode.Latin
import Derived.Shelf.Unicode.Decode
import Derived.Shelf.Strings.RuneCount
import Derived.Shelf.Strings.Explode
import Derived.Shelf.Unicode.DecodeSlow
import Derived.Shelf.Unicode.DecodeAny
import Derived.Shelf.Unicode.Is16White
import Derived.Shelf.Unicode.IsSpaceAny
import Derived.Shelf.Unicode.Is16Any
import Derived.Shelf.Unicode.Is32Any
import Derived.Shelf.Unicode.ExclAny
import Derived.Test.YtgeimliibddhmaaDoorProg
import Derived.Test.YtgeimliibddhmaaDoorRn
import Derived.Test.YtgeimliibddhmaaDoorNum
namespace Go.Proofs.YtgeimliibddhmaaDoor
open Go Go.RowKit

/-- The first k numbers, with a comma between. -/
def showP (l : List Int) : Nat → ByteArray
  | 0 => ByteArray.empty
  | k + 1 => (if k = 0 then showP l k else showP l k ++ ⟨#[44]⟩) ++ bstr (decI ((l[k]?).getD 0).toNat)
def showS (l : List Int) (n : Int) : ByteArray := if (l.length : Int) = n then ⟨#[42]⟩ else showP l l.length
theorem decI_two {n : Nat} (h : n < 100) : (decI n).length ≤ 2 := by
  by_cases h1 : n < 10
  · rw [decI_one h1]; simp
  · rw [decI_more h1, decI_one (by omega)]; simp
theorem showP_size {l : List Int} (h : ∀ x ∈ l, 0 ≤ x ∧ x < 100) : ∀ k, k ≤ l.length → (showP l k).size ≤ 3 * k
  | 0, _ => by simp [showP]
  | k + 1, hk => by
    have ih := showP_size h k (by omega)
    have hm : l[k] ∈ l := List.getElem_mem _
    have hx := h _ hm
    have h2 : (decI ((l[k]?).getD 0).toNat).length ≤ 2 := by
      rw [List.getElem?_eq_getElem (by omega)]
      exact decI_two (by simp; omega)
    unfold showP
    rw [ByteArray.size_append, bstr_size']
    split
    · omega
    · rw [ByteArray.size_append]
      have : (ByteArray.mk #[44]).size = 1 := rfl
      omega

set_option maxHeartbeats 1000000 in
theorem l10Show_try (ao : Option Addr) (n c : Nat) (l : List Int) (z : Int) (w : World) (hr : Reads w (.slice ao n c) l) (hn : l.length ≤ 1000) (hx : ∀ x ∈ l, 0 ≤ x ∧ x < 100) :
    Calls Tryd.prog 48 #[.slice ao n c, .int .i64 z] w fun e w' => e = .returned (.string (showS l z)) ∧ Below w.heap.size w w' := by
  have HR : Hid (Reads w (.slice ao n c) l) := hr
  have HN : Hid (n = l.length) := hr.len
  have hn1 : n ≤ 1000 := by rw [hr.len]; exact hn
  have HB : Hid (∀ x ∈ l, 0 ≤ x ∧ x < 100) := hx
  clear hr hx hn
  by_cases hz : (n : Int) = z
  · have HF : Hid (showS l z = ⟨#[42]⟩) := by show _ = _; unfold showS; rw [← HN.out, if_pos hz]
    go_enter Tryd.func48, Tryd.ntmps48
    go_wp2
    go_ret
    exact ⟨by rw [HF.out]; rfl, Below.refl _ _⟩
  · have HF : Hid (showS l z = showP l n) := by show _ = _; unfold showS; rw [← HN.out, if_neg hz]
    go_enter Tryd.func48, Tryd.ntmps48
    go_wp2
    rw [beq_eq_false_iff_ne.2 hz]
    go_loopw [5, 6] (fun t i wr => ∃ (k : Nat) (y : ByteArray), k ≤ n ∧ i = .int .i64 k ∧ t = .string y ∧ Hid (showP l k = y) ∧ y.size ≤ 3 * k ∧ Below w.heap.size w wr) (fun _ i _ => n - (intOf i).toNat)
    case atStart => exact ⟨0, ⟨#[]⟩, Nat.zero_le _, rfl, rfl, rfl, Nat.zero_le _, Below.refl _ _⟩
    case round =>
      obtain ⟨k, y, hk, rfl, rfl, HY, hy3, hbel⟩ := hrel
      by_cases hlt : k < n
      · obtain ⟨x, hx⟩ : ∃ x, l[k]? = some x := ⟨_, List.getElem?_eq_getElem (by rw [← HN.out]; exact hlt)⟩
        have hb2 := HB.out x (List.mem_of_getElem? hx)
        have HS : Hid (showP l (k + 1) = (if k = 0 then y else y ++ ⟨#[44]⟩) ++ bstr (decI x.toNat)) := by
          show _ = _
          rw [showP, hx, HY.out]; rfl
        have h2 : (bstr (decI x.toNat)).size ≤ 2 := by rw [bstr_size']; exact decI_two (by omega)
        obtain ⟨u, hu⟩ : ∃ u, bstr (decI x.toNat) = u := ⟨_, rfl⟩
        have CD : Hid (∀ W, Calls Tryd.prog 82 #[.int .i64 x] W fun e w' => e = .returned (.string u) ∧ Below W.heap.size W w') := fun W => by rw [← hu]; exact specDecimal_any x W hb2.1 (by omega)
        rw [hu] at HS h2
        obtain ⟨b, o, rfl, hb, c0⟩ := int_at (HR.out.below hbel) hx
        clear hx hu
        by_cases hk0 : k = 0
        · have HS2 : Hid (showP l (k + 1) = y ++ u) := by show _ = _; have := HS.out; rwa [if_pos hk0] at this
          have hk1 : ¬ (0 : Int) < (k : Int) := by omega
          clear hk0
          go_wp2_with (go_at_call 82; refine (CD.out _).mono ?_; rintro e w1 ⟨rfl, hb1⟩)
          go_roundw
          case rel => exact ⟨k + 1, y ++ u, by omega, by go_num, rfl, HS2, by rw [ByteArray.size_append]; omega, Below.on hbel hb1⟩
          case measure => simp [intOf]; omega
        · have HS2 : Hid (showP l (k + 1) = y ++ ⟨#[44]⟩ ++ u) := by show _ = _; have := HS.out; rwa [if_neg hk0] at this
          have hs1 : (y ++ (⟨#[44]⟩ : ByteArray)).size ≤ 3 * k + 1 := by
            rw [ByteArray.size_append]
            have : (ByteArray.mk #[44]).size = 1 := rfl
            omega
          have hk1 : (0 : Int) < (k : Int) := by omega
          go_wp2_with (go_at_call 82; refine (CD.out _).mono ?_; rintro e w1 ⟨rfl, hb1⟩)
          go_roundw
          case rel => exact ⟨k + 1, y ++ ⟨#[44]⟩ ++ u, by omega, by go_num, rfl, HS2, by rw [ByteArray.size_append]; omega, Below.on hbel hb1⟩
          case measure => simp [intOf]; omega
      · have hkn : k = n := by omega
        subst hkn
        go_wp2
        go_ret
        exact ⟨by rw [HF.out, HY.out]; rfl, hbel⟩
theorem l10Show_any {w : World} {v : Value} {l : List Int} (z : Int) (hr : Reads w v l) (hn : l.length ≤ 1000) (hx : ∀ x ∈ l, 0 ≤ x ∧ x < 100) :
    Calls Tryd.prog 48 #[v, .int .i64 z] w fun e w' => e = .returned (.string (showS l z)) ∧ Below w.heap.size w w' := by
  obtain ⟨ao, c, rfl, _⟩ := id hr
  exact l10Show_try ao _ c l z w hr hn hx
end Go.Proofs.YtgeimliibddhmaaDoor

namespace Go.Proofs.YtgeimliibddhmaaDoor
open Go Go.RowKit

theorem rise_bd {lo hi : Int} : ∀ (l : List Int) (p : Option Int) (q : Int), (∀ y, p = some y → q ≤ y + 1) → (p = none → q ≤ lo) → lo ≤ q → q ≤ hi + 1 → riseB lo hi p l = true → (∀ x ∈ l, lo ≤ x ∧ x ≤ hi) ∧ (l.length : Int) ≤ hi + 1 - q
  | [], _, q, _, _, _, h4, _ => ⟨fun x hx => by (cases hx), by simp; omega⟩
  | x :: r, p, q, h1, h2, h3, h4, h => by
    unfold riseB at h
    simp only [Bool.and_eq_true, decide_eq_true_eq] at h
    obtain ⟨⟨⟨ha, hb⟩, hc⟩, hd⟩ := h
    have hq : q ≤ x := by
      cases p with
      | none => have := h2 rfl; omega
      | some y => have := h1 y rfl; simp at hc; omega
    have ih := rise_bd r (some x) (x + 1) (fun y hy => by cases hy; omega) (fun hn => by cases hn) (by omega) (by omega) hd
    refine ⟨fun y hy => ?_, ?_⟩
    · rcases List.mem_cons.1 hy with rfl | hy
      · exact ⟨ha, hb⟩
      · exact ih.1 y hy
    · have := ih.2
      simp only [List.length_cons]
      omega
theorem listB_bd {lo hi : Int} {l : List Int} (h0 : 0 ≤ lo) (hh : lo ≤ hi) (h9 : hi ≤ 59) (h : listB lo hi l = true) : (∀ x ∈ l, 0 ≤ x ∧ x < 100) ∧ l.length ≤ 60 := by
  unfold listB at h
  rw [Bool.and_eq_true] at h
  have := rise_bd l none lo (fun y hy => by cases hy) (fun _ => Int.le_refl _) (Int.le_refl _) (by omega) h.2
  exact ⟨fun x hx => by have := this.1 x hx; omega, by have := this.2; omega⟩
theorem showS_size {l : List Int} (z : Int) (h : (∀ x ∈ l, 0 ≤ x ∧ x < 100) ∧ l.length ≤ 60) : (showS l z).size ≤ 180 := by
  unfold showS
  split
  · decide
  · have := showP_size h.1 l.length (Nat.le_refl _)
    omega
/-- A rule in words. -/
def cronS (a b c d e : List Int) : ByteArray := showS a 60 ++ ⟨#[32]⟩ ++ showS b 24 ++ ⟨#[32]⟩ ++ showS c 31 ++ ⟨#[32]⟩ ++ showS d 12 ++ ⟨#[32]⟩ ++ showS e 7
def cronX (a b c d e : List Int) : ByteArray := if cronB a b c d e then cronS a b c d e else ⟨#[]⟩

set_option maxRecDepth 10000 in
set_option maxHeartbeats 2000000 in
theorem cronText_any (va vb vc vd ve : Value) (a b c d e : List Int) (w : World) (h1 : Reads w va a) (h2 : Reads w vb b) (h3 : Reads w vc c) (h4 : Reads w vd d) (h5 : Reads w ve e)
    (n1 : a.length ≤ 1048577) (n2 : b.length ≤ 1048577) (n3 : c.length ≤ 1048577) (n4 : d.length ≤ 1048577) (n5 : e.length ≤ 1048577) :
    Calls Tryd.prog 20 #[.agg #[va, vb, vc, vd, ve]] w fun x w' => x = .returned (.tuple #[.string (cronX a b c d e), .bool (cronB a b c d e)]) ∧ Below w.heap.size w w' := by
  obtain ⟨ao, ac, rfl, _⟩ := id h1
  obtain ⟨bo, bc, rfl, _⟩ := id h2
  obtain ⟨co, cc, rfl, _⟩ := id h3
  obtain ⟨d0, dc, rfl, _⟩ := id h4
  obtain ⟨eo, ec, rfl, _⟩ := id h5
  have HC : Hid (∀ W, Below w.heap.size w W → Calls Tryd.prog 21 #[.agg #[.slice ao a.length ac, .slice bo b.length bc, .slice co c.length cc, .slice d0 d.length dc, .slice eo e.length ec]] W fun x w' => x = .returned (.bool (cronB a b c d e)) ∧ Below W.heap.size W w') := fun W hb => cronOk_any _ _ _ _ _ a b c d e W (h1.below hb) (h2.below hb) (h3.below hb) (h4.below hb) (h5.below hb) n1 n2 n3 n4 n5
  cases hq : cronB a b c d e with
  | false =>
    have HX : Hid (cronX a b c d e = ⟨#[]⟩) := by show _ = _; unfold cronX; rw [hq]; rfl
    rw [hq] at HC
    rw [HX.out]
    clear h1 h2 h3 h4 h5 hq
    generalize a.length = la at *
    generalize b.length = lb at *
    generalize c.length = lc at *
    generalize d.length = ld at *
    generalize e.length = le at *
    go_enter Tryd.func20, Tryd.ntmps20
    go_wp2_with (go_at_call 21; refine (HC.out _ (ba (Below.refl _ _) _)).mono ?_; rintro x w1 ⟨rfl, hb1⟩)
    go_ret2
    exact ⟨rfl, below_new hb1⟩
  | true =>
    have HX : Hid (cronX a b c d e = cronS a b c d e) := by show _ = _; unfold cronX; rw [hq]; rfl
    rw [hq] at HC
    rw [HX.out]
    unfold cronB at hq
    simp only [Bool.and_eq_true] at hq
    obtain ⟨q0, q1, q2, q3, q4⟩ := hq
    have k0 := listB_bd (by decide) (by decide) (by decide) q0
    have y0 := showS_size 60 k0
    have C0 : Hid (∀ W, Below w.heap.size w W → Calls Tryd.prog 48 #[.slice ao a.length ac, .int .i64 60] W fun x w' => x = .returned (.string (showS a 60)) ∧ Below W.heap.size W w') := fun W hb => l10Show_any 60 (h1.below hb) (by omega) k0.1
    have k1 := listB_bd (by decide) (by decide) (by decide) q1
    have y1 := showS_size 24 k1
    have C1 : Hid (∀ W, Below w.heap.size w W → Calls Tryd.prog 48 #[.slice bo b.length bc, .int .i64 24] W fun x w' => x = .returned (.string (showS b 24)) ∧ Below W.heap.size W w') := fun W hb => l10Show_any 24 (h2.below hb) (by omega) k1.1
    have k2 := listB_bd (by decide) (by decide) (by decide) q2
    have y2 := showS_size 31 k2
    have C2 : Hid (∀ W, Below w.heap.size w W → Calls Tryd.prog 48 #[.slice co c.length cc, .int .i64 31] W fun x w' => x = .returned (.string (showS c 31)) ∧ Below W.heap.size W w') := fun W hb => l10Show_any 31 (h3.below hb) (by omega) k2.1
    have k3 := listB_bd (by decide) (by decide) (by decide) q3
    have y3 := showS_size 12 k3
    have C3 : Hid (∀ W, Below w.heap.size w W → Calls Tryd.prog 48 #[.slice d0 d.length dc, .int .i64 12] W fun x w' => x = .returned (.string (showS d 12)) ∧ Below W.heap.size W w') := fun W hb => l10Show_any 12 (h4.below hb) (by omega) k3.1
    have k4 := listB_bd (by decide) (by decide) (by decide) q4
    have y4 := showS_size 7 k4
    have C4 : Hid (∀ W, Below w.heap.size w W → Calls Tryd.prog 48 #[.slice eo e.length ec, .int .i64 7] W fun x w' => x = .returned (.string (showS e 7)) ∧ Below W.heap.size W w') := fun W hb => l10Show_any 7 (h5.below hb) (by omega) k4.1
    unfold cronS
    clear h1 h2 h3 h4 h5 HX q0 q1 q2 q3 q4 k0 k1 k2 k3 k4
    generalize showS a 60 = s0 at *
    generalize showS b 24 = s1 at *
    generalize showS c 31 = s2 at *
    generalize showS d 12 = s3 at *
    generalize showS e 7 = s4 at *
    generalize a.length = la at *
    generalize b.length = lb at *
    generalize c.length = lc at *
    generalize d.length = ld at *
    generalize e.length = le at *
    go_enter Tryd.func20, Tryd.ntmps20
    go_wp2_with fail
    refine (HC.out _ (ba (Below.refl _ _) _)).mono ?_
    rintro x w1 ⟨rfl, hb1⟩
    have Z1 : B5 26 w1 w.heap.size (.slice ao la ac) (.slice bo lb bc) (.slice co lc cc) (.slice d0 ld dc) (.slice eo le ec) := (B5.new 26 w _ _ _ _ _).up hb1
    have B1 : Below w.heap.size w w1 := below_new hb1
    have K0 := Wd.cell Z1.c0
    have K1 := Wd.cell Z1.c1
    have K2 := Wd.cell Z1.c2
    have K3 := Wd.cell Z1.c3
    have K4 := Wd.cell Z1.c4
    clear hb1 Z1 HC
    have one : (ByteArray.mk #[32]).size = 1 := rfl
    have z1 : (s0 ++ ⟨#[32]⟩).size = s0.size + 1 := by rw [ByteArray.size_append, one]
    have v1 : (s0 ++ ⟨#[32]⟩ ++ s1).size = s0.size+s1.size + 1 := by rw [ByteArray.size_append, z1]; omega
    have z2 : (s0 ++ ⟨#[32]⟩ ++ s1 ++ ⟨#[32]⟩).size = s0.size+s1.size + 2 := by rw [ByteArray.size_append, one]; omega
    have v2 : (s0 ++ ⟨#[32]⟩ ++ s1 ++ ⟨#[32]⟩ ++ s2).size = s0.size+s1.size+s2.size + 2 := by rw [ByteArray.size_append, z2]; omega
    have z3 : (s0 ++ ⟨#[32]⟩ ++ s1 ++ ⟨#[32]⟩ ++ s2 ++ ⟨#[32]⟩).size = s0.size+s1.size+s2.size + 3 := by rw [ByteArray.size_append, one]; omega
    have v3 : (s0 ++ ⟨#[32]⟩ ++ s1 ++ ⟨#[32]⟩ ++ s2 ++ ⟨#[32]⟩ ++ s3).size = s0.size+s1.size+s2.size+s3.size + 3 := by rw [ByteArray.size_append, z3]; omega
    have z4 : (s0 ++ ⟨#[32]⟩ ++ s1 ++ ⟨#[32]⟩ ++ s2 ++ ⟨#[32]⟩ ++ s3 ++ ⟨#[32]⟩).size = s0.size+s1.size+s2.size+s3.size + 4 := by rw [ByteArray.size_append, one]; omega
    have v4 : (s0 ++ ⟨#[32]⟩ ++ s1 ++ ⟨#[32]⟩ ++ s2 ++ ⟨#[32]⟩ ++ s3 ++ ⟨#[32]⟩ ++ s4).size = s0.size+s1.size+s2.size+s3.size+s4.size + 4 := by rw [ByteArray.size_append, z4]; omega
    clear one
    go_wp2_with fail
    refine wp_region_wd (by kernel_rfl) (by kernel_rfl) ?_
    repeat (go_big_quiet_step (first | (go_at_call 48; refine calls_wd (v := .string s0) ?_; with_reducible exact C0.out _ (Below.on B1 (Wd.ok _))) | (go_at_call 48; refine calls_wd (v := .string s1) ?_; with_reducible exact C1.out _ (Below.on B1 (Wd.ok _))) | (go_at_call 48; refine calls_wd (v := .string s2) ?_; with_reducible exact C2.out _ (Below.on B1 (Wd.ok _))) | (go_at_call 48; refine calls_wd (v := .string s3) ?_; with_reducible exact C3.out _ (Below.on B1 (Wd.ok _))) | (go_at_call 48; refine calls_wd (v := .string s4) ?_; with_reducible exact C4.out _ (Below.on B1 (Wd.ok _)))))
    refine wpQuiet_nil ?_
    rintro _ ⟨x, rfl⟩
    go_wp2
    go_ret2
    exact ⟨rfl, Below.on B1 x.ok⟩
end Go.Proofs.YtgeimliibddhmaaDoor

namespace Go.Proofs.YtgeimliibddhmaaDoor
open Go Go.RowKit

/-- A number in words. -/
def numS (x : Int) : ByteArray := bstr (decI x.toNat)
theorem num_all : ∀ n : Fin 60, bstr (decI n.val) ≠ ⟨#[42]⟩ ∧ (bstr (decI n.val)).size ≤ 2 ∧ splitB (bstr (decI n.val)) 45 = [bstr (decI n.val)] ∧ rd (bstr (decI n.val)) = ((n.val : Int), true) ∧ (∀ b ∈ (bstr (decI n.val)).data.toList, 48 ≤ b.toNat ∧ b.toNat ≤ 57) ∧ (bstr (decI n.val)).data.toList ≠ [] := by decide +kernel
theorem num_is {x : Int} (h0 : 0 ≤ x) (h1 : x < 60) : numS x ≠ ⟨#[42]⟩ ∧ (numS x).size ≤ 2 ∧ splitB (numS x) 45 = [numS x] ∧ rd (numS x) = (x, true) ∧ (∀ b ∈ (numS x).data.toList, 48 ≤ b.toNat ∧ b.toNat ≤ 57) ∧ (numS x).data.toList ≠ [] := by
  have := num_all ⟨x.toNat, by omega⟩
  rw [show ((⟨x.toNat, by omega⟩ : Fin 60).val : Int) = x from Int.toNat_of_nonneg h0] at this
  exact this
theorem piece_num {x lo hi : Int} (h0 : 0 ≤ x) (h1 : x < 60) (hl : lo ≤ x) (hh : x ≤ hi) : piece (numS x) lo hi = (x, x, 1, true) := by
  obtain ⟨h2, h3, h4, h5, _⟩ := num_is h0 h1
  unfold piece
  rw [if_neg h2, if_neg (by omega), h4]
  unfold pieceP
  simp [h5, hl, hh]

theorem byte_left (s t : ByteArray) {i : Nat} (h : i < s.size) : (s ++ t).data[i]? = s.data[i]? := by
  have h' : i < s.data.size := h
  simp [ByteArray.data_append, Array.getElem?_append_left h']
theorem extract_left (s t : ByteArray) {b i : Nat} (h : i ≤ s.size) : (s ++ t).extract b i = s.extract b i := by
  have h' : i ≤ s.data.size := h
  apply ByteArray.ext
  simp [ByteArray.data_extract, ByteArray.data_append]
  omega
theorem cutsN_left (s t : ByteArray) (c : Nat) : ∀ i, i ≤ s.size → cutsN (s ++ t) c i = cutsN s c i
  | 0, _ => rfl
  | i + 1, h => by
    have hs : (s ++ t).size = s.size + t.size := ByteArray.size_append
    unfold cutsN
    rw [cutsN_left s t c i (by omega), byte_left s t (by omega), extract_left s t (by omega)]
    by_cases hc : (s.data[i]?.map fun b => b.toNat) = some c
    · rw [if_pos (.inr hc), if_pos (.inr hc)]
    · rw [if_neg (by rintro (e | e); omega; exact hc e), if_neg (by rintro (e | e); omega; exact hc e)]
/-- No byte of it is c. -/
def free (s : ByteArray) (c : Nat) : Prop := ∀ b ∈ s.data.toList, b.toNat ≠ c
theorem free_at {s : ByteArray} {c : Nat} (h : free s c) (i : Nat) : (s.data[i]?.map fun b => b.toNat) ≠ some c := by
  intro e
  cases hb : s.data[i]? with
  | none => rw [hb] at e; cases e
  | some b =>
    rw [hb] at e
    have : b ∈ s.data.toList := by
      obtain ⟨hi, rfl⟩ := Array.getElem?_eq_some_iff.1 hb
      exact Array.getElem_mem_toList hi
    exact h b this (Option.some.inj e)
theorem split_free {t : ByteArray} {c : Nat} (h : free t c) : splitB t c = [t] := by
  have key : ∀ j, j ≤ t.size → cutsN t c j = ([], 0) := by
    intro j
    induction j with
    | zero => intro _; rfl
    | succ j ih =>
      intro hj
      unfold cutsN
      rw [if_neg (by rintro (e | e); omega; exact free_at h j e)]
      exact ih (by omega)
  unfold splitB
  rw [cutsN, if_pos (.inl rfl), key t.size (Nat.le_refl _)]
  simp
theorem byte_right (s t : ByteArray) (j : Nat) : (s ++ t).data[s.size + j]? = t.data[j]? := by
  have : s.data.size = s.size := rfl
  rw [ByteArray.data_append, Array.getElem?_append_right (by omega)]
  congr 1
  omega
theorem extract_behind {α : Type} (x t : Array α) : (x ++ t).extract x.size (x.size + t.size) = t := by
  simp [Array.extract_append]
theorem split_more {s t : ByteArray} {c : UInt8} (h : free t c.toNat) : splitB (s ++ ⟨#[c]⟩ ++ t) c.toNat = splitB s c.toNat ++ [t] := by
  have hz : (s ++ ⟨#[c]⟩ ++ t).size = s.size + 1 + t.size := by rw [ByteArray.size_append, ByteArray.size_append]; rfl
  have ha : s ++ ⟨#[c]⟩ ++ t = s ++ (⟨#[c]⟩ ++ t) := ByteArray.append_assoc
  have h1 : cutsN (s ++ ⟨#[c]⟩ ++ t) c.toNat (s.size + 1) = cutsN s c.toNat (s.size + 1) := by
    have hb : ((s ++ (⟨#[c]⟩ ++ t)).data[s.size]?.map fun b => b.toNat) = some c.toNat := by
      have := byte_right s (⟨#[c]⟩ ++ t) 0
      rw [Nat.add_zero] at this
      rw [this, byte_left _ _ (by show 0 < 1; omega)]
      rfl
    unfold cutsN
    rw [ha, if_pos (.inr hb), if_pos (.inl rfl), cutsN_left _ _ _ _ (Nat.le_refl _), extract_left _ _ (Nat.le_refl _)]
  have key : ∀ j, j ≤ t.size → cutsN (s ++ ⟨#[c]⟩ ++ t) c.toNat (s.size + 1 + j) = cutsN s c.toNat (s.size + 1) := by
    intro j
    induction j with
    | zero => intro _; exact h1
    | succ j ih =>
      intro hj
      have hb : ((s ++ ⟨#[c]⟩ ++ t).data[s.size + 1 + j]?.map fun b => b.toNat) ≠ some c.toNat := by
        have := byte_right (s ++ ⟨#[c]⟩) t j
        rw [show (s ++ (⟨#[c]⟩ : ByteArray)).size = s.size + 1 by rw [ByteArray.size_append]; rfl] at this
        rw [this]
        exact free_at h j
      rw [show s.size + 1 + (j + 1) = s.size + 1 + j + 1 by omega, cutsN, if_neg (by rintro (e | e); omega; exact hb e)]
      exact ih (by omega)
  have h2 : (cutsN s c.toNat (s.size + 1)).2 = s.size + 1 := by rw [cutsN, if_pos (.inl rfl)]
  unfold splitB
  rw [hz, cutsN, if_pos (.inl hz.symm), key t.size (Nat.le_refl _), h2]
  show _ ++ [_] = _ ++ [_]
  congr 2
  apply ByteArray.ext
  rw [ByteArray.data_extract, ByteArray.data_append]
  have e1 : (s ++ (⟨#[c]⟩ : ByteArray)).data.size = s.size + 1 := by show (s ++ (⟨#[c]⟩ : ByteArray)).size = _; rw [ByteArray.size_append]; rfl
  rw [← e1]
  show ((s ++ (⟨#[c]⟩ : ByteArray)).data ++ t.data).extract (s ++ (⟨#[c]⟩ : ByteArray)).data.size ((s ++ (⟨#[c]⟩ : ByteArray)).data.size + t.data.size) = t.data
  exact extract_behind _ _

/-- The numbers of a list, in words. -/
theorem num_free {x : Int} (h0 : 0 ≤ x) (h1 : x < 60) {c : Nat} (hc : c < 48) : free (numS x) c := fun b hb => by
  have := (num_is h0 h1).2.2.2.2.1 b hb
  omega
theorem split_show {l : List Int} (h : ∀ x ∈ l, 0 ≤ x ∧ x < 60) : ∀ k, k < l.length → splitB (showP l (k + 1)) 44 = (l.take (k + 1)).map numS
  | 0, hk => by
    have hx := h _ (List.getElem_mem hk)
    have hg : l[0]? = some l[0] := List.getElem?_eq_getElem hk
    rw [showP, if_pos rfl, showP, hg]
    show splitB (ByteArray.empty ++ numS l[0]) 44 = _
    rw [ByteArray.empty_append, split_free (num_free hx.1 hx.2 (by decide)), List.take_add_one, hg]
    rfl
  | k + 1, hk => by
    have hx := h _ (List.getElem_mem hk)
    have hg : l[k + 1]? = some l[k + 1] := List.getElem?_eq_getElem hk
    have ih := split_show h k (by omega)
    rw [showP, if_neg (by omega), hg]
    show splitB (showP l (k + 1) ++ ⟨#[44]⟩ ++ numS l[k + 1]) (44 : UInt8).toNat = _
    rw [split_more (num_free hx.1 hx.2 (by decide))]
    show splitB (showP l (k + 1)) 44 ++ _ = _
    rw [ih, List.take_add_one (i := k + 1), hg, List.map_append]
    rfl
/-- Bytes of a list in words: figures and commas. -/
theorem show_bytes {l : List Int} (h : ∀ x ∈ l, 0 ≤ x ∧ x < 60) : ∀ k, k ≤ l.length → ∀ b ∈ (showP l k).data.toList, 44 ≤ b.toNat ∧ b.toNat ≤ 57
  | 0, _, b, hb => by simp [showP] at hb
  | k + 1, hk, b, hb => by
    have hx := h _ (List.getElem_mem (show k < l.length by omega))
    have hg : l[k]? = some l[k] := List.getElem?_eq_getElem (by omega)
    rw [showP, hg, ByteArray.data_append, Array.toList_append, List.mem_append] at hb
    rcases hb with hb | hb
    · split at hb
      · exact show_bytes h k (by omega) b hb
      · rw [ByteArray.data_append, Array.toList_append, List.mem_append] at hb
        rcases hb with hb | hb
        · exact show_bytes h k (by omega) b hb
        · simp at hb; subst hb; decide
    · have := (num_is hx.1 hx.2).2.2.2.2.1 b hb
      omega
theorem show_some {l : List Int} (h : ∀ x ∈ l, 0 ≤ x ∧ x < 60) {k : Nat} (hk : k < l.length) : (showP l (k + 1)).data.toList ≠ [] := by
  have hx := h _ (List.getElem_mem hk)
  have hg : l[k]? = some l[k] := List.getElem?_eq_getElem hk
  rw [showP, hg, ByteArray.data_append, Array.toList_append]
  intro e
  exact (num_is hx.1 hx.2).2.2.2.2.2 (List.append_eq_nil_iff.1 e).2

theorem mem_picks {H : List Bool} {lo x : Int} : ∀ k : Nat, x ∈ picks H lo k ↔ ∃ i : Nat, i < k ∧ x = lo + i ∧ H.getD (lo + i).toNat false = true
  | 0 => ⟨fun h => (by cases h), fun ⟨i, h, _⟩ => by omega⟩
  | k + 1 => by
    rw [picks, List.mem_append, mem_picks k]
    constructor
    · rintro (⟨i, h1, h2⟩ | h)
      · exact ⟨i, by omega, h2⟩
      · split at h
        · rename_i hH
          exact ⟨k, by omega, by simpa using h, hH⟩
        · cases h
    · rintro ⟨i, h1, h2, h3⟩
      by_cases e : i = k
      · subst e
        right
        rw [if_pos h3]
        simp [h2]
      · exact .inl ⟨i, by omega, h2, h3⟩
theorem picks_rise {H : List Bool} {lo : Int} : ∀ k : Nat, (picks H lo k).Pairwise (· < ·)
  | 0 => List.Pairwise.nil
  | k + 1 => by
    rw [picks, List.pairwise_append]
    refine ⟨picks_rise k, by split <;> simp, fun x hx y hy => ?_⟩
    obtain ⟨i, h1, h2, _⟩ := (mem_picks k).1 hx
    split at hy
    · simp at hy; omega
    · cases hy
/-- What flags pick that are set just at the numbers of a list. -/
theorem picks_list {H : List Bool} {lo hi : Int} {l : List Int} (hlh : lo ≤ hi + 1) (hl : ∀ x ∈ l, lo ≤ x ∧ x ≤ hi) (hr : l.Pairwise (· < ·)) (hH : ∀ x, lo ≤ x → x ≤ hi → (H.getD x.toNat false = true ↔ x ∈ l)) : picks H lo (hi - lo + 1).toNat = l := by
  refine rise_ext _ _ (picks_rise _) hr fun x => ?_
  rw [mem_picks]
  constructor
  · rintro ⟨i, h1, rfl, h3⟩
    exact (hH _ (by omega) (by omega)).1 h3
  · intro hx
    have := hl x hx
    refine ⟨(x - lo).toNat, by omega, by omega, ?_⟩
    rw [show lo + ((x - lo).toNat : Int) = x by omega]
    exact (hH x this.1 this.2).2 hx
end Go.Proofs.YtgeimliibddhmaaDoor

namespace Go.Proofs.YtgeimliibddhmaaDoor
open Go Go.RowKit
set_option linter.unusedVariables false

theorem cuts_first {x y : ByteArray} {c : UInt8} (h : free x c.toNat) : ∀ i, i ≤ y.size + 1 → cutsN (x ++ ⟨#[c]⟩ ++ y) c.toNat (x.size + 1 + i) = (x :: (cutsN y c.toNat i).1, x.size + 1 + (cutsN y c.toNat i).2)
  | 0, _ => by
    have ha : x ++ ⟨#[c]⟩ ++ y = x ++ (⟨#[c]⟩ ++ y) := ByteArray.append_assoc
    have hb : ((x ++ (⟨#[c]⟩ ++ y)).data[x.size]?.map fun b => b.toNat) = some c.toNat := by
      have := byte_right x (⟨#[c]⟩ ++ y) 0
      rw [Nat.add_zero] at this
      rw [this, byte_left _ _ (by show 0 < 1; omega)]
      rfl
    have key : ∀ j, j ≤ x.size → cutsN x c.toNat j = ([], 0) := by
      intro j
      induction j with
      | zero => intro _; rfl
      | succ j ih =>
        intro hj
        unfold cutsN
        rw [if_neg (by rintro (e | e); omega; exact free_at h j e)]
        exact ih (by omega)
    have e0 : cutsN (x ++ (⟨#[c]⟩ ++ y)) c.toNat (x.size + 1) = ((cutsN (x ++ (⟨#[c]⟩ ++ y)) c.toNat x.size).1 ++ [(x ++ (⟨#[c]⟩ ++ y)).extract (cutsN (x ++ (⟨#[c]⟩ ++ y)) c.toNat x.size).2 x.size], x.size + 1) := by
      rw [cutsN, if_pos (.inr hb)]
    rw [Nat.add_zero, ha, e0, cutsN_left _ _ _ _ (Nat.le_refl _), key x.size (Nat.le_refl _), extract_left _ _ (Nat.le_refl _)]
    simp [cutsN]
  | i + 1, hi => by
    have ih := cuts_first (y := y) h i (by omega)
    have hz : (x ++ ⟨#[c]⟩ ++ y).size = x.size + 1 + y.size := by rw [ByteArray.size_append, ByteArray.size_append]; rfl
    have e1 : (x ++ (⟨#[c]⟩ : ByteArray)).size = x.size + 1 := by rw [ByteArray.size_append]; rfl
    have hbyte : (x ++ ⟨#[c]⟩ ++ y).data[x.size + 1 + i]? = y.data[i]? := by
      have := byte_right (x ++ ⟨#[c]⟩) y i
      rwa [e1] at this
    have hex : ∀ b, (x ++ ⟨#[c]⟩ ++ y).extract (x.size + 1 + b) (x.size + 1 + i) = y.extract b i := by
      intro b
      apply ByteArray.ext
      rw [ByteArray.data_extract, ByteArray.data_extract, ByteArray.data_append]
      have e2 : (x ++ (⟨#[c]⟩ : ByteArray)).data.size = x.size + 1 := e1
      rw [← e2, Array.extract_append]
      simp
    rw [show x.size + 1 + (i + 1) = x.size + 1 + i + 1 by omega, cutsN, ih, hbyte, hex]
    rw [cutsN]
    by_cases hc : i = y.size ∨ (y.data[i]?.map fun b => b.toNat) = some c.toNat
    · rw [if_pos hc, if_pos (by rcases hc with e | e; left; omega; right; exact e)]
      simp
      omega
    · rw [if_neg hc, if_neg (by rintro (e | e); exact hc (.inl (by omega)); exact hc (.inr e))]
theorem split_first {x y : ByteArray} {c : UInt8} (h : free x c.toNat) : splitB (x ++ ⟨#[c]⟩ ++ y) c.toNat = x :: splitB y c.toNat := by
  have hz : (x ++ ⟨#[c]⟩ ++ y).size = x.size + 1 + y.size := by rw [ByteArray.size_append, ByteArray.size_append]; rfl
  unfold splitB
  rw [hz, show x.size + 1 + y.size + 1 = x.size + 1 + (y.size + 1) by omega, cuts_first h (y.size + 1) (Nat.le_refl _)]
/-- A text at its first such byte. -/
theorem first_of (s : ByteArray) (c : UInt8) : (Lib.indexB s ⟨#[c]⟩ = -1 ∧ free s c.toNat) ∨ ∃ i : Nat, Lib.indexB s ⟨#[c]⟩ = i ∧ i < s.size ∧ free (s.extract 0 i) c.toNat ∧ s = s.extract 0 i ++ ⟨#[c]⟩ ++ s.extract (i + 1) s.size := by
  have hix : Lib.indexB s ⟨#[c]⟩ = Lib.indexByte s.data.toList c := Lib.index_one _ _
  rcases Lib.indexB_cases s ⟨#[c]⟩ with h | ⟨i, h, hi⟩
  · left
    refine ⟨h, fun b hb e => ?_⟩
    rw [hix] at h
    obtain ⟨k, hk⟩ := List.getElem?_of_mem hb
    exact Lib.indexByte_none h k (by rw [hk]; congr 1; exact UInt8.toNat_inj.1 e)
  · right
    have hi2 : i + 1 ≤ s.size := hi
    rw [hix] at h
    obtain ⟨h1, h2⟩ := Lib.indexByte_some h
    refine ⟨i, by rw [hix]; exact h, by omega, fun b hb e => ?_, ?_⟩
    · obtain ⟨k, hk⟩ := List.getElem?_of_mem hb
      have hb2 : b = c := UInt8.toNat_inj.1 e
      subst hb2
      rw [ByteArray.data_extract, Array.getElem?_toList, Array.getElem?_extract] at hk
      split at hk
      · rename_i hlt
        refine h2 k (by omega) ?_
        rw [Array.getElem?_toList]
        simpa using hk
      · cases hk
    · apply ByteArray.ext
      apply Array.toList_inj.1
      rw [ByteArray.data_append, ByteArray.data_append, ByteArray.data_extract, ByteArray.data_extract]
      have hsz : s.data.size = s.size := rfl
      obtain ⟨h3, h4⟩ := List.getElem?_eq_some_iff.1 h1
      have e : s.data.toList = s.data.toList.take i ++ (c :: s.data.toList.drop (i + 1)) := by
        conv => lhs; rw [← List.take_append_drop i s.data.toList, List.drop_eq_getElem_cons h3, h4]
      simp only [Array.toList_append, Array.toList_extract]
      rw [show s.size = s.data.toList.length by simp [hsz]]
      simp
      have e5 : List.take (s.size - (i + 1)) (List.drop (i + 1) s.data.toList) = List.drop (i + 1) s.data.toList := List.take_of_length_le (by simp)
      rw [e5]
      exact e
theorem lib_split (c : UInt8) : ∀ (n : Nat) (s : ByteArray), s.size ≤ n → Lib.splitB ⟨#[c]⟩ 0 (Lib.countB s ⟨#[c]⟩) s = splitB s c.toNat
  | n, s, hn => by
    rcases first_of s c with ⟨h, hf⟩ | ⟨i, h, hi, hf, he⟩
    · rw [Lib.splitB_miss _ _ _ _ h, split_free hf]
    · cases n with
      | zero => omega
      | succ n =>
        have h1 : (1 : Nat) ≤ (⟨#[c]⟩ : ByteArray).size := by show 1 ≤ 1; omega
        have hs1 : (⟨#[c]⟩ : ByteArray).size = 1 := rfl
        rw [Lib.countB_hit s _ i h1 h, Nat.add_comm 1, Lib.splitB_hit _ _ _ _ i h, hs1, Nat.add_zero]
        have ih := lib_split c n (s.extract (i + 1) s.size) (by rw [ByteArray.size_extract]; omega)
        rw [ih]
        conv => rhs; rw [he, split_first hf]
end Go.Proofs.YtgeimliibddhmaaDoor

namespace Go.Proofs
open Go.Shelf
def Tryd.lays156_ren : Go.Shelf.Ren := ⟨fun | 156 => 39 | 165 => 69 | 166 => 70 | 169 => 71 | 240 => 89 | 241 => 90 | 276 => 106 | 277 => 107 | n => n, fun | 31 => 60 | 9 => 9 | 3 => 3 | 4 => 4 | 0 => 0 | 20 => 20 | 72 => 97 | 76 => 101 | 70 => 95 | 37 => 22 | 75 => 100 | 127 => 118 | 164 => 132 | 5 => 5 | 80 => 103 | n => n, fun | n => n⟩
theorem Tryd.lays156 : Go.Proofs.Lays.n156 Tryd.prog Tryd.lays156_ren := {
  mixed := by kernel_rfl
  f156 := Tryd.func39.trans (congrArg some (by kernel_rfl))
  f165 := Tryd.func69.trans (congrArg some (by kernel_rfl))
  f166 := Tryd.func70.trans (congrArg some (by kernel_rfl))
  f169 := Tryd.func71.trans (congrArg some (by kernel_rfl))
  f240 := Tryd.func89.trans (congrArg some (by kernel_rfl))
  f241 := Tryd.func90.trans (congrArg some (by kernel_rfl))
  f276 := Tryd.func106.trans (congrArg some (by kernel_rfl))
  f277 := Tryd.func107.trans (congrArg some (by kernel_rfl))
  t0 := Tryd.underlying0
  a0 := Tryd.isAgg0
  z0 := Tryd.sizeOf0
  v0 := Tryd.zeroValue0
  t3 := Tryd.underlying3
  a3 := Tryd.isAgg3
  z3 := Tryd.sizeOf3
  v3 := Tryd.zeroValue3
  t4 := Tryd.underlying4
  a4 := Tryd.isAgg4
  z4 := Tryd.sizeOf4
  v4 := Tryd.zeroValue4
  t9 := Tryd.underlying9
  a9 := Tryd.isAgg9
  z9 := Tryd.sizeOf9
  v9 := Tryd.zeroValue9
  t20 := Tryd.underlying20
  a20 := Tryd.isAgg20
  z20 := Tryd.sizeOf20
  v20 := Tryd.zeroValue20
  t31 := Tryd.underlying60
  a31 := Tryd.isAgg60
  z31 := Tryd.sizeOf60
  v31 := Tryd.zeroValue60
  t37 := Tryd.underlying22
  a37 := Tryd.isAgg22
  z37 := Tryd.sizeOf22
  v37 := Tryd.zeroValue22
  t70 := Tryd.underlying95
  a70 := Tryd.isAgg95
  z70 := Tryd.sizeOf95
  v70 := Tryd.zeroValue95
  t72 := Tryd.underlying97
  a72 := Tryd.isAgg97
  z72 := Tryd.sizeOf97
  v72 := Tryd.zeroValue97
  t75 := Tryd.underlying100
  a75 := Tryd.isAgg100
  z75 := Tryd.sizeOf100
  v75 := Tryd.zeroValue100
  t76 := Tryd.underlying101
  a76 := Tryd.isAgg101
  z76 := Tryd.sizeOf101
  v76 := Tryd.zeroValue101
  t127 := Tryd.underlying118
  a127 := Tryd.isAgg118
  z127 := Tryd.sizeOf118
  v127 := Tryd.zeroValue118
  t164 := Tryd.underlying132
  a164 := Tryd.isAgg132
  z164 := Tryd.sizeOf132
  v164 := Tryd.zeroValue132 }
theorem Tryd.Builder_Extra_156 : Builder.Extra Tryd.prog Tryd.lays156_ren := {
  sizeBuilder := by kernel_rfl
  liesBuilder := by kernel_rfl
  t5 := Tryd.underlying5
  a5 := Tryd.isAgg5
  z5 := Tryd.sizeOf5
  v5 := Tryd.zeroValue5
  infoByte := by kernel_rfl
  cellsByte := by kernel_rfl
  sizeByte := by kernel_rfl
  neB5 := by decide }
open Go.RowKit in
theorem Tryd.strings_Join_none (a : Option Addr) (c : Nat) (sep : ByteArray) (w : World) :
    Calls Tryd.prog 39 #[.slice a 0 c, .string sep] w fun e w' => e = .returned (.string ⟨#[]⟩) ∧ w' = w := Any.strings_Join_none Tryd.lays156 Tryd.Builder_Extra_156 a c sep w
open Go.RowKit in
theorem Tryd.strings_Join (bk o c : Nat) (xs : List ByteArray) (sep : ByteArray) (w : World) (hcells : ∀ (j : Nat) x, xs[j]? = some x → w.cell? ⟨bk, o + j, none⟩ = some (.string x)) (hbk : bk < w.heap.size) (hN : xs.length ≤ 140737488355328) (hcap : xs.length ≤ c) (hlen : (Lib.join (xs.map (·.data.toList)) sep.data.toList).length ≤ 140737488355328) :
    Calls Tryd.prog 39 #[.slice (some ⟨bk, o, none⟩) xs.length c, .string sep] w fun e w' => e = .returned (.string ⟨(Lib.join (xs.map (·.data.toList)) sep.data.toList).toArray⟩) ∧ Below w.heap.size w w' := Any.strings_Join Tryd.lays156 Tryd.Builder_Extra_156 bk o c xs sep w hcells hbk hN hcap hlen
def Tryd.lays103_ren : Go.Shelf.Ren := ⟨fun | 103 => 95 | 210 => 112 | 206 => 125 | n => n, fun | 9 => 9 | 4 => 4 | 24 => 29 | 3 => 3 | n => n, fun | n => n⟩
theorem Tryd.lays103 : Go.Proofs.Lays.n103 Tryd.prog Tryd.lays103_ren := {
  mixed := by kernel_rfl
  f103 := Tryd.func95.trans (congrArg some (by kernel_rfl))
  f206 := Tryd.func125.trans (congrArg some (by kernel_rfl))
  f210 := Tryd.func112.trans (congrArg some (by kernel_rfl))
  t3 := Tryd.underlying3
  a3 := Tryd.isAgg3
  z3 := Tryd.sizeOf3
  v3 := Tryd.zeroValue3
  t4 := Tryd.underlying4
  a4 := Tryd.isAgg4
  z4 := Tryd.sizeOf4
  v4 := Tryd.zeroValue4
  t9 := Tryd.underlying9
  a9 := Tryd.isAgg9
  z9 := Tryd.sizeOf9
  v9 := Tryd.zeroValue9
  t24 := Tryd.underlying29
  a24 := Tryd.isAgg29
  z24 := Tryd.sizeOf29
  v24 := Tryd.zeroValue29 }
open Go.RowKit in
theorem Tryd.strings_CutPrefix (s p : ByteArray) (w : World) :
    Calls Tryd.prog 95 #[.string s, .string p] w fun e w' => e = .returned (.tuple #[.string ⟨(Lib.trimPrefix s.data.toList p.data.toList).toArray⟩, .bool (Lib.hasPrefix s.data.toList p.data.toList)]) ∧ w' = w := Any.strings_CutPrefix Tryd.lays103 s p w
def Tryd.lays145_ren : Go.Shelf.Ren := ⟨fun | 145 => 97 | 220 => 114 | 219 => 124 | 217 => 132 | 225 => 133 | 224 => 134 | 267 => 135 | 266 => 141 | 314 => 142 | n => n, fun | 9 => 9 | 4 => 4 | 59 => 124 | 3 => 3 | 5 => 5 | 46 => 113 | 146 => 175 | 51 => 138 | n => n, fun | 1 => 3 | n => n⟩
theorem Tryd.lays145 : Go.Proofs.Lays.n145 Tryd.prog Tryd.lays145_ren := {
  mixed := by kernel_rfl
  f145 := Tryd.func97.trans (congrArg some (by kernel_rfl))
  f217 := Tryd.func132.trans (congrArg some (by kernel_rfl))
  f219 := Tryd.func124.trans (congrArg some (by kernel_rfl))
  f220 := Tryd.func114.trans (congrArg some (by kernel_rfl))
  f224 := Tryd.func134.trans (congrArg some (by kernel_rfl))
  f225 := Tryd.func133.trans (congrArg some (by kernel_rfl))
  f266 := Tryd.func141.trans (congrArg some (by kernel_rfl))
  f267 := Tryd.func135.trans (congrArg some (by kernel_rfl))
  f314 := Tryd.func142.trans (congrArg some (by kernel_rfl))
  t3 := Tryd.underlying3
  a3 := Tryd.isAgg3
  z3 := Tryd.sizeOf3
  v3 := Tryd.zeroValue3
  t4 := Tryd.underlying4
  a4 := Tryd.isAgg4
  z4 := Tryd.sizeOf4
  v4 := Tryd.zeroValue4
  t5 := Tryd.underlying5
  a5 := Tryd.isAgg5
  z5 := Tryd.sizeOf5
  v5 := Tryd.zeroValue5
  t9 := Tryd.underlying9
  a9 := Tryd.isAgg9
  z9 := Tryd.sizeOf9
  v9 := Tryd.zeroValue9
  t46 := Tryd.underlying113
  a46 := Tryd.isAgg113
  z46 := Tryd.sizeOf113
  v46 := Tryd.zeroValue113
  t51 := Tryd.underlying138
  a51 := Tryd.isAgg138
  z51 := Tryd.sizeOf138
  v51 := Tryd.zeroValue138
  t59 := Tryd.underlying124
  a59 := Tryd.isAgg124
  z59 := Tryd.sizeOf124
  v59 := Tryd.zeroValue124
  t146 := Tryd.underlying175
  a146 := Tryd.isAgg175
  z146 := Tryd.sizeOf175
  v146 := Tryd.zeroValue175
  g1 := by kernel_rfl }
open Go.RowKit Go.Lib in
theorem Tryd.strings_Cut (s sep : ByteArray) (m : Int) (w : World) (hs : s.size < 4294967281) (hm : w.cell? ⟨3, 0, none⟩ = some (.int .i64 m)) :
    Calls Tryd.prog 97 #[.string s, .string sep] w fun e w' => e = .returned (.tuple #[.string ⟨(Lib.cut s.data.toList sep.data.toList).1.toArray⟩, .string ⟨(Lib.cut s.data.toList sep.data.toList).2.1.toArray⟩, .bool (Lib.cut s.data.toList sep.data.toList).2.2]) ∧ ∃ n, w' = w.drewN n := Any.strings_Cut Tryd.lays145 s sep m w hs hm
def Tryd.lays146_ren : Go.Shelf.Ren := ⟨fun | 146 => 75 | 221 => 94 | 268 => 109 | 138 => 110 | 143 => 111 | 195 => 121 | 197 => 122 | 218 => 123 | 219 => 124 | 260 => 131 | 217 => 132 | 225 => 133 | 224 => 134 | 267 => 135 | 266 => 141 | 314 => 142 | n => n, fun | 9 => 9 | 31 => 60 | 3 => 3 | 4 => 4 | 0 => 0 | 105 => 156 | 21 => 21 | 5 => 5 | 46 => 113 | 119 => 119 | 139 => 174 | 138 => 173 | 146 => 175 | 51 => 138 | n => n, fun | 1 => 3 | 3 => 5 | 4 => 6 | n => n⟩
theorem Tryd.lays146 : Go.Proofs.Lays.n146 Tryd.prog Tryd.lays146_ren := {
  mixed := by kernel_rfl
  f138 := Tryd.func110.trans (congrArg some (by kernel_rfl))
  f143 := Tryd.func111.trans (congrArg some (by kernel_rfl))
  f146 := Tryd.func75.trans (congrArg some (by kernel_rfl))
  f195 := Tryd.func121.trans (congrArg some (by kernel_rfl))
  f197 := Tryd.func122.trans (congrArg some (by kernel_rfl))
  f217 := Tryd.func132.trans (congrArg some (by kernel_rfl))
  f218 := Tryd.func123.trans (congrArg some (by kernel_rfl))
  f219 := Tryd.func124.trans (congrArg some (by kernel_rfl))
  f221 := Tryd.func94.trans (congrArg some (by kernel_rfl))
  f224 := Tryd.func134.trans (congrArg some (by kernel_rfl))
  f225 := Tryd.func133.trans (congrArg some (by kernel_rfl))
  f260 := Tryd.func131.trans (congrArg some (by kernel_rfl))
  f266 := Tryd.func141.trans (congrArg some (by kernel_rfl))
  f267 := Tryd.func135.trans (congrArg some (by kernel_rfl))
  f268 := Tryd.func109.trans (congrArg some (by kernel_rfl))
  f314 := Tryd.func142.trans (congrArg some (by kernel_rfl))
  t0 := Tryd.underlying0
  a0 := Tryd.isAgg0
  z0 := Tryd.sizeOf0
  v0 := Tryd.zeroValue0
  t3 := Tryd.underlying3
  a3 := Tryd.isAgg3
  z3 := Tryd.sizeOf3
  v3 := Tryd.zeroValue3
  t4 := Tryd.underlying4
  a4 := Tryd.isAgg4
  z4 := Tryd.sizeOf4
  v4 := Tryd.zeroValue4
  t5 := Tryd.underlying5
  a5 := Tryd.isAgg5
  z5 := Tryd.sizeOf5
  v5 := Tryd.zeroValue5
  t9 := Tryd.underlying9
  a9 := Tryd.isAgg9
  z9 := Tryd.sizeOf9
  v9 := Tryd.zeroValue9
  t21 := Tryd.underlying21
  a21 := Tryd.isAgg21
  z21 := Tryd.sizeOf21
  v21 := Tryd.zeroValue21
  t31 := Tryd.underlying60
  a31 := Tryd.isAgg60
  z31 := Tryd.sizeOf60
  v31 := Tryd.zeroValue60
  t46 := Tryd.underlying113
  a46 := Tryd.isAgg113
  z46 := Tryd.sizeOf113
  v46 := Tryd.zeroValue113
  t51 := Tryd.underlying138
  a51 := Tryd.isAgg138
  z51 := Tryd.sizeOf138
  v51 := Tryd.zeroValue138
  t105 := Tryd.underlying156
  a105 := Tryd.isAgg156
  z105 := Tryd.sizeOf156
  v105 := Tryd.zeroValue156
  t119 := Tryd.underlying119
  a119 := Tryd.isAgg119
  z119 := Tryd.sizeOf119
  t138 := Tryd.underlying173
  a138 := Tryd.isAgg173
  z138 := Tryd.sizeOf173
  v138 := Tryd.zeroValue173
  t139 := Tryd.underlying174
  a139 := Tryd.isAgg174
  z139 := Tryd.sizeOf174
  v139 := Tryd.zeroValue174
  t146 := Tryd.underlying175
  a146 := Tryd.isAgg175
  z146 := Tryd.sizeOf175
  v146 := Tryd.zeroValue175
  g1 := by kernel_rfl
  g3 := by kernel_rfl
  g4 := by kernel_rfl }
open Go.RowKit Go.Lib in
theorem Tryd.strings_Split (s sep : ByteArray) (m : Int) (w : World) (hs : s.size < 4294967281) (hm : w.cell? ⟨3, 0, none⟩ = some (.int .i64 m)) (h1 : 1 ≤ sep.size) :
    Calls Tryd.prog 75 #[.string s, .string sep] w fun e w' =>
      e = .returned (.slice (some ⟨w.heap.size, 0, none⟩) (Lib.countB s sep + 1) (Lib.countB s sep + 1)) ∧ w' = w.alloc (.cells ((Lib.splitB sep 0 (Lib.countB s sep) s).map Value.string).toArray 9) := Any.strings_Split Tryd.lays146 (by kernel_rfl) s sep m w hs hm h1
end Go.Proofs

namespace Go.Proofs.YtgeimliibddhmaaDoor
open Go Go.RowKit

theorem getD_set (H : List Bool) (i j : Nat) (hi : i < H.length) : (H.set i true).getD j false = (decide (i = j) || H.getD j false) := by
  rw [List.getD_eq_getElem?_getD, List.getElem?_set, List.getD_eq_getElem?_getD]
  by_cases h : i = j
  · subst h; simp [hi]
  · simp [h]
theorem stamp_getD (H : List Bool) (a x : Nat) : ∀ j, a + j ≤ H.length → (stamp H a 1 j).getD x false = (decide (a ≤ x ∧ x < a + j) || H.getD x false)
  | 0, _ => by rw [stamp, decide_eq_false (by omega)]; rfl
  | j + 1, h => by
    rw [stamp, getD_set _ _ _ (by rw [stamp_length]; omega), stamp_getD H a x j (by omega), ← Bool.or_assoc, ← Bool.decide_or]
    congr 1
    exact decide_eq_decide.2 (by omega)
/-- The flags of a list. -/
def marks (H : List Bool) : List Int → List Bool
  | [] => H
  | x :: r => marks (H.set x.toNat true) r
theorem marks_length : ∀ (l : List Int) (H : List Bool), (marks H l).length = H.length
  | [], _ => rfl
  | x :: r, H => by rw [marks, marks_length r, List.length_set]
theorem marks_getD (x : Nat) : ∀ (l : List Int) (H : List Bool), (∀ y ∈ l, 0 ≤ y ∧ y.toNat < H.length) → (marks H l).getD x false = (decide ((x : Int) ∈ l) || H.getD x false)
  | [], H, _ => by simp [marks]
  | y :: r, H, h => by
    have hy := h y (List.mem_cons_self ..)
    rw [marks, marks_getD x r _ (fun z hz => by rw [List.length_set]; exact h z (List.mem_cons_of_mem _ hz)), getD_set _ _ _ hy.2, ← Bool.or_assoc, ← Bool.decide_or]
    congr 1
    refine decide_eq_decide.2 ?_
    rw [List.mem_cons]
    constructor
    · rintro (e | e)
      · exact .inr e
      · left; omega
    · rintro (e | e)
      · right; omega
      · exact .inl e
theorem fieldGo_nums {lo hi : Int} : ∀ (l : List Int) (H : List Bool), (∀ x ∈ l, lo ≤ x ∧ x ≤ hi ∧ 0 ≤ x ∧ x < 60) → fieldGo lo hi (l.map numS) H = some (marks H l)
  | [], _, _ => rfl
  | x :: r, H, h => by
    have hx := h x (List.mem_cons_self ..)
    rw [List.map_cons, fieldGo, piece_num hx.2.2.1 hx.2.2.2 hx.1 hx.2.1, if_pos rfl, fieldGo_nums r _ (fun y hy => h y (List.mem_cons_of_mem _ hy)), marks]
    congr 2
    show stamp H x.toNat (1 : Int).toNat ((x - x).toNat / (1 : Int).toNat + 1) = _
    rw [Int.sub_self]
    show stamp H x.toNat 1 1 = _
    rw [stamp, stamp]
    congr 1
/-- A list comes back from its words. -/
theorem field_back {lo hi z : Int} {l : List Int} (h0 : 0 ≤ lo) (hh : hi ≤ 59) (hlh : lo ≤ hi) (hz : z = hi - lo + 1) (hB : listB lo hi l = true) : ∃ H, fieldO (showS l z) lo hi = some H ∧ picks H lo (hi - lo + 1).toNat = l := by
  obtain ⟨hl, hr, hn⟩ := listB_up hB
  have h60 : ∀ x ∈ l, 0 ≤ x ∧ x < 60 := fun x hx => by have := hl x hx; omega
  have hrep : ∀ j : Nat, (List.replicate (hi + 1).toNat false).getD j false = false := fun j => by
    rw [List.getD_eq_getElem?_getD, List.getElem?_replicate]; split <;> rfl
  unfold fieldO showS
  by_cases hf : (l.length : Int) = z
  · rw [if_pos hf, split_free (by intro b hb; simp at hb; subst hb; decide), fieldGo]
    have hp : piece ⟨#[42]⟩ lo hi = (lo, hi, 1, true) := by unfold piece; rw [if_pos rfl]
    rw [hp, if_pos rfl, fieldGo]
    refine ⟨_, rfl, picks_list (by omega) hl hr fun x hx0 hx1 => ?_⟩
    show (stamp _ lo.toNat (1 : Int).toNat ((hi - lo).toNat / (1 : Int).toNat + 1)).getD x.toNat false = true ↔ _
    rw [show (1 : Int).toNat = 1 from rfl, Nat.div_one, stamp_getD _ _ _ _ (by rw [List.length_replicate]; omega), hrep, Bool.or_false, decide_eq_true_eq]
    exact ⟨fun _ => full_list hl hr (by omega) hx0 hx1, fun _ => by omega⟩
  · rw [if_neg hf]
    have hs := split_show h60 (l.length - 1) (by omega)
    rw [show l.length - 1 + 1 = l.length by omega, List.take_length] at hs
    rw [hs, fieldGo_nums l _ (fun x hx => ⟨(hl x hx).1, (hl x hx).2, h60 x hx⟩)]
    refine ⟨_, rfl, picks_list (by omega) hl hr fun x hx0 hx1 => ?_⟩
    rw [marks_getD _ l _ (fun y hy => by rw [List.length_replicate]; have := hl y hy; omega), hrep, Bool.or_false, decide_eq_true_eq, Int.toNat_of_nonneg (by omega)]

theorem go_word : ∀ (w cur r : List UInt8), (∀ b ∈ w, Lib.isSp b = false) → cur ++ w ≠ [] → Lib.fieldsGo cur (w ++ 32 :: r) = (cur ++ w) :: Lib.fieldsGo [] r
  | [], cur, r, _, h => by
    rw [List.append_nil] at h
    have : cur.isEmpty = false := by cases cur; exact absurd rfl h; rfl
    simp [Lib.fieldsGo, this, show Lib.isSp 32 = true from by decide]
  | b :: w, cur, r, hw, h => by
    rw [List.cons_append, Lib.fieldsGo, hw b (List.mem_cons_self ..)]
    rw [if_neg (by decide), go_word w (cur ++ [b]) r (fun x hx => hw x (List.mem_cons_of_mem _ hx)) (by simp)]
    simp
theorem go_last : ∀ (w cur : List UInt8), (∀ b ∈ w, Lib.isSp b = false) → cur ++ w ≠ [] → Lib.fieldsGo cur w = [cur ++ w]
  | [], cur, _, h => by
    rw [List.append_nil] at h ⊢
    have : cur.isEmpty = false := by cases cur; exact absurd rfl h; rfl
    simp [Lib.fieldsGo, this]
  | b :: w, cur, hw, h => by
    rw [Lib.fieldsGo, hw b (List.mem_cons_self ..), if_neg (by decide), go_last w (cur ++ [b]) (fun x hx => hw x (List.mem_cons_of_mem _ hx)) (by simp)]
    simp
/-- What a list in words is made of. -/
theorem show_word {lo hi z : Int} {l : List Int} (h0 : 0 ≤ lo) (hh : hi ≤ 59) (hB : listB lo hi l = true) : (∀ b ∈ (showS l z).data.toList, 42 ≤ b.toNat ∧ b.toNat ≤ 57) ∧ (showS l z).data.toList ≠ [] ∧ (showS l z).size ≤ 3 * l.length + 1 := by
  obtain ⟨hl, hr, hn⟩ := listB_up hB
  have h60 : ∀ x ∈ l, 0 ≤ x ∧ x < 60 := fun x hx => by have := hl x hx; omega
  unfold showS
  split
  · refine ⟨fun b hb => by simp at hb; subst hb; decide, by simp, by show 1 ≤ _; omega⟩
  · refine ⟨fun b hb => by have := show_bytes h60 _ (Nat.le_refl _) b hb; omega, ?_, ?_⟩
    · have := show_some h60 (k := l.length - 1) (by omega)
      rwa [show l.length - 1 + 1 = l.length by omega] at this
    · have := showP_size (l := l) (fun x hx => by have := h60 x hx; omega) l.length (Nat.le_refl _)
      omega
theorem back_text (s : ByteArray) : (⟨s.data.toList.toArray⟩ : ByteArray) = s := by cases s; rfl
/-- A right rule comes back from its text. -/
theorem rule_back {a b c d e : List Int} (h : cronB a b c d e = true) : pcO (cronS a b c d e) = some [a, b, c, d, e] := by
  unfold cronB at h
  simp only [Bool.and_eq_true] at h
  obtain ⟨h1, h2, h3, h4, h5⟩ := h
  obtain ⟨b1, s1, z1⟩ := show_word (z := 60) (by decide) (by decide) h1
  obtain ⟨b2, s2, z2⟩ := show_word (z := 24) (by decide) (by decide) h2
  obtain ⟨b3, s3, z3⟩ := show_word (z := 31) (by decide) (by decide) h3
  obtain ⟨b4, s4, z4⟩ := show_word (z := 12) (by decide) (by decide) h4
  obtain ⟨b5, s5, z5⟩ := show_word (z := 7) (by decide) (by decide) h5
  have n1 := list_len h1
  have n2 := list_len h2
  have n3 := list_len h3
  have n4 := list_len h4
  have n5 := list_len h5
  have one : (ByteArray.mk #[32]).size = 1 := rfl
  have hsz : (cronS a b c d e).size ≤ 600 := by
    unfold cronS
    simp only [ByteArray.size_append, one]
    omega
  have hbytes : (cronS a b c d e).data.toList = (showS a 60).data.toList ++ 32 :: ((showS b 24).data.toList ++ 32 :: ((showS c 31).data.toList ++ 32 :: ((showS d 12).data.toList ++ 32 :: (showS e 7).data.toList))) := by
    unfold cronS
    simp [ByteArray.data_append]
  have sp : ∀ {x : ByteArray}, (∀ b ∈ x.data.toList, 42 ≤ b.toNat ∧ b.toNat ≤ 57) → ∀ b ∈ x.data.toList, Lib.isSp b = false := fun hx b hb => by
    have := hx b hb
    rw [isSp_plain (by omega)]
    exact decide_eq_false (by omega)
  have hf : Lib.fields (cronS a b c d e).data.toList = [(showS a 60).data.toList, (showS b 24).data.toList, (showS c 31).data.toList, (showS d 12).data.toList, (showS e 7).data.toList] := by
    rw [hbytes]
    unfold Lib.fields
    rw [go_word _ [] _ (sp b1) (by simpa using s1), go_word _ [] _ (sp b2) (by simpa using s2), go_word _ [] _ (sp b3) (by simpa using s3), go_word _ [] _ (sp b4) (by simpa using s4), go_last _ [] (sp b5) (by simpa using s5)]
    rfl
  have hpl : ∀ x ∈ (cronS a b c d e).data.toList, 32 ≤ x.toNat ∧ x.toNat ≤ 126 := by
    intro x hx
    rw [hbytes] at hx
    simp only [List.mem_append, List.mem_cons] at hx
    rcases hx with h | h | h | h | h | h | h | h | h
    · have := b1 x h; omega
    · subst h; decide
    · have := b2 x h; omega
    · subst h; decide
    · have := b3 x h; omega
    · subst h; decide
    · have := b4 x h; omega
    · subst h; decide
    · have := b5 x h; omega
  have hparts : partsR (cronS a b c d e) = (Lib.fields (cronS a b c d e).data.toList, true) := by
    unfold partsR
    rw [if_neg (by omega), if_pos hpl, if_neg (by rw [hf]; simp)]
  unfold pcO
  rw [hparts, if_pos rfl, hf]
  show pcT [⟨_⟩, ⟨_⟩, ⟨_⟩, ⟨_⟩, ⟨_⟩] = _
  rw [back_text, back_text, back_text, back_text, back_text]
  obtain ⟨H1, e1, p1⟩ := field_back (z := 60) (by decide) (by decide) (by decide) (by decide) h1
  obtain ⟨H2, e2, p2⟩ := field_back (z := 24) (by decide) (by decide) (by decide) (by decide) h2
  obtain ⟨H3, e3, p3⟩ := field_back (z := 31) (by decide) (by decide) (by decide) (by decide) h3
  obtain ⟨H4, e4, p4⟩ := field_back (z := 12) (by decide) (by decide) (by decide) (by decide) h4
  obtain ⟨H5, e5, p5⟩ := field_back (z := 7) (by decide) (by decide) (by decide) (by decide) h5
  unfold pcT fieldL
  simp only []
  rw [e1, e2, e3, e4, e5]
  show some [picks H1 0 _, picks H2 0 _, picks H3 1 _, picks H4 1 _, picks H5 0 _] = _
  rw [p1, p2, p3, p4, p5]
end Go.Proofs.YtgeimliibddhmaaDoor

namespace Go.Proofs.YtgeimliibddhmaaDoor
open Go Go.RowKit
set_option linter.unusedVariables false

/-- A number within a reach. -/
def numOk (s : ByteArray) (lo hi : Int) : Bool := (rd s).2 && decide (lo ≤ (rd s).1) && decide ((rd s).1 ≤ hi)
/-- Two numbers. -/
def twoOk (x y : ByteArray) (lo hi : Int) : Bool := numOk x lo hi && (numOk y lo hi && decide ((rd x).1 ≤ (rd y).1))
theorem rd_not_free {s : ByteArray} (h : ¬ free s 45) : rd s = (0, false) := by
  have h2 : ∃ b ∈ s.data.toList, b.toNat = 45 := by
    apply Classical.byContradiction
    intro hn
    exact h fun b hb e => hn ⟨b, hb, e⟩
  obtain ⟨b, hb, e⟩ := h2
  obtain ⟨k, hk⟩ := List.getElem?_of_mem hb
  rw [Array.getElem?_toList] at hk
  obtain ⟨hlt, he⟩ := Array.getElem?_eq_some_iff.1 hk
  have hlt2 : k < s.size := hlt
  refine rd_none (j := k) hlt2 (.inl ?_)
  have : s[k] = b := he
  rw [this, e]
  decide
theorem piece_one {s : ByteArray} {lo hi : Int} (h1 : s ≠ ⟨#[42]⟩) (h2 : ¬ (2 < s.size ∧ s.extract 0 2 = ⟨#[42, 47]⟩)) (hf : free s 45) : (piece s lo hi).2.2.2 = twoOk s s lo hi ∧ (piece s lo hi).1 = (rd s).1 ∧ (piece s lo hi).2.1 = (rd s).1 ∧ (piece s lo hi).2.2.1 = 1 := by
  unfold piece
  rw [if_neg h1, if_neg h2, split_free hf]
  refine ⟨?_, rfl, rfl, rfl⟩
  show ((rd s).2 && true && decide (1 ≤ 2) && decide (lo ≤ (rd s).1) && decide ((rd s).1 ≤ (rd s).1) && decide ((rd s).1 ≤ hi)) = _
  unfold twoOk numOk
  cases (rd s).2 <;> simp
theorem split_len {s : ByteArray} {c : UInt8} (h : ¬ free s c.toNat) : 2 ≤ (splitB s c.toNat).length := by
  rcases first_of s c with ⟨_, hf⟩ | ⟨i, _, _, hf, he⟩
  · exact absurd hf h
  · rw [he, split_first hf, List.length_cons]
    have := cutsN_some (s.extract (i + 1) s.size) c.toNat
    omega
theorem piece_two {s x y : ByteArray} {lo hi : Int} (h1 : s ≠ ⟨#[42]⟩) (h2 : ¬ (2 < s.size ∧ s.extract 0 2 = ⟨#[42, 47]⟩)) (hf : free x 45) (he : s = x ++ ⟨#[45]⟩ ++ y) : (piece s lo hi).2.2.2 = twoOk x y lo hi ∧ (twoOk x y lo hi = true → (piece s lo hi).1 = (rd x).1 ∧ (piece s lo hi).2.1 = (rd y).1 ∧ (piece s lo hi).2.2.1 = 1) := by
  have hs : splitB s 45 = x :: splitB y 45 := by rw [he]; exact split_first (c := 45) hf
  unfold piece
  rw [if_neg h1, if_neg h2, hs]
  by_cases hy : free y 45
  · rw [split_free hy]
    refine ⟨?_, fun _ => ⟨rfl, rfl, rfl⟩⟩
    show ((rd x).2 && (rd y).2 && decide (2 ≤ 2) && decide (lo ≤ (rd x).1) && decide ((rd x).1 ≤ (rd y).1) && decide ((rd y).1 ≤ hi)) = _
    unfold twoOk numOk
    cases (rd x).2 <;> cases (rd y).2 <;> simp
    rw [Bool.eq_iff_iff]
    simp
    omega
  · have h3 := split_len (c := 45) hy
    have h3' : 2 ≤ (splitB y 45).length := h3
    have hz : twoOk x y lo hi = false := by
      unfold twoOk numOk
      rw [rd_not_free hy]
      simp
    refine ⟨?_, fun h => by rw [hz] at h; cases h⟩
    rw [hz]
    unfold pieceP
    have hl : ¬ (x :: splitB y 45).length ≤ 2 := by rw [List.length_cons]; omega
    simp only [decide_eq_false hl, Bool.and_false, Bool.false_and]
theorem pre_not {s : ByteArray} (h : Lib.hasPrefix s.data.toList [42, 47] = false) : ¬ (2 < s.size ∧ s.extract 0 2 = ⟨#[42, 47]⟩) := by
  rintro ⟨h1, h2⟩
  have h3 : (s.extract 0 2).data.toList = [42, 47] := by rw [h2]
  rw [ByteArray.data_extract, Array.toList_extract] at h3
  simp at h3
  have h4 : Lib.hasPrefix s.data.toList [42, 47] = true := by
    unfold Lib.hasPrefix
    rw [List.isPrefixOf_iff_prefix]
    exact ⟨s.data.toList.drop 2, by rw [← h3, List.take_append_drop]⟩
  rw [h] at h4
  cases h4
theorem pre_steps {s : ByteArray} (h : Lib.hasPrefix s.data.toList [42, 47] = true) : ∃ r : List UInt8, s = ⟨(42 :: 47 :: r).toArray⟩ ∧ Lib.trimPrefix s.data.toList [42, 47] = r := by
  unfold Lib.hasPrefix at h
  obtain ⟨r, hr⟩ := List.isPrefixOf_iff_prefix.1 h
  refine ⟨r, ?_, ?_⟩
  · apply ByteArray.ext
    apply Array.toList_inj.1
    rw [← hr]
    simp
  · unfold Lib.trimPrefix Lib.hasPrefix
    rw [if_pos h, ← hr]
    rfl
theorem piece_steps {r : List UInt8} {lo hi : Int} : (piece ⟨(42 :: 47 :: r).toArray⟩ lo hi).2.2.2 = ((rd ⟨r.toArray⟩).2 && decide (1 ≤ (rd ⟨r.toArray⟩).1)) ∧ (((rd ⟨r.toArray⟩).2 && decide (1 ≤ (rd ⟨r.toArray⟩).1)) = true → (piece ⟨(42 :: 47 :: r).toArray⟩ lo hi).1 = lo ∧ (piece ⟨(42 :: 47 :: r).toArray⟩ lo hi).2.1 = hi ∧ (piece ⟨(42 :: 47 :: r).toArray⟩ lo hi).2.2.1 = (rd ⟨r.toArray⟩).1) := by
  have h1 : (⟨(42 :: 47 :: r).toArray⟩ : ByteArray) ≠ ⟨#[42]⟩ := by
    intro e
    have := congrArg ByteArray.size e
    simp [ByteArray.size] at this
  cases r with
  | nil =>
    have hz : rd ⟨([] : List UInt8).toArray⟩ = (0, false) := rd_out (.inl rfl)
    have hp := piece_one (s := ⟨(42 :: 47 :: ([] : List UInt8)).toArray⟩) (lo := lo) (hi := hi) h1 (by intro h; exact absurd h.1 (by show ¬ 2 < 2; decide)) (by intro b hb; simp at hb; rcases hb with rfl | rfl <;> decide)
    have hr : rd ⟨(42 :: 47 :: ([] : List UInt8)).toArray⟩ = (0, false) := rd_none (j := 0) (by show 0 < 2; decide) (.inl (by show (42 : UInt8).toNat < 48; decide))
    rw [hz, hp.1]
    refine ⟨?_, fun h => by cases h⟩
    unfold twoOk numOk
    rw [hr]
    rfl
  | cons b r =>
    have h2 : 2 < (⟨(42 :: 47 :: b :: r).toArray⟩ : ByteArray).size ∧ (⟨(42 :: 47 :: b :: r).toArray⟩ : ByteArray).extract 0 2 = ⟨#[42, 47]⟩ := by
      refine ⟨by simp [ByteArray.size], ?_⟩
      apply ByteArray.ext
      simp
    have h3 : (⟨(42 :: 47 :: b :: r).toArray⟩ : ByteArray).extract 2 (⟨(42 :: 47 :: b :: r).toArray⟩ : ByteArray).size = ⟨(b :: r).toArray⟩ := by
      apply ByteArray.ext
      simp [ByteArray.size]
    unfold piece
    rw [if_neg h1, if_pos h2, h3]
    exact ⟨rfl, fun _ => ⟨rfl, rfl, rfl⟩⟩
/-- What readPiece answers. -/
def pieceF (s : ByteArray) (lo hi : Int) : Nat → Bool := orNone (piece s lo hi).2.2.2 (eachP (piece s lo hi).1.toNat (piece s lo hi).2.1 (piece s lo hi).2.2.1.toNat)
/-- The library's word of the greatest length is some number. -/
def MaxIs (w : World) : Prop := ∃ m, w.cell? ⟨3, 0, none⟩ = some (.int .i64 m)
theorem MaxIs.up {w w' : World} (h : MaxIs w) (hb : Below w.heap.size w w') : MaxIs w' := by
  obtain ⟨m, hm⟩ := h
  exact ⟨m, cell_up hb hm⟩
theorem cut_is (s : ByteArray) : (free s 45 ∧ Lib.cut s.data.toList [45] = (s.data.toList, [], false)) ∨ ∃ x y : ByteArray, free x 45 ∧ s = x ++ ⟨#[45]⟩ ++ y ∧ Lib.cut s.data.toList [45] = (x.data.toList, y.data.toList, true) := by
  rcases first_of s 45 with ⟨h, hf⟩ | ⟨i, h, hi, hf, he⟩
  · left
    refine ⟨hf, ?_⟩
    have h' : Lib.index s.data.toList [45] = -1 := h
    unfold Lib.cut
    rw [if_neg (by rw [h']; decide)]
  · right
    refine ⟨s.extract 0 i, s.extract (i + 1) s.size, hf, he, ?_⟩
    have h' : Lib.index s.data.toList [45] = (i : Int) := h
    have hsz : s.data.toList.length = s.size := by simp
    unfold Lib.cut
    rw [if_pos (by rw [h']; omega), h', Int.toNat_natCast, ByteArray.data_extract, ByteArray.data_extract]
    refine Prod.ext ?_ (Prod.ext ?_ rfl)
    · simp
    · show List.drop (i + 1) s.data.toList = _
      rw [Array.toList_extract]
      simp
      rw [List.take_of_length_le (by simp)]

def B2c (W : World) (b : Nat) (lo hi : Int) : Prop := W.cell? ⟨b, 0, none⟩ = some (.int .i64 lo) ∧ W.cell? ⟨b, 1, none⟩ = some (.int .i64 hi)
theorem B2c.up {W W' : World} {b : Nat} {lo hi : Int} (h : B2c W b lo hi) (hb : Below W.heap.size W W') : B2c W' b lo hi := ⟨cell_up hb h.1, cell_up hb h.2⟩
set_option maxRecDepth 10000 in
set_option maxHeartbeats 4000000 in
theorem readPiece_any (s : ByteArray) (lo : Nat) (hi : Int) (w : World) (hs : s.size ≤ 1048576) (hlo : lo ≤ 60) (h9 : hi ≤ 59) (hm : MaxIs w) :
    Calls Tryd.prog 76 #[.string s, .agg #[.int .i64 (lo : Int), .int .i64 hi]] w fun e w' => e = .returned (.tuple #[.agg (fldA (pieceF s lo hi)), .bool (piece s lo hi).2.2.2]) ∧ Below w.heap.size w w' := by
  have HM : Hid (∀ W, Below w.heap.size w W → MaxIs W) := fun W hb => hm.up hb
  clear hm
  by_cases h1 : s = ⟨#[42]⟩
  · have HP : Hid (piece s lo hi = ((lo : Int), hi, 1, true)) := by show piece s lo hi = _; unfold piece; rw [if_pos h1]
    have HF : Hid (fldA (pieceF s lo hi) = fldA (eachP lo hi 1)) := by show _ = _; unfold pieceF; rw [HP.out]; rfl
    rw [HF.out, HP.out]
    have HE : Hid (∀ W, Calls Tryd.prog 67 #[.agg #[.int .i64 (lo : Int), .int .i64 hi], .int .i64 1] W fun e w' => e = .returned (.agg (fldA (eachP lo hi 1))) ∧ Below W.heap.size W w') := fun W => eachOf_nat lo 1 hi W hlo h9 (by decide) (by decide)
    clear HP HF
    subst h1
    go_enter Tryd.func76, Tryd.ntmps76
    obtain ⟨V, HV⟩ : ∃ V, Hid ((w.alloc (.cells #[.int .i64 (lo : Int), .int .i64 hi] 63)).alloc (.cells (fldA fun _ => false) 55) = V) := ⟨_, rfl⟩
    have HZ : Hid (Fb 55 V (w.heap.size + 1) (fun _ => false)) := by show Fb _ _ _ _; rw [← HV.out]; exact Fb.new 55 _ _ (by simp)
    have c0 : V.cell? ⟨w.heap.size, 0, none⟩ = some (.int .i64 (lo : Int)) := by rw [← HV.out]; simp [go_sem]
    have c1 : V.cell? ⟨w.heap.size, 1, none⟩ = some (.int .i64 hi) := by rw [← HV.out]; simp [go_sem]
    have BV : Below w.heap.size w V := by rw [← HV.out]; exact ba (ba (Below.refl _ _) _) _
    go_wp2_with (refine wpl_alloc rfl rfl ?_; rw [HV.out])
    refine (HE.out _).mono ?_
    rintro e w1 ⟨rfl, hb1⟩
    have HZ1 : Hid (Fb 55 w1 (w.heap.size + 1) (fun _ => false)) := HZ.out.up hb1
    have B1 := Below.on BV hb1
    clear hb1 c0 c1
    go_wp2_with (refine wpl_store HZ1.out (eachP lo hi 1) (.tmp 4) (.tmp 18) rfl rfl rfl rfl ?_)
    refine bodyPost_ret (ret_f2 rfl rfl rfl (HZ1.out.row _)) rfl ?_
    exact ⟨rfl, below_setRow B1 (by omega) _⟩
  have hq : (s.toList == [42]) = false := by rw [← star_list]; exact ne_list h1
  cases hpre : Lib.hasPrefix s.data.toList [42, 47] with
  | true =>
    obtain ⟨r, hsr, htr⟩ := pre_steps hpre
    have hps := piece_steps (r := r) (lo := lo) (hi := hi)
    rw [← hsr] at hps
    obtain ⟨X, hX⟩ : ∃ X : ByteArray, (⟨r.toArray⟩ : ByteArray) = X := ⟨_, rfl⟩
    rw [hX] at hps
    have hXs : X.size ≤ 9223372036854775807 := by
      rw [← hX]
      have h7 : s.data.size = r.length + 2 := by rw [hsr]; simp
      have h8 : s.data.size = s.size := rfl
      show r.toArray.size ≤ _
      rw [List.size_toArray]
      omega
    have HCP : Hid (∀ W, Calls Tryd.prog 95 #[.string s, .string ⟨#[42, 47]⟩] W fun e w' => e = .returned (.tuple #[.string X, .bool true]) ∧ w' = W) := fun W => by
      have := Tryd.strings_CutPrefix s ⟨#[42, 47]⟩ W
      have e1 : (⟨#[42, 47]⟩ : ByteArray).data.toList = [42, 47] := rfl
      rw [e1, hpre, htr, hX] at this
      exact this
    have HST : Hid (∀ W, Calls Tryd.prog 96 #[.string X, .agg #[.int .i64 (lo : Int), .int .i64 hi]] W fun e w' => e = .returned (.tuple #[.agg (fldA (pieceF s lo hi)), .bool (piece s lo hi).2.2.2]) ∧ Below W.heap.size W w') := fun W => by
      have := readSteps_any X lo hi W hXs hlo h9
      rw [← hps.1] at this
      have e2 : fldA (orNone (piece s lo hi).2.2.2 (eachP lo hi (rd X).1.toNat)) = fldA (pieceF s lo hi) := by
        unfold pieceF
        cases hk : (piece s lo hi).2.2.2 with
        | false => rfl
        | true =>
          obtain ⟨g1, g2, g3⟩ := hps.2 (hps.1.symm.trans hk)
          rw [g1, g2, g3]
          rfl
      rw [e2] at this
      exact this
    obtain ⟨PF, HPF⟩ : ∃ PF, Hid (pieceF s lo hi = PF) := ⟨_, rfl⟩
    obtain ⟨OK, HOK⟩ : ∃ OK, Hid ((piece s lo hi).2.2.2 = OK) := ⟨_, rfl⟩
    rw [HPF.out, HOK.out] at HST
    rw [HPF.out, HOK.out]
    clear HPF HOK hps hsr htr hX hpre h1
    go_enter Tryd.func76, Tryd.ntmps76
    obtain ⟨V, HV⟩ : ∃ V, Hid ((w.alloc (.cells #[.int .i64 (lo : Int), .int .i64 hi] 63)).alloc (.cells (fldA fun _ => false) 55) = V) := ⟨_, rfl⟩
    have HZ : Hid (Fb 55 V (w.heap.size + 1) (fun _ => false)) := by show Fb _ _ _ _; rw [← HV.out]; exact Fb.new 55 _ _ (by simp)
    have c0 : V.cell? ⟨w.heap.size, 0, none⟩ = some (.int .i64 (lo : Int)) := by rw [← HV.out]; simp [go_sem]
    have c1 : V.cell? ⟨w.heap.size, 1, none⟩ = some (.int .i64 hi) := by rw [← HV.out]; simp [go_sem]
    have BV : Below w.heap.size w V := by rw [← HV.out]; exact ba (ba (Below.refl _ _) _) _
    go_wp2_with (first | (refine wpl_alloc rfl rfl ?_; rw [HV.out]) | (go_at_call 95; refine (HCP.out _).mono ?_; rintro e w2 ⟨rfl, hw⟩; have hw2 := hw.symm; subst hw2))
    refine (HST.out _).mono ?_
    rintro e w1 ⟨rfl, hb1⟩
    have HZ1 : Hid (Fb 55 w1 (w.heap.size + 1) (fun _ => false)) := HZ.out.up hb1
    have B1 := Below.on BV hb1
    clear hb1 c0 c1
    go_wp2_with (refine wpl_store HZ1.out PF (.tmp 4) (.tmp 28) rfl rfl rfl rfl ?_)
    refine bodyPost_ret (ret_f2 rfl rfl rfl (HZ1.out.row _)) rfl ?_
    exact ⟨rfl, below_setRow B1 (by omega) _⟩
  | false =>
    have h2 := pre_not hpre
    have HCP : Hid (∀ W, ∃ z, Calls Tryd.prog 95 #[.string s, .string ⟨#[42, 47]⟩] W fun e w' => e = .returned (.tuple #[.string z, .bool false]) ∧ w' = W) := fun W => by
      have := Tryd.strings_CutPrefix s ⟨#[42, 47]⟩ W
      have e1 : (⟨#[42, 47]⟩ : ByteArray).data.toList = [42, 47] := rfl
      rw [e1, hpre] at this
      exact ⟨_, this⟩
    obtain ⟨X, Y, f, HXY⟩ : ∃ (X Y : ByteArray) (f : Bool), Hid (X.size ≤ 9223372036854775807 ∧ Y.size ≤ 9223372036854775807 ∧ (f = false → Y = X) ∧ (∀ W, MaxIs W → ∃ Z, (f = true → Z = Y) ∧ Calls Tryd.prog 97 #[.string s, .string ⟨#[45]⟩] W fun e w' => e = .returned (.tuple #[.string X, .string Z, .bool f]) ∧ Below W.heap.size W w') ∧ (piece s lo hi).2.2.2 = twoOk X Y lo hi ∧ (twoOk X Y lo hi = true → (piece s lo hi).1 = (rd X).1 ∧ (piece s lo hi).2.1 = (rd Y).1 ∧ (piece s lo hi).2.2.1 = 1)) := by
      have hcut : ∀ W, MaxIs W → Calls Tryd.prog 97 #[.string s, .string ⟨#[45]⟩] W fun e w' => e = .returned (.tuple #[.string ⟨(Lib.cut s.data.toList [45]).1.toArray⟩, .string ⟨(Lib.cut s.data.toList [45]).2.1.toArray⟩, .bool (Lib.cut s.data.toList [45]).2.2]) ∧ Below W.heap.size W w' := fun W hW => by
        obtain ⟨m, hm⟩ := hW
        refine (Tryd.strings_Cut s ⟨#[45]⟩ m W (by omega) hm).mono ?_
        rintro e w' ⟨he, n, hw⟩
        exact ⟨he, by rw [hw]; exact bdrewN (Below.refl _ _) n⟩
      rcases cut_is s with ⟨hf, hc⟩ | ⟨x, y, hf, he, hc⟩
      · have hp := piece_one (lo := lo) (hi := hi) h1 h2 hf
        refine ⟨s, s, false, by omega, by omega, fun _ => rfl, fun W hW => ⟨⟨([] : List UInt8).toArray⟩, fun h => (by cases h), ?_⟩, hp.1, fun _ => hp.2⟩
        have := hcut W hW
        rw [hc, back_text] at this
        exact this
      · have hp := piece_two (lo := lo) (hi := hi) h1 h2 hf he
        have hsz := congrArg ByteArray.size he
        rw [ByteArray.size_append, ByteArray.size_append] at hsz
        refine ⟨x, y, true, by omega, by omega, fun h => (by cases h), fun W hW => ⟨y, fun _ => rfl, ?_⟩, hp.1, hp.2⟩
        have := hcut W hW
        rw [hc, back_text, back_text] at this
        exact this
    have HNX : Hid (∀ W, Calls Tryd.prog 98 #[.string X, .agg #[.int .i64 (lo : Int), .int .i64 hi]] W fun e w' => e = .returned (.tuple #[.int .i64 (rd X).1, .bool (numOk X lo hi)]) ∧ Below W.heap.size W w') := fun W => readNumber_any X lo hi W HXY.out.1
    have HNY : Hid (∀ W, Calls Tryd.prog 98 #[.string Y, .agg #[.int .i64 (lo : Int), .int .i64 hi]] W fun e w' => e = .returned (.tuple #[.int .i64 (rd Y).1, .bool (numOk Y lo hi)]) ∧ Below W.heap.size W w') := fun W => readNumber_any Y lo hi W HXY.out.2.1
    have hbx := rd_bd X
    have hby := rd_bd Y
    obtain ⟨x, hx⟩ : ∃ x : Nat, (rd X).1 = x := ⟨(rd X).1.toNat, by omega⟩
    obtain ⟨y, hy⟩ : ∃ y : Nat, (rd Y).1 = y := ⟨(rd Y).1.toNat, by omega⟩
    obtain ⟨qx, hqx⟩ : ∃ q, numOk X lo hi = q := ⟨_, rfl⟩
    obtain ⟨qy, hqy⟩ : ∃ q, numOk Y lo hi = q := ⟨_, rfl⟩
    have HBX : Hid (qx = true → (lo : Int) ≤ x ∧ (x : Int) ≤ hi) := fun h => by
      rw [← hqx] at h
      unfold numOk at h
      rw [hx] at h
      simp only [Bool.and_eq_true, decide_eq_true_eq] at h
      exact ⟨h.1.2, h.2⟩
    have HBY : Hid (qy = true → (lo : Int) ≤ y ∧ (y : Int) ≤ hi) := fun h => by
      rw [← hqy] at h
      unfold numOk at h
      rw [hy] at h
      simp only [Bool.and_eq_true, decide_eq_true_eq] at h
      exact ⟨h.1.2, h.2⟩
    have HTO : Hid (twoOk X Y lo hi = (qx && (qy && decide ((x : Int) ≤ (y : Int))))) := by show _ = _; unfold twoOk; rw [hqx, hqy, hx, hy]
    have HPOK : Hid ((piece s lo hi).2.2.2 = (qx && (qy && decide ((x : Int) ≤ (y : Int))))) := HXY.out.2.2.2.2.1.trans HTO.out
    have HPFN : Hid ((qx && (qy && decide ((x : Int) ≤ (y : Int)))) = false → fldA (pieceF s lo hi) = fldA (fun _ => false)) := fun h => by
      unfold pieceF
      rw [HPOK.out, h]
      rfl
    have HPFY : Hid ((qx && (qy && decide ((x : Int) ≤ (y : Int)))) = true → fldA (pieceF s lo hi) = fldA (eachP x y 1)) := fun h => by
      obtain ⟨g1, g2, g3⟩ := HXY.out.2.2.2.2.2 (HTO.out.trans h)
      unfold pieceF
      rw [HPOK.out, h, g1, g2, g3, hx, hy, Int.toNat_natCast]
      rfl
    rw [hx, hqx] at HNX
    rw [hy, hqy] at HNY
    rw [hx] at hbx
    rw [hy] at hby
    have HC : Hid (∀ W, Below w.heap.size w W → ∃ Z, (f = true → Z = Y) ∧ Calls Tryd.prog 97 #[.string s, .string ⟨#[45]⟩] W fun e w' => e = .returned (.tuple #[.string X, .string Z, .bool f]) ∧ Below W.heap.size W w') := fun W hb => HXY.out.2.2.2.1 W (HM.out W hb)
    have HYX : Hid (f = false → Y = X) := HXY.out.2.2.1
    obtain ⟨PF, HPF⟩ : ∃ PF, Hid (pieceF s lo hi = PF) := ⟨_, rfl⟩
    rw [HPF.out] at HPFN HPFY
    rw [HPF.out, HPOK.out]
    clear HPF HPOK HTO HXY hx hy hqx hqy hpre h1 h2 HM
    go_enter Tryd.func76, Tryd.ntmps76
    obtain ⟨V, HV⟩ : ∃ V, Hid ((w.alloc (.cells #[.int .i64 (lo : Int), .int .i64 hi] 63)).alloc (.cells (fldA fun _ => false) 55) = V) := ⟨_, rfl⟩
    have HZ : Hid (Fb 55 V (w.heap.size + 1) (fun _ => false)) := by show Fb _ _ _ _; rw [← HV.out]; exact Fb.new 55 _ _ (by simp)
    have HZC : Hid (B2c V w.heap.size lo hi) := by show B2c _ _ _ _; rw [← HV.out]; exact ⟨by simp [go_sem], by simp [go_sem]⟩
    have BV : Below w.heap.size w V := by rw [← HV.out]; exact ba (ba (Below.refl _ _) _) _
    obtain ⟨z, hcp⟩ := HCP.out V
    obtain ⟨Z, hZ, hct⟩ := HC.out V BV
    have HCT : Hid (Calls Tryd.prog 97 #[.string s, .string ⟨#[45]⟩] V fun e w' => e = .returned (.tuple #[.string X, .string Z, .bool f]) ∧ Below V.heap.size V w') := hct
    have HCPV : Hid (Calls Tryd.prog 95 #[.string s, .string ⟨#[42, 47]⟩] V fun e w' => e = .returned (.tuple #[.string z, .bool false]) ∧ w' = V) := hcp
    have HZE : Hid (f = true → Z = Y) := hZ
    clear hcp hct hZ HCP HC
    go_wp2_with (first | (refine wpl_alloc rfl rfl ?_; rw [HV.out]) | (go_at_call 95; refine HCPV.out.mono ?_; rintro e w2 ⟨rfl, hw⟩; have hw2 := hw.symm; subst hw2))
    refine HCT.out.mono ?_
    rintro e w1 ⟨rfl, hb1⟩
    have HZ1 : Hid (Fb 55 w1 (w.heap.size + 1) (fun _ => false)) := HZ.out.up hb1
    have HC1 : Hid (B2c w1 w.heap.size lo hi) := HZC.out.up hb1
    have B1 := Below.on BV hb1
    clear hb1 HV HZ HZC BV HCT HCPV
    have c0 := HC1.out.1
    have c1 := HC1.out.2
    cases f with
    | false =>
      have hyx := HYX.out rfl
      subst hyx
      go_wp2_with fail
      refine (HNX.out _).mono ?_
      rintro e w3 ⟨rfl, hb3⟩
      have HZ3 : Hid (Fb 55 w3 (w.heap.size + 1) (fun _ => false)) := HZ1.out.up hb3
      have HC3 : Hid (B2c w3 w.heap.size lo hi) := HC1.out.up hb3
      have B3 := Below.on B1 hb3
      clear hb3 c0 c1
      have c0 := HC3.out.1
      have c1 := HC3.out.2
      go_wp2_with fail
      refine (HNY.out _).mono ?_
      rintro e w4 ⟨rfl, hb4⟩
      have HZ4 : Hid (Fb 55 w4 (w.heap.size + 1) (fun _ => false)) := HZ3.out.up hb4
      have B4 := Below.on B3 hb4
      clear hb4 c0 c1 HC3 HC1 HZ1 HZ3 B3 B1 HNX HNY
      cases qx with
      | false =>
        have HF := HPFN.out rfl
        go_wp2_with (first | (refine wpl_build rfl rfl ?_) | (refine wpl_store HZ4.out (fun _ => false) (.tmp 4) (.tmp 62) rfl rfl rfl rfl ?_))
        refine bodyPost_ret (ret_f2 rfl rfl rfl (HZ4.out.row _)) rfl ?_
        exact ⟨by rw [HF]; rfl, below_setRow B4 (by omega) _⟩
      | true =>
        cases qy with
        | false =>
          have HF := HPFN.out rfl
          go_wp2_with (first | (refine wpl_build rfl rfl ?_) | (refine wpl_store HZ4.out (fun _ => false) (.tmp 4) (.tmp 62) rfl rfl rfl rfl ?_))
          refine bodyPost_ret (ret_f2 rfl rfl rfl (HZ4.out.row _)) rfl ?_
          exact ⟨by rw [HF]; rfl, below_setRow B4 (by omega) _⟩
        | true =>
          obtain ⟨x0, x1⟩ := HBX.out rfl
          obtain ⟨y0, y1⟩ := HBY.out rfl
          by_cases hxy : (x : Int) ≤ (y : Int)
          · have hd : decide ((x : Int) ≤ (y : Int)) = true := decide_eq_true hxy
            have HF : Hid (fldA PF = fldA (eachP x y 1)) := HPFY.out (by rw [hd]; rfl)
            have g1 : decide ((y : Int) < (x : Int)) = false := decide_eq_false (by omega)
            have HE : Hid (∀ W, Calls Tryd.prog 67 #[.agg #[.int .i64 (x : Int), .int .i64 (y : Int)], .int .i64 1] W fun e w' => e = .returned (.agg (fldA (eachP x y 1))) ∧ Below W.heap.size W w') := fun W => eachOf_nat x 1 y W (by omega) (by omega) (by decide) (by decide)
            have HD : Hid (decide ((x : Int) ≤ (y : Int)) = true) := hd
            clear hd
            go_wp2_with fail
            refine (HE.out _).mono ?_
            rintro e w5 ⟨rfl, hb5⟩
            have HZ5 : Hid (Fb 55 w5 (w.heap.size + 1) (fun _ => false)) := HZ4.out.up hb5
            have B5' := Below.on B4 hb5
            clear hb5
            go_wp2_with (refine wpl_store HZ5.out (eachP x y 1) (.tmp 4) (.tmp 66) rfl rfl rfl rfl ?_)
            refine bodyPost_ret (ret_f2 rfl rfl rfl (HZ5.out.row _)) rfl ?_
            exact ⟨by rw [HF.out, HD.out]; rfl, below_setRow B5' (by omega) _⟩
          · have hd : decide ((x : Int) ≤ (y : Int)) = false := decide_eq_false hxy
            have HF : Hid (fldA PF = fldA (fun _ => false)) := HPFN.out (by rw [hd]; rfl)
            have HD : Hid (decide ((x : Int) ≤ (y : Int)) = false) := hd
            have g1 : decide ((y : Int) < (x : Int)) = true := decide_eq_true (by omega)
            clear hd
            go_wp2_with (first | (refine wpl_build rfl rfl ?_) | (refine wpl_store HZ4.out (fun _ => false) (.tmp 4) (.tmp 62) rfl rfl rfl rfl ?_))
            refine bodyPost_ret (ret_f2 rfl rfl rfl (HZ4.out.row _)) rfl ?_
            exact ⟨by rw [HF.out, HD.out]; rfl, below_setRow B4 (by omega) _⟩
    | true =>
      have hzy := HZE.out rfl
      subst hzy
      go_wp2_with fail
      refine (HNX.out _).mono ?_
      rintro e w3 ⟨rfl, hb3⟩
      have HZ3 : Hid (Fb 55 w3 (w.heap.size + 1) (fun _ => false)) := HZ1.out.up hb3
      have HC3 : Hid (B2c w3 w.heap.size lo hi) := HC1.out.up hb3
      have B3 := Below.on B1 hb3
      clear hb3 c0 c1
      have c0 := HC3.out.1
      have c1 := HC3.out.2
      go_wp2_with fail
      refine (HNY.out _).mono ?_
      rintro e w4 ⟨rfl, hb4⟩
      have HZ4 : Hid (Fb 55 w4 (w.heap.size + 1) (fun _ => false)) := HZ3.out.up hb4
      have B4 := Below.on B3 hb4
      clear hb4 c0 c1 HC3 HC1 HZ1 HZ3 B3 B1 HNX HNY
      cases qx with
      | false =>
        have HF := HPFN.out rfl
        go_wp2_with (first | (refine wpl_build rfl rfl ?_) | (refine wpl_store HZ4.out (fun _ => false) (.tmp 4) (.tmp 62) rfl rfl rfl rfl ?_))
        refine bodyPost_ret (ret_f2 rfl rfl rfl (HZ4.out.row _)) rfl ?_
        exact ⟨by rw [HF]; rfl, below_setRow B4 (by omega) _⟩
      | true =>
        cases qy with
        | false =>
          have HF := HPFN.out rfl
          go_wp2_with (first | (refine wpl_build rfl rfl ?_) | (refine wpl_store HZ4.out (fun _ => false) (.tmp 4) (.tmp 62) rfl rfl rfl rfl ?_))
          refine bodyPost_ret (ret_f2 rfl rfl rfl (HZ4.out.row _)) rfl ?_
          exact ⟨by rw [HF]; rfl, below_setRow B4 (by omega) _⟩
        | true =>
          obtain ⟨x0, x1⟩ := HBX.out rfl
          obtain ⟨y0, y1⟩ := HBY.out rfl
          by_cases hxy : (x : Int) ≤ (y : Int)
          · have hd : decide ((x : Int) ≤ (y : Int)) = true := decide_eq_true hxy
            have HF : Hid (fldA PF = fldA (eachP x y 1)) := HPFY.out (by rw [hd]; rfl)
            have g1 : decide ((y : Int) < (x : Int)) = false := decide_eq_false (by omega)
            have HE : Hid (∀ W, Calls Tryd.prog 67 #[.agg #[.int .i64 (x : Int), .int .i64 (y : Int)], .int .i64 1] W fun e w' => e = .returned (.agg (fldA (eachP x y 1))) ∧ Below W.heap.size W w') := fun W => eachOf_nat x 1 y W (by omega) (by omega) (by decide) (by decide)
            have HD : Hid (decide ((x : Int) ≤ (y : Int)) = true) := hd
            clear hd
            go_wp2_with fail
            refine (HE.out _).mono ?_
            rintro e w5 ⟨rfl, hb5⟩
            have HZ5 : Hid (Fb 55 w5 (w.heap.size + 1) (fun _ => false)) := HZ4.out.up hb5
            have B5' := Below.on B4 hb5
            clear hb5
            go_wp2_with (refine wpl_store HZ5.out (eachP x y 1) (.tmp 4) (.tmp 66) rfl rfl rfl rfl ?_)
            refine bodyPost_ret (ret_f2 rfl rfl rfl (HZ5.out.row _)) rfl ?_
            exact ⟨by rw [HF.out, HD.out]; rfl, below_setRow B5' (by omega) _⟩
          · have hd : decide ((x : Int) ≤ (y : Int)) = false := decide_eq_false hxy
            have HF : Hid (fldA PF = fldA (fun _ => false)) := HPFN.out (by rw [hd]; rfl)
            have HD : Hid (decide ((x : Int) ≤ (y : Int)) = false) := hd
            have g1 : decide ((y : Int) < (x : Int)) = true := decide_eq_true (by omega)
            clear hd
            go_wp2_with (first | (refine wpl_build rfl rfl ?_) | (refine wpl_store HZ4.out (fun _ => false) (.tmp 4) (.tmp 62) rfl rfl rfl rfl ?_))
            refine bodyPost_ret (ret_f2 rfl rfl rfl (HZ4.out.row _)) rfl ?_
            exact ⟨by rw [HF.out, HD.out]; rfl, below_setRow B4 (by omega) _⟩
end Go.Proofs.YtgeimliibddhmaaDoor

namespace Go.Proofs.YtgeimliibddhmaaDoor
open Go Go.RowKit
set_option linter.unusedVariables false

theorem stamp_all {H : List Bool} {a t x : Nat} : ∀ j, (∀ i, i < j → a + i * t < H.length) → ((stamp H a t j).getD x false = true ↔ (∃ i, i < j ∧ x = a + i * t) ∨ H.getD x false = true)
  | 0, _ => ⟨fun h => .inr h, fun h => h.elim (fun ⟨i, hi, _⟩ => absurd hi (Nat.not_lt_zero _)) id⟩
  | j + 1, h => by
    unfold stamp
    rw [getD_set _ _ _ (by rw [stamp_length]; exact h j (Nat.lt_succ_self j)), Bool.or_eq_true, decide_eq_true_eq, stamp_all j (fun i hi => h i (by omega))]
    constructor
    · rintro (h | ⟨i, hi, rfl⟩ | h)
      · exact .inl ⟨j, Nat.lt_succ_self j, h.symm⟩
      · exact .inl ⟨i, by omega, rfl⟩
      · exact .inr h
    · rintro (⟨i, hi, rfl⟩ | h)
      · by_cases hij : i = j
        · subst hij; exact .inl rfl
        · exact .inr (.inl ⟨i, by omega, rfl⟩)
      · exact .inr (.inr h)
theorem stampP_is {H : List Bool} {q : Int × Int × Int × Bool} {lo hi : Int} (h0 : 0 ≤ lo) (h1 : lo ≤ q.1) (h2 : q.1 ≤ q.2.1) (h3 : q.2.1 ≤ hi) (h4 : 1 ≤ q.2.2.1) (hl : H.length = (hi + 1).toNat) (x : Nat) :
    (stampP H q).getD x false = (H.getD x false || eachP q.1.toNat q.2.1 q.2.2.1.toNat x) := by
  obtain ⟨a, b, t, z⟩ := q
  dsimp only at h1 h2 h3 h4
  obtain ⟨A, hA⟩ : ∃ A : Nat, a = A := ⟨a.toNat, by omega⟩
  obtain ⟨T, hT⟩ : ∃ T : Nat, t = T := ⟨t.toNat, by omega⟩
  obtain ⟨D, hD⟩ : ∃ D : Nat, b - a = D := ⟨(b - a).toNat, by omega⟩
  subst hA hT
  unfold stampP eachP
  dsimp only
  rw [hD, Int.toNat_natCast, Int.toNat_natCast, Int.toNat_natCast]
  have hT1 : 0 < T := by omega
  have hin : ∀ i, i < D / T + 1 → i * T ≤ D := fun i hi => (Nat.le_div_iff_mul_le hT1).1 (by omega)
  rw [Bool.eq_iff_iff, stamp_all _ (fun i hi => by have := hin i hi; omega), Bool.or_eq_true, decide_eq_true_eq]
  constructor
  · rintro (⟨i, hi, rfl⟩ | h)
    · right
      have := hin i hi
      refine ⟨by omega, by omega, ?_⟩
      rw [Nat.add_sub_cancel_left]
      exact Nat.mul_mod_left i T
    · exact .inl h
  · rintro (h | ⟨g1, g2, g3⟩)
    · exact .inr h
    · left
      have e := Nat.div_mul_cancel (Nat.dvd_of_mod_eq_zero g3)
      refine ⟨(x - A) / T, Nat.lt_succ_of_le (Nat.div_le_div_right (by omega)), by omega⟩
theorem stampP_length (H : List Bool) (q : Int × Int × Int × Bool) : (stampP H q).length = H.length := stamp_length _ _ _ _
theorem fieldGo_in {lo hi : Int} (h0 : 0 ≤ lo) (hlh : lo ≤ hi) (x : Nat) : ∀ (l : List ByteArray) (H H' : List Bool), H.length = (hi + 1).toNat → fieldGo lo hi l H = some H' → H'.getD x false = true → H.getD x false = true ∨ (lo ≤ x ∧ (x : Int) ≤ hi)
  | [], H, H', _, h, hx => by
    unfold fieldGo at h
    cases h
    exact .inl hx
  | p :: l, H, H', hl, h, hx => by
    unfold fieldGo at h
    split at h
    · rename_i hp
      obtain ⟨d1, d2, d3, d4, _⟩ := piece_bd hlh hp
      rcases fieldGo_in h0 hlh x l _ H' (by rw [stampP_length]; exact hl) h hx with g | g
      · rw [stampP_is h0 d1 d2 d3 d4 hl, Bool.or_eq_true] at g
        rcases g with g | g
        · exact .inl g
        · unfold eachP at g
          have := of_decide_eq_true g
          exact .inr ⟨by omega, by omega⟩
      · exact .inr g
    · cases h
def flagsO : Option (List Bool) → Nat → Bool
  | none, _ => false
  | some H, i => H.getD i false
/-- What readField answers. -/
def fieldF (s : ByteArray) (lo hi : Int) : Nat → Bool := flagsO (fieldO s lo hi)
theorem getD_none (m x : Nat) : (List.replicate m false).getD x false = false := by
  rw [List.getD_eq_getElem?_getD, List.getElem?_replicate]
  split <;> rfl
theorem fieldF_nums {s : ByteArray} {lo hi : Int} (h0 : 0 ≤ lo) (hlh : lo ≤ hi) (h9 : hi ≤ 59) (n : Nat) (hn : n = 60) : numsTo (fieldF s lo hi) n = fieldL s lo hi := by
  unfold fieldF fieldL
  cases h : fieldO s lo hi with
  | none =>
    show _ = []
    rw [List.eq_nil_iff_forall_not_mem]
    intro x hx
    obtain ⟨i, _, _, hp⟩ := (numsTo_mem _).1 hx
    cases hp
  | some H =>
    show _ = picks H lo (hi - lo + 1).toNat
    refine rise_ext _ _ (numsTo_rise _ _) (picks_rise _) fun x => ?_
    rw [numsTo_mem, mem_picks]
    constructor
    · rintro ⟨i, hi, rfl, hp⟩
      have hp : H.getD i false = true := hp
      rcases fieldGo_in h0 hlh i _ _ _ (List.length_replicate ..) h hp with g | g
      · rw [getD_none] at g; cases g
      · refine ⟨(i - lo).toNat, by omega, by omega, ?_⟩
        rw [show (lo + ((i - lo).toNat : Int)).toNat = i by omega]
        exact hp
    · rintro ⟨i, hi, rfl, hp⟩
      exact ⟨(lo + (i : Int)).toNat, by omega, by omega, hp⟩
end Go.Proofs.YtgeimliibddhmaaDoor

namespace Go.Proofs.YtgeimliibddhmaaDoor
open Go Go.RowKit
set_option linter.unusedVariables false

/-- What lies there in the rounds. -/
structure RfS (w : World) (B : Nat) (lo hi : Int) (L : List ByteArray) (W : World) (p : Nat → Bool) : Prop where
  z0 : B2c W B lo hi
  z1 : Fb 55 W (B + 1) (fun _ => false)
  z2 : Fb 55 W (B + 1 + 1) p
  z3 : W.heap[B + 1 + 1 + 1]? = some (.cells (L.map Value.string).toArray 9)
  be : Below B w W
section
variable {w W W' : World} {B : Nat} {lo hi : Int} {L : List ByteArray} {p : Nat → Bool}
theorem RfS.ge (h : RfS w B lo hi L W p) : B ≤ W.heap.size := by have := h.z2.lt; omega
theorem RfS.up (h : RfS w B lo hi L W p) (hb : Below W.heap.size W W') : RfS w B lo hi L W' p :=
  ⟨h.z0.up hb, h.z1.up hb, h.z2.up hb, (hb.block _ (Array.getElem?_eq_some_iff.1 h.z3).1).trans h.z3, h.be.trans (hb.mono h.ge)⟩
theorem RfS.put (h : RfS w B lo hi L W p) (q : Nat → Bool) : RfS w B lo hi L (W.setRow (B + 1 + 1) (fldA q)) q :=
  ⟨⟨(World.cell?_of_block (a := ⟨B, 0, none⟩) (setRow_other W (B + 1 + 1) B _ (by omega))).trans h.z0.1, (World.cell?_of_block (a := ⟨B, 1, none⟩) (setRow_other W (B + 1 + 1) B _ (by omega))).trans h.z0.2⟩, h.z1.rowFar (by omega), h.z2.row q, (setRow_other W (B + 1 + 1) _ _ (by omega)).trans h.z3, below_setRow h.be (by omega) _⟩
theorem RfS.at (h : RfS w B lo hi L W p) {k : Nat} {t : ByteArray} (ht : L[k]? = some t) : W.cell? ⟨B + 1 + 1 + 1, k, none⟩ = some (.string t) := by
  rw [cell_of_row _ _ k _ 9 (0, 0) h.z3]
  simp [ht]
end
set_option maxRecDepth 10000 in
set_option maxHeartbeats 4000000 in
theorem readField_any (s : ByteArray) (lo : Nat) (hi : Int) (w : World) (hs : s.size ≤ 1048576) (hlh : lo ≤ hi) (h9 : hi ≤ 59) (hm : MaxIs w) :
    Calls Tryd.prog 41 #[.string s, .agg #[.int .i64 (lo : Int), .int .i64 hi]] w fun e w' => e = .returned (.tuple #[.agg (fldA (fieldF s lo hi)), .bool (fieldO s lo hi).isSome]) ∧ Below w.heap.size w w' := by
  have HM : Hid (∀ W, Below w.heap.size w W → MaxIs W) := fun W hb => hm.up hb
  obtain ⟨L, HS⟩ : ∃ L, Hid (splitB s 44 = L) := ⟨_, rfl⟩
  have HPZ : Hid (∀ t ∈ L, t.size ≤ 1048576) := fun t ht => by have := splitB_sz s 44 t (by rw [HS.out]; exact ht); omega
  have hL : L.length ≤ 1048577 := by
    rw [← HS.out]; unfold splitB; have := (cutsN_bd s 44 (s.size + 1)).2; omega
  obtain ⟨F, HF⟩ : ∃ F, Hid (fieldO s lo hi = F) := ⟨_, rfl⟩
  have HG : Hid (fieldGo lo hi L (List.replicate (hi + 1).toNat false) = F) := by
    show _ = F; rw [← HF.out]; unfold fieldO; rw [HS.out]
  have HFF : Hid (fieldF s lo hi = flagsO F) := by show _ = _; unfold fieldF; rw [HF.out]
  have HSP : Hid (∀ W, Below w.heap.size w W → Calls Tryd.prog 75 #[.string s, .string ⟨#[44]⟩] W fun e w' => e = .returned (.slice (some ⟨W.heap.size, 0, none⟩) L.length L.length) ∧ w' = W.alloc (.cells (L.map Value.string).toArray 9)) := fun W hb => by
    obtain ⟨m, hm⟩ := HM.out W hb
    have h1 : (1 : Nat) ≤ (⟨#[44]⟩ : ByteArray).size := by show 1 ≤ 1; omega
    have := Tryd.strings_Split s ⟨#[44]⟩ m W (by omega) hm h1
    have e1 := lib_split 44 s.size s (Nat.le_refl _)
    have e2 := Lib.splitB_all ⟨#[44]⟩ h1 0 _ s rfl
    rw [e1] at e2
    rw [← e2, e1, show splitB s (44 : UInt8).toNat = L from HS.out] at this
    exact this
  have HRP : Hid (∀ t, t ∈ L → ∀ W, Below w.heap.size w W → Calls Tryd.prog 76 #[.string t, .agg #[.int .i64 (lo : Int), .int .i64 hi]] W fun e w' => e = .returned (.tuple #[.agg (fldA (pieceF t lo hi)), .bool (piece t lo hi).2.2.2]) ∧ Below W.heap.size W w') := fun t ht W hb => readPiece_any t lo hi W (HPZ.out t ht) (by omega) h9 (HM.out W hb)
  rw [HF.out, HFF.out]
  clear HF HFF HS HPZ hm HM
  go_enter Tryd.func41, Tryd.ntmps41
  obtain ⟨V, HV⟩ : ∃ V, Hid (((w.alloc (.cells #[.int .i64 (lo : Int), .int .i64 hi] 63)).alloc (.cells (fldA fun _ => false) 55)).alloc (.cells (fldA fun _ => false) 55) = V) := ⟨_, rfl⟩
  have HZ : Hid (B2c V w.heap.size lo hi ∧ Fb 55 V (w.heap.size + 1) (fun _ => false) ∧ Fb 55 V (w.heap.size + 1 + 1) (fun _ => false) ∧ Below w.heap.size w V ∧ V.heap.size = w.heap.size + 1 + 1 + 1) := by
    show B2c _ _ _ _ ∧ _
    rw [← HV.out]
    refine ⟨?_, (Fb.new 55 _ _ (by simp)).alloc _, Fb.new 55 _ _ (by simp), ba (ba (ba (Below.refl _ _) _) _) _, by simp⟩
    have h : B2c (w.alloc (.cells #[.int .i64 (lo : Int), .int .i64 hi] 63)) w.heap.size lo hi := ⟨by simp [go_sem], by simp [go_sem]⟩
    exact h.up (ba (ba (Below.refl _ _) _) _)
  go_wp2_with (first | (refine wpl_alloc rfl rfl ?_) | (rw [HV.out]))
  refine (HSP.out _ HZ.out.2.2.2.1).mono ?_
  rintro e w1 ⟨rfl, rfl⟩
  rw [HZ.out.2.2.2.2]
  have HT : Hid (RfS w w.heap.size lo hi L (V.alloc (.cells (L.map Value.string).toArray 9)) fun _ => false) := by
    have hb : Below V.heap.size V (V.alloc (.cells (L.map Value.string).toArray 9)) := ba (Below.refl _ _) _
    refine ⟨HZ.out.1.up hb, HZ.out.2.1.up hb, HZ.out.2.2.1.up hb, ?_, ba HZ.out.2.2.2.1 _⟩
    rw [← HZ.out.2.2.2.2]
    show (V.heap.push _)[V.heap.size]? = _; simp
  clear HZ HV HSP
  generalize V.alloc (.cells (L.map Value.string).toArray 9) = V1 at *
  generalize hB : w.heap.size = B at *
  go_wp2
  go_loopw [14] (fun i wr => ∃ (k : Nat) (H : List Bool) (p : Nat → Bool), k ≤ L.length ∧ i = .int .i64 k ∧ Hid (fieldGo lo hi (L.drop k) H = F ∧ H.length = (hi + 1).toNat ∧ ∀ i, p i = H.getD i false) ∧ Hid (RfS w B lo hi L wr p)) (fun i _ => L.length - (intOf i).toNat)
  case atStart => exact ⟨0, _, _, Nat.zero_le _, rfl, ⟨HG.out, List.length_replicate .., fun i => (getD_none _ i).symm⟩, HT⟩
  case round =>
    obtain ⟨k, H, p, hk, rfl, HE, HSt⟩ := hrel
    clear HT HG
    by_cases hlt : k < L.length
    · obtain ⟨t, ht⟩ : ∃ t, L[k]? = some t := ⟨_, List.getElem?_eq_getElem hlt⟩
      have c0 := HSt.out.at ht
      have c1 := HSt.out.z0.1
      have c2 := HSt.out.z0.2
      have HC : Hid (Calls Tryd.prog 76 #[.string t, .agg #[.int .i64 (lo : Int), .int .i64 hi]] wr fun e w' => e = .returned (.tuple #[.agg (fldA (pieceF t lo hi)), .bool (piece t lo hi).2.2.2]) ∧ Below wr.heap.size wr w') := HRP.out t (List.mem_of_getElem? ht) wr (by have := HSt.out.be; exact this)
      have HE2 : Hid (F = if (piece t lo hi).2.2.2 then fieldGo lo hi (L.drop (k + 1)) (stampP H (piece t lo hi)) else none) := by
        show F = _
        rw [← HE.out.1, fieldGo_at ht]
      have HN : Hid ((piece t lo hi).2.2.2 = true → ∀ i, (p i || pieceF t lo hi i) = (stampP H (piece t lo hi)).getD i false) := fun hz i => by
        obtain ⟨d1, d2, d3, d4, _⟩ := piece_bd hlh hz
        rw [stampP_is (by omega) d1 d2 d3 d4 HE.out.2.1, HE.out.2.2 i]
        unfold pieceF orNone
        rw [hz]
        rfl
      clear ht
      obtain ⟨Q, HQ⟩ : ∃ Q, Hid (pieceF t lo hi = Q) := ⟨_, rfl⟩
      obtain ⟨z, HZ⟩ : ∃ z, Hid ((piece t lo hi).2.2.2 = z) := ⟨_, rfl⟩
      rw [HQ.out, HZ.out] at HC
      rw [HQ.out, HZ.out] at HN
      rw [HZ.out] at HE2
      go_wp2_with fail
      refine HC.out.mono ?_
      rintro e w2 ⟨rfl, hb2⟩
      have HS2 : Hid (RfS w B lo hi L (w2.alloc (.cells (fldA Q) 55)) p) := (HSt.out.up hb2).up (ba (Below.refl _ _) _)
      have HFB : Hid (Fb 55 (w2.alloc (.cells (fldA Q) 55)) w2.heap.size Q) := Fb.new 55 _ _ rfl
      clear hb2 c0 c1 c2 HSt HC
      cases z with
      | false =>
        have HFn : Hid (F = none) := HE2.out
        go_wp2_with (first | (refine wpl_alloc rfl rfl ?_) | (refine wpl_store_new Q (.tmp 9) (.tmp 22) rfl rfl rfl rfl ?_) | (refine wpl_build rfl rfl ?_) | (refine wpl_store HS2.out.z1 (fun _ => false) (.tmp 4) (.tmp 26) rfl rfl rfl rfl ?_))
        refine bodyPost_ret (ret_f2 rfl rfl rfl (HS2.out.z1.row _)) rfl ?_
        subst hB
        exact ⟨by rw [HFn.out]; rfl, below_setRow HS2.out.be (by omega) _⟩
      | true =>
        have HFn : Hid (fieldGo lo hi (L.drop (k + 1)) (stampP H (piece t lo hi)) = F) := HE2.out.symm
        have HNN : Hid (∀ i, (p i || Q i) = (stampP H (piece t lo hi)).getD i false) := HN.out rfl
        have HW : Hid (∀ W, Calls Tryd.prog 77 #[.agg (fldA p), .agg (fldA Q)] W fun e w' => e = .returned (.agg (fldA fun i => p i || Q i)) ∧ Below W.heap.size W w') := fun W => with_any p Q W
        go_wp2_with (first | (refine wpl_alloc rfl rfl ?_) | (refine wpl_store_new Q (.tmp 9) (.tmp 22) rfl rfl rfl rfl ?_) | (refine wpl_load HS2.out.z2 (.tmp 6) rfl rfl rfl ?_) | (refine wpl_load HFB.out (.tmp 9) rfl rfl rfl ?_))
        refine (HW.out _).mono ?_
        rintro e w3 ⟨rfl, hb3⟩
        have HS3 : Hid (RfS w B lo hi L w3 p) := HS2.out.up hb3
        have HS4 : Hid (RfS w B lo hi L (w3.setRow (B + 1 + 1) (fldA fun i => p i || Q i)) (fun i => p i || Q i)) := HS3.out.put _
        clear hb3 HS2 HFB HW
        go_wp2_with (refine wpl_store HS3.out.z2 (fun i => p i || Q i) (.tmp 6) (.tmp 29) rfl rfl rfl rfl ?_)
        go_roundw
        case rel => exact ⟨k + 1, _, _, by omega, by go_num, ⟨HFn.out, by rw [stampP_length]; exact HE.out.2.1, HNN.out⟩, HS4⟩
        case measure => simp [intOf]; omega
    · have hkn : k = L.length := by omega
      have HFs : Hid (F = some H) := by show F = some H; rw [← HE.out.1]; exact fieldGo_end hkn
      have HA : Hid (fldA p = fldA (flagsO F)) := by
        show _ = _
        rw [HFs.out]
        exact fldA_ext fun i _ => HE.out.2.2 i
      go_wp2_with (first | (refine wpl_load HSt.out.z2 (.tmp 6) rfl rfl rfl ?_) | (refine wpl_store HSt.out.z1 p (.tmp 4) (.tmp 31) rfl rfl rfl rfl ?_))
      refine bodyPost_ret (ret_f2 rfl rfl rfl (HSt.out.z1.row _)) rfl ?_
      subst hB
      exact ⟨by rw [HA.out, HFs.out]; rfl, below_setRow HSt.out.be (by omega) _⟩
end Go.Proofs.YtgeimliibddhmaaDoor
