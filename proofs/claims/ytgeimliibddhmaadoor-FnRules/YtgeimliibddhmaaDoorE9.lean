/-
  A list of a rule in words, as the specification shows it. A rule in words, as the specification writes it. Contracts of the library, proved once there, laid at this program by the kit (its plain words).
-/
import Derived.Test.YtgeimliibddhmaaDoorE8
import Derived.Test.YtgeimliibddhmaaDoorCrk
import Derived.Shelf.Strconv.Itoa0
import Derived.Shelf.Strconv.Itoa1
import Derived.Shelf.LaysM
import Derived.Shelf.Strconv.Itoa2
import Derived.Shelf.Strconv.Itoa3
import Derived.Shelf.Strconv.Clone
import Derived.Shelf.Strings.Fields
import Derived.Shelf.Strings.SplitShaped
import Derived.Shelf.Unicode.Latin
import Derived.Shelf.Unicode.Is16White
import Derived.Shelf.Unicode.IsSpaceAny
import Derived.Shelf.Unicode.Is16Any
import Derived.Shelf.Unicode.Is32Any
import Derived.Shelf.Unicode.ExclAny
import Derived.Test.YtgeimliibddhmaaDoorProg
namespace Go.Proofs.YtgeimliibddhmaaDoor
open Go Go.RowKit

/-- The first k numbers, with a comma between. -/
def showP (l : List Int) : Nat → ByteArray
  | 0 => ByteArray.empty
  | k + 1 => (if k = 0 then showP l k else showP l k ++ ⟨#[44]⟩) ++ bstr (decI ((l[k]?).getD 0).toNat)
def showS (l : List Int) (n : Int) : ByteArray := if (l.length : Int) = n then ⟨#[42]⟩ else showP l l.length
theorem decI_two {n : Nat} (h : n < 100) : (decI n).length ≤ 2 := by
  by_cases h1 : n < 10
  · rw [decI_one h1]; simp
  · rw [decI_more h1, decI_one (by omega)]; simp
theorem showP_size {l : List Int} (h : ∀ x ∈ l, 0 ≤ x ∧ x < 100) : ∀ k, k ≤ l.length → (showP l k).size ≤ 3 * k
  | 0, _ => by simp [showP]
  | k + 1, hk => by
    have ih := showP_size h k (by omega)
    have hm : l[k] ∈ l := List.getElem_mem _
    have hx := h _ hm
    have h2 : (decI ((l[k]?).getD 0).toNat).length ≤ 2 := by
      rw [List.getElem?_eq_getElem (by omega)]
      exact decI_two (by simp; omega)
    unfold showP
    rw [ByteArray.size_append, bstr_size']
    split
    · omega
    · rw [ByteArray.size_append]
      have : (ByteArray.mk #[44]).size = 1 := rfl
      omega

set_option maxHeartbeats 1000000 in
theorem l10Show_try (ao : Option Addr) (n c : Nat) (l : List Int) (z : Int) (w : World) (hr : Reads w (.slice ao n c) l) (hn : l.length ≤ 1000) (hx : ∀ x ∈ l, 0 ≤ x ∧ x < 100) :
    Calls Tryd.prog 48 #[.slice ao n c, .int .i64 z] w fun e w' => e = .returned (.string (showS l z)) ∧ Below w.heap.size w w' := by
  have HR : Hid (Reads w (.slice ao n c) l) := hr
  have HN : Hid (n = l.length) := hr.len
  have hn1 : n ≤ 1000 := by rw [hr.len]; exact hn
  have HB : Hid (∀ x ∈ l, 0 ≤ x ∧ x < 100) := hx
  clear hr hx hn
  by_cases hz : (n : Int) = z
  · have HF : Hid (showS l z = ⟨#[42]⟩) := by show _ = _; unfold showS; rw [← HN.out, if_pos hz]
    go_enter Tryd.func48, Tryd.ntmps48
    go_wp2
    go_ret
    exact ⟨by rw [HF.out]; rfl, Below.refl _ _⟩
  · have HF : Hid (showS l z = showP l n) := by show _ = _; unfold showS; rw [← HN.out, if_neg hz]
    go_enter Tryd.func48, Tryd.ntmps48
    go_wp2
    rw [beq_eq_false_iff_ne.2 hz]
    go_loopw [5, 6] (fun t i wr => ∃ (k : Nat) (y : ByteArray), k ≤ n ∧ i = .int .i64 k ∧ t = .string y ∧ Hid (showP l k = y) ∧ y.size ≤ 3 * k ∧ Below w.heap.size w wr) (fun _ i _ => n - (intOf i).toNat)
    case atStart => exact ⟨0, ⟨#[]⟩, Nat.zero_le _, rfl, rfl, rfl, Nat.zero_le _, Below.refl _ _⟩
    case round =>
      obtain ⟨k, y, hk, rfl, rfl, HY, hy3, hbel⟩ := hrel
      by_cases hlt : k < n
      · obtain ⟨x, hx⟩ : ∃ x, l[k]? = some x := ⟨_, List.getElem?_eq_getElem (by rw [← HN.out]; exact hlt)⟩
        have hb2 := HB.out x (List.mem_of_getElem? hx)
        have HS : Hid (showP l (k + 1) = (if k = 0 then y else y ++ ⟨#[44]⟩) ++ bstr (decI x.toNat)) := by
          show _ = _
          rw [showP, hx, HY.out]; rfl
        have h2 : (bstr (decI x.toNat)).size ≤ 2 := by rw [bstr_size']; exact decI_two (by omega)
        obtain ⟨u, hu⟩ : ∃ u, bstr (decI x.toNat) = u := ⟨_, rfl⟩
        have CD : Hid (∀ W, Calls Tryd.prog 82 #[.int .i64 x] W fun e w' => e = .returned (.string u) ∧ Below W.heap.size W w') := fun W => by rw [← hu]; exact specDecimal_any x W hb2.1 (by omega)
        rw [hu] at HS h2
        obtain ⟨b, o, rfl, hb, c0⟩ := int_at (HR.out.below hbel) hx
        clear hx hu
        by_cases hk0 : k = 0
        · have HS2 : Hid (showP l (k + 1) = y ++ u) := by show _ = _; have := HS.out; rwa [if_pos hk0] at this
          have hk1 : ¬ (0 : Int) < (k : Int) := by omega
          clear hk0
          go_wp2_with (go_at_call 82; refine (CD.out _).mono ?_; rintro e w1 ⟨rfl, hb1⟩)
          go_roundw
          case rel => exact ⟨k + 1, y ++ u, by omega, by go_num, rfl, HS2, by rw [ByteArray.size_append]; omega, Below.on hbel hb1⟩
          case measure => simp [intOf]; omega
        · have HS2 : Hid (showP l (k + 1) = y ++ ⟨#[44]⟩ ++ u) := by show _ = _; have := HS.out; rwa [if_neg hk0] at this
          have hs1 : (y ++ (⟨#[44]⟩ : ByteArray)).size ≤ 3 * k + 1 := by
            rw [ByteArray.size_append]
            have : (ByteArray.mk #[44]).size = 1 := rfl
            omega
          have hk1 : (0 : Int) < (k : Int) := by omega
          go_wp2_with (go_at_call 82; refine (CD.out _).mono ?_; rintro e w1 ⟨rfl, hb1⟩)
          go_roundw
          case rel => exact ⟨k + 1, y ++ ⟨#[44]⟩ ++ u, by omega, by go_num, rfl, HS2, by rw [ByteArray.size_append]; omega, Below.on hbel hb1⟩
          case measure => simp [intOf]; omega
      · have hkn : k = n := by omega
        subst hkn
        go_wp2
        go_ret
        exact ⟨by rw [HF.out, HY.out]; rfl, hbel⟩
theorem l10Show_any {w : World} {v : Value} {l : List Int} (z : Int) (hr : Reads w v l) (hn : l.length ≤ 1000) (hx : ∀ x ∈ l, 0 ≤ x ∧ x < 100) :
    Calls Tryd.prog 48 #[v, .int .i64 z] w fun e w' => e = .returned (.string (showS l z)) ∧ Below w.heap.size w w' := by
  obtain ⟨ao, c, rfl, _⟩ := id hr
  exact l10Show_try ao _ c l z w hr hn hx
end Go.Proofs.YtgeimliibddhmaaDoor

namespace Go.Proofs.YtgeimliibddhmaaDoor
open Go Go.RowKit

theorem rise_bd {lo hi : Int} : ∀ (l : List Int) (p : Option Int) (q : Int), (∀ y, p = some y → q ≤ y + 1) → (p = none → q ≤ lo) → lo ≤ q → q ≤ hi + 1 → riseB lo hi p l = true → (∀ x ∈ l, lo ≤ x ∧ x ≤ hi) ∧ (l.length : Int) ≤ hi + 1 - q
  | [], _, q, _, _, _, h4, _ => ⟨fun x hx => by (cases hx), by simp; omega⟩
  | x :: r, p, q, h1, h2, h3, h4, h => by
    unfold riseB at h
    simp only [Bool.and_eq_true, decide_eq_true_eq] at h
    obtain ⟨⟨⟨ha, hb⟩, hc⟩, hd⟩ := h
    have hq : q ≤ x := by
      cases p with
      | none => have := h2 rfl; omega
      | some y => have := h1 y rfl; simp at hc; omega
    have ih := rise_bd r (some x) (x + 1) (fun y hy => by cases hy; omega) (fun hn => by cases hn) (by omega) (by omega) hd
    refine ⟨fun y hy => ?_, ?_⟩
    · rcases List.mem_cons.1 hy with rfl | hy
      · exact ⟨ha, hb⟩
      · exact ih.1 y hy
    · have := ih.2
      simp only [List.length_cons]
      omega
theorem listB_bd {lo hi : Int} {l : List Int} (h0 : 0 ≤ lo) (hh : lo ≤ hi) (h9 : hi ≤ 59) (h : listB lo hi l = true) : (∀ x ∈ l, 0 ≤ x ∧ x < 100) ∧ l.length ≤ 60 := by
  unfold listB at h
  rw [Bool.and_eq_true] at h
  have := rise_bd l none lo (fun y hy => by cases hy) (fun _ => Int.le_refl _) (Int.le_refl _) (by omega) h.2
  exact ⟨fun x hx => by have := this.1 x hx; omega, by have := this.2; omega⟩
theorem showS_size {l : List Int} (z : Int) (h : (∀ x ∈ l, 0 ≤ x ∧ x < 100) ∧ l.length ≤ 60) : (showS l z).size ≤ 180 := by
  unfold showS
  split
  · decide
  · have := showP_size h.1 l.length (Nat.le_refl _)
    omega
/-- A rule in words. -/
def cronS (a b c d e : List Int) : ByteArray := showS a 60 ++ ⟨#[32]⟩ ++ showS b 24 ++ ⟨#[32]⟩ ++ showS c 31 ++ ⟨#[32]⟩ ++ showS d 12 ++ ⟨#[32]⟩ ++ showS e 7
def cronX (a b c d e : List Int) : ByteArray := if cronB a b c d e then cronS a b c d e else ⟨#[]⟩

set_option maxRecDepth 10000 in
set_option maxHeartbeats 2000000 in
theorem cronText_any (va vb vc vd ve : Value) (a b c d e : List Int) (w : World) (h1 : Reads w va a) (h2 : Reads w vb b) (h3 : Reads w vc c) (h4 : Reads w vd d) (h5 : Reads w ve e)
    (n1 : a.length ≤ 1048577) (n2 : b.length ≤ 1048577) (n3 : c.length ≤ 1048577) (n4 : d.length ≤ 1048577) (n5 : e.length ≤ 1048577) :
    Calls Tryd.prog 20 #[.agg #[va, vb, vc, vd, ve]] w fun x w' => x = .returned (.tuple #[.string (cronX a b c d e), .bool (cronB a b c d e)]) ∧ Below w.heap.size w w' := by
  obtain ⟨ao, ac, rfl, _⟩ := id h1
  obtain ⟨bo, bc, rfl, _⟩ := id h2
  obtain ⟨co, cc, rfl, _⟩ := id h3
  obtain ⟨d0, dc, rfl, _⟩ := id h4
  obtain ⟨eo, ec, rfl, _⟩ := id h5
  have HC : Hid (∀ W, Below w.heap.size w W → Calls Tryd.prog 21 #[.agg #[.slice ao a.length ac, .slice bo b.length bc, .slice co c.length cc, .slice d0 d.length dc, .slice eo e.length ec]] W fun x w' => x = .returned (.bool (cronB a b c d e)) ∧ Below W.heap.size W w') := fun W hb => cronOk_any _ _ _ _ _ a b c d e W (h1.below hb) (h2.below hb) (h3.below hb) (h4.below hb) (h5.below hb) n1 n2 n3 n4 n5
  cases hq : cronB a b c d e with
  | false =>
    have HX : Hid (cronX a b c d e = ⟨#[]⟩) := by show _ = _; unfold cronX; rw [hq]; rfl
    rw [hq] at HC
    rw [HX.out]
    clear h1 h2 h3 h4 h5 hq
    generalize a.length = la at *
    generalize b.length = lb at *
    generalize c.length = lc at *
    generalize d.length = ld at *
    generalize e.length = le at *
    go_enter Tryd.func20, Tryd.ntmps20
    go_wp2_with (go_at_call 21; refine (HC.out _ (ba (Below.refl _ _) _)).mono ?_; rintro x w1 ⟨rfl, hb1⟩)
    go_ret2
    exact ⟨rfl, below_new hb1⟩
  | true =>
    have HX : Hid (cronX a b c d e = cronS a b c d e) := by show _ = _; unfold cronX; rw [hq]; rfl
    rw [hq] at HC
    rw [HX.out]
    unfold cronB at hq
    simp only [Bool.and_eq_true] at hq
    obtain ⟨q0, q1, q2, q3, q4⟩ := hq
    have k0 := listB_bd (by decide) (by decide) (by decide) q0
    have y0 := showS_size 60 k0
    have C0 : Hid (∀ W, Below w.heap.size w W → Calls Tryd.prog 48 #[.slice ao a.length ac, .int .i64 60] W fun x w' => x = .returned (.string (showS a 60)) ∧ Below W.heap.size W w') := fun W hb => l10Show_any 60 (h1.below hb) (by omega) k0.1
    have k1 := listB_bd (by decide) (by decide) (by decide) q1
    have y1 := showS_size 24 k1
    have C1 : Hid (∀ W, Below w.heap.size w W → Calls Tryd.prog 48 #[.slice bo b.length bc, .int .i64 24] W fun x w' => x = .returned (.string (showS b 24)) ∧ Below W.heap.size W w') := fun W hb => l10Show_any 24 (h2.below hb) (by omega) k1.1
    have k2 := listB_bd (by decide) (by decide) (by decide) q2
    have y2 := showS_size 31 k2
    have C2 : Hid (∀ W, Below w.heap.size w W → Calls Tryd.prog 48 #[.slice co c.length cc, .int .i64 31] W fun x w' => x = .returned (.string (showS c 31)) ∧ Below W.heap.size W w') := fun W hb => l10Show_any 31 (h3.below hb) (by omega) k2.1
    have k3 := listB_bd (by decide) (by decide) (by decide) q3
    have y3 := showS_size 12 k3
    have C3 : Hid (∀ W, Below w.heap.size w W → Calls Tryd.prog 48 #[.slice d0 d.length dc, .int .i64 12] W fun x w' => x = .returned (.string (showS d 12)) ∧ Below W.heap.size W w') := fun W hb => l10Show_any 12 (h4.below hb) (by omega) k3.1
    have k4 := listB_bd (by decide) (by decide) (by decide) q4
    have y4 := showS_size 7 k4
    have C4 : Hid (∀ W, Below w.heap.size w W → Calls Tryd.prog 48 #[.slice eo e.length ec, .int .i64 7] W fun x w' => x = .returned (.string (showS e 7)) ∧ Below W.heap.size W w') := fun W hb => l10Show_any 7 (h5.below hb) (by omega) k4.1
    unfold cronS
    clear h1 h2 h3 h4 h5 HX q0 q1 q2 q3 q4 k0 k1 k2 k3 k4
    generalize showS a 60 = s0 at *
    generalize showS b 24 = s1 at *
    generalize showS c 31 = s2 at *
    generalize showS d 12 = s3 at *
    generalize showS e 7 = s4 at *
    generalize a.length = la at *
    generalize b.length = lb at *
    generalize c.length = lc at *
    generalize d.length = ld at *
    generalize e.length = le at *
    go_enter Tryd.func20, Tryd.ntmps20
    go_wp2_with fail
    refine (HC.out _ (ba (Below.refl _ _) _)).mono ?_
    rintro x w1 ⟨rfl, hb1⟩
    have Z1 : B5 26 w1 w.heap.size (.slice ao la ac) (.slice bo lb bc) (.slice co lc cc) (.slice d0 ld dc) (.slice eo le ec) := (B5.new 26 w _ _ _ _ _).up hb1
    have B1 : Below w.heap.size w w1 := below_new hb1
    have K0 := Wd.cell Z1.c0
    have K1 := Wd.cell Z1.c1
    have K2 := Wd.cell Z1.c2
    have K3 := Wd.cell Z1.c3
    have K4 := Wd.cell Z1.c4
    clear hb1 Z1 HC
    have one : (ByteArray.mk #[32]).size = 1 := rfl
    have z1 : (s0 ++ ⟨#[32]⟩).size = s0.size + 1 := by rw [ByteArray.size_append, one]
    have v1 : (s0 ++ ⟨#[32]⟩ ++ s1).size = s0.size+s1.size + 1 := by rw [ByteArray.size_append, z1]; omega
    have z2 : (s0 ++ ⟨#[32]⟩ ++ s1 ++ ⟨#[32]⟩).size = s0.size+s1.size + 2 := by rw [ByteArray.size_append, one]; omega
    have v2 : (s0 ++ ⟨#[32]⟩ ++ s1 ++ ⟨#[32]⟩ ++ s2).size = s0.size+s1.size+s2.size + 2 := by rw [ByteArray.size_append, z2]; omega
    have z3 : (s0 ++ ⟨#[32]⟩ ++ s1 ++ ⟨#[32]⟩ ++ s2 ++ ⟨#[32]⟩).size = s0.size+s1.size+s2.size + 3 := by rw [ByteArray.size_append, one]; omega
    have v3 : (s0 ++ ⟨#[32]⟩ ++ s1 ++ ⟨#[32]⟩ ++ s2 ++ ⟨#[32]⟩ ++ s3).size = s0.size+s1.size+s2.size+s3.size + 3 := by rw [ByteArray.size_append, z3]; omega
    have z4 : (s0 ++ ⟨#[32]⟩ ++ s1 ++ ⟨#[32]⟩ ++ s2 ++ ⟨#[32]⟩ ++ s3 ++ ⟨#[32]⟩).size = s0.size+s1.size+s2.size+s3.size + 4 := by rw [ByteArray.size_append, one]; omega
    have v4 : (s0 ++ ⟨#[32]⟩ ++ s1 ++ ⟨#[32]⟩ ++ s2 ++ ⟨#[32]⟩ ++ s3 ++ ⟨#[32]⟩ ++ s4).size = s0.size+s1.size+s2.size+s3.size+s4.size + 4 := by rw [ByteArray.size_append, z4]; omega
    clear one
    go_wp2_with fail
    refine wp_region_wd (by kernel_rfl) (by kernel_rfl) ?_
    repeat (go_big_quiet_step (first | (go_at_call 48; refine calls_wd (v := .string s0) ?_; with_reducible exact C0.out _ (Below.on B1 (Wd.ok _))) | (go_at_call 48; refine calls_wd (v := .string s1) ?_; with_reducible exact C1.out _ (Below.on B1 (Wd.ok _))) | (go_at_call 48; refine calls_wd (v := .string s2) ?_; with_reducible exact C2.out _ (Below.on B1 (Wd.ok _))) | (go_at_call 48; refine calls_wd (v := .string s3) ?_; with_reducible exact C3.out _ (Below.on B1 (Wd.ok _))) | (go_at_call 48; refine calls_wd (v := .string s4) ?_; with_reducible exact C4.out _ (Below.on B1 (Wd.ok _)))))
    refine wpQuiet_nil ?_
    rintro _ ⟨x, rfl⟩
    go_wp2
    go_ret2
    exact ⟨rfl, Below.on B1 x.ok⟩
end Go.Proofs.YtgeimliibddhmaaDoor

namespace Go.Proofs
open Go.Shelf
def Tryd.laysM171_ren : Go.Shelf.Ren := ⟨fun | 171 => 88 | 243 => 105 | 246 => 118 | 283 => 127 | 284 => 128 | 285 => 129 | 286 => 130 | 129 => 137 | 317 => 136 | 318 => 138 | 319 => 139 | 320 => 140 | 337 => 143 | 338 => 144 | n => n, fun | 3 => 3 | 9 => 9 | 2 => 2 | 4 => 4 | 171 => 160 | 0 => 0 | 53 => 161 | 37 => 22 | 5 => 5 | 173 => 164 | 212 => 169 | 51 => 138 | 20 => 20 | 213 => 170 | 46 => 113 | 232 => 178 | 233 => 179 | n => n, fun | 17 => 4 | 18 => 7 | 19 => 8 | n => n⟩
theorem Tryd.laysM171 : Go.Proofs.LaysM.n171 Tryd.prog Tryd.laysM171_ren := {
  mixed := by kernel_rfl
  f129 := Tryd.func137.trans (congrArg some (by kernel_rfl))
  f171 := Tryd.func88.trans (congrArg some (by kernel_rfl))
  f243 := Tryd.func105.trans (congrArg some (by kernel_rfl))
  f246 := Tryd.func118.trans (congrArg some (by kernel_rfl))
  f283 := Tryd.func127.trans (congrArg some (by kernel_rfl))
  f284 := Tryd.func128.trans (congrArg some (by kernel_rfl))
  f285 := Tryd.func129.trans (congrArg some (by kernel_rfl))
  f286 := Tryd.func130.trans (congrArg some (by kernel_rfl))
  f317 := Tryd.func136.trans (congrArg some (by kernel_rfl))
  f318 := Tryd.func138.trans (congrArg some (by kernel_rfl))
  f319 := Tryd.func139.trans (congrArg some (by kernel_rfl))
  f320 := Tryd.func140.trans (congrArg some (by kernel_rfl))
  f337 := Tryd.func143.trans (congrArg some (by kernel_rfl))
  f338 := Tryd.func144.trans (congrArg some (by kernel_rfl))
  t0 := Tryd.underlying0
  a0 := Tryd.isAgg0
  z0 := Tryd.sizeOf0
  v0 := Tryd.zeroValue0
  t2 := Tryd.underlying2
  a2 := Tryd.isAgg2
  z2 := Tryd.sizeOf2
  v2 := Tryd.zeroValue2
  t3 := Tryd.underlying3
  a3 := Tryd.isAgg3
  z3 := Tryd.sizeOf3
  v3 := Tryd.zeroValue3
  t4 := Tryd.underlying4
  a4 := Tryd.isAgg4
  z4 := Tryd.sizeOf4
  v4 := Tryd.zeroValue4
  t5 := Tryd.underlying5
  a5 := Tryd.isAgg5
  z5 := Tryd.sizeOf5
  v5 := Tryd.zeroValue5
  t9 := Tryd.underlying9
  a9 := Tryd.isAgg9
  z9 := Tryd.sizeOf9
  v9 := Tryd.zeroValue9
  t20 := Tryd.underlying20
  a20 := Tryd.isAgg20
  z20 := Tryd.sizeOf20
  v20 := Tryd.zeroValue20
  t37 := Tryd.underlying22
  a37 := Tryd.isAgg22
  z37 := Tryd.sizeOf22
  v37 := Tryd.zeroValue22
  t46 := Tryd.underlying113
  a46 := Tryd.isAgg113
  z46 := Tryd.sizeOf113
  v46 := Tryd.zeroValue113
  t51 := Tryd.underlying138
  a51 := Tryd.isAgg138
  z51 := Tryd.sizeOf138
  v51 := Tryd.zeroValue138
  t53 := Tryd.underlying161
  a53 := Tryd.isAgg161
  z53 := Tryd.sizeOf161
  v53 := Tryd.zeroValue161
  t171 := Tryd.underlying160
  a171 := Tryd.isAgg160
  z171 := Tryd.sizeOf160
  v171 := Tryd.zeroValue160
  t173 := Tryd.underlying164
  a173 := Tryd.isAgg164
  z173 := Tryd.sizeOf164
  v173 := Tryd.zeroValue164
  t212 := Tryd.underlying169
  a212 := Tryd.isAgg169
  z212 := Tryd.sizeOf169
  v212 := Tryd.zeroValue169
  t213 := Tryd.underlying170
  a213 := Tryd.isAgg170
  z213 := Tryd.sizeOf170
  t232 := Tryd.underlying178
  a232 := Tryd.isAgg178
  z232 := Tryd.sizeOf178
  v232 := Tryd.zeroValue178
  t233 := Tryd.underlying179
  a233 := Tryd.isAgg179
  z233 := Tryd.sizeOf179
  v233 := Tryd.zeroValue179
  g17 := by kernel_rfl
  g18 := by kernel_rfl
  g19 := by kernel_rfl
  i0 := by kernel_rfl
  i2 := by kernel_rfl
  i3 := by kernel_rfl
  i4 := by kernel_rfl
  i5 := by kernel_rfl
  i9 := by kernel_rfl
  i20 := by kernel_rfl
  i37 := by kernel_rfl
  i46 := by kernel_rfl
  i51 := by kernel_rfl
  i53 := by kernel_rfl
  i171 := by kernel_rfl
  i173 := by kernel_rfl
  i212 := by kernel_rfl
  i232 := by kernel_rfl
  i233 := by kernel_rfl
  m17 := by kernel_rfl
  m18 := by kernel_rfl
  m19 := by kernel_rfl }
open Go.RowKit Go.Sort Go.Lib in
theorem Tryd.strconv_Itoa (n : Int) (h0 : -9223372036854775808 ≤ n) (h1 : n ≤ 9223372036854775807) (w : World) (htab : Lib.TabIs Tryd.prog w "internal/strconv.uint64pow10" .u64 Lib.pow10Tab) :
    Calls Tryd.prog 88 #[.int .i64 n] w fun e w' => e = .returned (.string ⟨(Lib.itoa n).toArray⟩) ∧ ∃ k os, w' = grow (w.drewN k) os := Any.strconv_Itoa Tryd.laysM171 n h0 h1 w htab
end Go.Proofs
