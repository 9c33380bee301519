/-
  The law on the next minute that a drawn rule fires: the walk. What the functions of numbers in bytes answer: the walks. The plain side of numbers read from bytes: no Go in sight.
-/
import Derived.Test.YtgeimliibddhmaaDoorDcr
import Derived.Test.YtgeimliibddhmaaDoorC8
import Derived.Test.YtgeimliibddhmaaDoorC9
import Derived.Test.YtgeimliibddhmaaDoorRows
import Derived.Test.YtgeimliibddhmaaDoorAid
import Derived.Test.YtgeimliibddhmaaDoorInf
import Derived.WalkKit
import Derived.WalkSpells
import Derived.WalkLawsBesides
import Derived.Handy
namespace Go.Proofs.YtgeimliibddhmaaDoor
open Go Go.RowKit
set_option linter.unusedVariables false

theorem endN_few {m days : Int} (h0 : 0 ≤ m) (h1 : m < 60000000) (h2 : 0 ≤ days) (h3 : days < 4) : endN m days = (m / 1440 + days + 1) * 1440 := by
  unfold endN
  rw [if_neg (show ¬ 3000 < days by omega), if_pos (by omega)]
theorem ownsI_first {w : World} {B : Nat} {u : Value} {l : List Int} (h : ownsI w B 3 u l) (hl : l.length = 12) : ∃ (r c : Nat) (z : List Int), u = .slice (some ⟨r, 0, none⟩) 12 c ∧ l = z ∧ ∀ j x, l[j]? = some x → w.cell? ⟨r, j, none⟩ = some (.int .i64 x) := by
  have ho : ownsR w B 3 u l := by unfold ownsR; rw [flat_int]; exact h
  rcases ho.2 with ⟨rfl, h0⟩ | ⟨g, cap, cur, rfl, hb, _⟩
  · omega
  · refine ⟨g, cap, l, by rw [hl], rfl, fun j x hx => ?_⟩
    exact (int_own ho hx).2.1

set_option maxRecDepth 10000 in
set_option maxHeartbeats 4000000 in
theorem law_FnFires (v : Value) (n : Nat) (w : World) (hn : n ≤ 9223372036854775807) (hc : CodeAt w w.heap.size v n) (hg : RchIs w) :
    Calls Tryd.prog 4 #[v] w fun e w' => e = .returned (.bool true) ∧ Below w.heap.size w w' := by
  have HC : Hid (CodeAt w w.heap.size v n) := hc
  have HG : Hid (∀ W, Below w.heap.size w W → RchIs W) := fun W hb => hg.up hb
  obtain ⟨va, cap, rfl, -⟩ := hc
  clear hg
  by_cases hbig : 1048576 < n
  · have HB : Hid (∀ w, Calls Tryd.prog 12 #[.slice va n cap] w fun e w' => e = .returned (.bool true) ∧ w' = w) := by
      intro w; have := big_any va n cap w hn; rwa [decide_eq_true hbig] at this
    go_enter Tryd.func4, Tryd.ntmps4
    go_wp2_with (go_at_call 12; refine (HB.out _).mono ?_; rintro e w1 ⟨rfl, hw⟩; have hw2 := hw.symm; subst hw2)
    go_ret
    exact ⟨rfl, Below.refl _ _⟩
  · have HB : Hid (∀ w, Calls Tryd.prog 12 #[.slice va n cap] w fun e w' => e = .returned (.bool false) ∧ w' = w) := by
      intro w; have := big_any va n cap w hn; rwa [decide_eq_false hbig] at this
    have HN : Hid (n ≤ 1048576) := by show n ≤ 1048576; omega
    go_enter Tryd.func4, Tryd.ntmps4
    go_wp2_with fail
    refine (HB.out _).mono ?_
    rintro e w1 ⟨rfl, hw⟩
    have hw2 := hw.symm
    subst hw2
    go_wp2_with fail
    refine (drawCron_any _ n _ HN.out HC.out).mono ?_
    rintro x w2 ⟨v0, v1, v2, v3, v4, a, b, c, d, e, m, rfl, ⟨⟨r0, r1, r2, r3, r4⟩, hcr⟩, m0, m1, B2⟩
    obtain ⟨p0, s0, rfl, -⟩ := id r0
    obtain ⟨p1, s1, rfl, -⟩ := id r1
    obtain ⟨p2, s2, rfl, -⟩ := id r2
    obtain ⟨p3, s3, rfl, -⟩ := id r3
    obtain ⟨p4, s4, rfl, -⟩ := id r4
    have hsh := cron_short hcr
    have HR : Hid (∀ W, Below w2.heap.size w2 W → Reads W (.slice p0 a.length s0) a ∧ Reads W (.slice p1 b.length s1) b ∧ Reads W (.slice p2 c.length s2) c ∧ Reads W (.slice p3 d.length s3) d ∧ Reads W (.slice p4 e.length s4) e) := fun W hb => ⟨r0.below hb, r1.below hb, r2.below hb, r3.below hb, r4.below hb⟩
    have HF : Hid (∀ (x : Int) (W : World), Below w2.heap.size w2 W → Calls Tryd.prog 25 #[.agg #[.slice p0 a.length s0, .slice p1 b.length s1, .slice p2 c.length s2, .slice p3 d.length s3, .slice p4 e.length s4], .int .i64 x] W fun y w' => y = .returned (.bool (firesB a b c d e x)) ∧ Below W.heap.size W w') := fun x W hb => by
      obtain ⟨t0, t1, t2, t3, t4⟩ := HR.out W hb
      have := implFires_any _ _ _ _ _ a b c d e x W t0 t1 t2 t3 t4 (by omega) (by omega) (by omega) (by omega) (by omega) (HG.out W (Below.on B2 hb))
      rwa [hcr, Bool.true_and] at this
    have HI : Hid (∀ (dy : Int) (W : World), Below w2.heap.size w2 W → Calls Tryd.prog 23 #[.agg #[.slice p0 a.length s0, .slice p1 b.length s1, .slice p2 c.length s2, .slice p3 d.length s3, .slice p4 e.length s4], .int .i64 m, .int .i64 dy] W fun x w' => ∃ o : Option Int, x = .returned (.tuple #[.int .i64 (o.getD 0), .bool o.isSome]) ∧ NfP a b c d e m dy o ∧ Below W.heap.size W w') := fun dy W hb => by
      obtain ⟨t0, t1, t2, t3, t4⟩ := HR.out W hb
      exact implNext_any _ _ _ _ _ a b c d e m dy W t0 t1 t2 t3 t4 (by omega) (by omega) (by omega) (by omega) (by omega) (HG.out W (Below.on B2 hb))
    have HJ : Hid (∀ (dy : Int) (W : World), Below w2.heap.size w2 W → Calls Tryd.prog 24 #[.agg #[.slice p0 a.length s0, .slice p1 b.length s1, .slice p2 c.length s2, .slice p3 d.length s3, .slice p4 e.length s4], .int .i64 m, .int .i64 dy] W fun x w' => ∃ o : Option Int, x = .returned (.tuple #[.int .i64 (o.getD 0), .bool o.isSome]) ∧ NfP a b c d e m dy o ∧ Below W.heap.size W w') := fun dy W hb => by
      obtain ⟨t0, t1, t2, t3, t4⟩ := HR.out W hb
      exact nextFire_any _ _ _ _ _ a b c d e m dy W t0 t1 t2 t3 t4 (by omega) (by omega) (by omega) (by omega) (by omega)
    have HLS : Hid (∀ dy o, 0 ≤ dy → dy < 4 → NfP a b c d e m dy o → Least (firesB a b c d e) m ((m / 1440 + dy + 1) * 1440) o) := fun dy o g0 g1 h => by
      unfold NfP at h
      rwa [if_pos ⟨hcr, ⟨m0, by omega⟩, g0⟩, endN_few m0 m1 g0 g1] at h
    have HONE : Hid (∀ dy o p, NfP a b c d e m dy o → NfP a b c d e m dy p → p = o) := fun dy o p h k => k.one h
    have HCA : Hid (∀ W, Below w2.heap.size w2 W → CodeAt W W.heap.size (.slice va n cap) n) := fun W hb => HC.out.on (Below.on B2 hb)
    clear r0 r1 r2 r3 r4 hsh HC HR HG HB hcr
    obtain ⟨ff, HFF⟩ : ∃ ff : Int → Bool, Hid (firesB a b c d e = ff) := ⟨_, rfl⟩
    obtain ⟨NF, HNF⟩ : ∃ NF : Int → Option Int → Prop, Hid ((fun dy o => NfP a b c d e m dy o) = NF) := ⟨_, rfl⟩
    have HI2 : Hid (∀ (dy : Int) (W : World), Below w2.heap.size w2 W → Calls Tryd.prog 23 #[.agg #[.slice p0 a.length s0, .slice p1 b.length s1, .slice p2 c.length s2, .slice p3 d.length s3, .slice p4 e.length s4], .int .i64 m, .int .i64 dy] W fun x w' => ∃ o : Option Int, x = .returned (.tuple #[.int .i64 (o.getD 0), .bool o.isSome]) ∧ NF dy o ∧ Below W.heap.size W w') := fun dy W hb => by rw [← HNF.out]; exact HI.out dy W hb
    have HJ2 : Hid (∀ (dy : Int) (W : World), Below w2.heap.size w2 W → Calls Tryd.prog 24 #[.agg #[.slice p0 a.length s0, .slice p1 b.length s1, .slice p2 c.length s2, .slice p3 d.length s3, .slice p4 e.length s4], .int .i64 m, .int .i64 dy] W fun x w' => ∃ o : Option Int, x = .returned (.tuple #[.int .i64 (o.getD 0), .bool o.isSome]) ∧ NF dy o ∧ Below W.heap.size W w') := fun dy W hb => by rw [← HNF.out]; exact HJ.out dy W hb
    have HL2 : Hid (∀ dy o, 0 ≤ dy → dy < 4 → NF dy o → Least ff m ((m / 1440 + dy + 1) * 1440) o) := fun dy o g0 g1 h => by rw [← HFF.out]; rw [← HNF.out] at h; exact HLS.out dy o g0 g1 h
    have HO2 : Hid (∀ dy o p, NF dy o → NF dy p → p = o) := fun dy o p h k => by rw [← HNF.out] at h k; exact HONE.out dy o p h k
    rw [HFF.out] at HF
    clear HFF HNF HI HJ HLS HONE
    generalize hq0 : a.length = q0 at *
    generalize hq1 : b.length = q1 at *
    generalize hq2 : c.length = q2 at *
    generalize hq3 : d.length = q3 at *
    generalize hq4 : e.length = q4 at *
    clear hq0 hq1 hq2 hq3 hq4
    go_wp2_with fail
    refine (places_any _ n _ HN.out (HCA.out _ (ba (Below.refl _ _) _))).mono ?_
    rintro x w3 ⟨u, l, rfl, hu, hl, hlx, hb3⟩
    have HZ3 : Hid (B5 26 w3 w2.heap.size (.slice p0 q0 s0) (.slice p1 q1 s1) (.slice p2 q2 s2) (.slice p3 q3 s3) (.slice p4 q4 s4)) := (B5.new 26 w2 _ _ _ _ _).up hb3
    have HB3 : Hid (Below w2.heap.size w2 w3) := below_new hb3
    obtain ⟨rr, cc, z, rfl, -, hcell⟩ := ownsI_first hu hl
    obtain ⟨t, ht⟩ : ∃ t, l[0]? = some t := ⟨_, List.getElem?_eq_getElem (by omega)⟩
    have ct := hcell 0 t ht
    have ht2 := hlx t (List.mem_of_getElem? ht)
    clear hcell hu hl hlx hb3 ht HCA HN
    have t0 := ht2.1
    have t1 := ht2.2
    clear ht2
    have HB2 : Hid (Below w.heap.size w w2) := B2
    clear B2
    have c0 := HZ3.out.c0
    have c1 := HZ3.out.c1
    have c2 := HZ3.out.c2
    have c3 := HZ3.out.c3
    have c4 := HZ3.out.c4
    go_wp2_with fail
    obtain ⟨dy, hdy⟩ : ∃ dy, t % 4 = dy := ⟨_, rfl⟩
    have dy0 : 0 ≤ dy := by omega
    have dy1 : dy < 4 := by omega
    rw [hdy]
    clear hdy
    refine (HI2.out dy _ HB3.out).mono ?_
    rintro x w4 ⟨o, rfl, ho, hb4⟩
    have HZ4 : Hid (B5 26 w4 w2.heap.size (.slice p0 q0 s0) (.slice p1 q1 s1) (.slice p2 q2 s2) (.slice p3 q3 s3) (.slice p4 q4 s4)) := HZ3.out.up hb4
    have HB4 : Hid (Below w2.heap.size w2 w4) := Below.on HB3.out hb4
    clear hb4 c0 c1 c2 c3 c4 ct HZ3 HB3
    have c0 := HZ4.out.c0
    have c1 := HZ4.out.c1
    have c2 := HZ4.out.c2
    have c3 := HZ4.out.c3
    have c4 := HZ4.out.c4
    go_wp2_with fail
    refine (HJ2.out dy _ HB4.out).mono ?_
    rintro x w5 ⟨o2, rfl, ho2, hb5⟩
    obtain rfl := HO2.out dy o o2 ho ho2
    have HLL : Hid (Least ff m ((m / 1440 + dy + 1) * 1440) o2) := HL2.out dy o2 dy0 dy1 ho
    have HB5 : Hid (Below w2.heap.size w2 w5) := Below.on HB4.out hb5
    have HFW : Hid (∀ (x : Int) (W : World), Below w5.heap.size w5 W → Calls Tryd.prog 25 #[.agg #[.slice p0 q0 s0, .slice p1 q1 s1, .slice p2 q2 s2, .slice p3 q3 s3, .slice p4 q4 s4], .int .i64 x] W fun y w' => y = .returned (.bool (ff x)) ∧ Below W.heap.size W w') := fun x W hb => HF.out x W (Below.on HB5.out hb)
    have HW5 : Hid (Below w.heap.size w w5) := Below.on HB2.out HB5.out
    have HS6 : Hid (B5 26 w5 w2.heap.size (.slice p0 q0 s0) (.slice p1 q1 s1) (.slice p2 q2 s2) (.slice p3 q3 s3) (.slice p4 q4 s4) ∧ Below w5.heap.size w5 w5) := ⟨HZ4.out.up hb5, Below.refl _ _⟩
    clear hb5 c0 c1 c2 c3 c4 HF HI2 HJ2 HO2 HL2 ho ho2 HB2 HB4 HB5 HZ4
    cases o2 with
    | none =>
      obtain ⟨EN, hEN⟩ : ∃ EN, (m / 1440 + dy + 1) * 1440 = EN := ⟨_, rfl⟩
      have HLE : Hid (∀ x, m ≤ x → x < EN → ff x = false) := fun x g0 g1 => HLL.out x g0 (by omega)
      simp only [Option.getD_none, Option.isSome_none]
      go_wp2
      go_loopw [11] (fun i wr => ∃ x : Int, m ≤ x ∧ (x ≤ EN ∨ x = m) ∧ i = .int .i64 x ∧ Hid (B5 26 wr w2.heap.size (.slice p0 q0 s0) (.slice p1 q1 s1) (.slice p2 q2 s2) (.slice p3 q3 s3) (.slice p4 q4 s4) ∧ Below w5.heap.size w5 wr)) (fun i _ => (EN - intOf i).toNat)
      case atStart => exact ⟨m, Int.le_refl _, .inr rfl, rfl, HS6.out⟩
      case round =>
        obtain ⟨x, hx0, hx1, rfl, HS⟩ := hrel
        clear HS6
        have c0 := HS.out.1.c0
        have c1 := HS.out.1.c1
        have c2 := HS.out.1.c2
        have c3 := HS.out.1.c3
        have c4 := HS.out.1.c4
        by_cases hl1 : x < EN
        · by_cases hl2 : x < m + 400
          · have HFX : Hid (∀ W, Below w5.heap.size w5 W → Calls Tryd.prog 25 #[.agg #[.slice p0 q0 s0, .slice p1 q1 s1, .slice p2 q2 s2, .slice p3 q3 s3, .slice p4 q4 s4], .int .i64 x] W fun y w' => y = .returned (.bool false) ∧ Below W.heap.size W w') := fun W hb => by have := HFW.out x W hb; rwa [HLE.out x hx0 hl1] at this
            go_wp2_with fail
            refine (HFX.out _ HS.out.2).mono ?_
            rintro y w7 ⟨rfl, hb7⟩
            have HS7 : Hid (B5 26 w7 w2.heap.size (.slice p0 q0 s0) (.slice p1 q1 s1) (.slice p2 q2 s2) (.slice p3 q3 s3) (.slice p4 q4 s4) ∧ Below w5.heap.size w5 w7) := ⟨HS.out.1.up hb7, Below.on HS.out.2 hb7⟩
            clear hb7 c0 c1 c2 c3 c4
            go_wp2
            go_roundw
            case rel => exact ⟨x + 1, by omega, .inl (by omega), by go_num, HS7⟩
            case measure => simp [intOf]; omega
          · go_wp2
            go_ret
            exact ⟨rfl, Below.on HW5.out HS.out.2⟩
        · go_wp2
          go_ret
          exact ⟨rfl, Below.on HW5.out HS.out.2⟩
    | some k =>
      have HLE : Hid (∀ x, m ≤ x → x < k → ff x = false) := fun x g0 g1 => HLL.out.2.2.2 x g0 g1
      have HFN : Hid (∀ W, Below w5.heap.size w5 W → Calls Tryd.prog 25 #[.agg #[.slice p0 q0 s0, .slice p1 q1 s1, .slice p2 q2 s2, .slice p3 q3 s3, .slice p4 q4 s4], .int .i64 k] W fun y w' => y = .returned (.bool true) ∧ Below W.heap.size W w') := fun W hb => by have := HFW.out k W hb; rwa [HLL.out.2.2.1] at this
      have hk0 : m ≤ k := HLL.out.1
      have hk1 : k < (m / 1440 + dy + 1) * 1440 := HLL.out.2.1
      have hk2 : k / 1440 ≤ m / 1440 + dy := by omega
      clear hk1
      simp only [Option.getD_some, Option.isSome_some]
      go_wp2
      go_loopw [11] (fun i wr => ∃ x : Int, m ≤ x ∧ (x ≤ k ∨ x = m) ∧ i = .int .i64 x ∧ Hid (B5 26 wr w2.heap.size (.slice p0 q0 s0) (.slice p1 q1 s1) (.slice p2 q2 s2) (.slice p3 q3 s3) (.slice p4 q4 s4) ∧ Below w5.heap.size w5 wr)) (fun i _ => (k - intOf i).toNat)
      case atStart => exact ⟨m, Int.le_refl _, .inr rfl, rfl, HS6.out⟩
      case round =>
        obtain ⟨x, hx0, hx1, rfl, HS⟩ := hrel
        clear HS6
        have c0 := HS.out.1.c0
        have c1 := HS.out.1.c1
        have c2 := HS.out.1.c2
        have c3 := HS.out.1.c3
        have c4 := HS.out.1.c4
        by_cases hl1 : x < k
        · by_cases hl2 : x < m + 400
          · have HFX : Hid (∀ W, Below w5.heap.size w5 W → Calls Tryd.prog 25 #[.agg #[.slice p0 q0 s0, .slice p1 q1 s1, .slice p2 q2 s2, .slice p3 q3 s3, .slice p4 q4 s4], .int .i64 x] W fun y w' => y = .returned (.bool false) ∧ Below W.heap.size W w') := fun W hb => by have := HFW.out x W hb; rwa [HLE.out x hx0 hl1] at this
            go_wp2_with fail
            refine (HFX.out _ HS.out.2).mono ?_
            rintro y w7 ⟨rfl, hb7⟩
            have HS7 : Hid (B5 26 w7 w2.heap.size (.slice p0 q0 s0) (.slice p1 q1 s1) (.slice p2 q2 s2) (.slice p3 q3 s3) (.slice p4 q4 s4) ∧ Below w5.heap.size w5 w7) := ⟨HS.out.1.up hb7, Below.on HS.out.2 hb7⟩
            clear hb7 c0 c1 c2 c3 c4
            go_wp2
            go_roundw
            case rel => exact ⟨x + 1, by omega, .inl (by omega), by go_num, HS7⟩
            case measure => simp [intOf]; omega
          · go_wp2_with fail
            refine (HFN.out _ HS.out.2).mono ?_
            rintro y w8 ⟨rfl, hb8⟩
            have B8 := Below.on (Below.on HW5.out HS.out.2) hb8
            clear hb8
            go_wp2
            go_ret
            exact ⟨rfl, B8⟩
        · go_wp2_with fail
          refine (HFN.out _ HS.out.2).mono ?_
          rintro y w8 ⟨rfl, hb8⟩
          have B8 := Below.on (Below.on HW5.out HS.out.2) hb8
          clear hb8
          go_wp2
          go_ret
          exact ⟨rfl, B8⟩
end Go.Proofs.YtgeimliibddhmaaDoor

namespace Go.Proofs.YtgeimliibddhmaaDoor
open Go.RowKit


set_option maxRecDepth 10000 in
set_option maxHeartbeats 400000 in
theorem l01In_yes (x a b : Int) (w : World) (h1 : a ≤ x) (h2 : x ≤ b) :
    Calls Tryd.prog 54 #[.int .i64 x, .int .i64 a, .int .i64 b] w fun e w' => e = .returned (.bool true) ∧ w' = w := by
  go_enter Tryd.func54, Tryd.ntmps54
  go_wp2
  go_ret
  exact ⟨rfl, rfl⟩

set_option maxRecDepth 10000 in
set_option maxHeartbeats 400000 in
theorem l01In_no (x a b : Int) (w : World) (h : x < a ∨ b < x) :
    Calls Tryd.prog 54 #[.int .i64 x, .int .i64 a, .int .i64 b] w fun e w' => e = .returned (.bool false) ∧ w' = w := by
  by_cases h1 : a ≤ x
  · have h2 : b < x := by omega
    clear h
    go_enter Tryd.func54, Tryd.ntmps54
    go_wp2
    go_ret
    exact ⟨congrArg Ending.returned (congrArg Value.bool (decide_eq_false (by omega))), rfl⟩
  · clear h
    go_enter Tryd.func54, Tryd.ntmps54
    go_wp2
    go_ret
    exact ⟨rfl, rfl⟩

end Go.Proofs.YtgeimliibddhmaaDoor

namespace Go.Proofs.YtgeimliibddhmaaDoor
open Go Go.RowKit

/-- The number whose seven bits a byte these are, the lowest first. -/
def valN : List Nat → Nat
  | [] => 0
  | b :: t => b % 128 + 128 * valN t

theorem valN_snoc : ∀ (l : List Nat) (c : Nat), valN (l ++ [c]) = valN l + c % 128 * 128 ^ l.length
  | [], c => by simp [valN]
  | b :: t, c => by
    simp only [List.cons_append, valN, valN_snoc t c, List.length_cons]
    rw [Nat.mul_add, Nat.pow_succ]
    have : 128 * (c % 128 * 128 ^ t.length) = c % 128 * (128 ^ t.length * 128) := by
      rw [Nat.mul_comm 128, Nat.mul_assoc]
    omega

theorem valN_lt : ∀ (l : List Nat), valN l < 128 ^ l.length
  | [] => by simp [valN]
  | b :: t => by
    have := valN_lt t
    simp only [valN, List.length_cons, Nat.pow_succ]
    omega

def ints (l : List Nat) : List Int := l.map Int.ofNat

theorem varI_nought : ∀ (f n : Nat) (q : List Int), n ≤ f → varI n = q ++ [0] → n = 0 ∧ q = []
  | 0, n, q, h, e => by
    have : n = 0 := by omega
    subst this
    rw [varI_last (by omega)] at e
    refine ⟨rfl, ?_⟩
    have := congrArg List.length e
    simp at this
    exact this
  | f + 1, n, q, h, e => by
    by_cases hn : 127 < n
    · rw [varI_more hn] at e
      match q, e with
      | [], e => simp at e; omega
      | x :: q', e =>
        simp at e
        have := (varI_nought f (n / 128) q' (by omega) e.2).1
        omega
    · rw [varI_last hn] at e
      have h1 := congrArg List.length e
      simp at h1
      subst h1
      simp at e
      exact ⟨by omega, rfl⟩

/-- Bytes that go on, and a last one: they are what VarText writes of their number just when the last one is not needless. -/
theorem varI_valN : ∀ (p : List Nat) (c : Nat), (∀ b ∈ p, 128 ≤ b ∧ b < 256) → c < 128 → (p = [] ∨ c ≠ 0) → varI (valN (p ++ [c])) = ints (p ++ [c])
  | [], c, _, hc, _ => by
    have : valN ([] ++ [c]) = c := by simp [valN]; omega
    rw [this, varI_last (by omega)]
    rfl
  | b :: t, c, hb, hc, hne => by
    have hc0 : c ≠ 0 := by simpa using hne
    have ih := varI_valN t c (fun x hx => hb x (by simp [hx])) hc (Or.inr hc0)
    have hb0 := hb b (by simp)
    have hv : 0 < valN (t ++ [c]) := by
      rw [valN_snoc]
      have : 0 < c % 128 * 128 ^ t.length := Nat.mul_pos (by omega) (Nat.pow_pos (by decide))
      omega
    have e : valN (b :: t ++ [c]) = b % 128 + 128 * valN (t ++ [c]) := rfl
    rw [e, varI_more (by omega)]
    have h2 : (b % 128 + 128 * valN (t ++ [c])) / 128 = valN (t ++ [c]) := by omega
    rw [h2, ih]
    show _ = (b : Int) :: ints (t ++ [c])
    congr 1
    omega

theorem varI_valN_not (p : List Nat) (hp : p ≠ []) : varI (valN (p ++ [0])) ≠ ints (p ++ [0]) := by
  intro e
  have : ints (p ++ [0]) = ints p ++ [0] := by simp [ints]
  rw [this] at e
  have := (varI_nought _ _ _ (Nat.le_refl _) e).2
  simp [ints] at this
  exact hp this

/-- What ReadVar comes to: from the place i on, the k-th byte, n read so far. -/
def rvGo (s : ByteArray) : Nat → Nat → Nat → Nat → Int × Int × Bool
  | 0, _, _, _ => (0, 0, false)
  | f + 1, i, k, n =>
    if h : i < s.size then
      if s[i].toNat < 128 then
        if 1000000000 < n + s[i].toNat % 128 * 128 ^ k ∨ (s[i].toNat = 0 ∧ 0 < k) then (0, 0, false)
        else (((n + s[i].toNat % 128 * 128 ^ k : Nat) : Int), (i : Int) + 1, true)
      else rvGo s f (i + 1) (k + 1) (n + s[i].toNat % 128 * 128 ^ k)
    else (0, 0, false)

theorem rvGo_end {s : ByteArray} {f i k n : Nat} (h : ¬ i < s.size) : rvGo s f i k n = (0, 0, false) := by
  cases f with
  | zero => rfl
  | succ f => rw [rvGo, dif_neg h]

theorem rvGo_more {s : ByteArray} {f i k n : Nat} (h : i < s.size) (hb : ¬ s[i].toNat < 128) : rvGo s (f + 1) i k n = rvGo s f (i + 1) (k + 1) (n + s[i].toNat % 128 * 128 ^ k) := by
  rw [rvGo, dif_pos h, if_neg hb]

theorem rvGo_bad {s : ByteArray} {f i k n : Nat} (h : i < s.size) (hb : s[i].toNat < 128) (hx : 1000000000 < n + s[i].toNat % 128 * 128 ^ k ∨ (s[i].toNat = 0 ∧ 0 < k)) : rvGo s (f + 1) i k n = (0, 0, false) := by
  rw [rvGo, dif_pos h, if_pos hb, if_pos hx]

theorem rvGo_ok {s : ByteArray} {f i k n : Nat} (h : i < s.size) (hb : s[i].toNat < 128) (hx : ¬ (1000000000 < n + s[i].toNat % 128 * 128 ^ k ∨ (s[i].toNat = 0 ∧ 0 < k))) :
    rvGo s (f + 1) i k n = (((n + s[i].toNat % 128 * 128 ^ k : Nat) : Int), (i : Int) + 1, true) := by
  rw [rvGo, dif_pos h, if_pos hb, if_neg hx]

def rv (s : ByteArray) (at' : Int) : Int × Int × Bool := if 0 ≤ at' ∧ at' ≤ s.size then rvGo s 5 at'.toNat 0 0 else (0, 0, false)

/-- As a value. -/
def rvV (r : Int × Int × Bool) : Value := .tuple #[.int .i64 r.1, .int .i64 r.2.1, .bool r.2.2]

/-- The k bytes from a place on. -/
def bytesAt (s : ByteArray) (at' : Nat) (p : List Nat) : Prop := at' + p.length ≤ s.size ∧ ∀ j (h : at' + j < s.size), j < p.length → p[j]? = some s[at' + j].toNat

theorem bytesAt_snoc {s : ByteArray} {at' : Nat} {p : List Nat} (h : bytesAt s at' p) (hl : at' + p.length < s.size) : bytesAt s at' (p ++ [s[at' + p.length].toNat]) := by
  refine ⟨by simp; omega, fun j hj hk => ?_⟩
  by_cases e : j < p.length
  · rw [List.getElem?_append_left e]; exact h.2 j hj e
  · have e2 : j = p.length := by simp at hk; omega
    subst e2
    simp

theorem extract_bytesAt {s : ByteArray} {at' : Nat} {p : List Nat} (h : bytesAt s at' p) : s.extract at' (at' + p.length) = bstr (ints p) := by
  apply ByteArray.ext
  apply Array.ext
  · simp [bstr, ints]; have := h.1; have : s.data.size = s.size := rfl; omega
  · intro i h1 h2
    have hi : i < p.length := by simpa [bstr, ints] using h2
    have hs : at' + i < s.size := by have := h.1; omega
    have := h.2 i hs hi
    have e : p[i] = s[at' + i].toNat := by simpa [List.getElem?_eq_getElem hi] using this
    simp [bstr, ints, e]
    rfl

theorem varI_range : ∀ (f n : Nat), n ≤ f → ∀ x ∈ varI n, 0 ≤ x ∧ x < 256
  | 0, n, h, x, hx => by
    rw [varI_last (by omega)] at hx
    simp at hx; omega
  | f + 1, n, h, x, hx => by
    by_cases hn : 127 < n
    · rw [varI_more hn] at hx
      rcases List.mem_cons.1 hx with rfl | hx
      · omega
      · exact varI_range f (n / 128) (by omega) x hx
    · rw [varI_last hn] at hx
      simp at hx; omega

theorem bstr_inj {l m : List Int} (hl : ∀ x ∈ l, 0 ≤ x ∧ x < 256) (hm : ∀ x ∈ m, 0 ≤ x ∧ x < 256) (h : bstr l = bstr m) : l = m := by
  have h1 : (l.map fun n => UInt8.ofNat n.toNat) = m.map fun n => UInt8.ofNat n.toNat := by
    have := congrArg (fun b : ByteArray => b.data.toList) h
    simpa [bstr] using this
  clear h
  induction l generalizing m with
  | nil => simp at h1; exact h1.symm
  | cons x l ih =>
    match m, h1, hm with
    | y :: m, h1, hm =>
      simp only [List.map_cons, List.cons.injEq] at h1
      have hx := hl x (by simp)
      have hy := hm y (by simp)
      have e := congrArg UInt8.toNat h1.1
      simp only [UInt8.toNat_ofNat'] at e
      rw [ih (fun z hz => hl z (by simp [hz])) (fun z hz => hm z (by simp [hz])) h1.2]
      congr 1
      omega

/-- The bytes that were read are what VarText writes of their number just when the last one is not needless. -/
theorem same_bytes {s : ByteArray} {a i N q : Nat} {p : List Nat} (hp : bytesAt s a p) (hk : a + p.length = i) (hq : 128 ^ p.length = q) (h3 : ∀ b ∈ p, 128 ≤ b ∧ b < 256) (hN : N = valN p)
    (hlt : i < s.size) (hb : s[i].toNat < 128) :
    ((bstr (varI (N + s[i].toNat % 128 * q))).toList == (s.extract a (i + 1)).toList) = !(decide (s[i].toNat = 0 ∧ a < i)) := by
  subst hk
  have e1 : s.extract a (a + p.length + 1) = bstr (ints (p ++ [s[a + p.length].toNat])) := by
    rw [← extract_bytesAt (bytesAt_snoc hp hlt)]
    simp [Nat.add_assoc]
  have e2 : N + s[a + p.length].toNat % 128 * q = valN (p ++ [s[a + p.length].toNat]) := by rw [valN_snoc, hq, ← hN]
  rw [e1, e2]
  generalize hc : s[a + p.length].toNat = c at *
  by_cases hz : c = 0 ∧ a < a + p.length
  · obtain ⟨rfl, hz⟩ := hz
    have hne : p ≠ [] := by intro e; subst e; simp at hz
    have := varI_valN_not p hne
    rw [decide_eq_true (show (0 : Nat) = 0 ∧ a < a + p.length from ⟨rfl, hz⟩)]
    refine beq_eq_false_iff_ne.2 ?_
    intro e
    rw [ByteArray.toList_eq, ByteArray.toList_eq] at e
    refine this (bstr_inj (varI_range _ _ (Nat.le_refl _)) ?_ (ByteArray.ext (Array.toList_inj.1 e)))
    intro x hx
    simp [ints] at hx
    rcases hx with ⟨y, hy, rfl⟩ | rfl
    · have := h3 y hy; omega
    · omega
  · rw [varI_valN p c h3 hb ?_]
    · simp only [decide_eq_false hz]; simp
    · by_cases hpe : p = []
      · exact Or.inl hpe
      · right
        intro e
        have : 0 < p.length := List.length_pos_iff.2 hpe
        exact hz ⟨e, by omega⟩

end Go.Proofs.YtgeimliibddhmaaDoor
