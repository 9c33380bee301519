/-
  How much a plan that came in weighs: the walks of the law's szStringS, szTask, szTaskS and szDag. A plan that came in, made anew for the program: the walks of the law's toStringS, toTask, toTaskS and toDag. The law's helpers on lists of texts: held against another, marked, looked at: the walks. Plans held against each other by the law: the walks of eqStringS, eqTask, eqTaskS and eqDag on what is alike. A plan's block of six cells.
-/
import Derived.Test.YtjmclcjhimcehaaGreatDoorG23
import Derived.Test.YtjmclcjhimcehaaGreatDoorMt
import Derived.Test.YtjmclcjhimcehaaGreatDoorG3
import Derived.Deep.QuietTactic
import Derived.BigQuiet
import Derived.Deep.RegionHeld
import Derived.WalkSpells
import Derived.WalkLawsBesides
import Derived.Handy
import Derived.Test.YtjmclcjhimcehaaGreatDoorGn
namespace Go.Proofs.YtjmclcjhimcehaaGreatDoor
open Go Go.RowKit

/-- A text that came in. -/
def Fit (s : ByteArray) : Prop := s.size ≤ maxLen
set_option maxRecDepth 10000 in
set_option maxHeartbeats 1000000 in
theorem szS_any (ao : Option Addr) (n cap : Nat) (l : List ByteArray) (L : Int) (w : World) (hr : Reads w (.slice ao n cap) l) (hn : n ≤ maxLen) (hf : ∀ s ∈ l, Fit s) (h0 : 0 ≤ L) (h1 : L ≤ 1048576) :
    Calls Tryz.prog 131 #[.slice ao n cap, .int .i64 L] w fun e w' => ∃ r : Int, e = .returned (.int .i64 r) ∧ r ≤ L ∧ -1 ≤ r ∧ (0 ≤ r → (l.length : Int) ≤ L ∧ ∀ s ∈ l, (s.size : Int) ≤ L) ∧ w' = w := by
  unfold maxLen at hn
  have HN : Hid (n = l.length) := hr.len
  have HR : Hid (Reads w (.slice ao n cap) l) := hr
  have HF : Hid (∀ s ∈ l, s.size ≤ maxLen) := hf
  clear hr hf
  by_cases hlt : L - n < 0
  · go_enter Tryz.func131, Tryz.ntmps131
    go_wp2
    go_ret
    exact ⟨_, rfl, by omega, by omega, fun h => by omega, rfl⟩
  · have hge : 0 ≤ L - n := by omega
    go_enter Tryz.func131, Tryz.ntmps131
    go_wp2
    go_loopw [1, 5] (fun c i wr => ∃ (k : Nat) (C : Int), k ≤ n ∧ i = .int .i64 k ∧ c = .int .i64 C ∧ 0 ≤ C ∧ C ≤ L - n ∧ Hid (∀ j s, j < k → l[j]? = some s → (s.size : Int) ≤ L) ∧ wr = w) (fun _ i _ => n - (intOf i).toNat)
    case atStart => exact ⟨0, L - n, Nat.zero_le _, rfl, rfl, hge, Int.le_refl _, fun j s hj => by omega, rfl⟩
    case round =>
      obtain ⟨k, C, hk, rfl, rfl, hC0, hC1, HE, rfl⟩ := hrel
      by_cases hkn : k < n
      · obtain ⟨s, hs⟩ : ∃ s, l[k]? = some s := ⟨_, List.getElem?_eq_getElem (by rw [← HN.out]; exact hkn)⟩
        have hss := HF.out s (List.mem_of_getElem? hs)
        unfold maxLen at hss
        obtain ⟨b, o, rfl, hb, c0⟩ := text_at HR.out hs
        have HE2 : Hid ((s.size : Int) ≤ L → ∀ j t, j < k + 1 → l[j]? = some t → (t.size : Int) ≤ L) := fun hsL j t hj ht => by
          by_cases e : j = k
          · subst e; rw [hs] at ht; cases ht; exact hsL
          · exact HE.out j t (by omega) ht
        clear hs HE
        obtain ⟨z, hz⟩ : ∃ z, s.size = z := ⟨_, rfl⟩
        rw [hz] at hss HE2
        by_cases hd : C - z < 0
        · go_wp2
          go_ret
          exact ⟨_, rfl, by omega, by omega, fun h => by omega, rfl⟩
        · have hd2 : 0 ≤ C - z := by omega
          have HE3 := HE2.out (by omega)
          go_wp2
          go_roundw
          case rel => exact ⟨k + 1, C - z, by omega, by go_num, rfl, hd2, by omega, HE3, trivial⟩
          case measure => simp [intOf]; omega
      · go_wp2
        go_ret
        refine ⟨_, rfl, by omega, by omega, fun _ => ⟨by rw [← HN.out]; omega, fun s hs => ?_⟩, rfl⟩
        obtain ⟨j, hj, rfl⟩ := List.getElem_of_mem hs
        exact HE.out j _ (by rw [← HN.out] at hj; omega) (List.getElem?_eq_getElem hj)
/-- A task that came in. -/
structure FitT (t : Ta) : Prop where
  name : t.name.size ≤ maxLen
  pool : t.pool.size ≤ maxLen
  few : t.after.length ≤ maxLen
  small : ∀ s ∈ t.after, Fit s
/-- What a task weighs at most. -/
def Wei (t : Ta) (L : Int) : Prop := (t.name.size : Int) ≤ L ∧ (t.after.length : Int) ≤ L ∧ ∀ s ∈ t.after, (s.size : Int) ≤ L
theorem Wei.more {t : Ta} {C L : Int} (h : Wei t C) (hc : C ≤ L) : Wei t L := ⟨Int.le_trans h.1 hc, Int.le_trans h.2.1 hc, fun s hs => Int.le_trans (h.2.2 s hs) hc⟩
set_option maxRecDepth 10000 in
set_option maxHeartbeats 1000000 in
theorem szT_any (nm po : ByteArray) (rt : Int) (pa : Bool) (fo : Option Addr) (m fc : Nat) (af : List ByteArray) (L : Int) (w : World) (hr : Reads w (.slice fo m fc) af) (hf : FitT ⟨nm, po, rt, pa, af⟩) (h0 : 0 ≤ L) (h1 : L ≤ 1048576) :
    Calls Tryz.prog 88 #[.agg #[.string nm, .string po, .int .i64 rt, .bool pa, .slice fo m fc], .int .i64 L] w fun e w' => ∃ r : Int, e = .returned (.int .i64 r) ∧ r ≤ L ∧ -1 ≤ r ∧ (0 ≤ r → Wei ⟨nm, po, rt, pa, af⟩ L) ∧ Below w.heap.size w w' := by
  have hm : m ≤ maxLen := by rw [hr.len]; exact hf.few
  have HS : Hid (∀ W C, Below w.heap.size w W → 0 ≤ C → C ≤ L → Calls Tryz.prog 131 #[.slice fo m fc, .int .i64 C] W fun e w' => ∃ r : Int, e = .returned (.int .i64 r) ∧ r ≤ C ∧ -1 ≤ r ∧ (0 ≤ r → (af.length : Int) ≤ C ∧ ∀ s ∈ af, (s.size : Int) ≤ C) ∧ w' = W) :=
    fun W C hb c0 c1 => szS_any fo m fc af C W (hr.below hb) hm hf.small c0 (by omega)
  have g1 := hf.name
  have g2 := hf.pool
  unfold maxLen at g1 g2
  dsimp only at g1 g2
  obtain ⟨z1, hz1⟩ : ∃ z, nm.size = z := ⟨_, rfl⟩
  obtain ⟨z2, hz2⟩ : ∃ z, po.size = z := ⟨_, rfl⟩
  rw [hz1] at g1
  rw [hz2] at g2
  have HZ1 : Hid (nm.size = z1) := hz1
  clear hr hf hm
  by_cases a1 : L - z1 < 0
  · go_enter Tryz.func88, Tryz.ntmps88
    go_wp2
    go_ret
    exact ⟨_, rfl, by omega, by omega, fun h => by omega, ba (Below.refl _ _) _⟩
  have b1 : 0 ≤ L - z1 := by omega
  by_cases a2 : L - z1 - z2 < 0
  · go_enter Tryz.func88, Tryz.ntmps88
    go_wp2
    go_ret
    exact ⟨_, rfl, by omega, by omega, fun h => by omega, ba (Below.refl _ _) _⟩
  have b2 : 0 ≤ L - z1 - z2 := by omega
  go_enter Tryz.func88, Tryz.ntmps88
  go_wp2_with fail
  refine (HS.out _ (L - z1 - z2) (ba (Below.refl _ _) _) b2 (by omega)).mono ?_
  rintro e w1 ⟨r, rfl, hr1, hr2, hr3, hw⟩
  have hw2 := hw.symm
  subst hw2
  have HR3 : Hid (0 ≤ r → (af.length : Int) ≤ L - z1 - z2 ∧ ∀ s ∈ af, (s.size : Int) ≤ L - z1 - z2) := hr3
  clear hr3
  by_cases a3 : r < 0
  · go_wp2
    go_ret
    exact ⟨_, rfl, by omega, by omega, fun h => by omega, ba (Below.refl _ _) _⟩
  · have b3 : 0 ≤ r := by omega
    go_wp2
    go_ret
    refine ⟨_, rfl, by omega, by omega, fun _ => ?_, ba (Below.refl _ _) _⟩
    obtain ⟨y1, y2⟩ := HR3.out b3
    have z1' := HZ1.out
    exact ⟨by show (nm.size : Int) ≤ L; omega, by show (af.length : Int) ≤ L; omega, fun s hs => by have := y2 s hs; omega⟩
set_option maxRecDepth 10000 in
set_option maxHeartbeats 1000000 in
theorem szTS_any (ao : Option Addr) (n cap : Nat) (ts : List Ta) (L : Int) (w : World) (hr : Tasks w (.slice ao n cap) ts) (hn : n ≤ maxLen) (hf : ∀ t ∈ ts, FitT t) (h0 : 0 ≤ L) (h1 : L ≤ 1048576) :
    Calls Tryz.prog 34 #[.slice ao n cap, .int .i64 L] w fun e w' => ∃ r : Int, e = .returned (.int .i64 r) ∧ r ≤ L ∧ -1 ≤ r ∧ (0 ≤ r → (ts.length : Int) ≤ L ∧ ∀ t ∈ ts, Wei t L) ∧ Below w.heap.size w w' := by
  unfold maxLen at hn
  have HN : Hid (ts.length = n) := by
    obtain ⟨ao', cap', e⟩ := hr.slice
    injection e with _ e2 _
    exact e2.symm
  have HR : Hid (∀ W, Below w.heap.size w W → Tasks W (.slice ao n cap) ts) := fun W hb => hr.below hb
  have HF : Hid (∀ t ∈ ts, FitT t) := hf
  clear hr hf
  by_cases hlt : L - n < 0
  · go_enter Tryz.func34, Tryz.ntmps34
    go_wp2
    go_ret
    exact ⟨_, rfl, by omega, by omega, fun h => by omega, Below.refl _ _⟩
  · have hge : 0 ≤ L - n := by omega
    go_enter Tryz.func34, Tryz.ntmps34
    go_wp2
    go_loopw [1, 5] (fun c i wr => ∃ (k : Nat) (C : Int), k ≤ n ∧ i = .int .i64 k ∧ c = .int .i64 C ∧ 0 ≤ C ∧ C ≤ L - n ∧ Hid (∀ j t, j < k → ts[j]? = some t → Wei t L) ∧ Below w.heap.size w wr) (fun _ i _ => n - (intOf i).toNat)
    case atStart => exact ⟨0, L - n, Nat.zero_le _, rfl, rfl, hge, Int.le_refl _, fun j s hj => by omega, Below.refl _ _⟩
    case round =>
      obtain ⟨k, C, hk, rfl, rfl, hC0, hC1, HE, hbel⟩ := hrel
      by_cases hkn : k < n
      · obtain ⟨t, ht⟩ : ∃ t, ts[k]? = some t := ⟨_, List.getElem?_eq_getElem (by rw [HN.out]; exact hkn)⟩
        obtain ⟨b', o, av, rfl, hb, c0, c1, c2, c3, c4, hav⟩ := (HR.out wr hbel).at ht
        have hft := HF.out t (List.mem_of_getElem? ht)
        have HE2 : Hid (Wei t L → ∀ j u, j < k + 1 → ts[j]? = some u → Wei u L) := fun hw j u hj hu => by
          by_cases e : j = k
          · subst e; rw [ht] at hu; cases hu; exact hw
          · exact HE.out j u (by omega) hu
        obtain ⟨fo, fc, rfl, _⟩ := id hav
        obtain ⟨m, HM⟩ : ∃ m, Hid (t.after.length = m) := ⟨_, rfl⟩
        rw [HM.out] at hav c4
        have HC : Hid (Calls Tryz.prog 88 #[.agg #[.string t.name, .string t.pool, .int .i64 t.ret, .bool t.past, .slice fo m fc], .int .i64 C] wr fun e w' => ∃ r : Int, e = .returned (.int .i64 r) ∧ r ≤ C ∧ -1 ≤ r ∧ (0 ≤ r → Wei t L) ∧ Below wr.heap.size wr w') :=
          Calls.mono (szT_any t.name t.pool t.ret t.past fo m fc t.after C wr hav hft hC0 (by omega)) (fun e w' ⟨r, h1, h2, h3, h4, h5⟩ => ⟨r, h1, h2, h3, fun h => (h4 h).more (by omega), h5⟩)
        clear ht HE hav hft HR
        go_wp2_with fail
        refine HC.out.mono ?_
        rintro e w1 ⟨r, rfl, hr1, hr2, hr3, hb1⟩
        have HR3 : Hid (0 ≤ r → Wei t L) := hr3
        have hbel2 := Below.on hbel hb1
        clear hr3 hbel hb1 HC
        by_cases hd : r < 0
        · go_wp2
          go_ret
          exact ⟨_, rfl, by omega, by omega, fun h => by omega, hbel2⟩
        · have hd2 : 0 ≤ r := by omega
          have HE3 := HE2.out (HR3.out hd2)
          go_wp2
          go_roundw
          case rel => exact ⟨k + 1, r, by omega, by go_num, rfl, hd2, by omega, HE3, hbel2⟩
          case measure => simp [intOf]; omega
      · go_wp2
        go_ret
        refine ⟨_, rfl, by omega, by omega, fun _ => ⟨by rw [HN.out]; omega, fun t ht => ?_⟩, hbel⟩
        obtain ⟨j, hj, rfl⟩ := List.getElem_of_mem ht
        exact HE.out j _ (by rw [HN.out] at hj; omega) (List.getElem?_eq_getElem hj)
/-- A plan that came in. -/
structure FitD (d : Dg) (n : Nat) : Prop where
  name : d.name.size ≤ maxLen
  cron : d.cron.size ≤ maxLen
  few : n ≤ maxLen
  small : ∀ t ∈ d.tasks, FitT t
set_option maxRecDepth 10000 in
set_option maxHeartbeats 1000000 in
theorem szD_any (ao : Option Addr) (n cap : Nat) (nm cr : ByteArray) (fr up : Int) (cu : Bool) (ts : List Ta) (L : Int) (w : World) (hr : Tasks w (.slice ao n cap) ts) (hf : FitD ⟨nm, cr, fr, up, cu, ts⟩ n) (h0 : 0 ≤ L) (h1 : L ≤ 1048576) :
    Calls Tryz.prog 9 #[.agg #[.string nm, .string cr, .int .i64 fr, .int .i64 up, .bool cu, .slice ao n cap], .int .i64 L] w fun e w' => ∃ r : Int, e = .returned (.int .i64 r) ∧ r ≤ L ∧ -1 ≤ r ∧ (0 ≤ r → (nm.size : Int) ≤ L ∧ (cr.size : Int) ≤ L ∧ (ts.length : Int) ≤ L ∧ ∀ t ∈ ts, Wei t L) ∧ Below w.heap.size w w' := by
  have HS : Hid (∀ W C, Below w.heap.size w W → 0 ≤ C → C ≤ L → Calls Tryz.prog 34 #[.slice ao n cap, .int .i64 C] W fun e w' => ∃ r : Int, e = .returned (.int .i64 r) ∧ r ≤ C ∧ -1 ≤ r ∧ (0 ≤ r → (ts.length : Int) ≤ C ∧ ∀ t ∈ ts, Wei t C) ∧ Below W.heap.size W w') :=
    fun W C hb c0 c1 => szTS_any ao n cap ts C W (hr.below hb) hf.few hf.small c0 (by omega)
  have g1 := hf.name
  have g2 := hf.cron
  unfold maxLen at g1 g2
  dsimp only at g1 g2
  obtain ⟨z1, hz1⟩ : ∃ z, nm.size = z := ⟨_, rfl⟩
  obtain ⟨z2, hz2⟩ : ∃ z, cr.size = z := ⟨_, rfl⟩
  rw [hz1] at g1
  rw [hz2] at g2
  have HZ1 : Hid (nm.size = z1 ∧ cr.size = z2) := ⟨hz1, hz2⟩
  clear hr hf
  by_cases a1 : L - z1 < 0
  · go_enter Tryz.func9, Tryz.ntmps9
    go_wp2
    go_ret
    exact ⟨_, rfl, by omega, by omega, fun h => by omega, ba (Below.refl _ _) _⟩
  have b1 : 0 ≤ L - z1 := by omega
  by_cases a2 : L - z1 - z2 < 0
  · go_enter Tryz.func9, Tryz.ntmps9
    go_wp2
    go_ret
    exact ⟨_, rfl, by omega, by omega, fun h => by omega, ba (Below.refl _ _) _⟩
  have b2 : 0 ≤ L - z1 - z2 := by omega
  go_enter Tryz.func9, Tryz.ntmps9
  go_wp2_with fail
  refine (HS.out _ (L - z1 - z2) (ba (Below.refl _ _) _) b2 (by omega)).mono ?_
  rintro e w1 ⟨r, rfl, hr1, hr2, hr3, hb1⟩
  have HR3 : Hid (0 ≤ r → (ts.length : Int) ≤ L - z1 - z2 ∧ ∀ t ∈ ts, Wei t (L - z1 - z2)) := hr3
  have hb2 := below_new hb1
  clear hr3 hb1
  by_cases a3 : r < 0
  · go_wp2
    go_ret
    exact ⟨_, rfl, by omega, by omega, fun h => by omega, hb2⟩
  · have b3 : 0 ≤ r := by omega
    go_wp2
    go_ret
    refine ⟨_, rfl, by omega, by omega, fun _ => ?_, hb2⟩
    obtain ⟨y1, y2⟩ := HR3.out b3
    have z1' := HZ1.out.1
    have z2' := HZ1.out.2
    exact ⟨by omega, by omega, by omega, fun t ht => (y2 t ht).more (by omega)⟩
end Go.Proofs.YtjmclcjhimcehaaGreatDoor

namespace Go.Proofs.YtjmclcjhimcehaaGreatDoor
open Go Go.RowKit

theorem tx_width : Rec.width ByteArray = 1 := rfl
theorem madeTx (n : Nat) : (madeCells (Value.cells (.string ByteArray.empty)) (n * 1)).toList = (List.replicate n (default : ByteArray)).flatMap Rec.cells := by
  apply List.ext_getElem?
  intro m
  have e := flat_at (List.replicate n (default : ByteArray)) m 0 (by decide)
  rw [tx_width, Nat.mul_one, Nat.add_zero] at e
  rw [e]
  simp only [madeCells, Value.cells, Array.toList_map, Array.toList_range, List.getElem?_map, List.getElem?_replicate]
  by_cases hlt : m < n
  · rw [if_pos hlt, List.getElem?_range (by omega)]
    simp
    rw [Nat.mod_one]
    rfl
  · rw [if_neg hlt, List.getElem?_eq_none (by simp; omega)]
    rfl
theorem tx_put {w : World} {B : Nat} {g n cap : Nat} {l : List ByteArray} (h : ownsR w B 9 (.slice (some ⟨g, 0, none⟩) n cap) l) {i : Nat} {y : ByteArray} (f : ByteArray) (hi : l[i]? = some y) :
    ownsR (w.setCell ⟨g, i, none⟩ (.string f)) B 9 (.slice (some ⟨g, 0, none⟩) n cap) (l.set i f) := by
  have h1 := h.put (j := 0) (u := .string f) f hi (by decide) rfl
  simpa only [tx_width, Nat.add_zero, Nat.mul_one] using h1
set_option maxRecDepth 10000 in
set_option maxHeartbeats 1000000 in
theorem toS_any (ao : Option Addr) (n cap : Nat) (l : List ByteArray) (w : World) (hr : Reads w (.slice ao n cap) l) (hn : n ≤ 1048576) :
    Calls Tryz.prog 138 #[.slice ao n cap] w fun e w' => e = .returned (.slice (some ⟨w.heap.size, 0, none⟩) n n) ∧ ownsR w' w.heap.size 9 (.slice (some ⟨w.heap.size, 0, none⟩) n n) l ∧ Below w.heap.size w w' := by
  obtain ⟨i0, hi0, hz0, hz1, hz2⟩ := info_parts info9
  have hnl := hr.len
  have HR : Hid (Reads w (.slice ao n cap) l) := hr
  have HN : Hid (n = l.length) := hnl
  clear hr hnl
  go_enter Tryz.func138, Tryz.ntmps138
  go_wp2_with (at_make; refine wpList_make_full _ rfl _ _ 86 rfl w.heap.size 9 i0 _ 1 Tryz.underlying86 hi0 hz0 hz1 .i64 .i64 _ _ n rfl rfl rfl rfl (by rw [hz2]; omega) (by unfold maxLen; omega) (Nat.le_refl _) ?_; intro w1 ho hg)
  rw [madeTx, HN.out, ← filledR_none, ← HN.out] at ho
  have ho : ownsR w1 w.heap.size 9 (.slice (some ⟨w.heap.size, 0, none⟩) n n) (filledR l 0) := by unfold ownsR; rw [filledR_length (Nat.zero_le _), ← HN.out]; exact ho
  have hbel1 : Below w.heap.size w w1 := (Below.refl _ w).grown hg (Nat.le_refl _) (fun j hj => by cases hj)
  generalize hB : w.heap.size = B at *
  go_loopw [4] (fun i wr => ∃ k : Nat, k ≤ n ∧ i = .int .i64 k ∧ ownsR wr B 9 (.slice (some ⟨B, 0, none⟩) n n) (filledR l k) ∧ Below B w wr) (fun i _ => n - (intOf i).toNat)
  case atStart => exact ⟨0, Nat.zero_le _, rfl, ho, hbel1⟩
  case round =>
    obtain ⟨k, hk, rfl, hown, hbel⟩ := hrel
    clear ho hbel1
    by_cases hlt : k < n
    · obtain ⟨f, hf⟩ : ∃ f, l[k]? = some f := ⟨_, List.getElem?_eq_getElem (by rw [← HN.out]; exact hlt)⟩
      have HF : Hid (l[k]? = some f) := hf
      obtain ⟨b, o, rfl, hb, c0⟩ := text_at (HR.out.below (hB ▸ hbel)) hf
      clear hf
      have HO : Hid (ownsR wr B 9 (.slice (some ⟨B, 0, none⟩) n n) (filledR l k)) := hown
      clear hown
      obtain ⟨hgs, -, -, hat⟩ := HO.out.at (filledR_at (l := l) (k := k) (by rw [← HN.out]; exact hlt))
      have d0 : wr.cell? ⟨B, k, none⟩ = some (.string ByteArray.empty) := by have := (hat 0 (by decide)).1; simp only [tx_width, Nat.mul_one, Nat.add_zero] at this; exact this
      have f0 : wr.frozen? ⟨B, k, none⟩ = false := by have := (hat 0 (by decide)).2; simpa only [tx_width, Nat.mul_one, Nat.add_zero] using this
      clear hat
      have R := tx_put HO.out f (filledR_at (l := l) (k := k) (by rw [← HN.out]; exact hlt))
      rw [filledR_set HF.out] at R
      go_wp2
      go_roundw
      case rel => exact ⟨k + 1, by omega, by go_num, R, hbel.setCell (p := ⟨B, k, none⟩) (Nat.le_refl _) _⟩
      case measure => simp [intOf]; omega
    · have hkn : k = n := by omega
      have R : ownsR wr B 9 (.slice (some ⟨B, 0, none⟩) n n) l := by rw [hkn, HN.out, filledR_all] at hown; rw [HN.out]; exact hown
      clear hown
      go_wp2
      go_ret
      subst hB
      exact ⟨rfl, R, hbel⟩
theorem ret_t1 {W : World} {b : Nat} {x0 x1 x2 x3 x4 : Value} {fn : Func} {p : Tmp} {tmps : Array Value} (h : fn.results = #[.cell p 88]) (hp : tmps.getD p undef = .pointer (some ⟨b, 0, none⟩)) (hb : B5 88 W b x0 x1 x2 x3 x4) :
    (results fn tmps).run Tryz.prog W = .ok (.agg #[x0, x1, x2, x3, x4]) W := by
  have hp' : tmps[p]?.getD undef = .pointer (some ⟨b, 0, none⟩) := by simpa using hp
  simp [results, h, hp', hb.c0, hb.c1, hb.c2, hb.c3, hb.c4, asAddr, go_sem]
instance : Inhabited Tk := ⟨⟨⟨#[]⟩, ⟨#[]⟩, 0, false, .slice none 0 0⟩⟩
theorem tk_width : Rec.width Tk = 5 := rfl
theorem infoTk : (Tryz.prog.info? 88).map (fun i => (i.zero, i.size, i.bytes)) = some (some (.agg #[.string ⟨#[]⟩, .string ⟨#[]⟩, .int .i64 0, .bool false, .slice none 0 0]), 5, 72) := by kernel_rfl
theorem madeTk (n : Nat) : (madeCells (Value.cells (.agg #[.string ⟨#[]⟩, .string ⟨#[]⟩, .int .i64 0, .bool false, .slice none 0 0])) (n * 5)).toList = (List.replicate n (default : Tk)).flatMap Rec.cells := by
  apply List.ext_getElem?
  intro m
  have hm := Nat.div_add_mod m 5
  have h3 : m % 5 < 5 := Nat.mod_lt _ (by decide)
  have e := flat_at (List.replicate n (default : Tk)) (m / 5) (m % 5) h3
  rw [tk_width, show m / 5 * 5 + m % 5 = m by omega] at e
  rw [e]
  simp only [madeCells, Value.cells, Array.toList_map, Array.toList_range, List.getElem?_map, List.getElem?_replicate]
  by_cases hlt : m / 5 < n
  · rw [if_pos hlt, List.getElem?_range (by omega)]
    match hx : m % 5, h3 with
    | 0, _ => simp [hx]; rfl
    | 1, _ => simp [hx]; rfl
    | 2, _ => simp [hx]; rfl
    | 3, _ => simp [hx]; rfl
    | 4, _ => simp [hx]; rfl
  · rw [if_neg hlt, List.getElem?_eq_none (by simp; omega)]
    rfl
theorem tk_put {w : World} {B : Nat} {g n cap : Nat} {l : List Tk} (h : ownsR w B 88 (.slice (some ⟨g, 0, none⟩) n cap) l) {i : Nat} {y : Tk} (f : Tk) (hi : l[i]? = some y) :
    ownsR (((((w.setCell ⟨g, i * 5, none⟩ (.string f.name)).setCell ⟨g, i * 5 + 1, none⟩ (.string f.pool)).setCell ⟨g, i * 5 + 2, none⟩ (.int .i64 f.ret)).setCell ⟨g, i * 5 + 3, none⟩ (.bool f.past)).setCell ⟨g, i * 5 + 4, none⟩ f.after) B 88 (.slice (some ⟨g, 0, none⟩) n cap) (l.set i f) := by
  have hil : i < l.length := (List.getElem?_eq_some_iff.1 hi).1
  have h1 := h.put (j := 0) (u := .string f.name) { y with name := f.name } hi (by decide) rfl
  have h2 := h1.put (i := i) (j := 1) (u := .string f.pool) { y with name := f.name, pool := f.pool } (List.getElem?_set_self (by simpa using hil)) (by decide) rfl
  have h3 := h2.put (i := i) (j := 2) (u := .int .i64 f.ret) { y with name := f.name, pool := f.pool, ret := f.ret } (List.getElem?_set_self (by simpa using hil)) (by decide) rfl
  have h4 := h3.put (i := i) (j := 3) (u := .bool f.past) { y with name := f.name, pool := f.pool, ret := f.ret, past := f.past } (List.getElem?_set_self (by simpa using hil)) (by decide) rfl
  have h5 := h4.put (i := i) (j := 4) (u := f.after) f (List.getElem?_set_self (by simpa using hil)) (by decide) rfl
  simpa only [tk_width, Nat.add_zero, List.set_set] using h5
/-- A row of texts is not turned by what is stored into a row of tasks. -/
theorem reads_set {w : World} {v : Value} {l : List ByteArray} {g : Nat} (h : Reads w v l) (hv : ∀ b o n c, v = .slice (some ⟨b, o, none⟩) n c → b ≠ g) (i : Nat) (f : Tk) :
    Reads (((((w.setCell ⟨g, i * 5, none⟩ (.string f.name)).setCell ⟨g, i * 5 + 1, none⟩ (.string f.pool)).setCell ⟨g, i * 5 + 2, none⟩ (.int .i64 f.ret)).setCell ⟨g, i * 5 + 3, none⟩ (.bool f.past)).setCell ⟨g, i * 5 + 4, none⟩ f.after) v l := by
  obtain ⟨ao, c, rfl, h⟩ := h
  refine ⟨ao, c, rfl, fun hne => ?_⟩
  obtain ⟨b, o, rfl, hlt, hc⟩ := h hne
  have hb := hv b o _ _ rfl
  refine ⟨b, o, rfl, by simpa using hlt, fun i x hx j u hu => ?_⟩
  have := hc i x hx j u hu
  exact cell_far (cell_far (cell_far (cell_far (cell_far this (fun e => hb e.symm) _) (fun e => hb e.symm) _) (fun e => hb e.symm) _) (fun e => hb e.symm) _) (fun e => hb e.symm) _
/-- A row that has room for what it holds. -/
def Roomy (v : Value) : Prop := ∀ a n c, v = .slice a n c → n ≤ c
/-- Tasks on the way: the first k are made, the others are none yet. -/
structure ToS (w : World) (B n : Nat) (ts : List Ta) (k : Nat) (ks : List Tk) (W : World) : Prop where
  own : ownsR W B 88 (.slice (some ⟨B, 0, none⟩) n n) ks
  len : ks.length = n
  bel : Below B w W
  done : ∀ (i : Nat) (t : Ta), i < k → ts[i]? = some t → ∃ x, ks[i]? = some x ∧ OneT W x t ∧ (∀ b o n c, x.after = .slice (some ⟨b, o, none⟩) n c → B < b) ∧ Roomy x.after
  rest : ∀ i, k ≤ i → i < n → ks[i]? = some default
  low : w.heap.size = B
theorem ToS.up {w : World} {B n : Nat} {ts : List Ta} {k : Nat} {ks : List Tk} {W W' : World} (h : ToS w B n ts k ks W) (hb : Below W.heap.size W W') : ToS w B n ts k ks W' := by
  refine ⟨h.own.all hb, h.len, h.bel.trans (hb.mono (by rw [← h.low]; exact h.bel.size)), fun i t hi ht => ?_, h.rest, h.low⟩
  obtain ⟨x, hx, ho, hn⟩ := h.done i t hi ht
  exact ⟨x, hx, ⟨ho.name, ho.pool, ho.ret, ho.past, ho.after.below hb⟩, hn⟩
theorem ToS.put {w : World} {B n : Nat} {ts : List Ta} {k : Nat} {ks : List Tk} {W : World} (h : ToS w B n ts k ks W) (hk : k < n) {t : Ta} (ht : ts[k]? = some t) (f : Tk) (hf : OneT W f t) (hfb : (∀ b o n c, f.after = .slice (some ⟨b, o, none⟩) n c → B < b) ∧ Roomy f.after) :
    ToS w B n ts (k + 1) (ks.set k f) (((((W.setCell ⟨B, k * 5, none⟩ (.string f.name)).setCell ⟨B, k * 5 + 1, none⟩ (.string f.pool)).setCell ⟨B, k * 5 + 2, none⟩ (.int .i64 f.ret)).setCell ⟨B, k * 5 + 3, none⟩ (.bool f.past)).setCell ⟨B, k * 5 + 4, none⟩ f.after) := by
  have hl : k < ks.length := by rw [h.len]; exact hk
  refine ⟨tk_put h.own f (h.rest k (Nat.le_refl _) hk), by rw [List.length_set]; exact h.len, ?_, fun i u hi hu => ?_, fun i hi hin => ?_, h.low⟩
  · exact ((((h.bel.setCell (p := ⟨B, k * 5, none⟩) (Nat.le_refl _) _).setCell (p := ⟨B, k * 5 + 1, none⟩) (Nat.le_refl _) _).setCell (p := ⟨B, k * 5 + 2, none⟩) (Nat.le_refl _) _).setCell (p := ⟨B, k * 5 + 3, none⟩) (Nat.le_refl _) _).setCell (p := ⟨B, k * 5 + 4, none⟩) (Nat.le_refl _) _
  · by_cases e : i = k
    · subst e
      rw [ht] at hu
      cases hu
      exact ⟨f, List.getElem?_set_self hl, ⟨hf.name, hf.pool, hf.ret, hf.past, reads_set hf.after (fun b o n c e => by have := hfb.1 b o n c e; omega) i f⟩, hfb⟩
    · obtain ⟨x, hx, ho, hn⟩ := h.done i u (by omega) hu
      exact ⟨x, by rw [List.getElem?_set_ne (fun e' => e e'.symm)]; exact hx, ⟨ho.name, ho.pool, ho.ret, ho.past, reads_set ho.after (fun b o n c e => by have := hn.1 b o n c e; omega) k f⟩, hn⟩
  · rw [List.getElem?_set_ne (by omega)]
    exact h.rest i (by omega) hin
/-- Tasks that lie in blocks from one on. -/
def TasksB (B : Nat) (w : World) (v : Value) (ts : List Ta) : Prop := (∀ b o n c, v = .slice (some ⟨b, o, none⟩) n c → B ≤ b) ∧ ∃ ks : List Tk, Reads w v ks ∧ ks.length = ts.length ∧ ∀ (i : Nat) (t : Ta), ts[i]? = some t → ∃ k : Tk, ks[i]? = some k ∧ OneT w k t ∧ (∀ b o n c, k.after = .slice (some ⟨b, o, none⟩) n c → B ≤ b) ∧ Roomy k.after
theorem TasksB.tasks {B : Nat} {w : World} {v : Value} {ts : List Ta} (h : TasksB B w v ts) : Tasks w v ts := by
  obtain ⟨_, ks, h1, h2, h3⟩ := h
  exact ⟨ks, h1, h2, fun i t ht => by obtain ⟨k, hk, ho, _⟩ := h3 i t ht; exact ⟨k, hk, ho⟩⟩
theorem reads_high {α : Type} [Rec α] {B : Nat} {w W : World} {v : Value} {l : List α} (hr : Reads w v l) (hs : w.heap.size ≤ W.heap.size) (hW : ∀ k, B ≤ k → W.heap[k]? = w.heap[k]?) (hb : ∀ b o n c, v = .slice (some ⟨b, o, none⟩) n c → B ≤ b) : Reads W v l := by
  obtain ⟨ao, c, rfl, hr⟩ := hr
  refine ⟨ao, c, rfl, fun hne => ?_⟩
  obtain ⟨b, o, rfl, hlt, hc⟩ := hr hne
  have hbg := hb b o _ _ rfl
  refine ⟨b, o, rfl, by omega, fun i x hx j u hu => ?_⟩
  rw [← hc i x hx j u hu]
  exact World.cell?_of_block (a := ⟨b, _, none⟩) (hW b hbg)
theorem TasksB.high {B : Nat} {w W : World} {v : Value} {ts : List Ta} (h : TasksB B w v ts) (hs : w.heap.size ≤ W.heap.size) (hW : ∀ k, B ≤ k → W.heap[k]? = w.heap[k]?) : TasksB B W v ts := by
  obtain ⟨h0, ks, h1, h2, h3⟩ := h
  refine ⟨h0, ks, reads_high h1 hs hW h0, h2, fun i t ht => ?_⟩
  obtain ⟨k, hk, ho, hb⟩ := h3 i t ht
  exact ⟨k, hk, ⟨ho.name, ho.pool, ho.ret, ho.past, reads_high ho.after hs hW hb.1⟩, hb⟩
theorem ToS.tasks {w : World} {B n : Nat} {ts : List Ta} {ks : List Tk} {W : World} (h : ToS w B n ts n ks W) (hn : ts.length = n) : TasksB B W (.slice (some ⟨B, 0, none⟩) n n) ts := by
  refine ⟨fun b o n c e => by injection e with e1 _ _; injection e1 with e1; injection e1 with e1 _ _; omega, ks, h.own.reads, by rw [h.len, hn], fun i t ht => ?_⟩
  obtain ⟨x, hx, ho, hb⟩ := h.done i t (by rw [← hn]; exact (List.getElem?_eq_some_iff.1 ht).1) ht
  exact ⟨x, hx, ho, fun b o n c e => by have := hb.1 b o n c e; omega, hb.2⟩
theorem ret_g1 {W : World} {b : Nat} {nm cr : ByteArray} {fr up : Int} {cu : Bool} {tv : Value} {fn : Func} {p : Tmp} {tmps : Array Value} (h : fn.results = #[.cell p 36]) (hp : tmps.getD p undef = .pointer (some ⟨b, 0, none⟩)) (hb : P6 W b nm cr fr up cu tv) :
    (results fn tmps).run Tryz.prog W = .ok (.agg #[.string nm, .string cr, .int .i64 fr, .int .i64 up, .bool cu, tv]) W := by
  have hp' : tmps[p]?.getD undef = .pointer (some ⟨b, 0, none⟩) := by simpa using hp
  simp [results, h, hp', hb.c0, hb.c1, hb.c2, hb.c3, hb.c4, hb.c5, asAddr, go_sem]
end Go.Proofs.YtjmclcjhimcehaaGreatDoor

namespace Go.Proofs.YtjmclcjhimcehaaGreatDoor
open Go.RowKit

/-- n marksT from k on. -/
def marksT (k : Nat) : Nat → List ByteArray
  | 0 => []
  | n + 1 => markB k :: marksT (k + 1) n
/-- The first k marked, the rest as they were. -/
def marked (l : List ByteArray) (k : Nat) : List ByteArray := marksT 1 k ++ l.drop k
end Go.Proofs.YtjmclcjhimcehaaGreatDoor

namespace Go.Proofs.YtjmclcjhimcehaaGreatDoor
open Go Go.RowKit

set_option maxRecDepth 10000 in
set_option maxHeartbeats 1000000 in
theorem eqSR_any (ao bo : Option Addr) (n c d : Nat) (l : List ByteArray) (w : World) (ha : Reads w (.slice ao n c) l) (hb : Reads w (.slice bo n d) l) (hn : n ≤ 1048577) :
    Calls Tryz.prog 144 #[.slice ao n c, .slice bo n d] w fun e w' => e = .returned (.bool true) ∧ Below w.heap.size w w' := by
  have HN : Hid (n = l.length) := ha.len
  have HA : Hid (Reads w (.slice ao n c) l) := ha
  have HB : Hid (Reads w (.slice bo n d) l) := hb
  clear ha hb
  go_enter Tryz.func144, Tryz.ntmps144
  go_wp2
  go_loopw [5] (fun i wr => ∃ k : Nat, k ≤ n ∧ i = .int .i64 k ∧ Below w.heap.size w wr) (fun i _ => n - (intOf i).toNat)
  case atStart => exact ⟨0, Nat.zero_le _, rfl, Below.refl _ _⟩
  case round =>
    obtain ⟨k, hk, rfl, hbel⟩ := hrel
    by_cases hlt : k < n
    · obtain ⟨f, hf⟩ : ∃ f, l[k]? = some f := ⟨_, List.getElem?_eq_getElem (by rw [← HN.out]; exact hlt)⟩
      obtain ⟨a, oa, rfl, hga, a0⟩ := text_at (HA.out.below hbel) hf
      obtain ⟨b, ob, rfl, hgb, b0⟩ := text_at (HB.out.below hbel) hf
      clear hf
      have q0 := Wd.cell a0
      have q1 := Wd.cell b0
      go_wp2
      refine wp_region_wd (by kernel_rfl) (by kernel_rfl) ?_
      repeat (go_big_quiet_step (fail))
      refine wpQuiet_nil ?_
      rintro _ ⟨x, rfl⟩
      have BX := Below.on hbel x.ok
      clear q0 q1
      go_wp2
      go_roundw
      case rel => exact ⟨k + 1, by omega, by go_num, BX⟩
      case measure => simp [intOf]; omega
    · go_wp2
      go_ret
      exact ⟨rfl, hbel⟩
set_option maxRecDepth 10000 in
set_option maxHeartbeats 1000000 in
theorem eqT_any (nm po : ByteArray) (rt : Int) (pa : Bool) (fo go : Option Addr) (m fc gc : Nat) (af : List ByteArray) (w : World) (ha : Reads w (.slice fo m fc) af) (hb : Reads w (.slice go m gc) af) (hm : m ≤ 1048577) :
    Calls Tryz.prog 100 #[.agg #[.string nm, .string po, .int .i64 rt, .bool pa, .slice fo m fc], .agg #[.string nm, .string po, .int .i64 rt, .bool pa, .slice go m gc]] w fun e w' => e = .returned (.bool true) ∧ Below w.heap.size w w' := by
  have HE : Hid (∀ W, Below w.heap.size w W → Calls Tryz.prog 144 #[.slice fo m fc, .slice go m gc] W fun e w' => e = .returned (.bool true) ∧ Below W.heap.size W w') := fun W h => eqSR_any fo go m fc gc af W (ha.below h) (hb.below h) hm
  clear ha hb
  go_enter Tryz.func100, Tryz.ntmps100
  go_wp2_with (go_at_call 144; refine (HE.out _ (ba (ba (Below.refl _ _) _) _)).mono ?_; rintro e w1 ⟨rfl, hb1⟩)
  go_ret
  exact ⟨rfl, Below.on (ba (ba (Below.refl _ _) _) _) hb1⟩
set_option maxRecDepth 10000 in
set_option maxHeartbeats 1000000 in
theorem eqTS_any (ao bo : Option Addr) (n c d : Nat) (ts : List Ta) (w : World) (ha : Tasks w (.slice ao n c) ts) (hb : Tasks w (.slice bo n d) ts) (hn : n ≤ 1048577) (hs : ∀ t ∈ ts, t.after.length ≤ 1048577) :
    Calls Tryz.prog 43 #[.slice ao n c, .slice bo n d] w fun e w' => e = .returned (.bool true) ∧ Below w.heap.size w w' := by
  have HN : Hid (ts.length = n) := by
    obtain ⟨ao', cap', e⟩ := ha.slice
    injection e with _ e2 _
    exact e2.symm
  have HA : Hid (Tasks w (.slice ao n c) ts) := ha
  have HB : Hid (Tasks w (.slice bo n d) ts) := hb
  have HS : Hid (∀ t ∈ ts, t.after.length ≤ 1048577) := hs
  clear ha hb hs
  go_enter Tryz.func43, Tryz.ntmps43
  go_wp2
  go_loopw [5] (fun i wr => ∃ k : Nat, k ≤ n ∧ i = .int .i64 k ∧ Below w.heap.size w wr) (fun i _ => n - (intOf i).toNat)
  case atStart => exact ⟨0, Nat.zero_le _, rfl, Below.refl _ _⟩
  case round =>
    obtain ⟨k, hk, rfl, hbel⟩ := hrel
    by_cases hlt : k < n
    · obtain ⟨t, ht⟩ : ∃ t, ts[k]? = some t := ⟨_, List.getElem?_eq_getElem (by rw [HN.out]; exact hlt)⟩
      obtain ⟨a, oa, av, rfl, hga, a0, a1, a2, a3, a4, hav⟩ := (HA.out.below hbel).at ht
      obtain ⟨b, ob, bv, rfl, hgb, b0, b1, b2, b3, b4, hbv⟩ := (HB.out.below hbel).at ht
      obtain ⟨fo, fc, rfl, _⟩ := id hav
      obtain ⟨ho, hc, rfl, _⟩ := id hbv
      have hm0 := HS.out t (List.mem_of_getElem? ht)
      obtain ⟨m, HM⟩ : ∃ m, Hid (t.after.length = m) := ⟨_, rfl⟩
      rw [HM.out] at hav hbv a4 b4 hm0
      have H1 : Hid (∀ x : Wd wr, Calls Tryz.prog 100 #[.agg #[.string t.name, .string t.pool, .int .i64 t.ret, .bool t.past, .slice fo m fc], .agg #[.string t.name, .string t.pool, .int .i64 t.ret, .bool t.past, .slice ho m hc]] x.at' fun e w' => e = .returned (.bool true) ∧ Below x.at'.heap.size x.at' w') := fun x => eqT_any _ _ _ _ _ _ _ _ _ t.after x.at' (hav.below x.ok) (hbv.below x.ok) hm0
      clear ht hav hbv
      have q0 := Wd.cell a0
      have q1 := Wd.cell a1
      have q2 := Wd.cell a2
      have q3 := Wd.cell a3
      have q4 := Wd.cell a4
      have r0 := Wd.cell b0
      have r1 := Wd.cell b1
      have r2 := Wd.cell b2
      have r3 := Wd.cell b3
      have r4 := Wd.cell b4
      go_wp2
      refine wp_region_wd (by kernel_rfl) (by kernel_rfl) ?_
      repeat (go_big_quiet_step ((go_at_call 100; refine calls_wd (v := .bool true) ?_; with_reducible exact H1.out _)))
      refine wpQuiet_nil ?_
      rintro _ ⟨x, rfl⟩
      have BX := Below.on hbel x.ok
      clear q0 q1 q2 q3 q4 r0 r1 r2 r3 r4 a0 a1 a2 a3 a4 b0 b1 b2 b3 b4 H1
      go_wp2
      go_roundw
      case rel => exact ⟨k + 1, by omega, by go_num, BX⟩
      case measure => simp [intOf]; omega
    · go_wp2
      go_ret
      exact ⟨rfl, hbel⟩
set_option maxRecDepth 10000 in
set_option maxHeartbeats 1000000 in
theorem eqD_any (nm cr : ByteArray) (fr up : Int) (cu : Bool) (ao bo : Option Addr) (n c d : Nat) (ts : List Ta) (w : World) (ha : Tasks w (.slice ao n c) ts) (hb : Tasks w (.slice bo n d) ts) (hn : n ≤ 1048577) (hs : ∀ t ∈ ts, t.after.length ≤ 1048577) :
    Calls Tryz.prog 15 #[.agg #[.string nm, .string cr, .int .i64 fr, .int .i64 up, .bool cu, .slice ao n c], .agg #[.string nm, .string cr, .int .i64 fr, .int .i64 up, .bool cu, .slice bo n d]] w fun e w' => e = .returned (.bool true) ∧ Below w.heap.size w w' := by
  have HE : Hid (∀ W, Below w.heap.size w W → Calls Tryz.prog 43 #[.slice ao n c, .slice bo n d] W fun e w' => e = .returned (.bool true) ∧ Below W.heap.size W w') := fun W h => eqTS_any ao bo n c d ts W (ha.below h) (hb.below h) hn hs
  clear ha hb
  go_enter Tryz.func15, Tryz.ntmps15
  go_wp2_with (go_at_call 43; refine (HE.out _ (ba (ba (Below.refl _ _) _) _)).mono ?_; rintro e w1 ⟨rfl, hb1⟩)
  go_ret
  exact ⟨rfl, Below.on (ba (ba (Below.refl _ _) _) _) hb1⟩
end Go.Proofs.YtjmclcjhimcehaaGreatDoor

namespace Go.Proofs.YtjmclcjhimcehaaGreatDoor
open Go Go.RowKit

def L6 (w : World) (g : Nat) (nm cr : ByteArray) (fr up : Int) (cu : Bool) (tv : Value) : Prop := w.heap[g]? = some (.cells #[.string nm, .string cr, .int .i64 fr, .int .i64 up, .bool cu, tv] 24)
section
variable {w w' : World} {g : Nat} {nm cr : ByteArray} {fr up : Int} {cu : Bool} {tv : Value}
theorem L6.lt (h : L6 w g nm cr fr up cu tv) : g < w.heap.size := (Array.getElem?_eq_some_iff.1 h).1
theorem L6.c0 (h : L6 w g nm cr fr up cu tv) : w.cell? ⟨g, 0, none⟩ = some (.string nm) := by simp [World.cell?, show w.heap[g]? = _ from h]
theorem L6.s0 (h : L6 w g nm cr fr up cu tv) (u : ByteArray) : L6 (w.setCell ⟨g, 0, none⟩ (.string u)) g u cr fr up cu tv := by simp [L6, World.setCell, Array.getElem?_modify, show w.heap[g]? = _ from h]
theorem L6.c1 (h : L6 w g nm cr fr up cu tv) : w.cell? ⟨g, 1, none⟩ = some (.string cr) := by simp [World.cell?, show w.heap[g]? = _ from h]
theorem L6.s1 (h : L6 w g nm cr fr up cu tv) (u : ByteArray) : L6 (w.setCell ⟨g, 1, none⟩ (.string u)) g nm u fr up cu tv := by simp [L6, World.setCell, Array.getElem?_modify, show w.heap[g]? = _ from h]
theorem L6.c2 (h : L6 w g nm cr fr up cu tv) : w.cell? ⟨g, 2, none⟩ = some (.int .i64 fr) := by simp [World.cell?, show w.heap[g]? = _ from h]
theorem L6.s2 (h : L6 w g nm cr fr up cu tv) (u : Int) : L6 (w.setCell ⟨g, 2, none⟩ (.int .i64 u)) g nm cr u up cu tv := by simp [L6, World.setCell, Array.getElem?_modify, show w.heap[g]? = _ from h]
theorem L6.c3 (h : L6 w g nm cr fr up cu tv) : w.cell? ⟨g, 3, none⟩ = some (.int .i64 up) := by simp [World.cell?, show w.heap[g]? = _ from h]
theorem L6.s3 (h : L6 w g nm cr fr up cu tv) (u : Int) : L6 (w.setCell ⟨g, 3, none⟩ (.int .i64 u)) g nm cr fr u cu tv := by simp [L6, World.setCell, Array.getElem?_modify, show w.heap[g]? = _ from h]
theorem L6.c4 (h : L6 w g nm cr fr up cu tv) : w.cell? ⟨g, 4, none⟩ = some (.bool cu) := by simp [World.cell?, show w.heap[g]? = _ from h]
theorem L6.s4 (h : L6 w g nm cr fr up cu tv) (u : Bool) : L6 (w.setCell ⟨g, 4, none⟩ (.bool u)) g nm cr fr up u tv := by simp [L6, World.setCell, Array.getElem?_modify, show w.heap[g]? = _ from h]
theorem L6.c5 (h : L6 w g nm cr fr up cu tv) : w.cell? ⟨g, 5, none⟩ = some (tv) := by simp [World.cell?, show w.heap[g]? = _ from h]
theorem L6.s5 (h : L6 w g nm cr fr up cu tv) (u : Value) : L6 (w.setCell ⟨g, 5, none⟩ u) g nm cr fr up cu u := by simp [L6, World.setCell, Array.getElem?_modify, show w.heap[g]? = _ from h]
theorem L6.fz (h : L6 w g nm cr fr up cu tv) (k : Nat) : w.frozen? ⟨g, k, none⟩ = false := by simp [World.frozen?, show w.heap[g]? = _ from h]
theorem L6.on (h : L6 w g nm cr fr up cu tv) (hb : Below w.heap.size w w') : L6 w' g nm cr fr up cu tv := (hb.block _ h.lt).trans h
theorem L6.grown {r : Option Nat} (h : L6 w g nm cr fr up cu tv) (hg : w.grownBy w' r) (hr : some g ≠ r) : L6 w' g nm cr fr up cu tv := (hg.block g h.lt hr).trans h
theorem L6.far (h : L6 w g nm cr fr up cu tv) {a : Addr} (ha : a.block ≠ g) (u : Value) : L6 (w.setCell a u) g nm cr fr up cu tv := (heap_setCell_other w a g u (fun e => ha e.symm)).trans h
theorem L6.new (w : World) (nm cr : ByteArray) (fr up : Int) (cu : Bool) (tv : Value) : L6 (w.alloc (.cells #[.string nm, .string cr, .int .i64 fr, .int .i64 up, .bool cu, tv] 24)) w.heap.size nm cr fr up cu tv := by
  show (w.heap.push _)[w.heap.size]? = _; simp
end
end Go.Proofs.YtjmclcjhimcehaaGreatDoor
