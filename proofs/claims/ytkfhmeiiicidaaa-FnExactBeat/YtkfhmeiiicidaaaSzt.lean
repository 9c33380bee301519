/-
  How much a plan that came in weighs: the walks of the law's szStringS, szTask, szTaskS and szDag.
-/
import Derived.Test.YtkfhmeiiicidaaaDg0
import Derived.Test.YtkfhmeiiicidaaaP6s
import Derived.Test.YtkfhmeiiicidaaaB5s
import Derived.Test.YtkfhmeiiicidaaaWd
import Derived.Test.YtkfhmeiiicidaaaInf
namespace Go.Proofs.Ytkfhmeiiicidaaa
open Go Go.RowKit

/-- A text that came in. -/
def Fit (s : ByteArray) : Prop := s.size ≤ maxLen
set_option maxRecDepth 10000 in
set_option maxHeartbeats 1000000 in
theorem szS_any (ao : Option Addr) (n cap : Nat) (l : List ByteArray) (L : Int) (w : World) (hr : Reads w (.slice ao n cap) l) (hn : n ≤ maxLen) (hf : ∀ s ∈ l, Fit s) (h0 : 0 ≤ L) (h1 : L ≤ 1048576) :
    Calls Try.prog 89 #[.slice ao n cap, .int .i64 L] w fun e w' => ∃ r : Int, e = .returned (.int .i64 r) ∧ r ≤ L ∧ -1 ≤ r ∧ (0 ≤ r → (l.length : Int) ≤ L ∧ ∀ s ∈ l, (s.size : Int) ≤ L) ∧ w' = w := by
  unfold maxLen at hn
  have HN : Hid (n = l.length) := hr.len
  have HR : Hid (Reads w (.slice ao n cap) l) := hr
  have HF : Hid (∀ s ∈ l, s.size ≤ maxLen) := hf
  clear hr hf
  by_cases hlt : L - n < 0
  · go_enter Try.func89, Try.ntmps89
    go_wp2
    go_ret
    exact ⟨_, rfl, by omega, by omega, fun h => by omega, rfl⟩
  · have hge : 0 ≤ L - n := by omega
    go_enter Try.func89, Try.ntmps89
    go_wp2
    go_loopw [1, 5] (fun c i wr => ∃ (k : Nat) (C : Int), k ≤ n ∧ i = .int .i64 k ∧ c = .int .i64 C ∧ 0 ≤ C ∧ C ≤ L - n ∧ Hid (∀ j s, j < k → l[j]? = some s → (s.size : Int) ≤ L) ∧ wr = w) (fun _ i _ => n - (intOf i).toNat)
    case atStart => exact ⟨0, L - n, Nat.zero_le _, rfl, rfl, hge, Int.le_refl _, fun j s hj => by omega, rfl⟩
    case round =>
      obtain ⟨k, C, hk, rfl, rfl, hC0, hC1, HE, rfl⟩ := hrel
      by_cases hkn : k < n
      · obtain ⟨s, hs⟩ : ∃ s, l[k]? = some s := ⟨_, List.getElem?_eq_getElem (by rw [← HN.out]; exact hkn)⟩
        have hss := HF.out s (List.mem_of_getElem? hs)
        unfold maxLen at hss
        obtain ⟨b, o, rfl, hb, c0⟩ := text_at HR.out hs
        have HE2 : Hid ((s.size : Int) ≤ L → ∀ j t, j < k + 1 → l[j]? = some t → (t.size : Int) ≤ L) := fun hsL j t hj ht => by
          by_cases e : j = k
          · subst e; rw [hs] at ht; cases ht; exact hsL
          · exact HE.out j t (by omega) ht
        clear hs HE
        obtain ⟨z, hz⟩ : ∃ z, s.size = z := ⟨_, rfl⟩
        rw [hz] at hss HE2
        by_cases hd : C - z < 0
        · go_wp2
          go_ret
          exact ⟨_, rfl, by omega, by omega, fun h => by omega, rfl⟩
        · have hd2 : 0 ≤ C - z := by omega
          have HE3 := HE2.out (by omega)
          go_wp2
          go_roundw
          case rel => exact ⟨k + 1, C - z, by omega, by go_num, rfl, hd2, by omega, HE3, trivial⟩
          case measure => simp [intOf]; omega
      · go_wp2
        go_ret
        refine ⟨_, rfl, by omega, by omega, fun _ => ⟨by rw [← HN.out]; omega, fun s hs => ?_⟩, rfl⟩
        obtain ⟨j, hj, rfl⟩ := List.getElem_of_mem hs
        exact HE.out j _ (by rw [← HN.out] at hj; omega) (List.getElem?_eq_getElem hj)
/-- A task that came in. -/
structure FitT (t : Ta) : Prop where
  name : t.name.size ≤ maxLen
  pool : t.pool.size ≤ maxLen
  few : t.after.length ≤ maxLen
  small : ∀ s ∈ t.after, Fit s
/-- What a task weighs at most. -/
def Wei (t : Ta) (L : Int) : Prop := (t.name.size : Int) ≤ L ∧ (t.after.length : Int) ≤ L ∧ (∀ s ∈ t.after, (s.size : Int) ≤ L) ∧ (t.pool.size : Int) ≤ L
theorem Wei.more {t : Ta} {C L : Int} (h : Wei t C) (hc : C ≤ L) : Wei t L := ⟨Int.le_trans h.1 hc, Int.le_trans h.2.1 hc, fun s hs => Int.le_trans (h.2.2.1 s hs) hc, Int.le_trans h.2.2.2 hc⟩
set_option maxRecDepth 10000 in
set_option maxHeartbeats 1000000 in
theorem szT_any (nm po : ByteArray) (rt : Int) (pa : Bool) (fo : Option Addr) (m fc : Nat) (af : List ByteArray) (L : Int) (w : World) (hr : Reads w (.slice fo m fc) af) (hf : FitT ⟨nm, po, rt, pa, af⟩) (h0 : 0 ≤ L) (h1 : L ≤ 1048576) :
    Calls Try.prog 86 #[.agg #[.string nm, .string po, .int .i64 rt, .bool pa, .slice fo m fc], .int .i64 L] w fun e w' => ∃ r : Int, e = .returned (.int .i64 r) ∧ r ≤ L ∧ -1 ≤ r ∧ (0 ≤ r → Wei ⟨nm, po, rt, pa, af⟩ L) ∧ Below w.heap.size w w' := by
  have hm : m ≤ maxLen := by rw [hr.len]; exact hf.few
  have HS : Hid (∀ W C, Below w.heap.size w W → 0 ≤ C → C ≤ L → Calls Try.prog 89 #[.slice fo m fc, .int .i64 C] W fun e w' => ∃ r : Int, e = .returned (.int .i64 r) ∧ r ≤ C ∧ -1 ≤ r ∧ (0 ≤ r → (af.length : Int) ≤ C ∧ ∀ s ∈ af, (s.size : Int) ≤ C) ∧ w' = W) :=
    fun W C hb c0 c1 => szS_any fo m fc af C W (hr.below hb) hm hf.small c0 (by omega)
  have g1 := hf.name
  have g2 := hf.pool
  unfold maxLen at g1 g2
  dsimp only at g1 g2
  obtain ⟨z1, hz1⟩ : ∃ z, nm.size = z := ⟨_, rfl⟩
  obtain ⟨z2, hz2⟩ : ∃ z, po.size = z := ⟨_, rfl⟩
  rw [hz1] at g1
  rw [hz2] at g2
  have HZ1 : Hid (nm.size = z1) := hz1
  have HZ2 : Hid (po.size = z2) := hz2
  clear hr hf hm
  by_cases a1 : L - z1 < 0
  · go_enter Try.func86, Try.ntmps86
    go_wp2
    go_ret
    exact ⟨_, rfl, by omega, by omega, fun h => by omega, ba (Below.refl _ _) _⟩
  have b1 : 0 ≤ L - z1 := by omega
  by_cases a2 : L - z1 - z2 < 0
  · go_enter Try.func86, Try.ntmps86
    go_wp2
    go_ret
    exact ⟨_, rfl, by omega, by omega, fun h => by omega, ba (Below.refl _ _) _⟩
  have b2 : 0 ≤ L - z1 - z2 := by omega
  go_enter Try.func86, Try.ntmps86
  go_wp2_with fail
  refine (HS.out _ (L - z1 - z2) (ba (Below.refl _ _) _) b2 (by omega)).mono ?_
  rintro e w1 ⟨r, rfl, hr1, hr2, hr3, hw⟩
  have hw2 := hw.symm
  subst hw2
  have HR3 : Hid (0 ≤ r → (af.length : Int) ≤ L - z1 - z2 ∧ ∀ s ∈ af, (s.size : Int) ≤ L - z1 - z2) := hr3
  clear hr3
  by_cases a3 : r < 0
  · go_wp2
    go_ret
    exact ⟨_, rfl, by omega, by omega, fun h => by omega, ba (Below.refl _ _) _⟩
  · have b3 : 0 ≤ r := by omega
    go_wp2
    go_ret
    refine ⟨_, rfl, by omega, by omega, fun _ => ?_, ba (Below.refl _ _) _⟩
    obtain ⟨y1, y2⟩ := HR3.out b3
    have z1' := HZ1.out
    have z2' := HZ2.out
    exact ⟨by show (nm.size : Int) ≤ L; omega, by show (af.length : Int) ≤ L; omega, fun s hs => by have := y2 s hs; omega, by show (po.size : Int) ≤ L; omega⟩
set_option maxRecDepth 10000 in
set_option maxHeartbeats 1000000 in
theorem szTS_any (ao : Option Addr) (n cap : Nat) (ts : List Ta) (L : Int) (w : World) (hr : Tasks w (.slice ao n cap) ts) (hn : n ≤ maxLen) (hf : ∀ t ∈ ts, FitT t) (h0 : 0 ≤ L) (h1 : L ≤ 1048576) :
    Calls Try.prog 79 #[.slice ao n cap, .int .i64 L] w fun e w' => ∃ r : Int, e = .returned (.int .i64 r) ∧ r ≤ L ∧ -1 ≤ r ∧ (0 ≤ r → (ts.length : Int) ≤ L ∧ ∀ t ∈ ts, Wei t L) ∧ Below w.heap.size w w' := by
  unfold maxLen at hn
  have HN : Hid (ts.length = n) := by
    obtain ⟨ao', cap', e⟩ := hr.slice
    injection e with _ e2 _
    exact e2.symm
  have HR : Hid (∀ W, Below w.heap.size w W → Tasks W (.slice ao n cap) ts) := fun W hb => hr.below hb
  have HF : Hid (∀ t ∈ ts, FitT t) := hf
  clear hr hf
  by_cases hlt : L - n < 0
  · go_enter Try.func79, Try.ntmps79
    go_wp2
    go_ret
    exact ⟨_, rfl, by omega, by omega, fun h => by omega, Below.refl _ _⟩
  · have hge : 0 ≤ L - n := by omega
    go_enter Try.func79, Try.ntmps79
    go_wp2
    go_loopw [1, 5] (fun c i wr => ∃ (k : Nat) (C : Int), k ≤ n ∧ i = .int .i64 k ∧ c = .int .i64 C ∧ 0 ≤ C ∧ C ≤ L - n ∧ Hid (∀ j t, j < k → ts[j]? = some t → Wei t L) ∧ Below w.heap.size w wr) (fun _ i _ => n - (intOf i).toNat)
    case atStart => exact ⟨0, L - n, Nat.zero_le _, rfl, rfl, hge, Int.le_refl _, fun j s hj => by omega, Below.refl _ _⟩
    case round =>
      obtain ⟨k, C, hk, rfl, rfl, hC0, hC1, HE, hbel⟩ := hrel
      by_cases hkn : k < n
      · obtain ⟨t, ht⟩ : ∃ t, ts[k]? = some t := ⟨_, List.getElem?_eq_getElem (by rw [HN.out]; exact hkn)⟩
        obtain ⟨b', o, av, rfl, hb, c0, c1, c2, c3, c4, hav⟩ := (HR.out wr hbel).at ht
        have hft := HF.out t (List.mem_of_getElem? ht)
        have HE2 : Hid (Wei t L → ∀ j u, j < k + 1 → ts[j]? = some u → Wei u L) := fun hw j u hj hu => by
          by_cases e : j = k
          · subst e; rw [ht] at hu; cases hu; exact hw
          · exact HE.out j u (by omega) hu
        obtain ⟨fo, fc, rfl, _⟩ := id hav
        obtain ⟨m, HM⟩ : ∃ m, Hid (t.after.length = m) := ⟨_, rfl⟩
        rw [HM.out] at hav c4
        have HC : Hid (Calls Try.prog 86 #[.agg #[.string t.name, .string t.pool, .int .i64 t.ret, .bool t.past, .slice fo m fc], .int .i64 C] wr fun e w' => ∃ r : Int, e = .returned (.int .i64 r) ∧ r ≤ C ∧ -1 ≤ r ∧ (0 ≤ r → Wei t L) ∧ Below wr.heap.size wr w') :=
          Calls.mono (szT_any t.name t.pool t.ret t.past fo m fc t.after C wr hav hft hC0 (by omega)) (fun e w' ⟨r, h1, h2, h3, h4, h5⟩ => ⟨r, h1, h2, h3, fun h => (h4 h).more (by omega), h5⟩)
        clear ht HE hav hft HR
        go_wp2_with fail
        refine HC.out.mono ?_
        rintro e w1 ⟨r, rfl, hr1, hr2, hr3, hb1⟩
        have HR3 : Hid (0 ≤ r → Wei t L) := hr3
        have hbel2 := Below.on hbel hb1
        clear hr3 hbel hb1 HC
        by_cases hd : r < 0
        · go_wp2
          go_ret
          exact ⟨_, rfl, by omega, by omega, fun h => by omega, hbel2⟩
        · have hd2 : 0 ≤ r := by omega
          have HE3 := HE2.out (HR3.out hd2)
          go_wp2
          go_roundw
          case rel => exact ⟨k + 1, r, by omega, by go_num, rfl, hd2, by omega, HE3, hbel2⟩
          case measure => simp [intOf]; omega
      · go_wp2
        go_ret
        refine ⟨_, rfl, by omega, by omega, fun _ => ⟨by rw [HN.out]; omega, fun t ht => ?_⟩, hbel⟩
        obtain ⟨j, hj, rfl⟩ := List.getElem_of_mem ht
        exact HE.out j _ (by rw [HN.out] at hj; omega) (List.getElem?_eq_getElem hj)
/-- A plan that came in. -/
structure FitD (d : Dg) (n : Nat) : Prop where
  name : d.name.size ≤ maxLen
  cron : d.cron.size ≤ maxLen
  few : n ≤ maxLen
  small : ∀ t ∈ d.tasks, FitT t
set_option maxRecDepth 10000 in
set_option maxHeartbeats 1000000 in
theorem szD_any (ao : Option Addr) (n cap : Nat) (nm cr : ByteArray) (fr up : Int) (cu : Bool) (ts : List Ta) (L : Int) (w : World) (hr : Tasks w (.slice ao n cap) ts) (hf : FitD ⟨nm, cr, fr, up, cu, ts⟩ n) (h0 : 0 ≤ L) (h1 : L ≤ 1048576) :
    Calls Try.prog 63 #[.agg #[.string nm, .string cr, .int .i64 fr, .int .i64 up, .bool cu, .slice ao n cap], .int .i64 L] w fun e w' => ∃ r : Int, e = .returned (.int .i64 r) ∧ r ≤ L ∧ -1 ≤ r ∧ (0 ≤ r → (nm.size : Int) ≤ L ∧ (cr.size : Int) ≤ L ∧ (ts.length : Int) ≤ L ∧ ∀ t ∈ ts, Wei t L) ∧ Below w.heap.size w w' := by
  have HS : Hid (∀ W C, Below w.heap.size w W → 0 ≤ C → C ≤ L → Calls Try.prog 79 #[.slice ao n cap, .int .i64 C] W fun e w' => ∃ r : Int, e = .returned (.int .i64 r) ∧ r ≤ C ∧ -1 ≤ r ∧ (0 ≤ r → (ts.length : Int) ≤ C ∧ ∀ t ∈ ts, Wei t C) ∧ Below W.heap.size W w') :=
    fun W C hb c0 c1 => szTS_any ao n cap ts C W (hr.below hb) hf.few hf.small c0 (by omega)
  have g1 := hf.name
  have g2 := hf.cron
  unfold maxLen at g1 g2
  dsimp only at g1 g2
  obtain ⟨z1, hz1⟩ : ∃ z, nm.size = z := ⟨_, rfl⟩
  obtain ⟨z2, hz2⟩ : ∃ z, cr.size = z := ⟨_, rfl⟩
  rw [hz1] at g1
  rw [hz2] at g2
  have HZ1 : Hid (nm.size = z1 ∧ cr.size = z2) := ⟨hz1, hz2⟩
  clear hr hf
  by_cases a1 : L - z1 < 0
  · go_enter Try.func63, Try.ntmps63
    go_wp2
    go_ret
    exact ⟨_, rfl, by omega, by omega, fun h => by omega, ba (Below.refl _ _) _⟩
  have b1 : 0 ≤ L - z1 := by omega
  by_cases a2 : L - z1 - z2 < 0
  · go_enter Try.func63, Try.ntmps63
    go_wp2
    go_ret
    exact ⟨_, rfl, by omega, by omega, fun h => by omega, ba (Below.refl _ _) _⟩
  have b2 : 0 ≤ L - z1 - z2 := by omega
  go_enter Try.func63, Try.ntmps63
  go_wp2_with fail
  refine (HS.out _ (L - z1 - z2) (ba (Below.refl _ _) _) b2 (by omega)).mono ?_
  rintro e w1 ⟨r, rfl, hr1, hr2, hr3, hb1⟩
  have HR3 : Hid (0 ≤ r → (ts.length : Int) ≤ L - z1 - z2 ∧ ∀ t ∈ ts, Wei t (L - z1 - z2)) := hr3
  have hb2 := below_new hb1
  clear hr3 hb1
  by_cases a3 : r < 0
  · go_wp2
    go_ret
    exact ⟨_, rfl, by omega, by omega, fun h => by omega, hb2⟩
  · have b3 : 0 ≤ r := by omega
    go_wp2
    go_ret
    refine ⟨_, rfl, by omega, by omega, fun _ => ?_, hb2⟩
    obtain ⟨y1, y2⟩ := HR3.out b3
    have z1' := HZ1.out.1
    have z2' := HZ1.out.2
    exact ⟨by omega, by omega, by omega, fun t ht => (y2 t ht).more (by omega)⟩
end Go.Proofs.Ytkfhmeiiicidaaa
