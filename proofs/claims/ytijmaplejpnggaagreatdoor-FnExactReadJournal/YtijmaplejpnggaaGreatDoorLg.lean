/-
  Logs: the law's helpers on them (sizes, copies, held against each other, marked): the walks.
-/
import Derived.Test.YtijmaplejpnggaaGreatDoorEns
import Derived.Test.YtijmaplejpnggaaGreatDoorWd
namespace Go.Proofs.YtijmaplejpnggaaGreatDoor
open Go Go.RowKit

theorem marksEn_at {x : Int} {n j : Nat} (h : j < n) : (marksEn x n)[j]? = some (mkEn (x + 3 * (j : Int))) := marksR_at h
theorem marksEn_length (x : Int) (n : Nat) : (marksEn x n).length = n := marksR_length x n
set_option maxHeartbeats 2000000 in
theorem heldEntryS_any (ao : Option Addr) (n c : Nat) (x : Int) (w : World) (hr : Reads w (.slice ao n c) (marksEn x n)) (hn : n ≤ 1048577) (hx0 : 0 < x) (hx : x ≤ 100000000) :
    Calls Tryz.prog 71 #[.slice ao n c, .int .i64 x] w fun e w' => e = .returned (.int .i64 (x + 3 * (n : Int))) ∧ Below w.heap.size w w' := by
  have HR : Hid (Reads w (.slice ao n c) (marksEn x n)) := hr
  clear hr
  go_enter Tryz.func71, Tryz.ntmps71
  go_wp2
  go_loopw [1, 5] (fun q i wr => ∃ k : Nat, k ≤ n ∧ i = .int .i64 k ∧ q = .int .i64 (x + 3 * (k : Int)) ∧ Below w.heap.size w wr) (fun _ i _ => n - (intOf i).toNat)
  case atStart => exact ⟨0, Nat.zero_le _, rfl, by simp, Below.refl _ _⟩
  case round =>
    obtain ⟨k, hk, rfl, rfl, hbel⟩ := hrel
    have hsz := hbel.size
    by_cases hlt : k < n
    · obtain ⟨b, o, rfl, hb, c0, c1, c2⟩ := en_at (HR.out.below hbel) (marksEn_at (x := x) hlt)
      replace c0 : wr.cell? ⟨b, o + k * 3, none⟩ = some (.int .i64 (x + 3 * (k : Int))) := c0
      replace c1 : wr.cell? ⟨b, o + k * 3 + 1, none⟩ = some (.int .i64 (x + 3 * (k : Int) + 1)) := c1
      replace c2 : wr.cell? ⟨b, o + k * 3 + 2, none⟩ = some (.string (mkT (x + 3 * (k : Int) + 1 + 1))) := c2
      have q0 := Wd.cell c2
      go_wp2
      refine wp_region_wd (by kernel_rfl) (by kernel_rfl) ?_
      repeat (go_big_quiet_step ((go_at_call 52; refine calls_wd (v := .string (mkT (x + 3 * (k : Int) + 1 + 1))) ?_; exact markText_int (x + 3 * (k : Int) + 1 + 1) _ (by omega) (by omega))))
      refine wpQuiet_nil ?_
      rintro _ ⟨x1, rfl⟩
      go_wp2
      go_roundw
      case rel => exact ⟨k + 1, by omega, by go_num, by go_num, hbel.trans (x1.ok.mono hsz)⟩
      case measure => simp [intOf]; omega
    · have hkn : k = n := by omega
      subst hkn
      go_wp2
      go_ret
      exact ⟨rfl, hbel⟩

set_option maxHeartbeats 1000000 in
theorem szLog_any (s t : Int) (v : Value) (l : List En) (left : Int) (w : World) (hr : Reads w v l) (hs : SmallEn l) (hl : left ≤ 1048576) (h0 : 0 ≤ left) (hn : l.length ≤ 9223372036854775807) :
    Calls Tryz.prog 36 #[.agg #[.int .i64 s, .int .i64 t, v], .int .i64 left] w fun e w' => ∃ r : Int, e = .returned (.int .i64 r) ∧ (r = -1 ∨ 0 ≤ r ∧ r = left - l.length - sizeEn l) ∧ Below w.heap.size w w' := by
  obtain ⟨ao, cap, rfl, _⟩ := id hr
  have HR : Hid (Reads w (.slice ao l.length cap) l) := hr
  clear hr
  go_enter Tryz.func36, Tryz.ntmps36
  go_wp2_with (go_at_call 73; refine (szEntryS_any ao l.length cap l _ _ (HR.out.alloc _) hs hl h0 hn).mono ?_; rintro e w2 ⟨r2, rfl, h2, hb2⟩)
  · go_ret
    exact ⟨-1, rfl, .inl rfl, below_new hb2⟩
  · go_ret
    exact ⟨r2, rfl, h2, below_new hb2⟩

theorem ret_log {fn : Func} {p : Tmp} {w : World} {g : Nat} {a b c : Value} {tmps : Array Value} (h : fn.results = #[.cell p 24]) (hp : tmps.getD p undef = .pointer (some ⟨g, 0, none⟩)) (h0 : w.cell? ⟨g, 0, none⟩ = some a) (h1 : w.cell? ⟨g, 1, none⟩ = some b) (h2 : w.cell? ⟨g, 2, none⟩ = some c) :
    (results fn tmps).run Tryz.prog w = .ok (.agg #[a, b, c]) w := by
  have hp' : tmps[p]?.getD undef = .pointer (some ⟨g, 0, none⟩) := by simpa using hp
  simp [results, h, hp', h0, h1, h2, asAddr, go_sem]
theorem ret_log2 {fn : Func} {p u : Tmp} {w : World} {g : Nat} {a b c x : Value} {tmps : Array Value} (h : fn.results = #[.cell p 24, .tmp u]) (hp : tmps.getD p undef = .pointer (some ⟨g, 0, none⟩)) (hu : tmps.getD u undef = x) (h0 : w.cell? ⟨g, 0, none⟩ = some a) (h1 : w.cell? ⟨g, 1, none⟩ = some b) (h2 : w.cell? ⟨g, 2, none⟩ = some c) :
    (results fn tmps).run Tryz.prog w = .ok (.tuple #[.agg #[a, b, c], x]) w := by
  have hp' : tmps[p]?.getD undef = .pointer (some ⟨g, 0, none⟩) := by simpa using hp
  have hu' : tmps[u]?.getD undef = x := by simpa using hu
  simp [results, h, hp', hu', h0, h1, h2, asAddr, go_sem]
set_option maxHeartbeats 1000000 in
theorem toLog_any (s t : Int) (v : Value) (l : List En) (w : World) (hr : Reads w v l) (hn : l.length ≤ 1048576) :
    Calls Tryz.prog 47 #[.agg #[.int .i64 s, .int .i64 t, v]] w fun e w' => ∃ v', e = .returned (.agg #[.int .i64 s, .int .i64 t, v']) ∧ ownsR w' w.heap.size 84 v' l ∧ Below w.heap.size w w' := by
  obtain ⟨ao, cap, rfl, _⟩ := id hr
  have HR : Hid (Reads w (.slice ao l.length cap) l) := hr
  clear hr
  go_enter Tryz.func47, Tryz.ntmps47
  go_wp2_with fail
  refine Calls.mono (toEntryS_any ao l.length cap l _ (HR.out.below ?_) hn) ?_
  · exact ba (ba (ba (Below.refl _ _) _) _) _
  rintro e w2 ⟨v2, rfl, h2, hb2⟩
  obtain ⟨ao2, cap2, rfl⟩ := h2.slice
  have q0 : w2.cell? ⟨w.heap.size + 1 + 1, 0, none⟩ = some (.int .i64 s) := (hb2.cell (by simp)).trans (by simp [go_sem])
  have q1 : w2.cell? ⟨w.heap.size + 1 + 1, 1, none⟩ = some (.int .i64 t) := (hb2.cell (by simp)).trans (by simp [go_sem])
  have q2 : w2.cell? ⟨w.heap.size + 1 + 1, 2, none⟩ = some (.slice none 0 0) := (hb2.cell (by simp)).trans (by simp [go_sem])
  have z2 : w2.frozen? ⟨w.heap.size + 1 + 1, 2, none⟩ = false := (hb2.frozen (by simp)).trans (by simp [go_sem])
  have p0 : w2.cell? ⟨w.heap.size + 1, 0, none⟩ = some (.int .i64 0) := (hb2.cell (by simp)).trans (by simp [go_sem])
  have p1 : w2.cell? ⟨w.heap.size + 1, 1, none⟩ = some (.int .i64 0) := (hb2.cell (by simp)).trans (by simp [go_sem])
  have p2 : w2.cell? ⟨w.heap.size + 1, 2, none⟩ = some (.slice none 0 0) := (hb2.cell (by simp)).trans (by simp [go_sem])
  have y0 : w2.frozen? ⟨w.heap.size + 1, 0, none⟩ = false := (hb2.frozen (by simp)).trans (by simp [go_sem])
  have y1 : w2.frozen? ⟨w.heap.size + 1, 1, none⟩ = false := (hb2.frozen (by simp)).trans (by simp [go_sem])
  have y2 : w2.frozen? ⟨w.heap.size + 1, 2, none⟩ = false := (hb2.frozen (by simp)).trans (by simp [go_sem])
  go_wp2
  refine bodyPost_ret (ret_log (a := .int .i64 s) (b := .int .i64 t) (c := .slice ao2 l.length cap2) rfl rfl (by simp [go_sem, p0]) (by simp [go_sem, p1]) (by simp [go_sem, p2])) rfl ⟨_, rfl, ?_, ?_⟩
  · refine ownsR.mono (ownsR.setBelow (ownsR.setBelow (ownsR.setBelow (ownsR.setBelow h2 ?_ _) ?_ _) ?_ _) ?_ _) ?_ <;> simp <;> omega
  · have hb3 : Below w.heap.size w w2 := (ba (ba (ba (Below.refl _ _) _) _) _).trans (hb2.mono (by simp; omega))
    refine Below.setCell (Below.setCell (Below.setCell (Below.setCell hb3 ?_ _) ?_ _) ?_ _) ?_ _ <;> simp <;> omega

set_option maxHeartbeats 1000000 in
theorem eqLog_any (s t : Int) (va vb : Value) (l : List En) (w : World) (ha : Reads w va l) (hb : Reads w vb l) (hn : l.length ≤ 1048577) :
    Calls Tryz.prog 32 #[.agg #[.int .i64 s, .int .i64 t, va], .agg #[.int .i64 s, .int .i64 t, vb]] w fun e w' => e = .returned (.bool true) ∧ Below w.heap.size w w' := by
  obtain ⟨ao, c, rfl, _⟩ := id ha
  obtain ⟨bo, d, rfl, _⟩ := id hb
  have HA : Hid (Reads w (.slice ao l.length c) l) := ha
  have HB : Hid (Reads w (.slice bo l.length d) l) := hb
  clear ha hb
  go_enter Tryz.func32, Tryz.ntmps32
  go_wp2_with (go_at_call 69; refine (eqEntryS_any ao bo l.length c d l _ ((HA.out.alloc _).alloc _) ((HB.out.alloc _).alloc _) hn).mono ?_; rintro e w2 ⟨rfl, hb2⟩)
  go_ret
  exact ⟨rfl, (ba (ba (Below.refl _ _) _) _).trans (hb2.mono (by simp; omega))⟩

set_option maxHeartbeats 1000000 in
theorem markLog_any {w : World} {B : Nat} {s t x : Int} {v : Value} {l : List En} (ho : ownsR w B 84 v l) (hn : l.length ≤ 1048577) (hx0 : 0 < x) (hx : x ≤ 100000000) :
    Calls Tryz.prog 33 #[.agg #[.int .i64 s, .int .i64 t, v], .int .i64 x] w fun e w' => e = .returned (.int .i64 (x + 3 * (l.length : Int))) ∧ ownsR w' B 84 v (marksEn x l.length) ∧ w.grownBy w' v.ownBlock := by
  obtain ⟨ao, c, rfl⟩ := ho.slice
  have HO : Hid (ownsR w B 84 (.slice ao l.length c) l) := ho
  clear ho
  go_enter Tryz.func33, Tryz.ntmps33
  go_wp2_with (go_at_call 70; refine (markEntryS_any (HO.out.alloc _) hn hx0 hx).mono ?_; rintro e w2 ⟨rfl, ho2, hb2⟩)
  go_ret
  exact ⟨rfl, ho2, grown_trans (World.grownBy_alloc w _ _) hb2⟩

set_option maxHeartbeats 1000000 in
theorem heldLog_any {w : World} {s t x : Int} {n : Nat} {v : Value} (hr : Reads w v (marksEn x n)) (hn : n ≤ 1048577) (hx0 : 0 < x) (hx : x ≤ 100000000) :
    Calls Tryz.prog 34 #[.agg #[.int .i64 s, .int .i64 t, v], .int .i64 x] w fun e w' => e = .returned (.int .i64 (x + 3 * (n : Int))) ∧ Below w.heap.size w w' := by
  obtain ⟨ao, c, rfl, _⟩ := id hr
  rw [marksEn_length] at hr ⊢
  have HR : Hid (Reads w (.slice ao n c) (marksEn x n)) := hr
  clear hr
  go_enter Tryz.func34, Tryz.ntmps34
  go_wp2_with (go_at_call 71; refine (heldEntryS_any ao n c x _ (HR.out.alloc _) hn hx0 hx).mono ?_; rintro e w2 ⟨rfl, hb2⟩)
  go_ret
  exact ⟨rfl, below_new hb2⟩
end Go.Proofs.YtijmaplejpnggaaGreatDoor
