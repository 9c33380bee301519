/-
  A drawn text with one byte turned: the walks.
-/
import Derived.Test.YtcphoacihbdpaaaDoorDraw
import Derived.Test.YtcphoacihbdpaaaDoorUns
import Derived.Test.YtcphoacihbdpaaaDoorTurm
import Derived.BigRegion
namespace Go.Proofs.YtcphoacihbdpaaaDoor
open Go.RowKit

set_option maxHeartbeats 400000 in
theorem drawSumOf_any (v : Value) (n : Nat) (w : World) (hn : n ≤ 1048576) (hc : CodeAt w w.heap.size v n) :
    Calls Tryd.prog 9 #[v] w fun e w' => ∃ t : ByteArray, e = .returned (.string t) ∧ t.size < 40 ∧ Below w.heap.size w w' := by
  go_enter Tryd.func9, Tryd.ntmps9
  go_wp2_with (first | (go_at_call 19; refine (new_any v n _ hn hc).mono ?_; rintro e w1 ⟨g, rfl, hg0, hd1, hb1⟩) | (go_at_call 21; refine (below_any g 40 _ hd1 (by decide) (by decide)).mono ?_; rintro e w2 ⟨x, rfl, hx0, hx1, hd2, hs2⟩; obtain ⟨k, rfl⟩ := Int.eq_ofNat_of_zero_le hx0) | (go_at_call 20; refine (dtext_any g k _ hd2 (by omega)).mono ?_; rintro e w3 ⟨t, rfl, ht, hd3, hs3⟩))
  go_ret
  have hb2 := hb1.trans (hs2.below hg0 hb1.size)
  exact ⟨t, rfl, by omega, hb2.trans (hs3.below hg0 hb2.size)⟩

set_option maxHeartbeats 400000 in
theorem big_any (a : Option Addr) (n cap : Nat) (w : World) (hn : n ≤ 9223372036854775807) :
    Calls Tryd.prog 8 #[.slice a n cap] w fun e w' => e = .returned (.bool (decide (1048576 < n))) ∧ w' = w := by
  by_cases h : 1048576 < n
  · go_enter Tryd.func8, Tryd.ntmps8
    go_wp2
    go_ret
    exact ⟨by simp [h]; omega, rfl⟩
  · go_enter Tryd.func8, Tryd.ntmps8
    go_wp2
    go_ret
    exact ⟨by simp [h]; omega, rfl⟩

theorem CodeAt.on {w w' : World} {v : Value} {n : Nat} (h : CodeAt w w.heap.size v n) (hb : Below w.heap.size w w') : CodeAt w' w'.heap.size v n := by
  obtain ⟨a, cap, hv, hc⟩ := h.keep (w' := w') hb.block
  refine ⟨a, cap, hv, fun j hj => ?_⟩
  obtain ⟨x, z, ha, hlt, hr⟩ := hc j hj
  exact ⟨x, z, ha, Nat.lt_of_lt_of_le hlt hb.size, hr⟩

/-- What stands of a sealed text, unsealed. -/
theorem sealT_size (t : ByteArray) : (sealT t).size = t.size + 4 := by unfold sealT; rw [ByteArray.size_append, tail4_size]
theorem headT_seal (t : ByteArray) : headT (sealT t) = t := by
  unfold headT
  rw [sealT_size]
  unfold sealT
  exact ByteArray.extract_append_eq_left (by omega)
theorem seal_good (t : ByteArray) : lastT (sealT t) = tail4 (headT (sealT t)) := (sealT_iff (sealT t)).1 (by rw [headT_seal])

/-- The text with one byte turned. -/
def turnT (t : ByteArray) (i y : Nat) : ByteArray := ⟨(t.data.toList.set i (UInt8.ofNat y)).toArray⟩
theorem turnT_size (t : ByteArray) (i y : Nat) : (turnT t i y).size = t.size := by
  show (t.data.toList.set i (UInt8.ofNat y)).toArray.size = _
  simp
theorem bl_turnT (t : ByteArray) (i y : Nat) (hy : y < 256) : bl (turnT t i y) = (bl t).set i y := by
  unfold bl turnT
  rw [List.map_set]
  simp [Nat.mod_eq_of_lt hy]
theorem bl_append (a b : ByteArray) : bl (a ++ b) = bl a ++ bl b := by
  unfold bl
  rw [ByteArray.data_append, Array.toList_append, List.map_append]
theorem bl_extract (t : ByteArray) (a b : Nat) : bl (t.extract a b) = ((bl t).take b).drop a := by
  unfold bl
  rw [ByteArray.data_extract, Array.toList_extract, List.extract_eq_take_drop, List.map_take, List.map_drop, List.drop_take]
theorem bl_tail4 (t : ByteArray) : bl (tail4 t) = fourN (sumL 4294967295 (bl t)) := by
  have h : sumL 4294967295 (bl t) < 4294967296 := sumT_lt t (show 4294967295 < 4294967296 by decide)
  show bl (bstr (four (sumL 4294967295 (bl t)))) = _
  generalize sumL 4294967295 (bl t) = x at h
  have e1 : ((x : Int) / 16777216).toNat = x / 16777216 := by omega
  have e2 : ((x : Int) / 65536 % 256).toNat = x / 65536 % 256 := by omega
  have e3 : ((x : Int) / 256 % 256).toNat = x / 256 % 256 := by omega
  have e4 : ((x : Int) % 256).toNat = x % 256 := by omega
  simp only [bl, bstr, four, fourN, List.map_cons, List.map_nil, e1, e2, e3, e4, UInt8.toNat_ofNat']
  simp only [List.cons.injEq, and_true]
  omega
theorem turnT_bad (S : ByteArray) (i y : Nat) (hi : i < (sealT S).size) (hy : y < 256) (hne : y ≠ (sealT S)[i].toNat) :
    lastT (turnT (sealT S) i y) ≠ tail4 (headT (turnT (sealT S) i y)) := by
  intro h
  have h1 := congrArg bl h
  have hs := sealT_size S
  have hL : bl (sealT S) = bl S ++ fourN (sumL 4294967295 (bl S)) := by unfold sealT; rw [bl_append, bl_tail4]
  rw [bl_tail4] at h1
  unfold lastT headT at h1
  rw [bl_extract, bl_extract, turnT_size, bl_turnT _ _ _ hy, hL, hs, List.drop_zero] at h1
  have hlen : (bl S).length = S.size := bl_length S
  rw [List.take_of_length_le (by simp [hlen, fourN]), show S.size + 4 - 4 = (bl S).length by rw [hlen]; omega] at h1
  refine turned_not (bl S) (bl_lt S) i y hy (by omega) ?_ h1
  rw [← hL]
  intro he
  apply hne
  have : (bl (sealT S))[i]? = some (sealT S)[i].toNat := by
    unfold bl
    rw [List.getElem?_map]
    have : (sealT S).data.toList[i]? = some (sealT S)[i] := by
      rw [Array.getElem?_toList]; exact Array.getElem?_eq_getElem hi
    rw [this]; rfl
  rw [this] at he
  exact (Option.some.inj he).symm

/-- The text of the bytes with one of them turned. -/
theorem run_back (t : ByteArray) (b cap i y : Nat) (w w6 : World) (hi : i < t.size) (hy : y < 256) (h6 : w6 = (w.setCell ⟨b, i, none⟩ (.int .u8 (y : Int))).drew)
    (hcell : ∀ j (hj : j < t.size), w.cell? ⟨b, j, none⟩ = some (.int .u8 (t[j].toNat : Int))) :
    (convert 22 9 (.slice (some ⟨b, 0, none⟩) t.size cap)).run Tryd.prog w6 = .ok (.string (turnT t i y)) w6 := by
  have hl : (t.data.toList.set i (UInt8.ofNat y)).length = t.size := by rw [List.length_set]; rfl
  have := run_convert_bytes_back (P := Tryd.prog) w6 22 9 5 ⟨b, 0, none⟩ cap (t.data.toList.set i (UInt8.ofNat y)) Tryd.underlying22 Tryd.underlying5 Tryd.underlying9 ?_
  · rw [hl] at this
    exact this
  · intro j hj
    rw [hl] at hj
    have ea : (⟨b, 0, none⟩ : Addr).add j = ⟨b, j, none⟩ := by
      unfold Addr.add
      split
      · rename_i h; have : j = 0 := by simpa using h
        subst this; rfl
      · simp
    rw [ea]
    subst h6
    show (w.setCell ⟨b, i, none⟩ (.int .u8 (y : Int))).cell? ⟨b, j, none⟩ = _
    by_cases he : i = j
    · subst he
      rw [World.cell?_setCell_same _ _ _ (hcell i hi)]
      simp [Nat.mod_eq_of_lt hy]
    · rw [World.cell?_setCell_other _ _ _ _ (by intro e; injection e with _ e2; exact he e2), hcell j hj]
      rw [List.getElem_set_ne he]
      rfl

theorem two_of {l : List Int} (h : l.length = 12) : ∃ x0 x1 rest, l = x0 :: x1 :: rest := by
  match l, h with
  | x0 :: x1 :: rest, _ => exact ⟨x0, x1, rest, rfl⟩
theorem xor_u8 (z k : Nat) (hz : z < 256) (h0 : 0 < k) (hk : k < 256) : ∃ y : Nat, bits .xor .u8 (z : Int) (k : Int) = (y : Int) ∧ y < 256 ∧ y ≠ z := by
  refine ⟨z ^^^ k, u8_xor_nat z k hz hk, Nat.xor_lt_two_pow (n := 8) (by omega) (by omega), fun h => ?_⟩
  have h2 := congrArg (z ^^^ ·) h
  simp only [← Nat.xor_assoc, Nat.xor_self, Nat.zero_xor] at h2
  omega

theorem unsealed_seal (t : ByteArray) (w : World) (h : t.size ≤ 20000) (ht : TableIs w) :
    Calls Tryd.prog 12 #[.string (sealT t)] w fun e w' => e = .returned (.tuple #[.string t, .bool true]) ∧ Below w.heap.size w w' := by
  have := unsealed_yes (sealT t) w (by rw [sealT_size]; omega) (by rw [sealT_size]; omega) (seal_good t) ht
  rw [headT_seal] at this
  exact this

/-- The bytes of a text, made anew. -/
theorem run_bytes (t : ByteArray) (w : World) : ∃ (w' : World) (cap : Nat), (convert 9 22 (.string t)).run Tryd.prog w = .ok (.slice (some ⟨w.heap.size, 0, none⟩) t.size cap) w' ∧ t.size ≤ cap ∧ Below w.heap.size w w' ∧ w.heap.size < w'.heap.size ∧
    (∀ j (hj : j < t.size), w'.cell? ⟨w.heap.size, j, none⟩ = some (.int .u8 (t[j].toNat : Int))) ∧ (∀ j, j < t.size → w'.frozen? ⟨w.heap.size, j, none⟩ = false) := by
  refine ⟨_, _, run_bytes_of_string w 9 22 5 t Tryd.underlying9 Tryd.underlying22 Tryd.underlying5, grownCap_ge w t.size 0 5, ((Below.refl w.heap.size w).drew).alloc (Nat.le_refl _) _, ?_, ?_, ?_⟩
  · show w.heap.size < (w.heap.push _).size
    simp
  · intro j hj
    rw [show w.heap.size = w.drew.heap.size from rfl, World.cell?_alloc_mark]
    exact bytesRow_at t _ j hj
  · intro j hj
    rw [show w.heap.size = w.drew.heap.size from rfl, World.frozen?_alloc_mark]
    have : ¬ (bytesRow t (grownCap w t.size 0 5)).size ≤ j := by
      unfold bytesRow
      rw [Array.size_append, Array.size_map]
      show ¬ t.size + _ ≤ j
      omega
    simp [this]

set_option maxHeartbeats 1000000 in
theorem law_Turned (v : Value) (n : Nat) (w : World) (hn : n ≤ 9223372036854775807) (hc : n ≤ 1048576 → CodeAt w w.heap.size v n) (hv : ∃ a cap, v = .slice a n cap) (ht : TableIs w) :
    Calls Tryd.prog 3 #[v] w fun e w' => e = .returned (.bool true) ∧ Below w.heap.size w w' := by
  obtain ⟨a, cap, rfl⟩ := hv
  by_cases hb : 1048576 < n
  · have hbb : decide (1048576 < n) = true := decide_eq_true hb
    go_enter Tryd.func3, Tryd.ntmps3
    go_wp2_with (go_at_call 8; refine (big_any a n cap _ hn).mono ?_; rintro e w' ⟨rfl, hw⟩; have hw2 := hw.symm; subst hw2)
    go_ret
    exact ⟨rfl, Below.refl _ _⟩
  · have hbb : decide (1048576 < n) = false := decide_eq_false hb
    have hn2 : n ≤ 1048576 := by omega
    have hc2 := hc hn2
    have hsz := sealT_size
    clear hc
    go_enter Tryd.func3, Tryd.ntmps3
    go_wp2_with (first | (go_at_call 8; refine (big_any a n cap _ hn).mono ?_; rintro e w' ⟨rfl, hw⟩; have hw2 := hw.symm; subst hw2) | (go_at_call 9; refine (drawSumOf_any _ n _ hn2 hc2).mono ?_; rintro e w1 ⟨S, rfl, hS, hb1⟩) | (go_at_call 10; refine (places_any _ n _ hn2 (hc2.on hb1)).mono ?_; rintro e w2 ⟨u, l, rfl, hown, hlen, hall, hb2⟩) | (go_at_call 11; refine (sealed_ok S _ (by omega) ((ht.below hb1).below hb2)).mono ?_; rintro e w3 ⟨rfl, hb3⟩) | (go_at_call 12; refine (unsealed_seal S _ (by omega) (((ht.below hb1).below hb2).below hb3)).mono ?_; rintro e w4 ⟨rfl, hb4⟩))
    obtain ⟨w5, cap5, hcv, hcap, hb5, hlt5, hcell, hfro⟩ := run_bytes (sealT S) w4
    rw [hcv]
    clear hcv
    have hTs := sealT_size S
    obtain ⟨x0, x1, rest, rfl⟩ := two_of hlen
    obtain ⟨r, capu, hu, hr0, hr1, hpc⟩ := hown.cells (by simp)
    rw [hlen] at hu
    subst hu
    have hx0 := hall x0 (by simp)
    have hx1 := hall x1 (by simp)
    have hr4 : r < w4.heap.size := by have := hb3.size; have := hb4.size; omega
    have hw25 : Below w2.heap.size w2 w5 := (hb3.trans (hb4.mono hb3.size)).trans (hb5.mono (by have := hb3.size; have := hb4.size; omega))
    have hp0 : w5.cell? ⟨r, 0, none⟩ = some (.int .i64 x0) := by rw [hw25.cell (p := ⟨r, 0, none⟩) hr1]; exact hpc 0 (by simp)
    have hp1 : w5.cell? ⟨r, 1, none⟩ = some (.int .i64 x1) := by rw [hw25.cell (p := ⟨r, 1, none⟩) hr1]; exact hpc 1 (by simp)
    have hw5 : Below w.heap.size w w5 := (hb1.trans (hb2.mono hb1.size)).trans (hw25.mono (by have := hb1.size; have := hb2.size; omega))
    have ht5 : TableIs w5 := ht.below hw5
    have hm : (S.size : Int) + 4 = ((sealT S).size : Int) := by omega
    obtain ⟨i, hi⟩ : ∃ i : Nat, x0 % ((S.size : Int) + 4) = (i : Int) := ⟨(x0 % ((S.size : Int) + 4)).toNat, by rw [Int.toNat_of_nonneg (Int.emod_nonneg _ (by omega))]⟩
    have hi2 : i < (sealT S).size := by have := Int.emod_lt_of_pos x0 (show (0 : Int) < (S.size : Int) + 4 by omega); omega
    obtain ⟨k, hk⟩ : ∃ k : Nat, x1 % 255 = (k : Int) := ⟨(x1 % 255).toNat, by omega⟩
    have hk2 : k < 255 := by omega
    have hci := hcell i hi2
    have hfi := hfro i hi2
    have hz := (sealT S)[i].toNat_lt
    obtain ⟨y, hy, hy1, hy2⟩ := xor_u8 (sealT S)[i].toNat (1 + k) (by omega) (by omega) (by omega)
    have hyi : bits .xor .u8 ((sealT S)[i].toNat : Int) (1 + (k : Int)) = (y : Int) := by rw [← hy]; congr 1
    have hi4 : i < S.size + 4 := by omega
    have hrb : r ≠ w4.heap.size := by omega
    have hw4 : w.heap.size ≤ w4.heap.size := by have := hb1.size; have := hb2.size; have := hb3.size; have := hb4.size; omega
    clear hown hall hpc hb1 hb2 hb3 hb4 hb5 hw25 hc2 hm hy hsz
    go_wp2
    rw [hi]
    have hkt : x1.tmod 255 = (k : Int) := by rw [Int.tmod_eq_emod_of_nonneg (by omega)]; exact hk
    have hkw : IntKind.i64.wrap (1 + (k : Int)) = 1 + (k : Int) := by go_arith
    have hku : IntKind.u8.wrap (1 + (k : Int)) = 1 + (k : Int) := by go_arith
    go_region
    obtain ⟨w6, h6⟩ : ∃ w6, w6 = (w5.setCell ⟨w4.heap.size, i, none⟩ (.int .u8 (y : Int))).drew := ⟨_, rfl⟩
    rw [← h6]
    have hcv := run_back (sealT S) w4.heap.size cap5 i y w5 w6 hi2 hy1 h6 hcell
    rw [hTs] at hcv
    have hbad := turnT_bad S i y hi2 hy1 hy2
    have hts : (turnT (sealT S) i y).size = S.size + 4 := by rw [turnT_size, hTs]
    have hw6 : Below w.heap.size w w6 := by rw [h6]; exact (hw5.setCell (by show w.heap.size ≤ w4.heap.size; omega) _).drew
    have ht6 : TableIs w6 := ht.below hw6
    have hsx0 : S.size ≤ maxLen := by unfold maxLen; omega
    have hsx : (S ++ { data := #[120] } : ByteArray).size ≤ maxLen := by rw [ByteArray.size_append]; show S.size + 1 ≤ maxLen; unfold maxLen; omega
    have hgo : sumT (sumT 4294967295 S) { data := #[120] } = sumT 4294967295 (S ++ { data := #[120] }) := by unfold sumT; rw [bl_append, sumL_append]
    clear h6 hcell hfro hci hfi hyi hp0 hp1 hi hk hkt hkw hku hx0 hx1 ht5 hw5 hy2 hz
    go_wp2_with (first | (go_at_call 12; refine (unsealed_no _ _ (by omega) (by omega) hbad ht6).mono ?_; rintro e w7 ⟨rfl, hb7⟩) | (go_at_call 14; refine (sumOf_any _ _ (by first | exact hsx | exact hsx0) (ht6.below hb7)).mono ?_; rintro e w' ⟨rfl, hw⟩; have hw2 := hw.symm; subst hw2) | (go_at_call 13; refine (sumMore_any _ _ _ (sumT_lt S (by decide)) (by decide) (ht6.below hb7)).mono ?_; rintro e w' ⟨rfl, hw⟩; have hw2 := hw.symm; subst hw2))
    go_ret
    exact ⟨rfl, hw6.trans (hb7.mono hw6.size)⟩
end Go.Proofs.YtcphoacihbdpaaaDoor
