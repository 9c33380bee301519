/-
  Drawn numbers and texts come back: the walks.
-/
import Derived.Test.YtnnfhhdiamidhaaDoorBack
import Derived.Test.YtnnfhhdiamidhaaDoorDraw2
import Derived.Test.YtnnfhhdiamidhaaDoorSh
import Derived.Test.YtnnfhhdiamidhaaDoorDec
namespace Go.Proofs.YtnnfhhdiamidhaaDoor
open Go.RowKit

set_option maxHeartbeats 400000 in
theorem drawVarText_any (v : Value) (n : Nat) (w : World) (hn : n ≤ 1048576) (hc : CodeAt w w.heap.size v n) :
    Calls Tryd.prog 5 #[v] w fun e w' => ∃ z : Int, e = .returned (.int .i64 z) ∧ -9223372036854775808 ≤ z ∧ z ≤ 9223372036854775807 ∧ Below w.heap.size w w' := by
  go_enter Tryd.func5, Tryd.ntmps5
  go_wp2_with (first | (go_at_call 16; refine (new_any v n _ hn hc).mono ?_; rintro e w1 ⟨g, rfl, hg0, hd1, hb1⟩) | (go_at_call 15; refine (number_any g _ hd1).mono ?_; rintro e w2 ⟨z, rfl, hz0, hz1, hd2, hs2⟩))
  go_ret
  exact ⟨z, rfl, hz0, hz1, hb1.trans (hs2.below hg0 hb1.size)⟩

set_option maxHeartbeats 1000000 in
theorem drawHex_any (v : Value) (n : Nat) (w : World) (hn : n ≤ 1048576) (hc : CodeAt w w.heap.size v n) :
    Calls Tryd.prog 10 #[v] w fun e w' => ∃ t : ByteArray, e = .returned (.string t) ∧ t.size ≤ 1000000 ∧ Below w.heap.size w w' := by
  go_enter Tryd.func10, Tryd.ntmps10
  go_wp2_with (first | (go_at_call 16; refine (new_any v n _ hn hc).mono ?_; rintro e w1 ⟨g, rfl, hg0, hd, hb⟩) | (go_at_call 18; refine (once_any g 60 _ hd (by decide) (by decide)).mono ?_; have hd0 := hd; clear hd hd0; rintro e w2 ⟨b, rfl, hd, hs⟩; have hb := hb.trans (hs.below hg0 hb.size); clear hs; cases b) | (go_at_call 20; refine (below_any g _ _ hd (by decide) (by decide)).mono ?_; clear hd; rintro e w3 ⟨x, rfl, hx0, hx1, hd, hs⟩; have hb := hb.trans (hs.below hg0 hb.size); clear hs; obtain ⟨k, rfl⟩ := Int.eq_ofNat_of_zero_le hx0) | (go_at_call 19; refine (long_any (20000 + k) 200 _ (by omega) (by omega)).mono ?_; rintro e w4 ⟨t, rfl, ht, hb4⟩) | (go_at_call 21; refine (dtext_any g k _ hd (by omega)).mono ?_; rintro e w4 ⟨t, rfl, ht, hd4, hs4⟩))
  · go_ret
    exact ⟨t, rfl, by omega, hb.trans (hs4.below hg0 hb.size)⟩
  · go_ret
    exact ⟨t, rfl, by omega, hb.trans (hb4.mono hb.size)⟩

theorem varI_len5 : ∀ (k n : Nat), n < 128 ^ (k + 1) → (varI n).length ≤ k + 1
  | 0, n, h => by rw [varI_last (by omega)]; simp
  | k + 1, n, h => by
    by_cases hn : 127 < n
    · rw [varI_more hn]
      have := varI_len5 k (n / 128) (by rw [Nat.pow_succ] at h; omega)
      simp; omega
    · rw [varI_last hn]; simp
/-- VarText, ReadVar, Decimal, ReadDecimal, ShortText, ReadShort, Hex, Unhex at what this law hands them: the text under a name of its own. -/
theorem num_var (n : Int) (w : World) (h0 : 0 ≤ n) (h1 : n ≤ 1000000000) :
    Calls Tryd.prog 6 #[.int .i64 n] w fun e w' => ∃ s : ByteArray, e = .returned (.tuple #[.string s, .bool true]) ∧ s.size ≤ 5 ∧ Hid (s = bstr (varI n.toNat)) ∧ Below w.heap.size w w' := by
  obtain ⟨k, rfl⟩ := Int.eq_ofNat_of_zero_le h0
  refine (varText_ok k w (by omega)).mono fun e w' ⟨h1, h2⟩ => ⟨_, h1, ?_, rfl, h2⟩
  rw [bstr_size']
  exact varI_len5 4 k (by omega)
theorem num_read (n : Int) (s : ByteArray) (w : World) (h0 : 0 ≤ n) (h1 : n ≤ 1000000000) (hs : s.size ≤ 5) (HS : Hid (s = bstr (varI n.toNat))) :
    Calls Tryd.prog 7 #[.string ({ data := #[120] } ++ s ++ { data := #[121] }), .int .i64 1] w fun e w' => e = .returned (.tuple #[.int .i64 n, .int .i64 ((s.size : Int) + 1), .bool true]) ∧ w' = w := by
  obtain ⟨k, rfl⟩ := Int.eq_ofNat_of_zero_le h0
  refine readVar_any _ 1 w ?_ _ _ true ?_
  · rw [ByteArray.size_append, ByteArray.size_append]; show 1 + s.size + 1 ≤ _; omega
  · have h := rv_back { data := #[120] } { data := #[121] } k (by omega)
    have e : s = bstr (varI k) := by have := HS.out; simpa using this
    rw [← e] at h
    have e2 : (varI k).length = s.size := by rw [e, bstr_size']
    rw [e2, show (({ data := #[120] } : ByteArray).size : Int) = 1 from rfl, show (({ data := #[120] } : ByteArray).size + s.size : Nat) = 1 + s.size from rfl] at h
    rw [h]
    congr 2
    omega
theorem num_dec (n : Int) (w : World) (h0 : 0 ≤ n) (h1 : n ≤ 1000000000) (hp : PowIs w) :
    Calls Tryd.prog 9 #[.int .i64 n] w fun e w' => ∃ s : ByteArray, e = .returned (.string s) ∧ s.size ≤ 10 ∧ Hid (s = bstr (decI n.toNat)) ∧ Below w.heap.size w w' := by
  obtain ⟨k, rfl⟩ := Int.eq_ofNat_of_zero_le h0
  refine (decimal_any k w (by omega) (by omega) hp).mono fun e w' ⟨h1, h2⟩ => ⟨bstr (decI k), by rw [decS_pos]; exact h1, ?_, rfl, h2⟩
  rw [bstr_size']
  exact decI_len10 9 k (by omega)
theorem num_rd (n : Int) (s : ByteArray) (w : World) (h0 : 0 ≤ n) (h1 : n ≤ 1000000000) (hs : s.size ≤ 10) (HS : Hid (s = bstr (decI n.toNat))) :
    Calls Tryd.prog 8 #[.string s] w fun e w' => e = .returned (.tuple #[.int .i64 n, .bool true]) ∧ Below w.heap.size w w' := by
  obtain ⟨k, rfl⟩ := Int.eq_ofNat_of_zero_le h0
  refine readDec_any s w hs _ true ?_
  show rd s = _
  have e : s = bstr (decI k) := by have := HS.out; simpa using this
  rw [e]
  exact rd_back k (by omega)
theorem num_short (t : ByteArray) (w : World) (ht : t.size ≤ 300) :
    Calls Tryd.prog 11 #[.string t] w fun e w' => ∃ a : ByteArray, e = .returned (.tuple #[.string a, .bool true]) ∧ a.size ≤ 305 ∧ Hid (a = bstr (varI t.size) ++ t) ∧ Below w.heap.size w w' := by
  refine (short_ok t w (by omega)).mono fun e w' ⟨h1, h2⟩ => ⟨_, h1, ?_, rfl, h2⟩
  have := varI_len5 4 t.size (by omega)
  rw [ByteArray.size_append, bstr_size']
  omega
theorem num_rs (t a : ByteArray) (w : World) (ht : t.size ≤ 300) (ha : a.size ≤ 305) (HA : Hid (a = bstr (varI t.size) ++ t)) :
    Calls Tryd.prog 12 #[.string a, .int .i64 0] w fun e w' => e = .returned (.tuple #[.string t, .int .i64 (a.size : Int), .bool true]) ∧ Below w.heap.size w w' := by
  have h := rv_back ByteArray.empty t t.size (by omega)
  have ea : ByteArray.empty ++ bstr (varI t.size) ++ t = a := by rw [HA.out]; simp
  rw [ea] at h
  have hsz : a.size = (varI t.size).length + t.size := by rw [HA.out, ByteArray.size_append, bstr_size']
  have hy : ((ByteArray.empty.size + (varI t.size).length : Nat) : Int) = ((varI t.size).length : Int) := by simp
  rw [hy] at h
  have := readShort_ok a 0 w (by omega) _ _ h (by omega) (by omega)
  refine this.mono fun e w' ⟨h1, h2⟩ => ⟨?_, h2⟩
  rw [h1]
  have e1 : a.extract ((varI t.size).length : Int).toNat (((varI t.size).length : Int) + (t.size : Int)).toNat = t := by
    rw [HA.out, show ((varI t.size).length : Int).toNat = (bstr (varI t.size)).size by rw [bstr_size']; rfl]
    exact ByteArray.extract_append_eq_right rfl (by rw [bstr_size']; omega)
  rw [e1, show ((varI t.size).length : Int) + (t.size : Int) = (a.size : Int) by omega]
theorem num_hex (t : ByteArray) (w : World) (ht : t.size ≤ 300) :
    Calls Tryd.prog 13 #[.string t] w fun e w' => ∃ a : ByteArray, e = .returned (.tuple #[.string a, .bool true]) ∧ Hid (a = bstr (hexTo t t.size)) ∧ Below w.heap.size w w' :=
  (hex_ok t w (by omega)).mono fun e w' ⟨h1, h2⟩ => ⟨_, h1, rfl, h2⟩
theorem num_un (t a : ByteArray) (w : World) (ht : t.size ≤ 300) (HA : Hid (a = bstr (hexTo t t.size))) :
    Calls Tryd.prog 14 #[.string a] w fun e w' => e = .returned (.tuple #[.string t, .bool true]) ∧ Below w.heap.size w w' := by
  have hsz : a.size = 2 * t.size := by rw [HA.out, bstr_size', hexTo_length]
  refine unhex_any a w (by omega) (by omega) t true ?_
  rw [HA.out, un_whole]
  show Value.tuple #[.string (bstr _), .bool true] = _
  rw [bstr_self]

set_option maxHeartbeats 400000 in
theorem big_any (a : Option Addr) (n cap : Nat) (w : World) (hn : n ≤ 9223372036854775807) :
    Calls Tryd.prog 4 #[.slice a n cap] w fun e w' => e = .returned (.bool (decide (1048576 < n))) ∧ w' = w := by
  by_cases h : 1048576 < n
  · go_enter Tryd.func4, Tryd.ntmps4
    go_wp2
    go_ret
    exact ⟨by simp [h]; omega, rfl⟩
  · go_enter Tryd.func4, Tryd.ntmps4
    go_wp2
    go_ret
    exact ⟨by simp [h]; omega, rfl⟩
theorem CodeAt.on {w w' : World} {v : Value} {n : Nat} (h : CodeAt w w.heap.size v n) (hb : Below w.heap.size w w') : CodeAt w' w'.heap.size v n := by
  obtain ⟨a, cap, hv, hc⟩ := h.keep (w' := w') hb.block
  refine ⟨a, cap, hv, fun j hj => ?_⟩
  obtain ⟨x, z, ha, hlt, hr⟩ := hc j hj
  exact ⟨x, z, ha, Nat.lt_of_lt_of_le hlt hb.size, hr⟩
theorem Below.on {w w1 w2 : World} (h1 : Below w.heap.size w w1) (h2 : Below w1.heap.size w1 w2) : Below w.heap.size w w2 := h1.trans (h2.mono h1.size)

set_option maxHeartbeats 2000000 in
theorem law_Numbers (v : Value) (n : Nat) (w : World) (hn : n ≤ 9223372036854775807) (hc : CodeAt w w.heap.size v n) (hp : PowIs w) :
    Calls Tryd.prog 3 #[v] w fun e w' => e = .returned (.bool true) ∧ Below w.heap.size w w' := by
  obtain ⟨a, cap, rfl, _⟩ := id hc
  by_cases hb : 1048576 < n
  · have hbb : decide (1048576 < n) = true := decide_eq_true hb
    go_enter Tryd.func3, Tryd.ntmps3
    go_wp2_with (go_at_call 4; refine (big_any a n cap _ hn).mono ?_; rintro e w' ⟨rfl, hw⟩; have hw2 := hw.symm; subst hw2)
    go_ret
    exact ⟨rfl, Below.refl _ _⟩
  · have hbb : decide (1048576 < n) = false := decide_eq_false hb
    have hn2 : n ≤ 1048576 := by omega
    have hW := Below.refl w.heap.size w
    go_enter Tryd.func3, Tryd.ntmps3
    go_wp2_with (first | (go_at_call 4; refine (big_any a n cap _ hn).mono ?_; rintro e w' ⟨rfl, hw⟩; have hw2 := hw.symm; subst hw2) | (go_at_call 5; refine (drawVarText_any _ n _ hn2 (hc.on hW)).mono ?_; rintro e w1 ⟨z, rfl, hz0, hz1, hb1⟩; have hW := Below.on hW hb1; clear hb1) | (go_at_call 6; refine (num_var _ _ (by omega) (by omega)).mono ?_; rintro e w1 ⟨s, rfl, hss, HS, hb1⟩; have hW := Below.on hW hb1; clear hb1) | (go_at_call 7; refine (num_read _ s _ (by omega) (by omega) hss HS).mono ?_; rintro e w' ⟨rfl, hw⟩; have hw2 := hw.symm; subst hw2; clear HS) | (go_at_call 9; refine (num_dec _ _ (by omega) (by omega) (hp.below hW)).mono ?_; rintro e w1 ⟨d, rfl, hds, HD, hb1⟩; have hW := Below.on hW hb1; clear hb1) | (go_at_call 8; refine (num_rd _ d _ (by omega) (by omega) hds HD).mono ?_; rintro e w1 ⟨rfl, hb1⟩; have hW := Below.on hW hb1; clear hb1 HD) | (go_at_call 10; refine (drawHex_any _ n _ hn2 (hc.on hW)).mono ?_; rintro e w1 ⟨t, rfl, hts, hb1⟩; have hW := Below.on hW hb1; clear hb1) | (go_at_call 11; refine (num_short _ _ (by first | omega | decide)).mono ?_; rintro e w1 ⟨q, rfl, hqs, HQ, hb1⟩; have hW := Below.on hW hb1; clear hb1) | (go_at_call 12; refine (num_rs _ q _ (by first | omega | decide) hqs HQ).mono ?_; rintro e w1 ⟨rfl, hb1⟩; have hW := Below.on hW hb1; clear hb1 HQ) | (go_at_call 13; refine (num_hex _ _ (by first | omega | decide)).mono ?_; rintro e w1 ⟨h, rfl, HH, hb1⟩; have hW := Below.on hW hb1; clear hb1) | (go_at_call 14; refine (num_un _ h _ (by first | omega | decide) HH).mono ?_; rintro e w1 ⟨rfl, hb1⟩; have hW := Below.on hW hb1; clear hb1 HH))
    all_goals
      go_ret
      exact ⟨rfl, hW⟩
end Go.Proofs.YtnnfhhdiamidhaaDoor
