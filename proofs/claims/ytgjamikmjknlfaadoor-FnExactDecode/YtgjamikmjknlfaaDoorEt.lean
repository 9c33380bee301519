/-
  The text of an entry: the walks.
-/
import Derived.Test.YtgjamikmjknlfaaDoorEo
import Derived.Test.YtgjamikmjknlfaaDoorRvs
namespace Go.Proofs.YtgjamikmjknlfaaDoor
open Go Go.RowKit

theorem varI_len3 {n : Nat} (hn : n ≤ 1000000) : (varI n).length ≤ 3 := by
  by_cases h1 : 127 < n
  · rw [varI_more h1]
    by_cases h2 : 127 < n / 128
    · rw [varI_more h2, varI_last (show ¬ 127 < n / 128 / 128 by omega)]
      simp
    · rw [varI_last h2]; simp
  · rw [varI_last h1]; simp
/-- All of an entry's text is right. -/
def okX (i t k : Int) (d : ByteArray) : Bool := decide (1 ≤ i) && decide (i ≤ 1000000) && okE t k d
/-- The text of an entry. -/
def rawE (p q : ByteArray) (k : Int) (d : ByteArray) : ByteArray := (⟨#[69]⟩ : ByteArray) ++ p ++ q ++ bstr [k] ++ d
def textE (i t k : Int) (d : ByteArray) : ByteArray := rawE (bstr (varI i.toNat)) (bstr (varI t.toNat)) k d
def textX (i t k : Int) (d : ByteArray) : ByteArray := if okX i t k d then textE i t k d else ByteArray.empty
def valX (i t k : Int) (d : ByteArray) : Value := .tuple #[.string (textX i t k d), .bool (okX i t k d)]
theorem valX_no {i t k : Int} {d : ByteArray} (h : okX i t k d = false) : valX i t k d = .tuple #[.string ByteArray.empty, .bool false] := by simp [valX, textX, h]
theorem valX_yes {i t k : Int} {d : ByteArray} (h : okX i t k d = true) : valX i t k d = .tuple #[.string (textE i t k d), .bool true] := by simp [valX, textX, h]
theorem kindOk_out {k : Int} {d : ByteArray} (h : kindOk k d = true) : (k = 1 ∨ k = 2 ∨ k = 3) ∧ d.size ≤ 640 := by
  unfold kindOk at h
  split at h
  · rename_i h1
    refine ⟨.inl h1, ?_⟩
    have e : d.toList = [] := by simpa using h
    have : d.size = 0 := by
      rw [ByteArray.toList_eq] at e
      have := congrArg List.length e
      simpa using this
    omega
  · split at h
    · rename_i h1
      refine ⟨.inr (.inl h1), ?_⟩
      have := okC_len h
      rw [bytesI_length] at this
      omega
    · split at h
      · rename_i h1
        exact ⟨.inr (.inr h1), by have := of_decide_eq_true h; omega⟩
      · cases h
theorem okX_out {i t k : Int} {d : ByteArray} (h : okX i t k d = true) : 1 ≤ i ∧ i ≤ 1000000 ∧ 0 ≤ t ∧ t ≤ 100000 ∧ (k = 1 ∨ k = 2 ∨ k = 3) ∧ d.size ≤ 640 ∧ okE t k d = true := by
  unfold okX at h
  simp only [Bool.and_eq_true, decide_eq_true_eq] at h
  have h2 := h.2
  unfold okE at h2
  simp only [Bool.and_eq_true, decide_eq_true_eq] at h2
  obtain ⟨h3, h4⟩ := kindOk_out h2.2
  exact ⟨h.1.1, h.1.2, h2.1.1, h2.1.2, h3, h4, h.2⟩
section
variable {p q d : ByteArray} {k : Int} (hp : p.size ≤ 3) (hq : q.size ≤ 3) (hd : d.size ≤ 640)
include hp in
theorem add1 (wx : World) : (Op.stringOp .add ⟨#[69]⟩ p).run Tryd.prog wx = .ok (.string ((⟨#[69]⟩ : ByteArray) ++ p)) wx :=
  run_string_add_sum wx _ _ (by have : (⟨#[69]⟩ : ByteArray).size = 1 := rfl; omega)
include hp hq in
theorem add2 (wx : World) : (Op.stringOp .add ((⟨#[69]⟩ : ByteArray) ++ p) q).run Tryd.prog wx = .ok (.string ((⟨#[69]⟩ : ByteArray) ++ p ++ q)) wx :=
  run_string_add_sum wx _ _ (by have : (⟨#[69]⟩ : ByteArray).size = 1 := rfl; rw [ByteArray.size_append]; omega)
include hp hq in
theorem add3 (wx : World) : (Op.stringOp .add ((⟨#[69]⟩ : ByteArray) ++ p ++ q) (bstr [k])).run Tryd.prog wx = .ok (.string ((⟨#[69]⟩ : ByteArray) ++ p ++ q ++ bstr [k])) wx :=
  run_string_add_sum wx _ _ (by have : (⟨#[69]⟩ : ByteArray).size = 1 := rfl; rw [ByteArray.size_append, ByteArray.size_append, bstr_size']; simp; omega)
include hp hq hd in
theorem add4 (wx : World) : (Op.stringOp .add ((⟨#[69]⟩ : ByteArray) ++ p ++ q ++ bstr [k]) d).run Tryd.prog wx = .ok (.string (rawE p q k d)) wx :=
  run_string_add_sum wx _ _ (by have : (⟨#[69]⟩ : ByteArray).size = 1 := rfl; rw [ByteArray.size_append, ByteArray.size_append, ByteArray.size_append, bstr_size']; simp; omega)
end

theorem kind_1 (d : ByteArray) (w : World) : Calls Tryd.prog 116 #[.string d] w fun e w' => e = .returned (.int .u8 1) ∧ w' = w := by
  go_enter Tryd.func116, Tryd.ntmps116
  go_wp2
  go_ret
  exact ⟨rfl, rfl⟩
theorem kind_2 (d : ByteArray) (w : World) : Calls Tryd.prog 117 #[.string d] w fun e w' => e = .returned (.int .u8 2) ∧ w' = w := by
  go_enter Tryd.func117, Tryd.ntmps117
  go_wp2
  go_ret
  exact ⟨rfl, rfl⟩
theorem kind_3 (d : ByteArray) (w : World) : Calls Tryd.prog 118 #[.string d] w fun e w' => e = .returned (.int .u8 3) ∧ w' = w := by
  go_enter Tryd.func118, Tryd.ntmps118
  go_wp2
  go_ret
  exact ⟨rfl, rfl⟩
set_option maxHeartbeats 1000000 in
theorem entryText_1 (i t : Nat) (d : ByteArray) (w : World) (h1 : 1 ≤ i) (h2 : i ≤ 1000000) (h3 : t ≤ 100000) (hd : d.size ≤ 640) (hk : okE t 1 d = true) :
    Calls Tryd.prog 58 #[.int .i64 i, .agg #[.int .i64 t, .int .i64 1, .string d]] w fun e w' => e = .returned (.tuple #[.string (rawE (bstr (varI i)) (bstr (varI t)) 1 d), .bool true]) ∧ Below w.heap.size w w' := by
  have k1 : ¬ (i : Int) < 1 := by omega
  have k2 : ¬ 1000000 < (i : Int) := by omega
  have hs1 : (bstr (varI i)).size ≤ 3 := by rw [bstr_size']; exact varI_len3 h2
  have hs2 : (bstr (varI t)).size ≤ 3 := by rw [bstr_size']; exact varI_len3 (by omega)
  have H0 : Hid (∀ w, Calls Tryd.prog 76 #[.agg #[.int .i64 t, .int .i64 1, .string d]] w fun e w' => e = .returned (.bool true) ∧ Below w.heap.size w w') := by
    intro w; rw [← hk]; exact entryOk_any t 1 d w (by unfold maxLen; omega)
  have H1 : Hid (∀ w, Calls Tryd.prog 56 #[.int .i64 i] w fun e w' => e = .returned (.tuple #[.string (bstr (varI i)), .bool true]) ∧ Below w.heap.size w w') := fun w => varText_ok i w (by omega)
  have H2 : Hid (∀ w, Calls Tryd.prog 56 #[.int .i64 t] w fun e w' => e = .returned (.tuple #[.string (bstr (varI t)), .bool true]) ∧ Below w.heap.size w w') := fun w => varText_ok t w (by omega)
  generalize bstr (varI i) = p at *
  generalize bstr (varI t) = q at *
  have a1 := add1 hs1
  have a2 := add2 hs1 hs2
  have a3 := add3 (k := 1) hs1 hs2
  have a4 := add4 (k := 1) hs1 hs2 hd
  clear hk hs1 hs2
  go_enter Tryd.func58, Tryd.ntmps58
  go_wp2_with fail
  refine (H0.out _).mono ?_
  rintro e w1 ⟨rfl, hb1⟩
  have B1 := below_new hb1
  have c1 : w1.cell? ⟨w.heap.size, 0, none⟩ = some (.int .i64 t) := (hb1.cell (by simp)).trans (by simp [go_sem])
  have c2 : w1.cell? ⟨w.heap.size, 1, none⟩ = some (.int .i64 1) := (hb1.cell (by simp)).trans (by simp [go_sem])
  have c3 : w1.cell? ⟨w.heap.size, 2, none⟩ = some (.string d) := (hb1.cell (by simp)).trans (by simp [go_sem])
  clear hb1
  go_wp2_with fail
  refine (H1.out _).mono ?_
  rintro e w2 ⟨rfl, hb2⟩
  have B2 := Below.on B1 hb2
  have d1 := cell_up hb2 c1
  have d2 := cell_up hb2 c2
  have d3 := cell_up hb2 c3
  clear hb2 B1 c1 c2 c3
  go_wp2_with fail
  refine (H2.out _).mono ?_
  rintro e w3 ⟨rfl, hb3⟩
  have B3 := Below.on B2 hb3
  have e1 := cell_up hb3 d1
  have e2 := cell_up hb3 d2
  have e3 := cell_up hb3 d3
  clear hb3 B2 d1 d2 d3
  go_wp2_with fail
  refine (contentOf_any t 1 d _).mono ?_
  rintro e w4 ⟨rfl, hb4⟩
  have B4 := Below.on B3 hb4
  have g3 := cell_up hb4 e3
  clear hb4 B3 e1 e2 e3
  rw [show contV 1 d = .iface 138 (.string d) from rfl]
  have hlt : w.heap.size < w4.heap.size := World.block_lt_of_cell? w4 _ g3
  have hcv := run_one_string w4 1
  go_wp2_with fail
  refine (kind_1 d _).mono ?_
  rintro e w5 ⟨rfl, hw⟩
  have hw2 := hw.symm
  subst hw2
  clear hw
  go_wp2
  go_ret2
  exact ⟨rfl, ba B4 _⟩
set_option maxHeartbeats 1000000 in
theorem entryText_2 (i t : Nat) (d : ByteArray) (w : World) (h1 : 1 ≤ i) (h2 : i ≤ 1000000) (h3 : t ≤ 100000) (hd : d.size ≤ 640) (hk : okE t 2 d = true) :
    Calls Tryd.prog 58 #[.int .i64 i, .agg #[.int .i64 t, .int .i64 2, .string d]] w fun e w' => e = .returned (.tuple #[.string (rawE (bstr (varI i)) (bstr (varI t)) 2 d), .bool true]) ∧ Below w.heap.size w w' := by
  have k1 : ¬ (i : Int) < 1 := by omega
  have k2 : ¬ 1000000 < (i : Int) := by omega
  have hs1 : (bstr (varI i)).size ≤ 3 := by rw [bstr_size']; exact varI_len3 h2
  have hs2 : (bstr (varI t)).size ≤ 3 := by rw [bstr_size']; exact varI_len3 (by omega)
  have H0 : Hid (∀ w, Calls Tryd.prog 76 #[.agg #[.int .i64 t, .int .i64 2, .string d]] w fun e w' => e = .returned (.bool true) ∧ Below w.heap.size w w') := by
    intro w; rw [← hk]; exact entryOk_any t 2 d w (by unfold maxLen; omega)
  have H1 : Hid (∀ w, Calls Tryd.prog 56 #[.int .i64 i] w fun e w' => e = .returned (.tuple #[.string (bstr (varI i)), .bool true]) ∧ Below w.heap.size w w') := fun w => varText_ok i w (by omega)
  have H2 : Hid (∀ w, Calls Tryd.prog 56 #[.int .i64 t] w fun e w' => e = .returned (.tuple #[.string (bstr (varI t)), .bool true]) ∧ Below w.heap.size w w') := fun w => varText_ok t w (by omega)
  generalize bstr (varI i) = p at *
  generalize bstr (varI t) = q at *
  have a1 := add1 hs1
  have a2 := add2 hs1 hs2
  have a3 := add3 (k := 2) hs1 hs2
  have a4 := add4 (k := 2) hs1 hs2 hd
  clear hk hs1 hs2
  go_enter Tryd.func58, Tryd.ntmps58
  go_wp2_with fail
  refine (H0.out _).mono ?_
  rintro e w1 ⟨rfl, hb1⟩
  have B1 := below_new hb1
  have c1 : w1.cell? ⟨w.heap.size, 0, none⟩ = some (.int .i64 t) := (hb1.cell (by simp)).trans (by simp [go_sem])
  have c2 : w1.cell? ⟨w.heap.size, 1, none⟩ = some (.int .i64 2) := (hb1.cell (by simp)).trans (by simp [go_sem])
  have c3 : w1.cell? ⟨w.heap.size, 2, none⟩ = some (.string d) := (hb1.cell (by simp)).trans (by simp [go_sem])
  clear hb1
  go_wp2_with fail
  refine (H1.out _).mono ?_
  rintro e w2 ⟨rfl, hb2⟩
  have B2 := Below.on B1 hb2
  have d1 := cell_up hb2 c1
  have d2 := cell_up hb2 c2
  have d3 := cell_up hb2 c3
  clear hb2 B1 c1 c2 c3
  go_wp2_with fail
  refine (H2.out _).mono ?_
  rintro e w3 ⟨rfl, hb3⟩
  have B3 := Below.on B2 hb3
  have e1 := cell_up hb3 d1
  have e2 := cell_up hb3 d2
  have e3 := cell_up hb3 d3
  clear hb3 B2 d1 d2 d3
  go_wp2_with fail
  refine (contentOf_any t 2 d _).mono ?_
  rintro e w4 ⟨rfl, hb4⟩
  have B4 := Below.on B3 hb4
  have g3 := cell_up hb4 e3
  clear hb4 B3 e1 e2 e3
  rw [show contV 2 d = .iface 139 (.string d) from rfl]
  have hlt : w.heap.size < w4.heap.size := World.block_lt_of_cell? w4 _ g3
  have hcv := run_one_string w4 2
  go_wp2_with fail
  refine (kind_2 d _).mono ?_
  rintro e w5 ⟨rfl, hw⟩
  have hw2 := hw.symm
  subst hw2
  clear hw
  go_wp2
  go_ret2
  exact ⟨rfl, ba B4 _⟩
set_option maxHeartbeats 1000000 in
theorem entryText_3 (i t : Nat) (d : ByteArray) (w : World) (h1 : 1 ≤ i) (h2 : i ≤ 1000000) (h3 : t ≤ 100000) (hd : d.size ≤ 640) (hk : okE t 3 d = true) :
    Calls Tryd.prog 58 #[.int .i64 i, .agg #[.int .i64 t, .int .i64 3, .string d]] w fun e w' => e = .returned (.tuple #[.string (rawE (bstr (varI i)) (bstr (varI t)) 3 d), .bool true]) ∧ Below w.heap.size w w' := by
  have k1 : ¬ (i : Int) < 1 := by omega
  have k2 : ¬ 1000000 < (i : Int) := by omega
  have hs1 : (bstr (varI i)).size ≤ 3 := by rw [bstr_size']; exact varI_len3 h2
  have hs2 : (bstr (varI t)).size ≤ 3 := by rw [bstr_size']; exact varI_len3 (by omega)
  have H0 : Hid (∀ w, Calls Tryd.prog 76 #[.agg #[.int .i64 t, .int .i64 3, .string d]] w fun e w' => e = .returned (.bool true) ∧ Below w.heap.size w w') := by
    intro w; rw [← hk]; exact entryOk_any t 3 d w (by unfold maxLen; omega)
  have H1 : Hid (∀ w, Calls Tryd.prog 56 #[.int .i64 i] w fun e w' => e = .returned (.tuple #[.string (bstr (varI i)), .bool true]) ∧ Below w.heap.size w w') := fun w => varText_ok i w (by omega)
  have H2 : Hid (∀ w, Calls Tryd.prog 56 #[.int .i64 t] w fun e w' => e = .returned (.tuple #[.string (bstr (varI t)), .bool true]) ∧ Below w.heap.size w w') := fun w => varText_ok t w (by omega)
  generalize bstr (varI i) = p at *
  generalize bstr (varI t) = q at *
  have a1 := add1 hs1
  have a2 := add2 hs1 hs2
  have a3 := add3 (k := 3) hs1 hs2
  have a4 := add4 (k := 3) hs1 hs2 hd
  clear hk hs1 hs2
  go_enter Tryd.func58, Tryd.ntmps58
  go_wp2_with fail
  refine (H0.out _).mono ?_
  rintro e w1 ⟨rfl, hb1⟩
  have B1 := below_new hb1
  have c1 : w1.cell? ⟨w.heap.size, 0, none⟩ = some (.int .i64 t) := (hb1.cell (by simp)).trans (by simp [go_sem])
  have c2 : w1.cell? ⟨w.heap.size, 1, none⟩ = some (.int .i64 3) := (hb1.cell (by simp)).trans (by simp [go_sem])
  have c3 : w1.cell? ⟨w.heap.size, 2, none⟩ = some (.string d) := (hb1.cell (by simp)).trans (by simp [go_sem])
  clear hb1
  go_wp2_with fail
  refine (H1.out _).mono ?_
  rintro e w2 ⟨rfl, hb2⟩
  have B2 := Below.on B1 hb2
  have d1 := cell_up hb2 c1
  have d2 := cell_up hb2 c2
  have d3 := cell_up hb2 c3
  clear hb2 B1 c1 c2 c3
  go_wp2_with fail
  refine (H2.out _).mono ?_
  rintro e w3 ⟨rfl, hb3⟩
  have B3 := Below.on B2 hb3
  have e1 := cell_up hb3 d1
  have e2 := cell_up hb3 d2
  have e3 := cell_up hb3 d3
  clear hb3 B2 d1 d2 d3
  go_wp2_with fail
  refine (contentOf_any t 3 d _).mono ?_
  rintro e w4 ⟨rfl, hb4⟩
  have B4 := Below.on B3 hb4
  have g3 := cell_up hb4 e3
  clear hb4 B3 e1 e2 e3
  rw [show contV 3 d = .iface 140 (.string d) from rfl]
  have hlt : w.heap.size < w4.heap.size := World.block_lt_of_cell? w4 _ g3
  have hcv := run_one_string w4 3
  go_wp2_with fail
  refine (kind_3 d _).mono ?_
  rintro e w5 ⟨rfl, hw⟩
  have hw2 := hw.symm
  subst hw2
  clear hw
  go_wp2
  go_ret2
  exact ⟨rfl, ba B4 _⟩

set_option maxHeartbeats 1000000 in
theorem entryText_any (i t k : Int) (d : ByteArray) (w : World) (hd : d.size ≤ maxLen) :
    Calls Tryd.prog 58 #[.int .i64 i, .agg #[.int .i64 t, .int .i64 k, .string d]] w fun e w' => e = .returned (valX i t k d) ∧ Below w.heap.size w w' := by
  cases hx : okX i t k d with
  | true =>
    rw [valX_yes hx]
    obtain ⟨h1, h2, h3, h4, h5, h6, h7⟩ := okX_out hx
    obtain ⟨a, rfl⟩ := Int.eq_ofNat_of_zero_le (show 0 ≤ i by omega)
    obtain ⟨b, rfl⟩ := Int.eq_ofNat_of_zero_le h3
    rcases h5 with rfl | rfl | rfl
    · exact entryText_1 a b d w (by omega) (by omega) (by omega) h6 h7
    · exact entryText_2 a b d w (by omega) (by omega) (by omega) h6 h7
    · exact entryText_3 a b d w (by omega) (by omega) (by omega) h6 h7
  | false =>
    rw [valX_no hx]
    by_cases k1 : i < 1
    · clear hx
      go_enter Tryd.func58, Tryd.ntmps58
      go_wp2
      go_ret2
      exact ⟨rfl, ba (Below.refl _ _) _⟩
    · by_cases k2 : 1000000 < i
      · clear hx
        go_enter Tryd.func58, Tryd.ntmps58
        go_wp2
        go_ret2
        exact ⟨rfl, ba (Below.refl _ _) _⟩
      · have he : okE t k d = false := by
          unfold okX at hx
          rw [decide_eq_true (show 1 ≤ i by omega), decide_eq_true (show i ≤ 1000000 by omega)] at hx
          simpa using hx
        have H0 : Hid (∀ w, Calls Tryd.prog 76 #[.agg #[.int .i64 t, .int .i64 k, .string d]] w fun e w' => e = .returned (.bool false) ∧ Below w.heap.size w w') := by
          intro w; rw [← he]; exact entryOk_any t k d w hd
        clear hx he
        go_enter Tryd.func58, Tryd.ntmps58
        go_wp2_with (go_at_call 76; refine (H0.out _).mono ?_; rintro e w1 ⟨rfl, hb1⟩)
        go_ret2
        exact ⟨rfl, below_new hb1⟩
end Go.Proofs.YtgjamikmjknlfaaDoor
