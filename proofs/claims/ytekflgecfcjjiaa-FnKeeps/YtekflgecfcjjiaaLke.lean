/-
  The drawn law on what is kept: the walk.
-/
import Derived.Test.YtekflgecfcjjiaaDq
import Derived.Test.YtekflgecfcjjiaaKe
namespace Go.Proofs.Ytekflgecfcjjiaa
open Go Go.RowKit

theorem begun_begins {f : Fl} (h : f.right = true) (x : Int) : (f.begun x).text.size ≤ f.text.size ∧ f.text.extract 0 (f.begun x).text.size = (f.begun x).text := by
  have hb := stays_bd h x
  have hz := begun_size h x
  have e : (f.begun x).kept = staysN x f.kept f.text.size := rfl
  refine ⟨by omega, ?_⟩
  show f.text.extract 0 (f.begun x).text.size = f.text.extract 0 (staysN x f.kept f.text.size).toNat
  congr 1
  omega
theorem kept_begins {f : Fl} (h : f.right = true) (x : Int) : (f.text.extract 0 f.kept.toNat).size ≤ (f.begun x).text.size ∧ (f.begun x).text.extract 0 (f.text.extract 0 f.kept.toNat).size = f.text.extract 0 f.kept.toNat := by
  have hb := stays_bd h x
  have hz := begun_size h x
  have e : (f.begun x).kept = staysN x f.kept f.text.size := rfl
  have e2 : (f.text.extract 0 f.kept.toNat).size = f.kept.toNat := by rw [ByteArray.size_extract]; omega
  refine ⟨by omega, ?_⟩
  rw [e2]
  show (f.text.extract 0 (staysN x f.kept f.text.size).toNat).extract 0 f.kept.toNat = _
  rw [ByteArray.extract_extract]
  congr 1
  omega

theorem loseDisk_is {w : World} {v vi : Value} {l : List Fl} {left : List Int} (hr : Reads w v l) (hl : Reads w vi left) (hd : diskR l = true) :
    Calls Try.prog 16 #[.agg #[v], vi] w fun e w' => ∃ v', e = .returned (.tuple #[.agg #[v'], .bool true]) ∧ ownsR w' w.heap.size 36 v' (loseL l left) ∧ Below w.heap.size w w' := by
  have hn : l.length ≤ 1048576 := by have := (diskR_iff.1 hd).1; omega
  have hs : Sized l := fun f hf => by
    have := (diskR_iff.1 hd).2.1 f hf
    simp only [Fl.right, nameR, Bool.and_eq_true, decide_eq_true_eq] at this
    omega
  have := loseDisk_any hr hl hn hs
  unfold loseO at this
  rw [if_pos hd, hd] at this
  exact this

theorem begins_of (a b : ByteArray) (w : World) (h : a.size ≤ b.size ∧ b.extract 0 a.size = a) :
    Calls Try.prog 20 #[.string a, .string b] w fun e w' => e = .returned (.bool true) ∧ w' = w := begins_any a b w h.1 h.2
theorem allKept_yes {w : World} {v : Value} {l : List Fl} (hr : Reads w v l) (hn : l.length ≤ 1048577) (h1 : keptR l = true) (h2 : diskR l = true) : Calls Try.prog 18 #[.agg #[v]] w fun e w' => e = .returned (.bool true) ∧ Below w.heap.size w w' := by
  have := allKept_any hr hn
  rw [h1, h2] at this
  exact this
theorem diskOk_yes {w : World} {v : Value} {l : List Fl} (hr : Reads w v l) (h : diskR l = true) : Calls Try.prog 19 #[.agg #[v]] w fun e w' => e = .returned (.bool true) ∧ Below w.heap.size w w' := by
  have := diskOk_any hr
  rw [h] at this
  exact this

set_option maxRecDepth 10000 in
set_option maxHeartbeats 4000000 in
theorem law_Keeps (v : Value) (n : Nat) (w : World) (hn : n ≤ 9223372036854775807) (hc : CodeAt w w.heap.size v n) :
    Calls Try.prog 3 #[v] w fun e w' => e = .returned (.bool true) ∧ Below w.heap.size w w' := by
  obtain ⟨a, cap, rfl, _⟩ := id hc
  by_cases hb : 1048576 < n
  · have hbb : decide (1048576 < n) = true := decide_eq_true hb
    go_enter Try.func3, Try.ntmps3
    go_wp2_with (go_at_call 12; refine (big_any a n cap _ hn).mono ?_; rintro e w' ⟨rfl, hw⟩; have hw2 := hw.symm; subst hw2)
    go_ret
    exact ⟨rfl, Below.refl _ _⟩
  · have hbb : decide (1048576 < n) = false := decide_eq_false hb
    have hn2 : n ≤ 1048576 := by omega
    have HC : Hid (CodeAt w w.heap.size (.slice a n cap) n) := hc
    clear hc
    go_enter Try.func3, Try.ntmps3
    go_wp2_with fail
    refine (big_any a n cap _ hn).mono ?_
    rintro e w' ⟨rfl, hw⟩
    have hw2 := hw.symm
    subst hw2
    go_wp2_with fail
    refine (rightDisk_any _ n _ hn2 HC.out).mono ?_
    rintro e w1 ⟨v1, L, rfl, hd, ho1, hb1⟩
    obtain ⟨va, vc, rfl⟩ := ho1.slice
    have HD : Hid (diskR L = true) := hd
    have hl30 : L.length ≤ 30 := (diskR_iff.1 hd).1
    clear hd
    go_wp2_with fail
    obtain ⟨W1, hW1⟩ : ∃ W, w1.alloc (.cells #[.slice va L.length vc] 26) = W := ⟨_, rfl⟩
    have B1 : Below w.heap.size w W1 := by rw [← hW1]; exact ba hb1 _
    have c3 : W1.cell? ⟨w1.heap.size, 0, none⟩ = some (.slice va L.length vc) := by rw [← hW1]; simp [go_sem]
    have O1 : ownsR W1 w.heap.size 36 (.slice va L.length vc) L := by rw [← hW1]; exact ho1.alloc _
    rw [hW1]
    clear hW1 hb1 ho1
    generalize w1.heap.size = D3 at *
    refine (places_any _ n _ hn2 (HC.out.on B1)).mono ?_
    rintro e w2 ⟨u, l, rfl, hoi, hl, hall, hb2⟩
    obtain ⟨r, rc, rfl, hr0, hr1, hrc⟩ := hoi.cells (by intro e; rw [e] at hl; simp at hl)
    rw [hl]
    have HLL : Hid (l.length = 12) := hl
    have HRC : Hid (∀ j (hj : j < l.length), w2.cell? ⟨r, j, none⟩ = some (.int .i64 l[j])) := hrc
    have HAL : Hid (∀ x ∈ l, 0 ≤ x ∧ x < 10000) := hall
    clear hl hrc hall hoi
    go_wp2_with fail
    refine (lefts_any r rc l _ HLL.out HRC.out hr1 HAL.out).mono ?_
    rintro e w3 ⟨vq, q, rfl, hoq, hb3⟩
    have c3' := cell_up hb3 (cell_up hb2 c3)
    have O3 := (O1.all hb2).all hb3
    have B3 := Below.on (Below.on B1 hb2) hb3
    have OQ := hoq.toR
    clear hb2 hb3 B1 O1 c3 hoq HRC
    go_wp2_with fail
    refine (loseDisk_is O3.reads OQ.reads HD.out).mono ?_
    rintro e w4 ⟨v4, rfl, ho4, hb4⟩
    obtain ⟨ea, ec, rfl⟩ := ho4.slice
    rw [loseL_length] at *
    have c3 := cell_up hb4 c3'
    have O4 := O3.all hb4
    have B4 := Below.on B3 hb4
    clear c3' O3 B3 hb4 OQ
    go_wp2_with fail
    obtain ⟨W4, hW4⟩ : ∃ W, (w4.alloc (.cells #[.slice ea L.length ec] 26)).alloc (.cells #[] 3) = W := ⟨_, rfl⟩
    have BA : Below w4.heap.size w4 W4 := by rw [← hW4]; exact ba (ba (Below.refl _ _) _) _
    have c5 : W4.cell? ⟨w4.heap.size, 0, none⟩ = some (.slice ea L.length ec) := by rw [← hW4]; simp [go_sem]
    have c3b := cell_up BA c3
    have O4b := O4.all BA
    have OE := ho4.all BA
    have B4b := Below.on B4 BA
    rw [hW4]
    clear hW4 BA c3 O4 ho4 B4
    generalize w4.heap.size = D5 at *
    refine (loseDisk_is OE.reads (reads_none _ _ _) (loseL_diskR HD.out q)).mono ?_
    rintro e w5 ⟨v5, rfl, ho5, hb5⟩
    rw [loseL_again HD.out] at ho5
    obtain ⟨fa, fc, rfl⟩ := ho5.slice
    rw [loseL_length] at *
    have c3 := cell_up hb5 c3b
    have c5' := cell_up hb5 c5
    have O5 := O4b.all hb5
    have OE5 := OE.all hb5
    have B5 := Below.on B4b hb5
    clear c3b c5 O4b OE B4b hb5
    have s5 : D5 < w5.heap.size := World.block_lt_of_cell? _ _ c5'
    have s3 : D3 < w5.heap.size := World.block_lt_of_cell? _ _ c3
    go_wp2_with fail
    clear s5 s3
    obtain ⟨W5, hW5⟩ : ∃ W, w5.alloc (.cells #[.slice fa L.length fc] 26) = W := ⟨_, rfl⟩
    have BA : Below w5.heap.size w5 W5 := by rw [← hW5]; exact ba (Below.refl _ _) _
    have c3b := cell_up BA c3
    have c5b := cell_up BA c5'
    have O5b := O5.all BA
    have OE5b := OE5.all BA
    have OF := ho5.all BA
    have B5b := Below.on B5 BA
    rw [hW5]
    clear hW5 BA c3 c5' O5 OE5 ho5 B5
    generalize w5.heap.size = D7 at *
    refine (same_any _ _ (loseL L q) _ OE5b.reads OF.reads (by rw [loseL_length]; omega)).mono ?_
    rintro e w6 ⟨rfl, hb6⟩
    have c3 := cell_up hb6 c3b
    have c5 := cell_up hb6 c5b
    have O6 := O5b.all hb6
    have OE6 := OE5b.all hb6
    have B6 := Below.on B5b hb6
    clear c3b c5b O5b OE5b OF B5b hb6
    go_wp2_with fail
    refine (allKept_yes OE6.reads (by rw [loseL_length]; omega) (loseL_kept HD.out q) (loseL_diskR HD.out q)).mono ?_
    rintro e w7 ⟨rfl, hb7⟩
    have c3b := cell_up hb7 c3
    have c5b := cell_up hb7 c5
    have O7 := O6.all hb7
    have OE7 := OE6.all hb7
    have B7 := Below.on B6 hb7
    clear c3 c5 O6 OE6 B6 hb7
    go_wp2_with fail
    refine (diskOk_yes O7.reads HD.out).mono ?_
    rintro e w8 ⟨rfl, hb8⟩
    have c3 := cell_up hb8 c3b
    have c5 := cell_up hb8 c5b
    have HRD : Hid (Reads w8 (.slice va L.length vc) L) := (O7.all hb8).reads
    have HRE : Hid (Reads w8 (.slice ea L.length ec) (loseL L q)) := (OE7.all hb8).reads
    have B8 := Below.on B7 hb8
    clear c3b c5b O7 OE7 B7 hb8
    go_wp2_with fail
    go_loopw [9] (fun i wr => ∃ k : Nat, k ≤ L.length ∧ i = .int .i64 k ∧ Below w8.heap.size w8 wr) (fun i _ => L.length - (intOf i).toNat)
    case atStart => exact ⟨0, Nat.zero_le _, rfl, Below.refl _ _⟩
    case round =>
      obtain ⟨k, hk, rfl, hbel⟩ := hrel
      have c3r := cell_up hbel c3
      have c5r := cell_up hbel c5
      by_cases hlt : k < L.length
      · obtain ⟨f, hf⟩ : ∃ f, L[k]? = some f := ⟨_, List.getElem?_eq_getElem hlt⟩
        obtain ⟨b, o, rfl, hgb, b0, b1, b2⟩ := fl_at (HRD.out.below hbel) hf
        obtain ⟨e, oe, rfl, hge, e0, e1, e2⟩ := fl_at (HRE.out.below hbel) (loseL_at q hf)
        have hfr := (diskR_iff.1 HD.out).2.1 f (List.mem_of_getElem? hf)
        have HG1 : Hid _ := begun_begins hfr (leftAt q k)
        have HG2 : Hid _ := kept_begins hfr (leftAt q k)
        have hs := stays_bd hfr 0
        have hkk : f.kept ≤ f.text.size := by omega
        have hk0 : 0 ≤ f.kept := hs.2.2.2
        have hnm : (f.begun (leftAt q k)).name = f.name := rfl
        rw [hnm] at e0
        generalize (f.begun (leftAt q k)).text = tt at *
        generalize (f.begun (leftAt q k)).kept = kx at *
        clear hf hs hnm hfr
        have hsl : ∀ wx, (Instr.slice 9 (.string f.text) none (some (.int .i64 f.kept)) none).run Try.prog wx = .ok (.string (f.text.extract 0 f.kept.toNat)) wx := fun wx => by
          rw [run_slice_string_h (P := Try.prog) wx 9 f.text Try.underlying9 .i64 f.kept (by omega) (by omega)]
        have s5r : D5 < wr.heap.size := World.block_lt_of_cell? _ _ c5r
        go_wp2_with fail
        go_quiet ((go_at_call 20; exact Calls.quiet_of_same (begins_of _ _ _ (by first | exact HG1.out | exact HG2.out))))
        go_wp2
        go_roundw
        case rel => exact ⟨k + 1, by omega, by go_num, hbel.trans ((below_drewN (ba (ba (Below.refl _ _) _) _) _).mono hbel.size)⟩
        case measure => simp [intOf]; omega
      · go_wp2
        go_ret
        exact ⟨rfl, Below.on B8 hbel⟩
end Go.Proofs.Ytekflgecfcjjiaa
