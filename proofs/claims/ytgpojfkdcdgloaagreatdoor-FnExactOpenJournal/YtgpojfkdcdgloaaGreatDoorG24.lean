/-
  On a right disk the file that is begun lies ahead of every journal: the drops in one order. Journals: their text, on both sides: the walks. Journals: the frames of their entries, as the model makes them: the walk. A journal written as a new file, as the model does it: the walk of l07Anew.
-/
import Derived.Test.YtgpojfkdcdgloaaGreatDoorG23
import Derived.Test.YtgpojfkdcdgloaaGreatDoorG18
import Derived.Test.YtgpojfkdcdgloaaGreatDoorG9
import Derived.Test.YtgpojfkdcdgloaaGreatDoorG6
import Derived.Deep.RegionHeld3
import Derived.Laws.IdiomStrings
namespace Go.Proofs.YtgpojfkdcdgloaaGreatDoor
open Go Go.RowKit

theorem less_trans : ∀ (x y z : List UInt8), Op.bytesLess x y = true → Op.bytesLess y z = true → Op.bytesLess x z = true
  | _, [], _, h, _ => by cases ‹List UInt8› <;> simp [Op.bytesLess] at h
  | _, _ :: _, [], _, h => by simp [Op.bytesLess] at h
  | [], _ :: _, _ :: _, _, _ => by simp [Op.bytesLess]
  | a :: x, b :: y, c :: z, h, h2 => by
    simp only [Op.bytesLess, Bool.or_eq_true, decide_eq_true_eq, Bool.and_eq_true, beq_iff_eq] at h h2 ⊢
    rcases h with h | ⟨rfl, h⟩
    · rcases h2 with h2 | ⟨rfl, h2⟩
      · exact .inl (UInt8.lt_trans h h2)
      · exact .inl h
    · rcases h2 with h2 | ⟨rfl, h2⟩
      · exact .inl h2
      · exact .inr ⟨rfl, less_trans x y z h h2⟩
theorem less_irrefl : ∀ x : List UInt8, Op.bytesLess x x = false
  | [] => rfl
  | a :: x => by simp [Op.bytesLess, less_irrefl x]
theorem diskR_at {l : List Fl} (h : diskR l = true) (i : Nat) (hi : i < l.length) : okAt l i = true := by
  unfold diskR at h
  rw [Bool.and_eq_true] at h
  exact List.all_eq_true.1 h.2 i (List.mem_range.2 hi)
theorem names_rise {l : List Fl} (h : diskR l = true) : ∀ (d i : Nat) (f g : Fl), l[i]? = some f → l[i + 1 + d]? = some g → ltB f.name g.name = true
  | 0, i, f, g, hf, hg => by
    have := diskR_at h (i + 1) (List.getElem?_eq_some_iff.1 hg).1
    rw [okAt_next hg hf, Bool.and_eq_true] at this
    exact this.2
  | d + 1, i, f, g, hf, hg => by
    have hlt := (List.getElem?_eq_some_iff.1 hg).1
    obtain ⟨m, hm⟩ : ∃ m, l[i + 1 + d]? = some m := ⟨_, List.getElem?_eq_getElem (by omega)⟩
    have h1 := names_rise h d i f m hf hm
    have := diskR_at h (i + 1 + d + 1) hlt
    rw [okAt_next (show l[i + 1 + d + 1]? = some g from hg) hm, Bool.and_eq_true] at this
    exact less_trans _ _ _ h1 this.2
theorem dec_big : ∀ k < 1000, Op.bytesLess (106 :: ((decI k).map fun x => UInt8.ofNat x.toNat)) [106, 43] = false := by decide +kernel
theorem dec_not : ∀ k < 1000, (106 :: ((decI k).map fun x => UInt8.ofNat x.toNat)) ≠ ([106, 43] : List UInt8) := by decide +kernel
theorem numOf_dec {s : ByteArray} (h : 0 ≤ numOf s) : ∃ k < 1000, s.toList = 106 :: ((decI k).map fun x => UInt8.ofNat x.toNat) := by
  unfold numOf at h
  split at h
  · rename_i hh
    have hb : numB (rd (tlS s)).1 = true := by
      cases hn : numB (rd (tlS s)).1 with
      | true => rfl
      | false =>
        have e2 : jname (rd (tlS s)).1 = ByteArray.empty := by unfold jname; rw [hn]; rfl
        have e3 : s = ByteArray.empty := by rw [← hh.2, e2]
        have := hh.1
        rw [e3, rd_out (.inl (by rw [tlS_size]; rfl))] at this
        cases this
    obtain ⟨h0, h1⟩ := numB_out hb
    have e := hh.2
    rw [jname_in h0 h1] at e
    obtain ⟨k, hk⟩ := Int.eq_ofNat_of_zero_le h0
    rw [hk, ← decS_pos] at e
    have e2 : s.toList = 106 :: ((decI k).map fun x => UInt8.ofNat x.toNat) := by
      rw [← e, ByteArray.toList_eq]
      simp [bstr, ByteArray.data_append]
    exact ⟨k, by omega, e2⟩
  · omega
theorem numOf_big {s : ByteArray} (h : 0 ≤ numOf s) : Op.bytesLess s.toList [106, 43] = false := by
  obtain ⟨k, hk, e⟩ := numOf_dec h
  rw [e]
  exact dec_big k hk
theorem numOf_new {s : ByteArray} (h : s.toList = [106, 43]) : ¬ 0 ≤ numOf s := fun h0 => by
  obtain ⟨k, hk, e⟩ := numOf_dec h0
  exact dec_not k hk (e.symm.trans h)
/-- A journal that is dropped. -/
def dropJ (m : Int) (f : Fl) : Bool := decide (0 ≤ numOf f.name) && decide (numOf f.name ≠ m)
theorem drops_split {l : List Fl} (m : Int) (hr : ∀ (d i : Nat) (f g : Fl), l[i]? = some f → l[i + 1 + d]? = some g → ltB f.name g.name = true) :
    dropsOf m l = (if (findF l nameNew).isSome then [⟨4, nameNew, ByteArray.empty, ByteArray.empty⟩] else []) ++ (l.filter (dropJ m)).map fun f => (⟨4, f.name, ByteArray.empty, ByteArray.empty⟩ : Ac) := by
  have eN : nameNew.toList = ([106, 43] : List UInt8) := by rw [ByteArray.toList_eq]
  induction l with
  | nil => rfl
  | cons f l ih =>
    have hr' : ∀ (d i : Nat) (f g : Fl), l[i]? = some f → l[i + 1 + d]? = some g → ltB f.name g.name = true := fun d i a b h1 h2 => hr d (i + 1) a b (by simpa using h1) (by rw [show i + 1 + 1 + d = (i + 1 + d) + 1 by omega]; simpa using h2)
    have hall : ∀ g ∈ l, ltB f.name g.name = true := fun g hg => by
      obtain ⟨i, hi⟩ := List.getElem?_of_mem hg
      exact hr i 0 f g rfl (by rw [show 0 + 1 + i = i + 1 by omega]; simpa using hi)
    have ih := ih hr'
    unfold dropsOf findF at ih ⊢
    rw [eN] at ih ⊢
    cases hn : (f.name.toList == ([106, 43] : List UInt8)) with
    | true =>
      have hfe : f.name.toList = [106, 43] := by simpa using hn
      have hj : dropJ m f = false := by
        unfold dropJ
        rw [decide_eq_false (numOf_new hfe)]
        rfl
      have hnone : ∀ g ∈ l, (g.name.toList == ([106, 43] : List UInt8)) = false := fun g hg => by
        have := hall g hg
        unfold ltB at this
        rw [hfe] at this
        rw [beq_eq_false_iff_ne]
        intro e
        rw [e, less_irrefl] at this
        cases this
      have hc : l.filter (dropB m) = l.filter (dropJ m) := List.filter_congr fun g hg => by
        unfold dropB dropJ
        rw [hnone g hg]
        rfl
      have hd : dropB m f = true := by unfold dropB; rw [hn]; rfl
      have hfn : f.name = nameNew := ByteArray.ext (Array.ext' (by
        have h1 := hfe
        rw [ByteArray.toList_eq] at h1
        exact h1))
      rw [List.filter_cons_of_pos hd, List.filter_cons_of_neg (by rw [hj]; decide), hc]
      have hfd : (f :: l).find? (fun g => g.name.toList == ([106, 43] : List UInt8)) = some f := List.find?_cons_of_pos hn
      rw [hfd]
      simp [hfn]
    | false =>
      have hd : dropB m f = dropJ m f := by unfold dropB dropJ; rw [hn]; rfl
      have hfd : (f :: l).find? (fun g => g.name.toList == ([106, 43] : List UInt8)) = l.find? (fun g => g.name.toList == ([106, 43] : List UInt8)) := List.find?_cons_of_neg (by rw [hn]; decide)
      rw [hfd]
      cases hj : dropJ m f with
      | false =>
        rw [List.filter_cons_of_neg (by rw [hd, hj]; decide), List.filter_cons_of_neg (by rw [hj]; decide)]
        exact ih
      | true =>
        have h0 : 0 ≤ numOf f.name := by unfold dropJ at hj; simp at hj; exact hj.1
        have hno : l.find? (fun g => g.name.toList == ([106, 43] : List UInt8)) = none := by
          rw [List.find?_eq_none]
          intro g hg he
          have he2 : g.name.toList = [106, 43] := by simpa using he
          have := hall g hg
          unfold ltB at this
          rw [he2, numOf_big h0] at this
          cases this
        rw [List.filter_cons_of_pos (by rw [hd, hj]), List.filter_cons_of_pos hj, List.map_cons, List.map_cons, ih, hno]
        rfl
end Go.Proofs.YtgpojfkdcdgloaaGreatDoor

namespace Go.Proofs.YtgpojfkdcdgloaaGreatDoor
open Go Go.RowKit

set_option maxRecDepth 10000 in
set_option maxHeartbeats 2000000 in
theorem l07Hard_any (t v : Nat) (w : World) (h1 : t ≤ 1000000000) (h2 : v ≤ 1000000000) :
    Calls Tryz.prog 69 #[.int .i64 t, .int .i64 v] w fun e w' => e = .returned (.string (frameT (pairT 72 t v))) ∧ Below w.heap.size w w' := by
  have a1 := run_pair1 72 h1
  have a2 := run_pair2 72 h1 h2
  have hps := pairT_size (m := 72) h1 h2
  have CA : Hid (∀ w, Calls Tryz.prog 62 #[.int .i64 t] w fun e w' => e = .returned (.string (bstr (varI t))) ∧ Below w.heap.size w w') := fun w => l01Var_any t w h1
  have CB : Hid (∀ w, Calls Tryz.prog 62 #[.int .i64 v] w fun e w' => e = .returned (.string (bstr (varI v))) ∧ Below w.heap.size w w') := fun w => l01Var_any v w h2
  go_enter Tryz.func69, Tryz.ntmps69
  go_wp2_with fail
  refine Calls.mono (CA.out _) ?_
  rintro e w1 ⟨rfl, hb1⟩
  go_wp2_with fail
  refine Calls.mono (CB.out _) ?_
  rintro e w2 ⟨rfl, hb2⟩
  go_wp2_with fail
  refine Calls.mono (specFrame_ok _ _ (by omega) (by omega)) ?_
  rintro e w3 ⟨rfl, hb3⟩
  go_wp2
  go_ret
  exact ⟨rfl, Below.on (Below.on hb1 hb2) hb3⟩

end Go.Proofs.YtgpojfkdcdgloaaGreatDoor

namespace Go.Proofs.YtgpojfkdcdgloaaGreatDoor
open Go Go.RowKit

/-- The bytes of a text, made anew. -/
theorem run_bytesX (t : ByteArray) (w : World) : ∃ (w' : World) (cap : Nat), (convert 9 100 (.string t)).run Tryz.prog w = .ok (.slice (some ⟨w.heap.size, 0, none⟩) t.size cap) w' ∧ Below w.heap.size w w' ∧ w.heap.size < w'.heap.size ∧
    (∀ j u, (Lib.strCells t)[j]? = some u → w'.cell? ((⟨w.heap.size, 0, none⟩ : Addr).add j) = some u) := by
  refine ⟨_, _, run_bytes_of_string w 9 100 5 t Tryz.underlying9 Tryz.underlying100 Tryz.underlying5, ((Below.refl w.heap.size w).drew).alloc (Nat.le_refl _) _, ?_, ?_⟩
  · show w.heap.size < (w.heap.push _).size
    simp
  · intro j u hu
    have hj : j < t.data.size := by
      have := (List.getElem?_eq_some_iff.1 hu).1
      simpa [Lib.strCells] using this
    have hu2 : u = .int .u8 t.data[j].toNat := by
      have := (List.getElem?_eq_some_iff.1 hu).2
      simp [Lib.strCells] at this
      exact this.symm
    subst hu2
    have ha : (⟨w.heap.size, 0, none⟩ : Addr).add j = ⟨w.heap.size, j, none⟩ := by unfold Addr.add; split <;> simp_all
    rw [ha, show w.heap.size = w.drew.heap.size from rfl, World.cell?_alloc_mark]
    exact bytesRow_at t _ j hj

set_option maxRecDepth 10000 in
set_option maxHeartbeats 4000000 in
theorem l07Frames_any (s st : Int) (ao : Option Addr) (n c : Nat) (l : List En) (w : World) (hok : okL s st l = true) (hr : Reads w (.slice ao n c) l) :
    Calls Tryz.prog 70 #[.agg #[.int .i64 s, .int .i64 st, .slice ao n c], .int .i64 0] w fun e w' => e = .returned (.string (entsT (s + 1) l)) ∧ Below w.heap.size w w' := by
  obtain ⟨i0, hi, hz0, hz1, hz2⟩ := info_parts info5
  obtain ⟨k0, k1, k2, k3, k4, k5, -⟩ := okL_all hok
  have HN : Hid (n = l.length) := hr.len
  have HR : Hid (Reads w (.slice ao n c) l) := hr
  have HOK : Hid (∀ (j : Nat) (e : En), l[j]? = some e → okX (s + 1 + j) e.term e.kind e.data = true) := fun j e h => okL_okX hok j e h
  rw [← HN.out] at k4 k5
  clear hr hok
  go_enter Tryz.func70, Tryz.ntmps70
  go_wp2
  obtain ⟨W1, hW1⟩ : ∃ W1, w.alloc (.cells #[.int .i64 s, .int .i64 st, .slice ao n c] 28) = W1 := ⟨_, rfl⟩
  have z1 : W1.heap.size = w.heap.size + 1 := by rw [← hW1]; simp
  have BW : Below w.heap.size w W1 := by rw [← hW1]; exact ba (Below.refl _ _) _
  have x0 : W1.cell? ⟨w.heap.size, 0, none⟩ = some (.int .i64 s) := by rw [← hW1]; simp [go_sem]
  have x2 : W1.cell? ⟨w.heap.size, 2, none⟩ = some (.slice ao n c) := by rw [← hW1]; simp [go_sem]
  rw [hW1]
  clear hW1
  go_loopw [5, 6] (fun o i wr => ∃ j : Nat, i = .int .i64 j ∧ j ≤ n ∧ ownsX wr W1.heap.size o (entsT (s + 1) (l.take j)) ∧ Below W1.heap.size W1 wr) (fun _ i _ => n - (intOf i).toNat)
  case atStart =>
    refine ⟨0, rfl, Nat.zero_le _, ?_, (Below.refl _ _).alloc (Nat.le_refl _) _⟩
    rw [List.take_zero]
    have := ownsB_made W1 W1.heap.size 0 5 #[] (Nat.le_refl _) (by decide) rfl
    rw [z1] at this ⊢
    exact this
  case round =>
    obtain ⟨j, rfl, hj, hown, hbel⟩ := hrel
    have q0 := (hbel.cell (p := ⟨w.heap.size, 0, none⟩) (by rw [z1]; exact Nat.lt_succ_self _)).trans x0
    have q2 := (hbel.cell (p := ⟨w.heap.size, 2, none⟩) (by rw [z1]; exact Nat.lt_succ_self _)).trans x2
    have hW : Below w.heap.size w wr := BW.trans (hbel.mono (by omega))
    obtain ⟨a, d, rfl, had⟩ := hown.slice
    have HO : Hid (ownsX wr W1.heap.size (.slice a (entsT (s + 1) (l.take j)).size d) (entsT (s + 1) (l.take j))) := hown
    have hzj : (entsT (s + 1) (l.take j)).size ≤ 1000000 := by
      have := entsT_size (l.take j) (s + 1) (fun i e hi => HOK.out i e (by
        rw [List.getElem?_take] at hi
        split at hi
        · exact hi
        · simp at hi))
      rw [List.length_take] at this
      have : min j l.length ≤ 60 := by omega
      omega
    clear hown
    by_cases hlt : j < n
    · obtain ⟨f, hfe⟩ : ∃ f, l[j]? = some f := ⟨_, List.getElem?_eq_getElem (by rw [← HN.out]; exact hlt)⟩
      have HX : Hid (okX (s + 1 + j) f.term f.kind f.data = true) := HOK.out j f hfe
      have HZ := textE_size HX.out
      have hfz := frameT_le (r := textE (s + 1 + j) f.term f.kind f.data) (by omega)
      have HS : Hid (entsT (s + 1) (l.take (j + 1)) = entsT (s + 1) (l.take j) ++ frameT (textE (s + 1 + j) f.term f.kind f.data)) := by
        show _ = _
        rw [take_next hfe, entsT_snoc, List.length_take, show min j l.length = j by rw [← HN.out]; omega]
      have HD : Hid (f.data.size ≤ maxLen) := by
        obtain ⟨_, _, _, _, _, h6, _⟩ := okX_out HX.out
        show _ ≤ maxLen
        unfold maxLen; omega
      obtain ⟨b, o, rfl, hb, c0, c1, c2⟩ := en_at (HR.out.below hW) hfe
      have HE : Hid (∀ w, Calls Tryz.prog 82 #[.int .i64 (s + 1 + j), .agg #[.int .i64 f.term, .int .i64 f.kind, .string f.data]] w fun e w' => e = .returned (.tuple #[.string (textE (s + 1 + j) f.term f.kind f.data), .bool true]) ∧ Below w.heap.size w w') := fun w => by
        rw [← valX_yes HX.out]; exact specEntryText_any _ _ _ _ w HD.out
      clear hfe
      obtain ⟨TX, HTX⟩ : ∃ TX, Hid (textE (s + 1 + j) f.term f.kind f.data = TX) := ⟨_, rfl⟩
      obtain ⟨TE, HTE⟩ : ∃ TE, Hid (entsT (s + 1) (l.take j) = TE) := ⟨_, rfl⟩
      rw [HTX.out] at HE HZ hfz HS
      rw [HTE.out] at HO hzj HS
      have e0 := Wd.cell q0
      have e2 := Wd.cell q2
      have d0 := Wd.cell c0
      have d1 := Wd.cell c1
      have d2 := Wd.cell c2
      rw [HTE.out]
      go_wp2
      refine wp_region_wd (by kernel_rfl) (by kernel_rfl) ?_
      repeat (go_big_quiet_step ((go_at_call 82; refine calls_wd (v := .tuple #[.string TX, .bool true]) ?_; exact HE.out _)))
      refine wpQuiet_nil ?_
      rintro _ ⟨y1, rfl⟩
      have HO1 : Hid (ownsX y1.at' W1.heap.size (.slice a TE.size d) TE) := HO.out.all y1.ok
      have HB1 : Hid (Below W1.heap.size W1 y1.at') := hbel.trans (y1.ok.mono hbel.size)
      obtain ⟨w2, hw2⟩ : ∃ w2, y1.at' = w2 := ⟨_, rfl⟩
      rw [hw2] at HO1 HB1 ⊢
      clear hw2 q0 q2 c0 c1 c2 e0 e2 d0 d1 d2 y1
      go_wp2_with fail
      refine Calls.mono (specFrame_ok TX _ (by omega) (by omega)) ?_
      rintro e w3 ⟨rfl, hb3⟩
      have HO2 : Hid (ownsX w3 W1.heap.size (.slice a TE.size d) TE) := HO1.out.all hb3
      have HB2 : Hid (Below W1.heap.size W1 w3) := HB1.out.trans (hb3.mono HB1.out.size)
      clear hb3
      go_wp2_with fail
      obtain ⟨w4, cap4, hcv, hb4, hlt4, hcell⟩ := run_bytesX (frameT TX) w3
      rw [hcv]
      clear hcv
      have HO3 : Hid (ownsX w4 W1.heap.size (.slice a TE.size d) TE) := HO2.out.all hb4
      have HB3 : Hid (Below W1.heap.size W1 w4) := HB2.out.trans (hb4.mono HB2.out.size)
      have HCL : Hid (∀ j u, (Lib.strCells (frameT TX))[j]? = some u → w4.cell? ((⟨w3.heap.size, 0, none⟩ : Addr).add j) = some u) := hcell
      clear hcell
      go_wp2_with (at_builtin; refine wpList_append_own _ rfl (.tmp 39) (.tmp 41) 100 rfl W1.heap.size 5 i0 (.int .u8 0) 1 1 Tryz.underlying100 hi hz0 hz1 hz2 rfl (by decide) _ _ _ rfl HO3.out _ (frameT TX).size _ (Lib.strCells (frameT TX)) rfl (by rw [Lib.strCells_length, Nat.mul_one]) HCL.out (Lib.strCells_oneCell _) ?c1 ?c2 HB3.out.size ?_)
      case c1 => unfold maxLen; omega
      case c2 => omega
      intro v' w5 ho5 hg5 _
      have ho6 : ownsX w5 W1.heap.size v' (TE ++ frameT TX) := by
        unfold ownsX
        rw [strCells_append, ByteArray.size_append, z1]; exact ho5
      have hb6 : Below W1.heap.size W1 w5 := HB3.out.grown hg5 HB3.out.size (fun k hk => (World.ownsRow.lt HO3.out k hk).1)
      rw [← HS.out] at ho6
      clear ho5 hg5
      go_wp2
      go_roundw
      case rel => exact ⟨j + 1, by go_num, by omega, ho6, hb6⟩
      case measure => simp [intOf]; omega
    · have hjn : j = n := by omega
      subst hjn
      rw [List.take_of_length_le (by rw [← HN.out]; exact Nat.le_refl _)] at HO ⊢
      have hcv := run_own_text HO.out
      go_wp2
      go_ret
      exact ⟨rfl, hW⟩

set_option maxRecDepth 10000 in
set_option maxHeartbeats 4000000 in
theorem specJournalText_try (n t v s st : Int) (ao : Option Addr) (k c : Nat) (l : List En) (w : World) (hr : Reads w (.slice ao k c) l) (hk : l.length ≤ 1048577) (hz : SizedE l) :
    Calls Tryz.prog 44 #[jV n t v s st (.slice ao k c)] w fun e w' => e = .returned (.tuple #[.string (jtX n t v s st l), .bool (jtB n t v s st l)]) ∧ Below w.heap.size w w' := by
  have HR : Hid (Reads w (.slice ao k c) l) := hr
  have HZ : Hid (SizedE l) := hz
  clear hr hz
  cases hj : jokB n t v s st l with
  | false =>
    have HJ : Hid (jokB n t v s st l = false) := hj
    have e1 := jtB_no hj
    have HX : Hid (jtX n t v s st l = ByteArray.empty) := by show _ = _; unfold jtX; rw [e1]; rfl
    rw [e1, HX.out]
    clear hj e1
    go_enter Tryz.func44, Tryz.ntmps44
    go_wp2_with fail
    refine Calls.mono (specJournalOk_any (HR.out.alloc _) hk HZ.out) ?_
    rw [HJ.out]
    rintro e w1 ⟨rfl, hb1⟩
    go_wp2
    go_ret2
    exact ⟨rfl, below_new hb1⟩
  | true =>
    obtain ⟨-, ⟨b1, b2, b3, b4⟩, hok⟩ := jok_all hj
    obtain ⟨b5, b6, b7, b8, b9, -, -⟩ := okL_all hok
    obtain ⟨t', rfl⟩ := Int.eq_ofNat_of_zero_le b1
    obtain ⟨v', rfl⟩ := Int.eq_ofNat_of_zero_le b3
    obtain ⟨s', rfl⟩ := Int.eq_ofNat_of_zero_le b5
    obtain ⟨st', rfl⟩ := Int.eq_ofNat_of_zero_le b7
    have HJ : Hid (jokB n t' v' s' st' l = true) := hj
    have HOK : Hid (okL s' st' l = true) := hok
    have HW : Hid (jRaw t' v' s' st' l = frameT (pairT 66 s' st') ++ frameT (pairT 72 t' v') ++ entsT ((s' : Int) + 1) l) := by
      show _ = _
      unfold jRaw
      simp only [Int.toNat_natCast]
    have hz3 := entsT_size l ((s' : Int) + 1) (fun j e h => okL_okX hok j e h)
    have hps := pairT_size (m := 66) (a := s') (b := st') (by omega) (by omega)
    have hps2 := pairT_size (m := 72) (a := t') (b := v') (by omega) (by omega)
    have hz1 := frameT_le (r := pairT 66 s' st') (by omega)
    have hz2 := frameT_le (r := pairT 72 t' v') (by omega)
    have a1 := run_pair1 66 (a := s') (by omega)
    have a2 := run_pair2 66 (a := s') (b := st') (by omega) (by omega)
    have CA : Hid (∀ w, Calls Tryz.prog 62 #[.int .i64 s'] w fun e w' => e = .returned (.string (bstr (varI s'))) ∧ Below w.heap.size w w') := fun w => l01Var_any s' w (by omega)
    have CB : Hid (∀ w, Calls Tryz.prog 62 #[.int .i64 st'] w fun e w' => e = .returned (.string (bstr (varI st'))) ∧ Below w.heap.size w w') := fun w => l01Var_any st' w (by omega)
    have CF : Hid (∀ w, Calls Tryz.prog 43 #[.string (pairT 66 s' st')] w fun e w' => e = .returned (.tuple #[.string (frameT (pairT 66 s' st')), .bool true]) ∧ Below w.heap.size w w') := fun w => specFrame_ok _ w (by omega) (by omega)
    have CH : Hid (∀ w, Calls Tryz.prog 69 #[.int .i64 t', .int .i64 v'] w fun e w' => e = .returned (.string (frameT (pairT 72 t' v'))) ∧ Below w.heap.size w w') := fun w => l07Hard_any t' v' w (by omega) (by omega)
    have CE : Hid (∀ W, Reads W (.slice ao k c) l → Calls Tryz.prog 70 #[.agg #[.int .i64 s', .int .i64 st', .slice ao k c], .int .i64 0] W fun e w' => e = .returned (.string (entsT ((s' : Int) + 1) l)) ∧ Below W.heap.size W w') := fun W h => l07Frames_any s' st' ao k c l W HOK.out h
    obtain ⟨q, HQ⟩ : ∃ q, Hid (jtB n t' v' s' st' l = q) := ⟨_, rfl⟩
    obtain ⟨tx, HTX⟩ : ∃ q, Hid (jtX n t' v' s' st' l = q) := ⟨_, rfl⟩
    rw [HQ.out, HTX.out]
    obtain ⟨P1, HP1⟩ : ∃ q, Hid (frameT (pairT 66 s' st') = q) := ⟨_, rfl⟩
    obtain ⟨P2, HP2⟩ : ∃ q, Hid (frameT (pairT 72 t' v') = q) := ⟨_, rfl⟩
    obtain ⟨P3, HP3⟩ : ∃ q, Hid (entsT ((s' : Int) + 1) l = q) := ⟨_, rfl⟩
    rw [HP1.out] at hz1 CF HW
    rw [HP2.out] at hz2 CH HW
    rw [HP3.out] at hz3 CE HW
    have a3 : ∀ wx, (Op.stringOp .add P1 P2).run Tryz.prog wx = .ok (.string (P1 ++ P2)) wx := fun wx => by
      rw [run_string_add_sum wx _ _ (by omega)]
    have a4 : ∀ wx, (Op.stringOp .add (P1 ++ P2) P3).run Tryz.prog wx = .ok (.string (P1 ++ P2 ++ P3)) wx := fun wx => by
      rw [run_string_add_sum wx _ _ (by rw [ByteArray.size_append]; omega)]
    have hz4 : (P1 ++ P2 ++ P3).size ≤ 1000000 := by rw [ByteArray.size_append, ByteArray.size_append]; omega
    obtain ⟨P4, HP4⟩ : ∃ q, Hid (P1 ++ P2 ++ P3 = q) := ⟨_, rfl⟩
    rw [HP4.out] at a4 hz4 HW
    clear hj hok
    go_enter Tryz.func44, Tryz.ntmps44
    go_wp2_with fail
    refine Calls.mono (specJournalOk_any (HR.out.alloc _) hk HZ.out) ?_
    rw [HJ.out]
    rintro e w1 ⟨rfl, hb1⟩
    have J1 : Jb w1 w.heap.size n t' v' s' st' (.slice ao k c) := (Jb.new w n t' v' s' st' (.slice ao k c) _).up hb1
    have B1 := below_new hb1
    clear hb1
    have d3 := Wd.cell J1.c3
    have d4 := Wd.cell J1.c4
    go_wp2
    refine wp_region_wd (by kernel_rfl) (by kernel_rfl) ?_
    repeat (go_big_quiet_step ((first | (go_at_call 62; refine calls_wd (v := .string (bstr (varI s'))) ?_; with_reducible exact CA.out _) | (go_at_call 62; refine calls_wd (v := .string (bstr (varI st'))) ?_; with_reducible exact CB.out _) | (go_at_call 43; refine calls_wd (v := .tuple #[.string P1, .bool true]) ?_; exact CF.out _))))
    refine wpQuiet_nil ?_
    rintro _ ⟨y1, rfl⟩
    have J2 := J1.up y1.ok
    have B2 := Below.on B1 y1.ok
    obtain ⟨w2, hw2⟩ : ∃ w2, y1.at' = w2 := ⟨_, rfl⟩
    rw [hw2] at J2 B2 ⊢
    clear hw2 y1 d3 d4 J1 B1
    have d1 := Wd.cell J2.c1
    have d2 := Wd.cell J2.c2
    have d3 := Wd.cell J2.c3
    have d4 := Wd.cell J2.c4
    have d5 := Wd.cell J2.c5
    have CE2 : Hid (∀ x : Wd w2, Calls Tryz.prog 70 #[.agg #[.int .i64 s', .int .i64 st', .slice ao k c], .int .i64 0] x.at' fun e w' => e = .returned (.string P3) ∧ Below x.at'.heap.size x.at' w') := fun x => CE.out _ (HR.out.below (Below.on B2 x.ok))
    go_wp2
    refine wp_region_wd (by kernel_rfl) (by kernel_rfl) ?_
    repeat (go_big_quiet_step ((first | (go_at_call 69; refine calls_wd (v := .string P2) ?_; exact CH.out _) | (go_at_call 70; refine calls_wd (v := .string P3) ?_; exact CE2.out _))))
    refine wpQuiet_nil ?_
    rintro _ ⟨y2, rfl⟩
    have B3 := Below.on B2 y2.ok
    by_cases hlen : P4.size ≤ 20000
    · have e1 : jtB n t' v' s' st' l = true := jtB_yes HJ.out (by rw [HW.out]; exact hlen)
      have hq : q = true := HQ.out.symm.trans e1
      have hx : tx = P4 := by rw [← HTX.out]; unfold jtX; rw [e1, ← HW.out]; rfl
      subst hq hx
      clear e1
      go_wp2
      go_ret2
      exact ⟨rfl, B3⟩
    · have e1 : jtB n t' v' s' st' l = false := jtB_long (by rw [HW.out]; omega)
      have hq : q = false := HQ.out.symm.trans e1
      have hx : tx = ByteArray.empty := by rw [← HTX.out]; unfold jtX; rw [e1]; rfl
      subst hq hx
      have hl2 : (20000 : Int) < (P4.size : Int) := by omega
      clear e1
      go_wp2
      go_ret2
      exact ⟨rfl, B3⟩
theorem specJournalText_any {n t v s st : Int} {w : World} {x : Value} {l : List En} (hr : Reads w x l) (hk : l.length ≤ 1048577) (hz : SizedE l) :
    Calls Tryz.prog 44 #[jV n t v s st x] w fun e w' => e = .returned (.tuple #[.string (jtX n t v s st l), .bool (jtB n t v s st l)]) ∧ Below w.heap.size w w' := by
  obtain ⟨ao, c, rfl, _⟩ := id hr
  exact specJournalText_try n t v s st ao _ c l w hr hk hz
end Go.Proofs.YtgpojfkdcdgloaaGreatDoor

namespace Go.Proofs.YtgpojfkdcdgloaaGreatDoor
open Go Go.RowKit

theorem Save.cellOf {p : Nat} {W : World} {q : Addr} {v : Value} (hne : q.block ≠ p) (hc : W.cell? q = some v) : ∀ w', Save p W w' → w'.cell? q = some v := fun _ h => h.cell hne hc
/-- What l07Anew answers. -/
def AnP (n t v s st : Int) (l : List En) (w : World) (e : Ending) (w' : World) : Prop :=
  Below w.heap.size w w' ∧
    (jtB (n + 1) t v s st l = true → ∃ a y, e = .returned (.tuple #[a, jV (n + 1) t v s st y, .bool true]) ∧ ownsR w' w.heap.size 57 a (renA (jtX (n + 1) t v s st l) (jname (n + 1)) (jname n)) ∧ ownsR w' w.heap.size 110 y l) ∧
    (jtB (n + 1) t v s st l = false → ∃ a, e = .returned (.tuple #[a, jV 0 0 0 0 0 (.slice none 0 0), .bool false]) ∧ ownsR w' w.heap.size 57 a ([] : List Ac))

set_option maxRecDepth 10000 in
set_option maxHeartbeats 1000000 in
theorem l07Anew_try (n t v s st : Int) (ao : Option Addr) (k c : Nat) (l : List En) (w : World) (hr : Reads w (.slice ao k c) l) (hn : l.length ≤ 1048576) (hz : SizedE l) (h0 : 0 ≤ n) (h1 : n ≤ 999) :
    Calls Tryz.prog 24 #[jV n t v s st (.slice ao k c), jV n t v s st (.slice ao k c)] w (AnP n t v s st l w) := by
  obtain ⟨X, HX⟩ : ∃ X, Hid (jtX (n + 1) t v s st l = X) := ⟨_, rfl⟩
  obtain ⟨q, HQ⟩ : ∃ X, Hid (jtB (n + 1) t v s st l = X) := ⟨_, rfl⟩
  obtain ⟨ja, HJA⟩ : ∃ X, Hid (jname (n + 1) = X) := ⟨_, rfl⟩
  obtain ⟨jb, HJB⟩ : ∃ X, Hid (jname n = X) := ⟨_, rfl⟩
  obtain ⟨m, hm⟩ : ∃ m, n + 1 = m := ⟨_, rfl⟩
  have hmw : IntKind.i64.wrap (n + 1) = m := by rw [IntKind.wrap_i64]; omega
  have HM : Hid (n + 1 = m) := hm
  have CT : Hid (∀ W, Below w.heap.size w W → Calls Tryz.prog 44 #[jV m t v s st (.slice ao k c)] W fun e w' => e = .returned (.tuple #[.string X, .bool q]) ∧ Below W.heap.size W w') := fun W hb => by
    rw [← HX.out, ← HQ.out, hm]
    exact specJournalText_any (hr.below hb) (by omega) hz
  have CA : Hid (∀ W, Calls Tryz.prog 20 #[.int .i64 m] W fun e w' => e = .returned (.string ja) ∧ Below W.heap.size W w') := fun W => by
    rw [← HJA.out, hm]
    exact specJournalName_any m W
  have CB : Hid (∀ W, Calls Tryz.prog 20 #[.int .i64 n] W fun e w' => e = .returned (.string jb) ∧ Below W.heap.size W w') := fun W => by
    rw [← HJB.out]
    exact specJournalName_any n W
  have CC : Hid (∀ W, Below w.heap.size w W → Calls Tryz.prog 23 #[jV m t v s st (.slice ao k c)] W fun e w' => ∃ y, e = .returned (jV m t v s st y) ∧ ownsR w' W.heap.size 110 y l ∧ Below W.heap.size W w') := fun W hb => l07Copy_try m t v s st ao k c l W (hr.below hb) hn
  have hnm : ¬ n = m := by omega
  clear hr hn hz hm
  go_enter Tryz.func24, Tryz.ntmps24
  go_wp2_with fail
  have JO : B6 ((((w.alloc (.cells #[.int .i64 n, .int .i64 t, .int .i64 v, .int .i64 s, .int .i64 st, .slice ao k c] 30)).alloc (.cells #[.int .i64 n, .int .i64 t, .int .i64 v, .int .i64 s, .int .i64 st, .slice ao k c] 30)).alloc (.cells #[.int .i64 0, .int .i64 0, .int .i64 0, .int .i64 0, .int .i64 0, .slice none 0 0] 30)).alloc (.cells #[.int .i64 m, .int .i64 t, .int .i64 v, .int .i64 s, .int .i64 st, .slice ao k c] 30)) w.heap.size (.int .i64 n) (.int .i64 t) (.int .i64 v) (.int .i64 s) (.int .i64 st) (.slice ao k c) := (((B6.new w (.int .i64 n) (.int .i64 t) (.int .i64 v) (.int .i64 s) (.int .i64 st) (.slice ao k c)).alloc _).alloc _).alloc _
  have ZO : B6 ((((w.alloc (.cells #[.int .i64 n, .int .i64 t, .int .i64 v, .int .i64 s, .int .i64 st, .slice ao k c] 30)).alloc (.cells #[.int .i64 n, .int .i64 t, .int .i64 v, .int .i64 s, .int .i64 st, .slice ao k c] 30)).alloc (.cells #[.int .i64 0, .int .i64 0, .int .i64 0, .int .i64 0, .int .i64 0, .slice none 0 0] 30)).alloc (.cells #[.int .i64 m, .int .i64 t, .int .i64 v, .int .i64 s, .int .i64 st, .slice ao k c] 30)) (w.heap.size + 1 + 1) (.int .i64 0) (.int .i64 0) (.int .i64 0) (.int .i64 0) (.int .i64 0) (.slice none 0 0) := by
    have := (B6.new ((w.alloc (.cells #[.int .i64 n, .int .i64 t, .int .i64 v, .int .i64 s, .int .i64 st, .slice ao k c] 30)).alloc (.cells #[.int .i64 n, .int .i64 t, .int .i64 v, .int .i64 s, .int .i64 st, .slice ao k c] 30)) (.int .i64 0) (.int .i64 0) (.int .i64 0) (.int .i64 0) (.int .i64 0) (.slice none 0 0)).alloc (.cells #[.int .i64 m, .int .i64 t, .int .i64 v, .int .i64 s, .int .i64 st, .slice ao k c] 30)
    simpa using this
  have NO : B6 ((((w.alloc (.cells #[.int .i64 n, .int .i64 t, .int .i64 v, .int .i64 s, .int .i64 st, .slice ao k c] 30)).alloc (.cells #[.int .i64 n, .int .i64 t, .int .i64 v, .int .i64 s, .int .i64 st, .slice ao k c] 30)).alloc (.cells #[.int .i64 0, .int .i64 0, .int .i64 0, .int .i64 0, .int .i64 0, .slice none 0 0] 30)).alloc (.cells #[.int .i64 m, .int .i64 t, .int .i64 v, .int .i64 s, .int .i64 st, .slice ao k c] 30)) (w.heap.size + 1 + 1 + 1) (.int .i64 m) (.int .i64 t) (.int .i64 v) (.int .i64 s) (.int .i64 st) (.slice ao k c) := by
    have := B6.new (((w.alloc (.cells #[.int .i64 n, .int .i64 t, .int .i64 v, .int .i64 s, .int .i64 st, .slice ao k c] 30)).alloc (.cells #[.int .i64 n, .int .i64 t, .int .i64 v, .int .i64 s, .int .i64 st, .slice ao k c] 30)).alloc (.cells #[.int .i64 0, .int .i64 0, .int .i64 0, .int .i64 0, .int .i64 0, .slice none 0 0] 30)) (.int .i64 m) (.int .i64 t) (.int .i64 v) (.int .i64 s) (.int .i64 st) (.slice ao k c)
    simpa using this
  have B0 : Below w.heap.size w ((((w.alloc (.cells #[.int .i64 n, .int .i64 t, .int .i64 v, .int .i64 s, .int .i64 st, .slice ao k c] 30)).alloc (.cells #[.int .i64 n, .int .i64 t, .int .i64 v, .int .i64 s, .int .i64 st, .slice ao k c] 30)).alloc (.cells #[.int .i64 0, .int .i64 0, .int .i64 0, .int .i64 0, .int .i64 0, .slice none 0 0] 30)).alloc (.cells #[.int .i64 m, .int .i64 t, .int .i64 v, .int .i64 s, .int .i64 st, .slice ao k c] 30)) := ba (ba (ba (ba (Below.refl _ _) _) _) _) _
  generalize (((w.alloc (.cells #[.int .i64 n, .int .i64 t, .int .i64 v, .int .i64 s, .int .i64 st, .slice ao k c] 30)).alloc (.cells #[.int .i64 n, .int .i64 t, .int .i64 v, .int .i64 s, .int .i64 st, .slice ao k c] 30)).alloc (.cells #[.int .i64 0, .int .i64 0, .int .i64 0, .int .i64 0, .int .i64 0, .slice none 0 0] 30)).alloc (.cells #[.int .i64 m, .int .i64 t, .int .i64 v, .int .i64 s, .int .i64 st, .slice ao k c] 30) = W0 at JO ZO NO B0 ⊢
  refine Calls.mono (CT.out _ B0) ?_
  rintro e w1 ⟨rfl, hb1⟩
  replace JO := JO.up hb1
  replace ZO := ZO.up hb1
  replace NO := NO.up hb1
  replace B0 := Below.on B0 hb1
  clear hb1 CT
  cases q with
  | false =>
    have z0 := ZO.c0
    have z1 := ZO.c1
    have z2 := ZO.c2
    have z3 := ZO.c3
    have z4 := ZO.c4
    have z5 := ZO.c5
    have zf := ZO.fr
    have OA := ownsA_made w1 w.heap.size 0 #[] B0.size (by decide) rfl
    have Z1 := ZO.alloc (.cells #[] 57)
    have B1 := ba B0 (.cells #[] 57)
    obtain ⟨g, hg⟩ : ∃ g, w1.heap.size = g := ⟨_, rfl⟩
    have hpg : w.heap.size + 1 + 1 < w1.heap.size := ZO.lt
    obtain ⟨WX, hWX⟩ : ∃ WX, w1.alloc (.cells #[] 57) = WX := ⟨_, rfl⟩
    rw [hWX] at OA Z1 B1
    have y0 := Z1.c0
    have y1 := Z1.c1
    have y2 := Z1.c2
    have y3 := Z1.c3
    have y4 := Z1.c4
    have y5 := Z1.c5
    have yf := Z1.fr
    clear hg
    go_wp2
    have Z2 := Z1.set (.int .i64 0) (.int .i64 0) (.int .i64 0) (.int .i64 0) (.int .i64 0) (.slice none 0 0)
    have B2 := below_set6 (b := w.heap.size + 1 + 1) B1 (by omega) (.int .i64 0) (.int .i64 0) (.int .i64 0) (.int .i64 0) (.int .i64 0) (.slice none 0 0)
    have O2 : ownsR (set6 WX (w.heap.size + 1 + 1) (.int .i64 0) (.int .i64 0) (.int .i64 0) (.int .i64 0) (.int .i64 0) (.slice none 0 0)) w.heap.size 57 (.slice (some ⟨w1.heap.size, 0, none⟩) 0 0) ([] : List Ac) := ownsR_set6 OA (not_row6a Z1 OA) _ _ _ _ _ _
    exact bodyPost_ret (ret_tjt rfl rfl rfl rfl Z2) rfl ⟨B2, fun h => (by rw [HQ.out] at h; cases h), fun _ => ⟨_, rfl, O2⟩⟩
  | true =>
    go_wp2
    have hpg : w.heap.size + 1 + 1 < w1.heap.size := ZO.lt
    have K0 := Save.cellOf (p := w.heap.size + 1 + 1) (q := ⟨w.heap.size, 0, none⟩) (by show w.heap.size ≠ _; omega) JO.c0
    have N0 := Save.cellOf (p := w.heap.size + 1 + 1) (q := ⟨w.heap.size + 1 + 1 + 1, 0, none⟩) (by show w.heap.size + 1 + 1 + 1 ≠ _; omega) NO.c0
    have N1 := Save.cellOf (p := w.heap.size + 1 + 1) (q := ⟨w.heap.size + 1 + 1 + 1, 1, none⟩) (by show w.heap.size + 1 + 1 + 1 ≠ _; omega) NO.c1
    have N2 := Save.cellOf (p := w.heap.size + 1 + 1) (q := ⟨w.heap.size + 1 + 1 + 1, 2, none⟩) (by show w.heap.size + 1 + 1 + 1 ≠ _; omega) NO.c2
    have N3 := Save.cellOf (p := w.heap.size + 1 + 1) (q := ⟨w.heap.size + 1 + 1 + 1, 3, none⟩) (by show w.heap.size + 1 + 1 + 1 ≠ _; omega) NO.c3
    have N4 := Save.cellOf (p := w.heap.size + 1 + 1) (q := ⟨w.heap.size + 1 + 1 + 1, 4, none⟩) (by show w.heap.size + 1 + 1 + 1 ≠ _; omega) NO.c4
    have N5 := Save.cellOf (p := w.heap.size + 1 + 1) (q := ⟨w.heap.size + 1 + 1 + 1, 5, none⟩) (by show w.heap.size + 1 + 1 + 1 ≠ _; omega) NO.c5
    have ZD := ZO.drew
    clear JO NO
    go_region_held3 (fun w' => Save (w.heap.size + 1 + 1) w1 w') ((first | with_reducible exact (Save.refl _ _).drew | with_reducible exact hS3 | with_reducible exact hS2 | with_reducible exact hS1 | with_reducible exact hS2.alloc _ | with_reducible exact hS3.alloc _ | with_reducible exact (((((((hS3).setCell rfl _).setCell rfl _).setCell rfl _).setCell rfl _).setCell rfl _).setCell rfl _) | with_reducible exact Save.alloc (((((((hS3).setCell rfl _).setCell rfl _).setCell rfl _).setCell rfl _).setCell rfl _).setCell rfl _) _)) ((first
      | (go_at_call 20; with_reducible refine Calls.mono (CA.out _) ?_; rintro e wa ⟨rfl, hba⟩; have hS1 : Save (w.heap.size + 1 + 1) w1 wa := Save.trans (by assumption) (Save.of_below hba); have ZA := ZD.up hba)
      | (go_at_call 20; with_reducible refine Calls.mono (CB.out _) ?_; rintro e wb ⟨rfl, hbb⟩; have hS2 : Save (w.heap.size + 1 + 1) w1 wb := Save.trans (by assumption) (Save.of_below hbb); have ZB := ZA.up hbb)
      | (go_at_call 23; refine Calls.mono (CC.out _ (Save.under (B := w.heap.size) B0 (by assumption) (by omega) B0.size)) ?_; rintro e wc ⟨vc, rfl, hoc, hbc⟩; obtain ⟨yc1, yc2, yc3, rfl⟩ := hoc.slice3; have hS3 : Save (w.heap.size + 1 + 1) w1 wc := Save.trans (by assumption) (Save.of_below hbc); (first | (have ZC := ZB.up hbc) | (have ZC := (ZB.alloc _).up hbc)); have y0 := ZC.c0; have y1 := ZC.c1; have y2 := ZC.c2; have y3 := ZC.c3; have y4 := ZC.c4; have y5 := ZC.c5; have yf := ZC.fr; have hpc := ZC.lt)))
    all_goals
      have hpb : w.heap.size ≤ w.heap.size + 1 + 1 := by omega
      have BC := Save.under (B := w.heap.size) B0 hS3 hpb B0.size
      have BB := Save.under (B := w.heap.size) B0 hS2 hpb B0.size
      clear K0 N0 N1 N2 N3 N4 N5 CA CB CC y0 y1 y2 y3 y4 y5 yf ZO ZD ZA ZB
      rename Act → World → Prop => KK
      rename ∀ (a : Act) (w' : World), Code.wp Tryz.prog Code.ret _ a w' → KK a w' => hK
      change KK _ _
      refine hK _ _ (wp_ret ?_)
    · have OA := (ownsA_four wb w.heap.size X ja jb BB.size).all hbc
      have OE := hoc.mono (B' := w.heap.size) (by have := BB.size; simp; omega)
      have ZF := ZC.set (.int .i64 m) (.int .i64 t) (.int .i64 v) (.int .i64 s) (.int .i64 st) (.slice yc1 yc2 yc3)
      have BF := below_set6 (b := w.heap.size + 1 + 1) BC hpb (.int .i64 m) (.int .i64 t) (.int .i64 v) (.int .i64 s) (.int .i64 st) (.slice yc1 yc2 yc3)
      have FA : Hid (ownsR (set6 wc (w.heap.size + 1 + 1) (.int .i64 m) (.int .i64 t) (.int .i64 v) (.int .i64 s) (.int .i64 st) (.slice yc1 yc2 yc3)) w.heap.size 57 (.slice (some ⟨wb.heap.size, 0, none⟩) 4 4) (renA X ja jb)) := ownsR_set6 OA (not_row6a ZC OA) _ _ _ _ _ _
      have FE : Hid (ownsR (set6 wc (w.heap.size + 1 + 1) (.int .i64 m) (.int .i64 t) (.int .i64 v) (.int .i64 s) (.int .i64 st) (.slice yc1 yc2 yc3)) w.heap.size 110 (.slice yc1 yc2 yc3) l) := ownsR_set6 OE (not_row6 ZC OE) _ _ _ _ _ _
      exact bodyPost_ret (ret_tjt rfl rfl rfl rfl ZF) rfl ⟨BF, fun _ => ⟨_, _, by rw [HM.out]; rfl, by rw [HX.out, HJA.out, HJB.out]; exact FA.out, FE.out⟩, fun h => (by rw [HQ.out] at h; cases h)⟩
    · have OE := hoc.mono (B' := w.heap.size) BB.size
      have BF0 := below_set6 (b := w.heap.size + 1 + 1) BC hpb (.int .i64 m) (.int .i64 t) (.int .i64 v) (.int .i64 s) (.int .i64 st) (.slice yc1 yc2 yc3)
      have ZF := (ZC.set (.int .i64 m) (.int .i64 t) (.int .i64 v) (.int .i64 s) (.int .i64 st) (.slice yc1 yc2 yc3)).alloc (.cells #[.int .i64 1, .string nameNew, .string X, .string ByteArray.empty, .int .i64 2, .string nameNew, .string ByteArray.empty, .string ByteArray.empty, .int .i64 3, .string nameNew, .string ByteArray.empty, .string ja, .int .i64 4, .string jb, .string ByteArray.empty, .string ByteArray.empty] 57)
      have BF := ba BF0 (.cells #[.int .i64 1, .string nameNew, .string X, .string ByteArray.empty, .int .i64 2, .string nameNew, .string ByteArray.empty, .string ByteArray.empty, .int .i64 3, .string nameNew, .string ByteArray.empty, .string ja, .int .i64 4, .string jb, .string ByteArray.empty, .string ByteArray.empty] 57)
      have FE : Hid (ownsR ((set6 wc (w.heap.size + 1 + 1) (.int .i64 m) (.int .i64 t) (.int .i64 v) (.int .i64 s) (.int .i64 st) (.slice yc1 yc2 yc3)).alloc (.cells #[.int .i64 1, .string nameNew, .string X, .string ByteArray.empty, .int .i64 2, .string nameNew, .string ByteArray.empty, .string ByteArray.empty, .int .i64 3, .string nameNew, .string ByteArray.empty, .string ja, .int .i64 4, .string jb, .string ByteArray.empty, .string ByteArray.empty] 57)) w.heap.size 110 (.slice yc1 yc2 yc3) l) := (ownsR_set6 OE (not_row6 ZC OE) _ _ _ _ _ _).alloc _
      have FA : Hid (ownsR ((set6 wc (w.heap.size + 1 + 1) (.int .i64 m) (.int .i64 t) (.int .i64 v) (.int .i64 s) (.int .i64 st) (.slice yc1 yc2 yc3)).alloc (.cells #[.int .i64 1, .string nameNew, .string X, .string ByteArray.empty, .int .i64 2, .string nameNew, .string ByteArray.empty, .string ByteArray.empty, .int .i64 3, .string nameNew, .string ByteArray.empty, .string ja, .int .i64 4, .string jb, .string ByteArray.empty, .string ByteArray.empty] 57)) w.heap.size 57 (.slice (some ⟨wc.heap.size, 0, none⟩) 4 4) (renA X ja jb)) := by
        have := ownsA_four (set6 wc (w.heap.size + 1 + 1) (.int .i64 m) (.int .i64 t) (.int .i64 v) (.int .i64 s) (.int .i64 st) (.slice yc1 yc2 yc3)) w.heap.size X ja jb BF0.size
        rw [show (set6 wc (w.heap.size + 1 + 1) (.int .i64 m) (.int .i64 t) (.int .i64 v) (.int .i64 s) (.int .i64 st) (.slice yc1 yc2 yc3)).heap.size = wc.heap.size by simp [set6]] at this
        exact this
      exact bodyPost_ret (ret_tjt rfl rfl rfl rfl ZF) rfl ⟨BF, fun _ => ⟨_, _, by rw [HM.out]; rfl, by rw [HX.out, HJA.out, HJB.out]; exact FA.out, FE.out⟩, fun h => (by rw [HQ.out] at h; cases h)⟩
end Go.Proofs.YtgpojfkdcdgloaaGreatDoor
