/-
  The order of a plan's tasks, as the specification makes it: the walk.
-/
import Derived.Test.YtehkebdncfljmaaPoo
import Derived.Test.YtehkebdncfljmaaFd
namespace Go.Proofs.Ytehkebdncfljmaa
open Go Go.RowKit

/-- All that a task is after stands there. -/
def freeB (ts : List Ta) (out : List Int) (l : List ByteArray) : Bool := l.all fun s => decide (atN ts s ∈ out)
/-- The first task from a place on that stands not there yet and is free. -/
def ordScan (ts : List Ta) (out : List Int) : Nat → List Ta → List Int
  | _, [] => out
  | i, t :: r => if (i : Int) ∈ out then ordScan ts out (i + 1) r else if freeB ts out t.after then out ++ [(i : Int)] else ordScan ts out (i + 1) r
def ordL (ts : List Ta) : Nat → List Int
  | 0 => []
  | k + 1 => ordScan ts (ordL ts k) 0 ts
/-- The places of tasks, each behind those that it is after. -/
def orderL (ts : List Ta) : List Int := ordL ts ts.length
theorem ordScan_at {ts : List Ta} {out : List Int} {i : Nat} {t : Ta} (h : ts[i]? = some t) : ordScan ts out i (ts.drop i) = if (i : Int) ∈ out then ordScan ts out (i + 1) (ts.drop (i + 1)) else if freeB ts out t.after then out ++ [(i : Int)] else ordScan ts out (i + 1) (ts.drop (i + 1)) := by
  obtain ⟨hk, rfl⟩ := List.getElem?_eq_some_iff.1 h
  rw [List.drop_eq_getElem_cons hk]
  rfl
theorem ordScan_end {ts : List Ta} {out : List Int} {i : Nat} (h : i = ts.length) : ordScan ts out i (ts.drop i) = out := by
  subst h
  rw [List.drop_length]
  rfl
theorem ordScan_len {ts : List Ta} {out : List Int} : ∀ (r : List Ta) (i : Nat), (ordScan ts out i r).length ≤ out.length + 1
  | [], _ => by simp [ordScan]
  | t :: r, i => by
    unfold ordScan
    split
    · exact ordScan_len r (i + 1)
    · split
      · simp
      · exact ordScan_len r (i + 1)
theorem ordL_len (ts : List Ta) : ∀ k, (ordL ts k).length ≤ k
  | 0 => Nat.le_refl _
  | k + 1 => by
    have := ordL_len ts k
    have := ordScan_len (ts := ts) (out := ordL ts k) ts 0
    unfold ordL
    omega
theorem freeB_take {ts : List Ta} {out : List Int} {l : List ByteArray} {k : Nat} {s : ByteArray} (h : l[k]? = some s) : freeB ts out (l.take (k + 1)) = (freeB ts out (l.take k) && decide (atN ts s ∈ out)) := by
  unfold freeB
  rw [List.take_add_one, h]
  simp
theorem ints_made (w : World) (B : Nat) (hB : B ≤ w.heap.size) : ownsR (w.alloc (.cells #[] 3)) B 3 (.slice (some ⟨w.heap.size, 0, none⟩) 0 0) ([] : List Int) := World.ownsRow_made w #[] 0 hB (by decide) (by simp)

set_option maxRecDepth 10000 in
set_option maxHeartbeats 4000000 in
theorem l12Order_any {w : World} {v : Value} {ts : List Ta} (hr : Tasks w v ts) (hn : ts.length ≤ 100000) (ha : ∀ t ∈ ts, t.after.length ≤ 1048576) :
    Calls Try.prog 104 #[v] w fun e w' => ∃ v', e = .returned v' ∧ ownsR w' w.heap.size 3 v' (orderL ts) ∧ Below w.heap.size w w' := by
  obtain ⟨ao, cap, rfl⟩ := hr.slice
  have HR : Hid (Tasks w (.slice ao ts.length cap) ts) := hr
  have HAF : Hid (∀ t ∈ ts, t.after.length ≤ 1048576) := ha
  clear hr ha
  have HO : Hid (orderL ts = ordL ts ts.length) := rfl
  obtain ⟨n, HN⟩ : ∃ n, Hid (ts.length = n) := ⟨_, rfl⟩
  rw [HN.out] at hn HR HO ⊢
  have HAT : Hid (∀ W s, Below w.heap.size w W → Calls Try.prog 100 #[.slice ao n cap, .string s] W fun e w' => e = .returned (.int .i64 (atN ts s)) ∧ w' = W) := fun W s hb => by
    have := l12At_any s (HR.out.below hb) (by rw [HN.out]; omega)
    exact this
  go_enter Try.func104, Try.ntmps104
  go_wp2
  go_loopw [3, 4] (fun out rv wr => ∃ j : Nat, j ≤ n ∧ rv = .int .i64 j ∧ ownsR wr w.heap.size 3 out (ordL ts j) ∧ Below w.heap.size w wr) (fun _ rv _ => n - (intOf rv).toNat)
  case atStart => exact ⟨0, Nat.zero_le _, rfl, ints_made w _ (Nat.le_refl _), ba (Below.refl _ _) _⟩
  case round =>
    obtain ⟨j, hj, rfl, hown, hbel⟩ := hrel
    by_cases hjn : j < n
    · obtain ⟨O, HOJ⟩ : ∃ O, Hid (ordL ts j = O) := ⟨_, rfl⟩
      have hOl : O.length ≤ 100000 := by have := ordL_len ts j; rw [HOJ.out] at this; omega
      have HNX : Hid (ordL ts (j + 1) = ordScan ts O 0 ts) := by show ordL ts (j + 1) = _; rw [ordL, HOJ.out]
      rw [HOJ.out] at hown
      go_wp2
      go_loopw [3, 5] (fun out iv wx => ∃ (i : Nat) (l : List Int), iv = .int .i64 i ∧ i ≤ n + 1 ∧ Hid ((i ≤ n ∧ l = O ∧ ordL ts (j + 1) = ordScan ts O i (ts.drop i)) ∨ (i = n + 1 ∧ l = ordL ts (j + 1))) ∧ ownsR wx w.heap.size 3 out l ∧ Below w.heap.size w wx) (fun _ iv _ => n + 1 - (intOf iv).toNat)
      case atStart => exact ⟨0, O, rfl, by omega, .inl ⟨Nat.zero_le _, rfl, by rw [List.drop_zero]; exact HNX.out⟩, hown, hbel⟩
      case round =>
        clear hown hbel
        obtain ⟨i, l, rfl, hi1, HC, hown, hbel⟩ := hrel
        by_cases hil : i < n
        · obtain ⟨rfl, HE⟩ : l = O ∧ Hid (ordL ts (j + 1) = ordScan ts l i (ts.drop i)) := by
            rcases HC.out with ⟨_, e1, e2⟩ | ⟨e, _⟩
            · subst e1; exact ⟨rfl, e2⟩
            · omega
          clear HC
          obtain ⟨t, ht⟩ : ∃ t, ts[i]? = some t := ⟨_, List.getElem?_eq_getElem (by rw [HN.out]; exact hil)⟩
          have HT : Hid (ts[i]? = some t) := ht
          have HTA : Hid (t.after.length ≤ 1048576) := HAF.out t (List.mem_of_getElem? ht)
          have HS : Hid (ordL ts (j + 1) = if (i : Int) ∈ l then ordScan ts l (i + 1) (ts.drop (i + 1)) else if freeB ts l t.after then l ++ [(i : Int)] else ordScan ts l (i + 1) (ts.drop (i + 1))) := HE.out.trans (ordScan_at ht)
          obtain ⟨oo, oc, rfl, -⟩ := id hown.reads
          have HIN : Hid (∀ x, Calls Try.prog 110 #[.slice oo l.length oc, .int .i64 x] wr fun e w' => e = .returned (.bool (decide (x ∈ l))) ∧ w' = wr) := fun x => l10In_try oo _ oc l x wr hown.reads (by omega)
          by_cases hin : (i : Int) ∈ l
          · have HF : Hid (ordL ts (j + 1) = ordScan ts l (i + 1) (ts.drop (i + 1))) := HS.out.trans (if_pos hin)
            have H1 := HIN.out i
            rw [decide_eq_true hin] at H1
            clear ht
            go_wp2_with (go_at_call 110; refine H1.mono ?_; rintro e w1 ⟨rfl, hw⟩; have hw2 := hw.symm; subst hw2)
            go_roundw
            case rel => exact ⟨i + 1, l, by go_num, by omega, .inl ⟨by omega, rfl, HF.out⟩, hown, hbel⟩
            case measure => simp [intOf]; omega
          · have HS2 : Hid (ordL ts (j + 1) = if freeB ts l t.after then l ++ [(i : Int)] else ordScan ts l (i + 1) (ts.drop (i + 1))) := HS.out.trans (if_neg hin)
            have H1 := HIN.out i
            rw [decide_eq_false hin] at H1
            obtain ⟨gb, ob, av, rfl, hgb, c0, -, -, -, c4, HA0⟩ := (HR.out.below hbel).at ht
            obtain ⟨fo, fc, rfl, -⟩ := id HA0
            have HA : Hid (Reads wr (.slice fo t.after.length fc) t.after) := HA0
            clear HA0 ht c0
            obtain ⟨m, HMM⟩ : ∃ m, Hid (t.after.length = m) := ⟨_, rfl⟩
            have hm : m ≤ 1048576 := by rw [← HMM.out]; exact HTA.out
            rw [HMM.out] at c4 HA
            go_wp2_with (go_at_call 110; refine H1.mono ?_; rintro e w1 ⟨rfl, hw⟩; have hw2 := hw.symm; subst hw2)
            clear H1
            go_loopw [6, 7] (fun fv kv wz => ∃ (k : Nat) (q : Bool), k ≤ m ∧ kv = .int .i64 k ∧ fv = .bool q ∧ Hid (freeB ts l (t.after.take k) = q) ∧ wz = wr) (fun _ kv _ => m - (intOf kv).toNat)
            case atStart => exact ⟨0, true, Nat.zero_le _, rfl, rfl, rfl, rfl⟩
            case round =>
              obtain ⟨k, q, hk, rfl, rfl, HFK, hwz⟩ := hrel
              have hwz2 := hwz.symm
              subst hwz2
              by_cases hkm : k < m
              · obtain ⟨s, hs⟩ : ∃ s, t.after[k]? = some s := ⟨_, List.getElem?_eq_getElem (by rw [HMM.out]; exact hkm)⟩
                have HFN : Hid (freeB ts l (t.after.take (k + 1)) = (q && decide (atN ts s ∈ l))) := by show _ = _; rw [freeB_take hs, HFK.out]
                obtain ⟨sb, so, rfl, hsb, cs⟩ := text_at HA.out hs
                have H2 := HAT.out wr s hbel
                have H3 := HIN.out (atN ts s)
                clear hs
                obtain ⟨z, HZ⟩ : ∃ z, Hid (decide (atN ts s ∈ l) = z) := ⟨_, rfl⟩
                rw [HZ.out] at H3 HFN
                cases q with
                | false =>
                  clear H2 H3
                  go_wp2
                  go_roundw
                  case rel => exact ⟨k + 1, false, by omega, by go_num, rfl, HFN, trivial⟩
                  case measure => simp [intOf]; omega
                | true =>
                  go_wp2_with (first | (go_at_call 100; refine H2.mono ?_; rintro e w1 ⟨rfl, hw⟩; have hw2 := hw.symm; subst hw2) | (go_at_call 110; refine H3.mono ?_; rintro e w1 ⟨rfl, hw⟩; have hw2 := hw.symm; subst hw2))
                  go_roundw
                  case rel => exact ⟨k + 1, z, by omega, by go_num, rfl, HFN, trivial⟩
                  case measure => simp [intOf]; omega
              · have HFA : Hid (freeB ts l t.after = q) := by
                  have := HFK.out
                  rwa [List.take_of_length_le (by rw [HMM.out]; omega)] at this
                rw [HFA.out] at HS2
                cases q with
                | false =>
                  have HF : Hid (ordL ts (j + 1) = ordScan ts l (i + 1) (ts.drop (i + 1))) := HS2.out
                  go_wp2
                  go_roundw
                  case rel => exact ⟨i + 1, l, by go_num, by omega, .inl ⟨by omega, rfl, HF.out⟩, hown, hbel⟩
                  case measure => simp [intOf]; omega
                | true =>
                  have HF : Hid (ordL ts (j + 1) = l ++ [(i : Int)]) := HS2.out
                  have hsz := hbel.size
                  go_wp2_with (at_builtin; refine wpList_append_rec _ w rfl (.tmp 50) (.tmp 52) 32 rfl w.heap.size 3 _ 8 underI info3 rfl _ l rfl (hown.alloc _) (hbel.alloc hsz _) wr.heap.size 1 (i : Int) rfl (cell_num (by simp [go_sem])) (by omega) (by decide) (by simp; omega) ?_; intro v' w4 hown4 hbel4 hs4)
                  go_wp2
                  go_roundw
                  case rel => exact ⟨n + 1, l ++ [(i : Int)], by go_num, by omega, .inr ⟨rfl, HF.out.symm⟩, hown4, hbel4⟩
                  case measure => simp [intOf]; omega
        · have HL : Hid (l = ordL ts (j + 1)) := by
            rcases HC.out with ⟨e0, e1, e2⟩ | ⟨_, e⟩
            · rw [e2, ordScan_end (by rw [HN.out]; omega)]; exact e1
            · exact e
          clear HC
          go_wp2
          go_roundw
          case rel => exact ⟨j + 1, by omega, by go_num, by rw [← HL.out]; exact hown, hbel⟩
          case measure => simp [intOf]; omega
    · have hjn2 : j = n := by omega
      rw [hjn2] at hown
      go_wp2
      go_ret
      exact ⟨_, rfl, by rw [HO.out]; exact hown, hbel⟩
end Go.Proofs.Ytehkebdncfljmaa
