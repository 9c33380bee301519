/-
  The files behind the map, laid there from a disk: the walk.
-/
import Derived.Test.YtekflgecfcjjiaaDa
namespace Go.Proofs.Ytekflgecfcjjiaa
open Go Go.RowKit Go.Maps

theorem put_last {l : List Fl} (ha : Asc Fl.key l) {k : Nat} {f : Fl} (hf : l[k]? = some f) : putL (l.take k) f = l.take (k + 1) := by
  have hlt : ∀ y ∈ l.take k, y.key < f.key := by
    intro y hy
    obtain ⟨i, hi⟩ := List.getElem?_of_mem hy
    rw [List.getElem?_take] at hi
    split at hi
    · rename_i hik
      unfold Asc at ha
      rw [List.pairwise_iff_getElem] at ha
      have e1 := List.getElem?_eq_some_iff.1 hi
      have e2 := List.getElem?_eq_some_iff.1 hf
      have := ha i k e1.1 e2.1 hik
      rw [e1.2, e2.2] at this
      exact this
    · cases hi
  unfold putL putK
  rw [filter_all fun y hy => decide_eq_true (hlt y hy), filter_none fun y hy => decide_eq_false (lt_not (hlt y hy)), List.take_add_one, hf]
  rfl

theorem sh_empty {w : World} {B : Nat} (h : B ≤ w.heap.size) : ShIs (w.alloc (.map #[] 0)) w.heap.size B [] :=
  ⟨⟨.map [], by simpa using World.ownsMap_made w Try.prog 9 ptrR, fun s => rfl, fun p hp => by simp at hp, rfl⟩, List.Pairwise.nil, fun p hp => by simp at hp, fun p hp => by simp at hp, h⟩

theorem run_make85 (n : Int) (w : World) : (Instr.makeMap 85 (some (.int .i64 n))).run Try.prog w = .ok (.map (some w.heap.size)) (w.alloc (.map #[] 0)) := by
  simp [Instr.makeMap, run_underlying under85, asInt, asIntOf]

set_option maxRecDepth 10000 in
set_option maxHeartbeats 2000000 in
theorem shelfOf_try (ao : Option Addr) (n c : Nat) (l : List Fl) (w : World) (hr : Reads w (.slice ao n c) l) (hd : diskR l = true) :
    Calls Try.prog 61 #[.agg #[.slice ao n c]] w fun e w' => ∃ M fs, e = .returned (.map (some M)) ∧ ShIs w' M w.heap.size fs ∧ fs.map Prod.snd = l ∧ Below w.heap.size w w' := by
  obtain ⟨h30, hrt, hasc⟩ := diskR_iff.1 hd
  have HR : Hid (Reads w (.slice ao n c) l) := hr
  have HN : Hid (n = l.length) := hr.len
  have HA : Hid (Asc Fl.key l) := hasc
  have HT : Hid (∀ f ∈ l, f.right = true) := hrt
  have hn30 : n ≤ 30 := by rw [HN.out]; exact h30
  clear hr hasc hrt h30 hd
  have hmm := run_make85
  go_enter Try.func61, Try.ntmps61
  go_wp2
  have hs0 : ShIs ((w.alloc (Obj.cells #[.slice ao n c] 26)).alloc (.map #[] 0)) (w.heap.size + 1) w.heap.size [] := by
    have := sh_empty (w := w.alloc (Obj.cells #[.slice ao n c] 26)) (B := w.heap.size) (by simp)
    simpa using this
  have hb00 : Below w.heap.size w ((w.alloc (Obj.cells #[.slice ao n c] 26)).alloc (.map #[] 0)) := ba (ba (Below.refl _ _) _) _
  go_loopw [13] (fun i wr => ∃ (k : Nat), k ≤ n ∧ i = .int .i64 k ∧ Hid (∃ fs, ShIs wr (w.heap.size + 1) w.heap.size fs ∧ fs.map Prod.snd = l.take k) ∧ Below w.heap.size w wr) (fun i _ => n - (intOf i).toNat)
  case atStart => exact ⟨0, Nat.zero_le _, rfl, ⟨[], hs0, by simp⟩, hb00⟩
  case round =>
    clear hs0 hb00
    obtain ⟨k, hk, rfl, HF, hbel⟩ := hrel
    by_cases hlt : k < n
    · obtain ⟨⟨nm, tx, kp⟩, hf⟩ : ∃ f, l[k]? = some f := ⟨_, List.getElem?_eq_getElem (by rw [← HN.out]; exact hlt)⟩
      have HG : Hid (l[k]? = some ⟨nm, tx, kp⟩) := hf
      obtain ⟨b, o, rfl, hb, c0, c1, c2⟩ := fl_at (HR.out.below hbel) hf
      have hrr := HT.out _ (List.mem_of_getElem? hf)
      have hnm8 : nm.size ≤ 8 := by have := right_name hrr; unfold nameR at this; simp at this; exact this.2
      clear hf hrr
      dsimp only at c0 c1 c2
      obtain ⟨fs, hS, hfs⟩ := HF.out
      obtain ⟨D, hown, hrl⟩ := hS.1
      have HS : Hid (ShIs wr (w.heap.size + 1) w.heap.size fs) := hS
      have HE : Hid (fs.map Prod.snd = l.take k) := hfs
      have hlen : fs.length ≤ 30 := by
        have := congrArg List.length hfs
        simp at this
        omega
      have W1 : Hid ((wr.alloc (Obj.cells #[.string nm, .string tx, .int .i64 kp] 36)).ownsMap Try.prog 9 ptrR (w.heap.size + 1) fs.length D) := hown.alloc _
      clear hS hfs hown hrl HF
      go_wp2_with (at_mapUpdate; refine wpList_mapUpdate_own _ rfl _ _ _ 85 rfl 9 109 law9 under85 ptrR (w.heap.size + 1) fs.length D rfl W1.out (by unfold maxLen; omega) _ _ _ rfl rfl (key9 (s := nm) (by omega)) (.lit (.int .i64 (wr.heap.size : Int))) [] rfl ?_; intro w1 hown1 hgrow1)
      have S1 := HS.out.below (ba (Below.refl _ wr) (Obj.cells #[.string nm, .string tx, .int .i64 kp] 36))
      have hC : CellsAt (wr.alloc (Obj.cells #[.string nm, .string tx, .int .i64 kp] 36)) wr.heap.size ⟨nm, tx, kp⟩ := ⟨⟨by simp [go_sem], by simp [go_sem], by simp [go_sem]⟩, by simp [go_sem], by simp [go_sem], by simp [go_sem]⟩
      have hM := HS.out.lt
      have hsz := hbel.size
      have S2 := S1.put' W1.out (wr.heap.size, ⟨nm, tx, kp⟩) (s := nm) rfl hsz (Nat.ne_of_gt hM) hC (fun q hq _ => Nat.ne_of_lt (HS.out.2.2.1 q hq).2.2.lt) hown1 hgrow1
      have HF2 : Hid (∃ fs, ShIs w1 (w.heap.size + 1) w.heap.size fs ∧ fs.map Prod.snd = l.take (k + 1)) := ⟨_, S2, by rw [put_link, HE.out]; exact put_last HA.out HG.out⟩
      have hb2 : Below w.heap.size w w1 := (hbel.alloc hsz _).grown hgrow1 (by simp; omega) (fun j hj => by cases hj; omega)
      clear S1 S2 hC hown1 hgrow1
      go_roundw
      case rel => exact ⟨k + 1, by omega, by go_num, HF2, hb2⟩
      case measure => simp [intOf]; omega
    · have hkn : k = n := by omega
      subst hkn
      go_wp2
      go_ret
      obtain ⟨fs, hS, hfs⟩ := HF.out
      exact ⟨_, fs, rfl, hS, by rw [hfs, List.take_of_length_le (by rw [HN.out]; exact Nat.le_refl _)], hbel⟩
end Go.Proofs.Ytekflgecfcjjiaa
