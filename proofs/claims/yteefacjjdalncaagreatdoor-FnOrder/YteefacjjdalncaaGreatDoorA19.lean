/-
  Names and pools, as the program tells them: the walks. Whether a task has a name among tasks, as the program asks it: the walks of hasTask and of what it calls. Names that ascend, as the program asks it: the walk.
-/
import Derived.Test.YteefacjjdalncaaGreatDoorA17
import Derived.Lib.OthersKept
import Derived.Laws.RangeAny
import Derived.Test.YteefacjjdalncaaGreatDoorA18
import Derived.Sort.Walk0
namespace Go.Proofs.YteefacjjdalncaaGreatDoor
open Go Go.RowKit

theorem decode_step {s : ByteArray} {k : Nat} (h : k < s.size) (ha : s[k].toNat < 128) : Utf8.decode s k = (s[k].toNat, 1) := decode_ascii s k h ha
theorem iter_below (w : World) (s : ByteArray) (k : Nat) : Below w.heap.size w (w.iter s k) := (Below.refl _ _).alloc (Nat.le_refl _) _
theorem char_no {n : Nat} (h1 : ¬ (97 ≤ n ∧ n ≤ 122)) (h2 : ¬ (48 ≤ n ∧ n ≤ 57)) : charB n = false := by unfold charB; rw [decide_eq_false h1, decide_eq_false h2]; rfl
theorem char_letter {n : Nat} (h1 : 97 ≤ n) (h2 : n ≤ 122) : charB n = true := by unfold charB; rw [decide_eq_true (p := 97 ≤ n ∧ n ≤ 122) ⟨h1, h2⟩]; rfl
theorem char_figure {n : Nat} (h1 : 48 ≤ n) (h2 : n ≤ 57) : charB n = true := by unfold charB; rw [decide_eq_true (p := 48 ≤ n ∧ n ≤ 57) ⟨h1, h2⟩, Bool.or_true]
theorem name_first {s : ByteArray} (hn : 0 < s.size) (h : ¬ (97 ≤ s[0].toNat ∧ s[0].toNat ≤ 122)) : nameB s = false := name_head hn h
set_option maxRecDepth 10000 in
set_option maxHeartbeats 2000000 in
theorem implName_any (s : ByteArray) (w : World) (hs : s.size ≤ 9223372036854775807) :
    Calls Tryz.prog 23 #[.string s] w fun e w' => e = .returned (.bool (nameB s)) ∧ Below w.heap.size w w' := by
  by_cases hz : 1 ≤ s.size ∧ s.size ≤ 8
  · have h0 : 0 < s.size := hz.1
    have h8 : s.size ≤ 8 := hz.2
    clear hz
    have HG : Hid ((∀ j (h : j < s.size), charB s[j].toNat = true) → (97 ≤ s[0].toNat ∧ s[0].toNat ≤ 122) → nameB s = true) := fun ha hc => name_good h0 h8 hc ha
    have HH : Hid (¬ (97 ≤ s[0].toNat ∧ s[0].toNat ≤ 122) → nameB s = false) := fun hc => name_first h0 hc
    go_enter Tryz.func23, Tryz.ntmps23
    go_wp2
    go_loopw [] (fun wr => ∃ k : Nat, k ≤ s.size ∧ Hid ((∀ j (h : j < s.size), j < k → charB s[j].toNat = true) ∧ (0 < k → 97 ≤ s[0].toNat ∧ s[0].toNat ≤ 122)) ∧ wr = w.iter s k) (fun wr => s.size - wr.iterPos w.heap.size)
    case atStart => exact ⟨0, Nat.zero_le _, ⟨fun j _ hj => by omega, fun h => by omega⟩, rfl⟩
    case round =>
      obtain ⟨k, hk, HE, rfl⟩ := hrel
      have HB : Hid (∀ j, Below w.heap.size w (w.iter s j)) := fun j => iter_below w s j
      by_cases hlt : k < s.size
      · have next (hq : charB s[k].toNat = true) (h0' : k = 0 → 97 ≤ s[k].toNat ∧ s[k].toNat ≤ 122) : Hid ((∀ j (h : j < s.size), j < k + 1 → charB s[j].toNat = true) ∧ (0 < k + 1 → 97 ≤ s[0].toNat ∧ s[0].toNat ≤ 122)) := by
          refine ⟨fun j h hj => ?_, fun _ => ?_⟩
          · by_cases e : j = k
            · subst e; exact hq
            · exact HE.out.1 j h (by omega)
          · by_cases e : k = 0
            · subst e; exact h0' rfl
            · exact HE.out.2 (by omega)
        by_cases hasc : s[k].toNat < 128
        · have hnx : ∀ ty, (Instr.next (.pointer (some ⟨w.heap.size, 0, none⟩)) true ty).run Tryz.prog (w.iter s k) = .ok (.tuple #[.bool true, .int .i64 k, .int .i32 s[k].toNat]) (w.iter s (k + 1)) := fun ty => run_next_ascii w s k ty hlt hasc
          by_cases a1 : 97 ≤ s[k].toNat
          · by_cases a2 : s[k].toNat ≤ 122
            · have HN := next (char_letter a1 a2) (fun _ => ⟨a1, a2⟩)
              clear next
              go_wp2
              go_roundw
              case rel => exact ⟨k + 1, by omega, HN, rfl⟩
              case measure => simp only [World.iterPos_iter]; omega
            · have HF : Hid (nameB s = false) := name_bad hlt (char_no (by omega) (by omega))
              have b1 : ¬ s[k].toNat ≤ 57 := by omega
              have b2 : 48 ≤ s[k].toNat := by omega
              have b5 : decide ((s[k].toNat : Int) ≤ 122) = false := decide_eq_false (by omega)
              clear next
              go_wp2
              go_ret
              exact ⟨by rw [HF.out]; rfl, HB.out _⟩
          · by_cases a3 : 48 ≤ s[k].toNat
            · by_cases a4 : s[k].toNat ≤ 57
              · by_cases e : 0 < k
                · have HN := next (char_figure a3 a4) (fun h => by omega)
                  clear next
                  go_wp2
                  go_roundw
                  case rel => exact ⟨k + 1, by omega, HN, rfl⟩
                  case measure => simp only [World.iterPos_iter]; omega
                · have e0 : k = 0 := by omega
                  subst e0
                  have HF : Hid (nameB s = false) := HH.out (by omega)
                  clear next
                  go_wp2
                  go_ret
                  exact ⟨by rw [HF.out]; rfl, HB.out _⟩
              · have HF : Hid (nameB s = false) := name_bad hlt (char_no (by omega) (by omega))
                clear next
                go_wp2
                go_ret
                exact ⟨by rw [HF.out]; rfl, HB.out _⟩
            · have HF : Hid (nameB s = false) := name_bad hlt (char_no (by omega) (by omega))
              clear next
              go_wp2
              go_ret
              exact ⟨by rw [HF.out]; rfl, HB.out _⟩
        · have HF : Hid (nameB s = false) := name_bad hlt (char_no (by omega) (by omega))
          have hhi := (decode_high s k hlt (by omega)).1
          have hle := decode_le s k
          obtain ⟨r, wd, hrw⟩ : ∃ r wd, Utf8.decode s k = (r, wd) := ⟨_, _, rfl⟩
          rw [hrw] at hhi hle
          have hnx : ∀ ty, (Instr.next (.pointer (some ⟨w.heap.size, 0, none⟩)) true ty).run Tryz.prog (w.iter s k) = .ok (.tuple #[.bool true, .int .i64 k, .int .i32 r]) (w.iter s (k + wd)) := fun ty => by
            have := run_next_any (P := Tryz.prog) w s k ty hlt
            rw [hrw] at this
            exact this
          dsimp only at hhi hle
          have b1 : ¬ r ≤ 57 := by omega
          have b2 : 48 ≤ r := by omega
          have b3 : ¬ r ≤ 122 := by omega
          have b4 : 97 ≤ r := by omega
          have b5 : decide ((r : Int) ≤ 122) = false := decide_eq_false (by omega)
          clear next
          go_wp2
          go_ret
          exact ⟨by rw [HF.out]; rfl, HB.out _⟩
      · have hnx : ∀ ty, (Instr.next (.pointer (some ⟨w.heap.size, 0, none⟩)) true ty).run Tryz.prog (w.iter s k) = _ := fun ty => run_next_end w s k ty hlt
        have HF : Hid (nameB s = true) := HG.out (fun j h => HE.out.1 j h (by omega)) (HE.out.2 (by omega))
        go_wp2
        go_ret
        exact ⟨by rw [HF.out]; rfl, HB.out _⟩
  · have HF : Hid (nameB s = false) := name_size hz
    by_cases hs0 : s.size < 1
    · clear hz
      go_enter Tryz.func23, Tryz.ntmps23
      go_wp2
      go_ret
      exact ⟨by rw [HF.out]; rfl, Below.refl _ _⟩
    · have hs1 : 8 < s.size := by omega
      clear hz
      go_enter Tryz.func23, Tryz.ntmps23
      go_wp2
      go_ret
      exact ⟨by rw [HF.out]; rfl, Below.refl _ _⟩
set_option maxHeartbeats 400000 in
theorem implPool_any (s : ByteArray) (w : World) : Calls Tryz.prog 25 #[.string s] w fun e w' => e = .returned (.int .i64 (poolN s)) ∧ w' = w := by
  unfold poolN
  by_cases h1 : s = ⟨#[111, 110, 101]⟩
  · rw [if_pos h1]
    subst h1
    go_enter Tryz.func25, Tryz.ntmps25
    go_wp2
    go_ret
    exact ⟨rfl, rfl⟩
  · rw [if_neg h1]
    have q1 : (s.toList == [111, 110, 101]) = false := by rw [← one_list]; exact ne_list h1
    clear h1
    by_cases h2 : s = ⟨#[116, 119, 111]⟩
    · rw [if_pos h2]
      subst h2
      go_enter Tryz.func25, Tryz.ntmps25
      go_wp2
      go_ret
      exact ⟨rfl, rfl⟩
    · rw [if_neg h2]
      have q2 : (s.toList == [116, 119, 111]) = false := by rw [← two_list]; exact ne_list h2
      clear h2
      by_cases h3 : s = ⟨#[119, 105, 100, 101]⟩
      · rw [if_pos h3]
        subst h3
        go_enter Tryz.func25, Tryz.ntmps25
        go_wp2
        go_ret
        exact ⟨rfl, rfl⟩
      · rw [if_neg h3]
        have q3 : (s.toList == [119, 105, 100, 101]) = false := by rw [← wide_list]; exact ne_list h3
        clear h3
        go_enter Tryz.func25, Tryz.ntmps25
        go_wp2
        go_ret
        exact ⟨rfl, rfl⟩
end Go.Proofs.YteefacjjdalncaaGreatDoor

namespace Go.Proofs.YteefacjjdalncaaGreatDoor
open Go Go.RowKit

theorem up_alloc {B : Nat} {w W : World} (h : Below B w W) (hB : B ≤ W.heap.size) (o : Obj) : Below B w (W.alloc o) := h.alloc hB o
def hasB (l : List Ta) (s : ByteArray) : Bool := l.any fun t => decide (t.name = s)
theorem hasB_at {l : List Ta} {s : ByteArray} {k : Nat} {t : Ta} (h : l[k]? = some t) : hasB (l.drop k) s = (decide (t.name = s) || hasB (l.drop (k + 1)) s) := by
  obtain ⟨hk, rfl⟩ := List.getElem?_eq_some_iff.1 h
  rw [List.drop_eq_getElem_cons hk]
  rfl
theorem hasB_end {l : List Ta} {s : ByteArray} {k : Nat} (h : k = l.length) : hasB (l.drop k) s = false := by subst h; rw [List.drop_length]; rfl
set_option maxRecDepth 10000 in
set_option maxHeartbeats 1000000 in
theorem hasLit_any (nm po : ByteArray) (rt : Int) (pa : Bool) (af : Value) (b : Nat) (s : ByteArray) (w : World) (hc : w.cell? ⟨b, 0, none⟩ = some (.string s)) :
    Calls Tryz.prog 143 #[.agg #[.string nm, .string po, .int .i64 rt, .bool pa, af], .pointer (some ⟨b, 0, none⟩)] w fun e w' => e = .returned (.bool (decide (nm = s))) ∧ Below w.heap.size w w' := by
  have hb : b < w.heap.size := World.block_lt_of_cell? w _ hc
  by_cases hq : nm = s
  · have hq2 := eq_list hq
    rw [decide_eq_true hq]
    clear hq
    go_enter Tryz.func143, Tryz.ntmps143
    go_wp2
    go_ret
    exact ⟨rfl, ba (Below.refl _ _) _⟩
  · have hq2 := ne_list hq
    rw [decide_eq_false hq]
    clear hq
    go_enter Tryz.func143, Tryz.ntmps143
    go_wp2
    go_ret
    exact ⟨rfl, ba (Below.refl _ _) _⟩
set_option maxRecDepth 10000 in
set_option maxHeartbeats 1000000 in
theorem idxTask_any {w : World} {v : Value} {l : List Ta} (b : Nat) (s : ByteArray) (hr : Tasks w v l) (hn : l.length ≤ 1048577) (hc : w.cell? ⟨b, 0, none⟩ = some (.string s)) :
    Calls Tryz.prog 180 #[v, .func (.func 143) #[] #[.pointer (some ⟨b, 0, none⟩)]] w fun e w' => ∃ r : Int, e = .returned (.int .i64 r) ∧ decide (0 ≤ r) = hasB l s ∧ Below w.heap.size w w' := by
  have hb : b < w.heap.size := World.block_lt_of_cell? w _ hc
  obtain ⟨ao, cap, rfl⟩ := hr.slice
  have HR : Hid (∀ W, Below w.heap.size w W → Tasks W (.slice ao l.length cap) l) := fun W h => hr.below h
  have HC : Hid (∀ W, Below w.heap.size w W → ∀ nm po rt pa af, Calls Tryz.prog 143 #[.agg #[.string nm, .string po, .int .i64 rt, .bool pa, af], .pointer (some ⟨b, 0, none⟩)] W fun e w' => e = .returned (.bool (decide (nm = s))) ∧ Below W.heap.size W w') :=
    fun W h nm po rt pa af => hasLit_any nm po rt pa af b s W ((h.cell (p := ⟨b, 0, none⟩) hb).trans hc)
  clear hr hc hb
  obtain ⟨n, HN⟩ : ∃ n, Hid (l.length = n) := ⟨_, rfl⟩
  rw [HN.out] at hn
  rw [HN.out] at HR ⊢
  go_enter Tryz.func180, Tryz.ntmps180
  go_wp2
  go_loopw [8] (fun i wr => ∃ k : Nat, k ≤ n ∧ i = .int .i64 k ∧ Hid (hasB l s = hasB (l.drop k) s) ∧ Below w.heap.size w wr) (fun i _ => n - (intOf i).toNat)
  case atStart => exact ⟨0, Nat.zero_le _, rfl, (by show hasB l s = hasB (l.drop 0) s; rw [List.drop_zero]), Below.refl _ _⟩
  case round =>
    obtain ⟨k, hk, rfl, HE, hbel⟩ := hrel
    by_cases hlt : k < n
    · obtain ⟨t, ht⟩ : ∃ t, l[k]? = some t := ⟨_, List.getElem?_eq_getElem (by rw [HN.out]; exact hlt)⟩
      obtain ⟨b', o, av, rfl, hb, c0, c1, c2, c3, c4, _⟩ := (HR.out wr hbel).at ht
      by_cases hq : t.name = s
      · have HF : Hid (true = hasB l s) := (HE.out.trans (by rw [hasB_at ht, decide_eq_true hq]; rfl)).symm
        have HC2 : Hid (Calls Tryz.prog 143 #[.agg #[.string t.name, .string t.pool, .int .i64 t.ret, .bool t.past, av], .pointer (some ⟨b, 0, none⟩)] wr fun e w' => e = .returned (.bool true) ∧ Below wr.heap.size wr w') := by
          have := HC.out wr hbel t.name t.pool t.ret t.past av
          rwa [decide_eq_true hq] at this
        clear ht hq HC
        go_wp2_with (go_at_call 143; refine HC2.out.mono ?_; rintro e w1 ⟨rfl, hb1⟩)
        go_ret
        exact ⟨_, rfl, (decide_eq_true (by omega)).trans HF.out, hbel.trans (hb1.mono hbel.size)⟩
      · have HF : Hid (hasB l s = hasB (l.drop (k + 1)) s) := HE.out.trans (by rw [hasB_at ht, decide_eq_false hq]; rfl)
        have HC2 : Hid (Calls Tryz.prog 143 #[.agg #[.string t.name, .string t.pool, .int .i64 t.ret, .bool t.past, av], .pointer (some ⟨b, 0, none⟩)] wr fun e w' => e = .returned (.bool false) ∧ Below wr.heap.size wr w') := by
          have := HC.out wr hbel t.name t.pool t.ret t.past av
          rwa [decide_eq_false hq] at this
        clear ht hq HC
        go_wp2_with (go_at_call 143; refine HC2.out.mono ?_; rintro e w1 ⟨rfl, hb1⟩)
        have hbel2 := hbel.trans (hb1.mono hbel.size)
        clear hbel hb1 HC2
        go_wp2
        go_roundw
        case rel => exact ⟨k + 1, by omega, by go_num, HF, hbel2⟩
        case measure => simp [intOf]; omega
    · have HF : Hid (false = hasB l s) := (HE.out.trans (hasB_end (by rw [HN.out]; omega))).symm
      go_wp2
      go_ret
      exact ⟨_, rfl, (decide_eq_false (by omega)).trans HF.out, hbel⟩
set_option maxRecDepth 10000 in
set_option maxHeartbeats 1000000 in
theorem hasTask_any {w : World} {v : Value} {l : List Ta} (s : ByteArray) (hr : Tasks w v l) (hn : l.length ≤ 1048577) :
    Calls Tryz.prog 101 #[v, .string s] w fun e w' => e = .returned (.bool (hasB l s)) ∧ Below w.heap.size w w' := by
  obtain ⟨ao, cap, rfl⟩ := hr.slice
  have HC : Hid (∀ W b, Below w.heap.size w W → W.cell? ⟨b, 0, none⟩ = some (.string s) → Calls Tryz.prog 142 #[.slice ao l.length cap, .func (.func 143) #[] #[.pointer (some ⟨b, 0, none⟩)]] W fun e w' => e = .returned (.bool (hasB l s)) ∧ Below W.heap.size W w') := by
    intro W b hb hc
    have HI : Hid (Calls Tryz.prog 180 #[.slice ao l.length cap, .func (.func 143) #[] #[.pointer (some ⟨b, 0, none⟩)]] W fun e w' => ∃ r : Int, e = .returned (.int .i64 r) ∧ decide (0 ≤ r) = hasB l s ∧ Below W.heap.size W w') := idxTask_any b s (hr.below hb) hn hc
    clear hr hb hc
    go_enter Tryz.func142, Tryz.ntmps142
    go_wp2_with (go_at_call 180; refine HI.out.mono ?_; rintro e w1 ⟨r, rfl, hd, hb1⟩)
    go_ret
    exact ⟨by rw [← hd]; rfl, hb1⟩
  clear hr
  go_enter Tryz.func101, Tryz.ntmps101
  go_wp2_with (go_at_call 142; refine (HC.out _ w.heap.size (ba (Below.refl _ _) _) (by simp)).mono ?_; rintro e w1 ⟨rfl, hb1⟩)
  go_ret
  exact ⟨rfl, below_new hb1⟩
end Go.Proofs.YteefacjjdalncaaGreatDoor

namespace Go.Proofs.YteefacjjdalncaaGreatDoor
open Go Go.RowKit

def leB (a b : ByteArray) : Bool := Op.bytesLess a.toList b.toList || a.toList == b.toList
theorem lt_tri (x y : List UInt8) : decide (x < y) = !(decide (y < x) || (y == x)) := by
  rcases Std.lt_trichotomy x y with h | h | h
  · have h1 : ¬ y < x := fun h' => Std.lt_irrefl (Std.lt_trans h h')
    have h2 : y ≠ x := fun e => Std.lt_irrefl (e ▸ h)
    simp [h, h1, h2]
  · subst h
    simp [Std.lt_irrefl]
  · have h1 : ¬ x < y := fun h' => Std.lt_irrefl (Std.lt_trans h h')
    simp [h, h1]
theorem less_le (a b : ByteArray) : lessB a b = !leB b a := by
  unfold lessB leB
  rw [bytesLess_eq, bytesLess_eq]
  exact lt_tri _ _
theorem leB_none {s : ByteArray} (h : 0 < s.size) : leB s ⟨#[]⟩ = false := by
  have e : (⟨#[]⟩ : ByteArray).toList = [] := (ByteArray.toList_eq _).trans rfl
  have h2 : s.toList ≠ [] := by
    rw [ByteArray.toList_eq]
    intro e
    have h3 : s.data.toList.length = s.size := rfl
    rw [e] at h3
    exact absurd h3 (by simp; omega)
  unfold leB
  rw [e]
  cases hs : s.toList with
  | nil => exact absurd hs h2
  | cons a r => rfl
/-- Names that ascend from one on. -/
def ascB (p : ByteArray) : List ByteArray → Bool
  | [] => true
  | s :: r => (nameB s && !leB s p) && ascB s r
theorem ascB_at {l : List ByteArray} {p s : ByteArray} {k : Nat} (h : l[k]? = some s) : ascB p (l.drop k) = ((nameB s && !leB s p) && ascB s (l.drop (k + 1))) := by
  obtain ⟨hk, rfl⟩ := List.getElem?_eq_some_iff.1 h
  rw [List.drop_eq_getElem_cons hk]
  rfl
theorem ascB_end {l : List ByteArray} {p : ByteArray} {k : Nat} (h : k = l.length) : ascB p (l.drop k) = true := by subst h; rw [List.drop_length]; rfl
set_option maxRecDepth 10000 in
set_option maxHeartbeats 1000000 in
theorem asc_any {w : World} {v : Value} {l : List ByteArray} (hr : Reads w v l) (hn : l.length ≤ 1048577) (hs : ∀ s ∈ l, s.size ≤ 9223372036854775807) :
    Calls Tryz.prog 156 #[v] w fun e w' => e = .returned (.bool (ascB ⟨#[]⟩ l)) ∧ Below w.heap.size w w' := by
  obtain ⟨ao, cap, rfl, hh⟩ := id hr
  clear hh
  have HR : Hid (∀ W, Below w.heap.size w W → Reads W (.slice ao l.length cap) l) := fun W h => hr.below h
  have HS : Hid (∀ s ∈ l, ∀ W, Calls Tryz.prog 23 #[.string s] W fun e w' => e = .returned (.bool (nameB s)) ∧ Below W.heap.size W w') := fun s h W => implName_any s W (hs s h)
  clear hr hs
  obtain ⟨n, HN⟩ : ∃ n, Hid (l.length = n) := ⟨_, rfl⟩
  rw [HN.out] at hn
  rw [HN.out] at HR
  rw [HN.out]
  go_enter Tryz.func156, Tryz.ntmps156
  go_wp2
  go_loopw [3, 8] (fun pv i wr => ∃ (k : Nat) (p : ByteArray), k ≤ n ∧ i = .int .i64 k ∧ pv = .string p ∧ Hid (ascB ⟨#[]⟩ l = ascB p (l.drop k)) ∧ Below w.heap.size w wr) (fun _ i _ => n - (intOf i).toNat)
  case atStart => exact ⟨0, ⟨#[]⟩, Nat.zero_le _, rfl, rfl, (by show ascB ⟨#[]⟩ l = ascB ⟨#[]⟩ (l.drop 0); rw [List.drop_zero]), Below.refl _ _⟩
  case round =>
    obtain ⟨k, p, hk, rfl, rfl, HE, hbel⟩ := hrel
    by_cases hlt : k < n
    · obtain ⟨t, ht⟩ : ∃ t, l[k]? = some t := ⟨_, List.getElem?_eq_getElem (by rw [HN.out]; exact hlt)⟩
      obtain ⟨b', o, rfl, hb, c0⟩ := text_at (HR.out wr hbel) ht
      have HC : Hid (∀ W, Calls Tryz.prog 23 #[.string t] W fun e w' => e = .returned (.bool (nameB t)) ∧ Below W.heap.size W w') := HS.out t (List.mem_of_getElem? ht)
      have HA : Hid (ascB ⟨#[]⟩ l = ((nameB t && !leB t p) && ascB t (l.drop (k + 1)))) := HE.out.trans (ascB_at ht)
      have HL : Hid (Op.bytesLess t.toList p.toList || t.toList == p.toList) = leB t p := rfl
      obtain ⟨q, HQ⟩ : ∃ q, Hid (nameB t = q) := ⟨_, rfl⟩
      rw [HQ.out] at HC HA
      clear HQ ht HE HL
      cases q with
      | false =>
        have HF : Hid (ascB ⟨#[]⟩ l = false) := HA.out
        clear HA
        go_wp2_with (go_at_call 23; refine (HC.out _).mono ?_; rintro e w1 ⟨rfl, hb1⟩)
        go_ret
        exact ⟨by rw [HF.out]; rfl, hbel.trans (hb1.mono hbel.size)⟩
      | true =>
        by_cases hle : leB t p = true
        · have HF : Hid (ascB ⟨#[]⟩ l = false) := HA.out.trans (by rw [hle]; rfl)
          have hle2 : (Op.bytesLess t.toList p.toList || t.toList == p.toList) = true := hle
          clear HA hle
          go_wp2_with (go_at_call 23; refine (HC.out _).mono ?_; rintro e w1 ⟨rfl, hb1⟩)
          go_ret
          exact ⟨by rw [HF.out]; rfl, hbel.trans (hb1.mono hbel.size)⟩
        · have hle1 : leB t p = false := by simpa using hle
          have HF : Hid (ascB ⟨#[]⟩ l = ascB t (l.drop (k + 1))) := HA.out.trans (by rw [hle1]; rfl)
          have hle2 : (Op.bytesLess t.toList p.toList || t.toList == p.toList) = false := hle1
          clear HA hle hle1
          go_wp2_with (go_at_call 23; refine (HC.out _).mono ?_; rintro e w1 ⟨rfl, hb1⟩)
          have hbel2 := hbel.trans (hb1.mono hbel.size)
          clear hbel hb1 HC
          go_wp2
          go_roundw
          case rel => exact ⟨k + 1, t, by omega, by go_num, rfl, HF, hbel2⟩
          case measure => simp [intOf]; omega
    · have HF : Hid (ascB ⟨#[]⟩ l = true) := HE.out.trans (ascB_end (by rw [HN.out]; omega))
      go_wp2
      go_ret
      exact ⟨by rw [HF.out]; rfl, hbel⟩
end Go.Proofs.YteefacjjdalncaaGreatDoor
