/- Crl -/
import Derived.Test.YtpjpheicldegkaaGreatDoorGM2
import Derived.Test.YtpjpheicldegkaaGreatDoorGM1
import Derived.WalkLawsBesides
namespace Go.Proofs.YtpjpheicldegkaaGreatDoor
open Go Go.RowKit

theorem qub (x lo hi : Int) (w : World) :
    Calls Tryz.prog 24 #[.int .i64 x, .int .i64 lo, .int .i64 hi] w fun e w' => e = .returned (.bool (decide (lo ≤ x) && decide (x ≤ hi))) ∧ w' = w := by
  by_cases h1 : lo ≤ x
  · have h2 : decide (lo ≤ x) = true := decide_eq_true h1
    go_enter Tryz.func24, Tryz.ntmps24
    go_wp2
    go_ret
    exact ⟨by simp [h1], rfl⟩
  · have h2 : decide (lo ≤ x) = false := decide_eq_false h1
    go_enter Tryz.func24, Tryz.ntmps24
    go_wp2
    go_ret
    exact ⟨by simp, rfl⟩

def riseB (lo hi : Int) : Option Int → List Int → Bool
  | _, [] => true
  | p, x :: r => (decide (lo ≤ x) && decide (x ≤ hi)) && p.all (fun y => decide (y < x)) && riseB lo hi (some x) r
def listB (lo hi : Int) (l : List Int) : Bool := !l.isEmpty && riseB lo hi none l
theorem riseB_at {lo hi : Int} {l : List Int} {k : Nat} {p : Option Int} {x : Int} (h : l[k]? = some x) : riseB lo hi p (l.drop k) = ((decide (lo ≤ x) && decide (x ≤ hi)) && p.all (fun y => decide (y < x)) && riseB lo hi (some x) (l.drop (k + 1))) := by
  obtain ⟨hk, rfl⟩ := List.getElem?_eq_some_iff.1 h
  rw [List.drop_eq_getElem_cons hk]
  rfl
theorem riseB_end {lo hi : Int} {l : List Int} {k : Nat} {p : Option Int} (h : k = l.length) : riseB lo hi p (l.drop k) = true := by
  subst h
  rw [List.drop_length]
  rfl
theorem listB_rise {lo hi : Int} {l : List Int} (h : riseB lo hi none l = true) : listB lo hi l = decide (0 < l.length) := by
  unfold listB
  rw [h]
  cases l with
  | nil => simp
  | cons x r => simp
theorem listB_no {lo hi : Int} {l : List Int} (h : riseB lo hi none l = false) : listB lo hi l = false := by simp [listB, h]

set_option maxHeartbeats 2000000 in
theorem l10List_try (ao : Option Addr) (n c : Nat) (l : List Int) (lo hi : Int) (w : World) (hr : Reads w (.slice ao n c) l) (hn : n ≤ 1048577) :
    Calls Tryz.prog 135 #[.slice ao n c, .int .i64 lo, .int .i64 hi] w fun e w' => e = .returned (.bool (listB lo hi l)) ∧ Below w.heap.size w w' := by
  have HR : Hid (Reads w (.slice ao n c) l) := hr
  have HN : Hid (n = l.length) := hr.len
  clear hr
  go_enter Tryz.func135, Tryz.ntmps135
  go_wp2
  go_loopw [7] (fun i wr => ∃ (k : Nat) (p : Option Int), k ≤ n ∧ i = .int .i64 k ∧ Hid (riseB lo hi none l = riseB lo hi p (l.drop k) ∧ (k = 0 → p = none) ∧ ∀ j, k = j + 1 → ∃ a, p = some a ∧ l[j]? = some a) ∧ Below w.heap.size w wr) (fun i _ => n - (intOf i).toNat)
  case atStart => exact ⟨0, none, Nat.zero_le _, rfl, ⟨rfl, fun _ => rfl, fun j hj => by omega⟩, Below.refl _ _⟩
  case round =>
    obtain ⟨k, p, hk, rfl, HE, hbel⟩ := hrel
    by_cases hlt : k < n
    · obtain ⟨x, hx⟩ : ∃ x, l[k]? = some x := ⟨_, List.getElem?_eq_getElem (by rw [← HN.out]; exact hlt)⟩
      have HX : Hid (l[k]? = some x) := hx
      have HA : Hid (riseB lo hi none l = ((decide (lo ≤ x) && decide (x ≤ hi)) && p.all (fun y => decide (y < x)) && riseB lo hi (some x) (l.drop (k + 1)))) := HE.out.1.trans (riseB_at hx)
      obtain ⟨b, o, rfl, hb, c0⟩ := int_at (HR.out.below hbel) hx
      clear hx
      have q0 := Wd.cell c0
      have fin : ∀ y : Wd wr, Below w.heap.size w y.at' := fun y => hbel.trans (y.ok.mono hbel.size)
      cases h1 : (decide (lo ≤ x) && decide (x ≤ hi)) with
      | false =>
        have HF : Hid (listB lo hi l = false) := listB_no (HA.out.trans (by rw [h1]; rfl))
        go_wp2
        refine qba (by kernel_rfl) (by kernel_rfl) ?_
        repeat (go_big_quiet_step ((go_at_call 24; refine qaa (v := .bool false) ?_; rw [← h1]; exact qub _ _ _ _)))
        refine wpQuiet_nil ?_
        rintro _ ⟨y, rfl⟩
        go_wp2
        go_ret
        exact ⟨by rw [HF.out]; rfl, fin y⟩
      | true =>
        rcases Nat.eq_zero_or_pos k with hk0 | hk0
        · have HF : Hid (riseB lo hi none l = riseB lo hi (some x) (l.drop (k + 1)) ∧ (k + 1 = 0 → some x = none) ∧ ∀ j, k + 1 = j + 1 → ∃ a, some x = some a ∧ l[j]? = some a) := by
            refine ⟨HA.out.trans ?_, fun h => by omega, fun j hj => ⟨x, rfl, by rw [← Nat.succ.inj hj]; exact HX.out⟩⟩
            rw [h1, HE.out.2.1 hk0]
            rfl
          have hg0 : decide ((0 : Int) < (k : Int)) = false := decide_eq_false (by omega)
          have hg1 : decide (0 < k) = false := decide_eq_false (by omega)
          clear hk0
          go_wp2
          refine qba (by kernel_rfl) (by kernel_rfl) ?_
          repeat (go_big_quiet_step ((go_at_call 24; refine qaa (v := .bool true) ?_; rw [← h1]; exact qub _ _ _ _)))
          refine wpQuiet_nil ?_
          rintro _ ⟨y, rfl⟩
          go_wp2
          go_roundw
          case rel => exact ⟨k + 1, some x, by omega, by go_num, HF, fin y⟩
          case measure => simp [intOf]; omega
        · obtain ⟨j, rfl⟩ : ∃ j, k = j + 1 := ⟨k - 1, by omega⟩
          obtain ⟨a, hpa, hp⟩ := HE.out.2.2 j rfl
          have HPA : Hid (p = some a) := hpa
          obtain ⟨b', o', hbo, -, p0⟩ := int_at (HR.out.below hbel) hp
          clear hp hpa
          simp only [Option.some.injEq, Addr.mk.injEq, and_true] at hbo
          obtain ⟨rfl, rfl⟩ := hbo
          have q1 := Wd.cell p0
          cases h2 : decide (x ≤ a) with
          | true =>
            have HF : Hid (listB lo hi l = false) := listB_no (HA.out.trans (by
              rw [HPA.out, h1]
              have : decide (a < x) = false := decide_eq_false (by have := of_decide_eq_true h2; omega)
              simp [this]))
            go_wp2
            refine qba (by kernel_rfl) (by kernel_rfl) ?_
            repeat (go_big_quiet_step ((go_at_call 24; refine qaa (v := .bool true) ?_; rw [← h1]; exact qub _ _ _ _)))
            refine wpQuiet_nil ?_
            rintro _ ⟨y, rfl⟩
            go_wp2
            go_ret
            exact ⟨by rw [HF.out]; rfl, fin y⟩
          | false =>
            have HF : Hid (riseB lo hi none l = riseB lo hi (some x) (l.drop (j + 1 + 1)) ∧ (j + 1 + 1 = 0 → some x = none) ∧ ∀ i, j + 1 + 1 = i + 1 → ∃ a, some x = some a ∧ l[i]? = some a) := by
              refine ⟨HA.out.trans ?_, fun h => by omega, fun i hi => ⟨x, rfl, by rw [← Nat.succ.inj hi]; exact HX.out⟩⟩
              rw [HPA.out, h1]
              have : decide (a < x) = true := decide_eq_true (by have := of_decide_eq_false h2; omega)
              simp [this]
            go_wp2
            refine qba (by kernel_rfl) (by kernel_rfl) ?_
            repeat (go_big_quiet_step ((go_at_call 24; refine qaa (v := .bool true) ?_; rw [← h1]; exact qub _ _ _ _)))
            refine wpQuiet_nil ?_
            rintro _ ⟨y, rfl⟩
            go_wp2
            go_roundw
            case rel => exact ⟨j + 2, some x, by omega, by go_num, HF, fin y⟩
            case measure => simp [intOf]; omega
    · have HF : Hid (listB lo hi l = decide (0 < n)) := by
        show _ = _
        rw [listB_rise (HE.out.1.trans (riseB_end (by rw [← HN.out]; omega))), HN.out]
      go_wp2
      go_ret
      exact ⟨by rw [HF.out]; rfl, hbel⟩
theorem qle {w : World} {v : Value} {l : List Int} (lo hi : Int) (hr : Reads w v l) (hn : l.length ≤ 1048577) : Calls Tryz.prog 135 #[v, .int .i64 lo, .int .i64 hi] w fun e w' => e = .returned (.bool (listB lo hi l)) ∧ Below w.heap.size w w' := by
  obtain ⟨ao, c, rfl, _⟩ := id hr
  exact l10List_try ao _ c l lo hi w hr hn

theorem mem_drop_at {m : List Int} {k : Nat} {y x : Int} (h : m[k]? = some y) : x ∈ m.drop k ↔ x = y ∨ x ∈ m.drop (k + 1) := by
  obtain ⟨hk, rfl⟩ := List.getElem?_eq_some_iff.1 h
  rw [List.drop_eq_getElem_cons hk]
  exact List.mem_cons
theorem not_mem_end {m : List Int} {k : Nat} {x : Int} (h : k = m.length) : ¬ x ∈ m.drop k := by
  subst h
  rw [List.drop_length]
  exact List.not_mem_nil
set_option maxHeartbeats 1000000 in
theorem l10In_try (ao : Option Addr) (n c : Nat) (m : List Int) (x : Int) (w : World) (hr : Reads w (.slice ao n c) m) (hn : n ≤ 1048577) :
    Calls Tryz.prog 133 #[.slice ao n c, .int .i64 x] w fun e w' => e = .returned (.bool (decide (x ∈ m))) ∧ w' = w := by
  have HR : Hid (Reads w (.slice ao n c) m) := hr
  have HN : Hid (n = m.length) := hr.len
  clear hr
  go_enter Tryz.func133, Tryz.ntmps133
  go_wp2
  go_loopw [5] (fun i wr => ∃ k : Nat, k ≤ n ∧ i = .int .i64 k ∧ Hid (x ∈ m ↔ x ∈ m.drop k) ∧ wr = w) (fun i _ => n - (intOf i).toNat)
  case atStart => exact ⟨0, Nat.zero_le _, rfl, (by show x ∈ m ↔ x ∈ m.drop 0; rw [List.drop_zero]), rfl⟩
  case round =>
    obtain ⟨k, hk, rfl, HE, rfl⟩ := hrel
    by_cases hlt : k < n
    · obtain ⟨y, hy⟩ : ∃ y, m[k]? = some y := ⟨_, List.getElem?_eq_getElem (by rw [← HN.out]; exact hlt)⟩
      have HM : Hid (x ∈ m ↔ x = y ∨ x ∈ m.drop (k + 1)) := HE.out.trans (mem_drop_at hy)
      obtain ⟨b, o, rfl, hb, c0⟩ := int_at HR.out hy
      clear hy HE
      by_cases hyx : y = x
      · have HF : Hid (decide (x ∈ m) = true) := decide_eq_true (HM.out.2 (.inl hyx.symm))
        go_wp2
        go_ret
        exact ⟨by rw [HF.out]; rfl, rfl⟩
      · have HF : Hid (x ∈ m ↔ x ∈ m.drop (k + 1)) := HM.out.trans ⟨fun h => h.resolve_left fun e => hyx e.symm, .inr⟩
        go_wp2
        go_roundw
        case rel => exact ⟨k + 1, by omega, by go_num, HF, trivial⟩
        case measure => simp [intOf]; omega
    · have HF : Hid (decide (x ∈ m) = false) := decide_eq_false fun h => not_mem_end (by rw [← HN.out]; omega) (HE.out.1 h)
      go_wp2
      go_ret
      exact ⟨by rw [HF.out]; rfl, rfl⟩

def cutsN (s : ByteArray) (c : Nat) : Nat → List ByteArray × Nat
  | 0 => ([], 0)
  | i + 1 => if i = s.size ∨ (s.data[i]?.map (fun b => b.toNat)) = some c then ((cutsN s c i).1 ++ [s.extract (cutsN s c i).2 i], i + 1) else cutsN s c i
def splitB (s : ByteArray) (c : Nat) : List ByteArray := (cutsN s c (s.size + 1)).1
theorem cutsN_bd (s : ByteArray) (c : Nat) : ∀ i, (cutsN s c i).2 ≤ i ∧ (cutsN s c i).1.length ≤ i
  | 0 => ⟨Nat.le_refl _, Nat.le_refl _⟩
  | i + 1 => by
    obtain ⟨h1, h2⟩ := cutsN_bd s c i
    unfold cutsN
    split
    · exact ⟨Nat.le_refl _, by simp; omega⟩
    · exact ⟨by omega, by omega⟩
theorem byte_is {s : ByteArray} {i : Nat} (h : i < s.size) : s.data[i]?.map (fun b => b.toNat) = some s[i].toNat := by
  have h' : i < s.data.size := h
  rw [Array.getElem?_eq_getElem h']
  rfl

set_option maxRecDepth 10000 in
set_option maxHeartbeats 1000000 in
theorem qed (s : ByteArray) (c : Nat) (w : World) (hs : s.size ≤ 1048576) :
    Calls Tryz.prog 132 #[.string s, .int .u8 (c : Int)] w fun e w' => ∃ v, e = .returned v ∧ ownsS w' w.heap.size 9 v (splitB s c) ∧ Below w.heap.size w w' := by
  go_enter Tryz.func132, Tryz.ntmps132
  go_wp2
  go_loopw [5, 6, 7] (fun out bg i wr => ∃ (k b : Nat) (l : List ByteArray), k ≤ s.size + 1 ∧ i = .int .i64 k ∧ bg = .int .i64 b ∧ b ≤ k ∧ l.length ≤ k ∧ Hid (cutsN s c k = (l, b)) ∧ ownsS wr w.heap.size 9 out l ∧ Below w.heap.size w wr) (fun _ _ i _ => s.size + 1 - (intOf i).toNat)
  case atStart => exact ⟨0, 0, [], Nat.zero_le _, rfl, rfl, Nat.le_refl _, Nat.le_refl _, rfl, qmd _ _ _ _ _ (Nat.le_refl _) (by decide) rfl, (Below.refl _ _).alloc (Nat.le_refl _) _⟩
  case round =>
    obtain ⟨k, b, l, hk, rfl, rfl, hb, hl, HE, hown, hbel⟩ := hrel
    have hsz := hbel.size
    by_cases hlt : k ≤ s.size
    · have hcut : ∀ wx, (Instr.slice 9 (.string s) (some (.int .i64 (b : Int))) (some (.int .i64 (k : Int))) none).run Tryz.prog wx = .ok (.string (s.extract b k)) wx := fun wx => by
        have := run_slice_string (P := Tryz.prog) wx 9 s .i64 .i64 (b : Int) (k : Int) Tryz.underlying9 (by omega) (by omega) (by omega)
        rw [Int.toNat_natCast, Int.toNat_natCast] at this
        exact this
      by_cases hend : k = s.size
      · have HN : Hid (cutsN s c (k + 1) = (l ++ [s.extract b k], k + 1)) := by
          show cutsN s c (k + 1) = _
          rw [cutsN, if_pos (.inl hend), HE.out]
        have hei : (k : Int) = (s.size : Int) := by omega
        clear hend
        go_wp2_with (at_builtin; refine wpList_append_text _ w rfl (.tmp 26) (.tmp 31) 103 rfl w.heap.size 9 Tryz.underlying103 info9 _ l rfl (hown.alloc _) (hbel.alloc hsz _) ⟨wr.heap.size, 0, none⟩ 1 (s.extract b k) rfl ?c1 ?c2 ?c3 ?_)
        case c1 => simp; rw [show s.size = k by omega]
        case c2 => omega
        case c3 => simp; omega
        intro v' w1 hown1 hbel1
        clear hown hbel
        go_wp2
        go_roundw
        case rel => exact ⟨k + 1, k + 1, _, by omega, by go_num, by go_num, Nat.le_refl _, by simp; omega, HN, hown1, hbel1⟩
        case measure => simp [intOf]; omega
      · have hlt2 : k < s.size := by omega
        have hne : ¬ (k : Int) = (s.size : Int) := by omega
        by_cases hby : s[k].toNat = c
        · have HN : Hid (cutsN s c (k + 1) = (l ++ [s.extract b k], k + 1)) := by
            show cutsN s c (k + 1) = _
            rw [cutsN, if_pos (.inr (by rw [byte_is hlt2, hby])), HE.out]
          go_wp2_with (at_builtin; refine wpList_append_text _ w rfl (.tmp 26) (.tmp 31) 103 rfl w.heap.size 9 Tryz.underlying103 info9 _ l rfl (hown.alloc _) (hbel.alloc hsz _) ⟨wr.heap.size, 0, none⟩ 1 (s.extract b k) rfl ?c1 ?c2 ?c3 ?_)
          case c1 => simp
          case c2 => omega
          case c3 => simp; omega
          intro v' w1 hown1 hbel1
          clear hown hbel
          go_wp2
          go_roundw
          case rel => exact ⟨k + 1, k + 1, _, by omega, by go_num, by go_num, Nat.le_refl _, by simp; omega, HN, hown1, hbel1⟩
          case measure => simp [intOf]; omega
        · have HN : Hid (cutsN s c (k + 1) = (l, b)) := by
            show cutsN s c (k + 1) = _
            rw [cutsN, if_neg, HE.out]
            rintro (h | h)
            · omega
            · rw [byte_is hlt2] at h
              exact hby (Option.some.inj h)
          have hby2 : ((s[k].toNat : Int) == (c : Int)) = false := beq_eq_false_iff_ne.2 (by omega)
          have hby3 : (s[k].toNat == c) = false := by simpa using hby
          go_wp2
          go_roundw
          case rel => exact ⟨k + 1, b, l, by omega, by go_num, rfl, by omega, by omega, HN, hown, hbel⟩
          case measure => simp [intOf]; omega
    · have hkn : k = s.size + 1 := by omega
      have HF : Hid (splitB s c = l) := by show (cutsN s c (s.size + 1)).1 = l; rw [← hkn, HE.out]
      clear hkn
      go_wp2
      go_ret
      exact ⟨_, rfl, by rw [HF.out]; exact hown, hbel⟩
end Go.Proofs.YtpjpheicldegkaaGreatDoor
