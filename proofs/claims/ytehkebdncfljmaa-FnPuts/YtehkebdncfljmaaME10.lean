/-
  A plan's lines one by one, as the specification takes them: what they make. A plan's text, as the specification reads it: what it makes. A plan's tasks lie apart from an empty plan's block. A plan's text, as the specification reads it: the walk.
-/
import Derived.Test.YtehkebdncfljmaaME6
import Derived.Test.YtehkebdncfljmaaME9
namespace Go.Proofs.Ytehkebdncfljmaa
open Go Go.RowKit

/-- A line of the head. -/
def headO : Nat → Dg → List ByteArray → Option Dg
  | 0, d, [p0, p1] => if (p0.toList == [100, 97, 103] && nameB p1) = true then some { d with name := p1 } else none
  | 1, d, [p0, p1, p2, p3, p4, p5] => if (p0.toList == [99, 114, 111, 110]) = true then (if (pcO (joinC p1 p2 p3 p4 p5)).isSome = true then some { d with cron := againS (joinC p1 p2 p3 p4 p5) } else none) else none
  | 2, d, [p0, p1] => if ((rd p1).2 && decide ((rd p1).1 ≤ 68374079)) = true then (if (p0.toList == [102, 114, 111, 109]) = true then some { d with fr := (rd p1).1 } else none) else none
  | 3, d, [p0, p1] => if ((rd p1).2 && decide ((rd p1).1 ≤ 68374079)) = true then (if (p0.toList == [116, 111] && decide (d.fr ≤ (rd p1).1)) = true then some { d with up := (rd p1).1 } else none) else none
  | 4, d, [p0] => if (p0.toList == [99, 97, 116, 99, 104, 117, 112] || p0.toList == [108, 97, 116, 101, 115, 116]) = true then some { d with cu := p0.toList == [99, 97, 116, 99, 104, 117, 112] } else none
  | _, _, _ => none
/-- A line of a task. -/
def lineO : Dg → List ByteArray → Option Dg
  | d, [p0, p1, p2, p3, p4] => if lineT d.tasks p0 p1 p2 p3 p4 = true then some { d with tasks := d.tasks ++ [⟨p1, p2, (rd p3).1, decide (p4 = ⟨#[112, 97, 115, 116]⟩), []⟩] } else none
  | d, [p0, p1, p2, p3, p4, p5] => if lineT d.tasks p0 p1 p2 p3 p4 = true then (match namesO p5 with
    | some nl => some { d with tasks := d.tasks ++ [⟨p1, p2, (rd p3).1, decide (p4 = ⟨#[112, 97, 115, 116]⟩), nl⟩] }
    | none => none) else none
  | _, _ => none
/-- A plan's block. -/
def Dv (w : World) (g : Nat) (d : Dg) (tv : Value) : Prop := D6 w g d.name d.cron d.fr d.up d.cu tv
def HeadE (g : Nat) (tv : Value) (w : World) (x : Option Dg) (e : Ending) (w' : World) : Prop :=
  match x with
  | some d => e = .returned (.bool true) ∧ Dv w' g d tv ∧ Save g w w'
  | none => e = .returned (.bool false) ∧ Save g w w'
def LineE (g : Nat) (w : World) (x : Option Dg) (e : Ending) (w' : World) : Prop :=
  match x with
  | some d => e = .returned (.bool true) ∧ (∃ tv, Dv w' g d tv ∧ Tasks w' tv d.tasks) ∧ Save g w w'
  | none => e = .returned (.bool false) ∧ Save g w w'
theorem head_if {g : Nat} {tv : Value} {w w' : World} {b : Bool} {d : Dg} {e : Ending} (h : e = .returned (.bool b) ∧ Dv w' g d tv ∧ Save g w w') : HeadE g tv w (if b = true then some d else none) e w' := by
  cases b
  · exact ⟨h.1, h.2.2⟩
  · exact h
theorem last_at {p : List ByteArray} {k : Nat} (h : p.length = k + 1) : ∃ x, p[k]? = some x := ⟨_, List.getElem?_eq_getElem (by omega)⟩

theorem head_zero (g : Nat) (pv tv : Value) (ln : ByteArray) (d : Dg) (p : List ByteArray) (w : World) (hp : Reads w pv p) (hd : Dv w g d tv) (hne : p ≠ []) (hlen : p.length ≤ 10) (hs : ∀ x ∈ p, x.size ≤ 600) (hpg : ∀ b o n c, pv = .slice (some ⟨b, o, none⟩) n c → b ≠ g) : Calls Try.prog 89 #[.pointer (some ⟨g, 0, none⟩), .int .i64 0, .string ln, pv] w (HeadE g tv w (headO 0 d p)) := by
  obtain ⟨k, hk⟩ : ∃ k, p.length = k + 1 := ⟨p.length - 1, by cases p with | nil => exact absurd rfl hne | cons a l => simp⟩
  obtain ⟨x, hx⟩ := last_at hk
  by_cases h2 : k = 1
  · subst h2
    match p, hk with
    | [p0, p1], _ =>
      refine (head0_two g pv tv d.name d.cron ln d.fr d.up d.cu p0 p1 w hp hd (by have := hs p1 (by simp); omega) hpg).mono ?_
      intro e w' h
      exact head_if (d := { d with name := p1 }) h
  · have e : headO 0 d p = none := by
      match p, hk with
      | [_], _ => rfl
      | [_, _], hk => simp at hk; omega
      | _ :: _ :: _ :: _, _ => rfl
    rw [e]
    exact (head0_no g pv tv d.name d.cron ln d.fr d.up d.cu p x k w hp hd hk hx h2 (by omega)).mono fun _ _ h => h

theorem head_one (g : Nat) (pv tv : Value) (ln : ByteArray) (d : Dg) (p : List ByteArray) (w : World) (hp : Reads w pv p) (hd : Dv w g d tv) (hne : p ≠ []) (hs : ∀ x ∈ p, x.size ≤ 600) : Calls Try.prog 89 #[.pointer (some ⟨g, 0, none⟩), .int .i64 1, .string ln, pv] w (HeadE g tv w (headO 1 d p)) := by
  obtain ⟨k, hk⟩ : ∃ k, p.length = k + 1 := ⟨p.length - 1, by cases p with | nil => exact absurd rfl hne | cons a l => simp⟩
  by_cases h2 : k = 5
  · subst h2
    match p, hk with
    | [p0, p1, p2, p3, p4, p5], _ =>
      cases h0 : (p0.toList == [99, 114, 111, 110]) with
      | true =>
        have e : headO 1 d [p0, p1, p2, p3, p4, p5] = if (pcO (joinC p1 p2 p3 p4 p5)).isSome = true then some { d with cron := againS (joinC p1 p2 p3 p4 p5) } else none := by simp only [headO, h0, if_true]
        rw [e]
        refine (head1_six g pv tv d.name d.cron ln d.fr d.up d.cu p0 p1 p2 p3 p4 p5 w hp hd (by have h1 := hs p1 (by simp); have h2 := hs p2 (by simp); have h3 := hs p3 (by simp); have h4 := hs p4 (by simp); have h5 := hs p5 (by simp); omega) h0).mono ?_
        intro e w' h
        exact head_if (d := { d with cron := againS (joinC p1 p2 p3 p4 p5) }) h
      | false =>
        have e : headO 1 d [p0, p1, p2, p3, p4, p5] = none := by simp [headO, h0]
        rw [e]
        exact (head1_bad g pv ln p0 p1 p2 p3 p4 p5 w hp h0).mono fun _ _ h => h
  · have e : headO 1 d p = none := by
      match p, hk with
      | [_], _ => rfl
      | [_, _], _ => rfl
      | [_, _, _], _ => rfl
      | [_, _, _, _], _ => rfl
      | [_, _, _, _, _], _ => rfl
      | [_, _, _, _, _, _], hk => simp at hk; omega
      | _ :: _ :: _ :: _ :: _ :: _ :: _ :: _, _ => rfl
    rw [e]
    exact (head1_no g pv ln p k w hp hk h2).mono fun _ _ h => h

theorem head_two (g : Nat) (pv tv : Value) (ln : ByteArray) (d : Dg) (p : List ByteArray) (w : World) (hp : Reads w pv p) (hd : Dv w g d tv) (hne : p ≠ []) (hlen : p.length ≤ 10) (hs : ∀ x ∈ p, x.size ≤ 600) (hpg : ∀ b o n c, pv = .slice (some ⟨b, o, none⟩) n c → b ≠ g) : Calls Try.prog 89 #[.pointer (some ⟨g, 0, none⟩), .int .i64 2, .string ln, pv] w (HeadE g tv w (headO 2 d p)) := by
  obtain ⟨k, hk⟩ : ∃ k, p.length = k + 1 := ⟨p.length - 1, by cases p with | nil => exact absurd rfl hne | cons a l => simp⟩
  obtain ⟨x, hx⟩ := last_at hk
  by_cases h2 : k = 1
  · subst h2
    match p, hk with
    | [p0, p1], _ =>
      have h1 := hs p1 (by simp)
      cases hb : ((rd p1).2 && decide ((rd p1).1 ≤ 68374079)) with
      | true =>
        have e : headO 2 d [p0, p1] = if (p0.toList == [102, 114, 111, 109]) = true then some { d with fr := (rd p1).1 } else none := by simp only [headO, hb, if_true]
        rw [e]
        simp only [Bool.and_eq_true, decide_eq_true_eq] at hb
        refine (head2_two g pv tv d.name d.cron ln d.fr d.up d.cu p0 p1 (rd p1).1 w hp hd (by omega) hpg (Prod.ext rfl hb.1) hb.2).mono ?_
        intro e w' h
        exact head_if (d := { d with fr := (rd p1).1 }) h
      | false =>
        have e : headO 2 d [p0, p1] = none := by simp only [headO, hb]; rfl
        rw [e]
        exact (head2_bad g pv ln p0 p1 w hp (by omega) hb).mono fun _ _ h => h
  · have e : headO 2 d p = none := by
      match p, hk with
      | [_], _ => rfl
      | [_, _], hk => simp at hk; omega
      | _ :: _ :: _ :: _, _ => rfl
    rw [e]
    exact (head2_no g pv ln p x k w hp hk hx h2 (by omega) (by have := hs x (List.mem_of_getElem? hx); omega)).mono fun _ _ h => h

theorem head_three (g : Nat) (pv tv : Value) (ln : ByteArray) (d : Dg) (p : List ByteArray) (w : World) (hp : Reads w pv p) (hd : Dv w g d tv) (hne : p ≠ []) (hlen : p.length ≤ 10) (hs : ∀ x ∈ p, x.size ≤ 600) (hpg : ∀ b o n c, pv = .slice (some ⟨b, o, none⟩) n c → b ≠ g) : Calls Try.prog 89 #[.pointer (some ⟨g, 0, none⟩), .int .i64 3, .string ln, pv] w (HeadE g tv w (headO 3 d p)) := by
  obtain ⟨k, hk⟩ : ∃ k, p.length = k + 1 := ⟨p.length - 1, by cases p with | nil => exact absurd rfl hne | cons a l => simp⟩
  obtain ⟨x, hx⟩ := last_at hk
  by_cases h2 : k = 1
  · subst h2
    match p, hk with
    | [p0, p1], _ =>
      have h1 := hs p1 (by simp)
      cases hb : ((rd p1).2 && decide ((rd p1).1 ≤ 68374079)) with
      | true =>
        have e : headO 3 d [p0, p1] = if (p0.toList == [116, 111] && decide (d.fr ≤ (rd p1).1)) = true then some { d with up := (rd p1).1 } else none := by simp only [headO, hb, if_true]
        rw [e]
        simp only [Bool.and_eq_true, decide_eq_true_eq] at hb
        refine (head3_two g pv tv d.name d.cron ln d.fr d.up d.cu p0 p1 (rd p1).1 w hp hd (by omega) hpg (Prod.ext rfl hb.1) hb.2).mono ?_
        intro e w' h
        exact head_if (d := { d with up := (rd p1).1 }) h
      | false =>
        have e : headO 3 d [p0, p1] = none := by simp only [headO, hb]; rfl
        rw [e]
        exact (head3_bad g pv ln p0 p1 w hp (by omega) hb).mono fun _ _ h => h
  · have e : headO 3 d p = none := by
      match p, hk with
      | [_], _ => rfl
      | [_, _], hk => simp at hk; omega
      | _ :: _ :: _ :: _, _ => rfl
    rw [e]
    exact (head3_no g pv ln p x k w hp hk hx h2 (by omega) (by have := hs x (List.mem_of_getElem? hx); omega)).mono fun _ _ h => h

theorem head_four (g : Nat) (pv tv : Value) (ln : ByteArray) (d : Dg) (p : List ByteArray) (w : World) (hp : Reads w pv p) (hd : Dv w g d tv) (hne : p ≠ []) (hpg : ∀ b o n c, pv = .slice (some ⟨b, o, none⟩) n c → b ≠ g) : Calls Try.prog 89 #[.pointer (some ⟨g, 0, none⟩), .int .i64 4, .string ln, pv] w (HeadE g tv w (headO 4 d p)) := by
  obtain ⟨k, hk⟩ : ∃ k, p.length = k + 1 := ⟨p.length - 1, by cases p with | nil => exact absurd rfl hne | cons a l => simp⟩
  by_cases h2 : k = 0
  · subst h2
    match p, hk with
    | [p0], _ =>
      refine (head4_one g pv tv d.name d.cron ln d.fr d.up d.cu p0 w hp hd hpg).mono ?_
      intro e w' h
      exact head_if (d := { d with cu := p0.toList == [99, 97, 116, 99, 104, 117, 112] }) h
  · have e : headO 4 d p = none := by
      match p, hk with
      | [_], hk => simp at hk; omega
      | _ :: _ :: _, _ => rfl
    rw [e]
    obtain ⟨x, hx⟩ : ∃ x, p[0]? = some x := ⟨_, List.getElem?_eq_getElem (by omega)⟩
    exact (head4_no g pv tv d.name d.cron ln d.fr d.up d.cu p x k w hp hd hk hx h2).mono fun _ _ h => h

/-- A line of the head, whole. -/
theorem head_any (g : Nat) (pv tv : Value) (ln : ByteArray) (d : Dg) (p : List ByteArray) (w : World) (hp : Reads w pv p) (hd : Dv w g d tv) (hne : p ≠ []) (hlen : p.length ≤ 10) (hs : ∀ x ∈ p, x.size ≤ 600) (hpg : ∀ b o n c, pv = .slice (some ⟨b, o, none⟩) n c → b ≠ g) (a : Nat) (ha : a < 5) : Calls Try.prog 89 #[.pointer (some ⟨g, 0, none⟩), .int .i64 (a : Int), .string ln, pv] w (HeadE g tv w (headO a d p)) := by
  match a, ha with
  | 0, _ => exact head_zero g pv tv ln d p w hp hd hne hlen hs hpg
  | 1, _ => exact head_one g pv tv ln d p w hp hd hne hs
  | 2, _ => exact head_two g pv tv ln d p w hp hd hne hlen hs hpg
  | 3, _ => exact head_three g pv tv ln d p w hp hd hne hlen hs hpg
  | 4, _ => exact head_four g pv tv ln d p w hp hd hne hpg

set_option maxRecDepth 10000 in
set_option maxHeartbeats 4000000 in
theorem line_len (g : Nat) (pv : Value) (p : List ByteArray) (n : Nat) (w : World) (hp : Reads w pv p) (hk : p.length = n) (h5 : n ≠ 5) (h6 : n ≠ 6) :
    Calls Try.prog 90 #[.pointer (some ⟨g, 0, none⟩), pv] w fun e w' => e = .returned (.bool false) ∧ Save g w w' := by
  obtain ⟨po, pc, rfl, -⟩ := id hp
  rw [hk]
  have e5 : ((n : Int) != 5) = true := bne_iff_ne.2 (by omega)
  have e6 : ((n : Int) != 6) = true := bne_iff_ne.2 (by omega)
  clear hp hk h5 h6
  go_enter Try.func90, Try.ntmps90
  go_wp2
  refine wp_region_wd (by kernel_rfl) (by kernel_rfl) ?_
  repeat (go_big_quiet_step (fail))
  refine wpQuiet_nil ?_
  rintro _ ⟨x, rfl⟩
  go_wp2
  go_ret
  exact ⟨rfl, Save.of_below x.ok⟩
/-- A line of a task, whole. -/
theorem line_any (g : Nat) (pv tv : Value) (d : Dg) (p : List ByteArray) (w : World) (hp : Reads w pv p) (hd : Dv w g d tv) (ht : Tasks w tv d.tasks) (hn : d.tasks.length ≤ 100000) (hs : ∀ x ∈ p, x.size ≤ 600) :
    Calls Try.prog 90 #[.pointer (some ⟨g, 0, none⟩), pv] w (LineE g w (lineO d p)) := by
  have hs' : ∀ x ∈ p, x.size ≤ 100000 := fun x hx => by have := hs x hx; omega
  by_cases h5 : p.length = 5
  · match p, h5 with
    | [p0, p1, p2, p3, p4], _ =>
      cases hb : lineT d.tasks p0 p1 p2 p3 p4 with
      | true =>
        have e : lineO d [p0, p1, p2, p3, p4] = some { d with tasks := d.tasks ++ [⟨p1, p2, (rd p3).1, decide (p4 = ⟨#[112, 97, 115, 116]⟩), []⟩] } := by simp only [lineO, hb, if_true]
        rw [e]
        refine (line_yes5 g pv tv d.name d.cron d.fr d.up d.cu d.tasks p0 p1 p2 p3 p4 w hp hd ht hn hs' hb).mono ?_
        rintro e w' ⟨rfl, tv', h1, h2, h3⟩
        exact ⟨rfl, ⟨tv', h1, h2⟩, h3⟩
      | false =>
        have e : lineO d [p0, p1, p2, p3, p4] = none := by simp [lineO, hb]
        rw [e]
        exact (line_no5 g pv tv d.name d.cron d.fr d.up d.cu d.tasks p0 p1 p2 p3 p4 w hp hd ht hn hs' hb).mono fun _ _ h => ⟨h.1, Save.of_below h.2⟩
  · by_cases h6 : p.length = 6
    · match p, h6 with
      | [p0, p1, p2, p3, p4, p5], _ =>
        cases hb : lineT d.tasks p0 p1 p2 p3 p4 with
        | true =>
          cases hl : namesO p5 with
          | some nl =>
            have e : lineO d [p0, p1, p2, p3, p4, p5] = some { d with tasks := d.tasks ++ [⟨p1, p2, (rd p3).1, decide (p4 = ⟨#[112, 97, 115, 116]⟩), nl⟩] } := by simp only [lineO, hb, if_true, hl]
            rw [e]
            refine (line_yes6 g pv tv d.name d.cron d.fr d.up d.cu d.tasks p0 p1 p2 p3 p4 p5 w hp hd ht hn hs' hb nl hl).mono ?_
            rintro e w' ⟨rfl, tv', h1, h2, h3⟩
            exact ⟨rfl, ⟨tv', h1, h2⟩, h3⟩
          | none =>
            have e : lineO d [p0, p1, p2, p3, p4, p5] = none := by simp [lineO, hl]
            rw [e]
            exact (line_nam6 g pv tv d.name d.cron d.fr d.up d.cu d.tasks p0 p1 p2 p3 p4 p5 w hp hd ht hn hs' hb hl).mono fun _ _ h => ⟨h.1, Save.of_below h.2⟩
        | false =>
          have e : lineO d [p0, p1, p2, p3, p4, p5] = none := by simp [lineO, hb]
          rw [e]
          exact (line_no6 g pv tv d.name d.cron d.fr d.up d.cu d.tasks p0 p1 p2 p3 p4 p5 w hp hd ht hn hs' hb).mono fun _ _ h => ⟨h.1, Save.of_below h.2⟩
    · have e : lineO d p = none := by
        match p, h5, h6 with
        | [], _, _ => rfl
        | [_], _, _ => rfl
        | [_, _], _, _ => rfl
        | [_, _, _], _, _ => rfl
        | [_, _, _, _], _, _ => rfl
        | [_, _, _, _, _], h5, _ => exact absurd rfl h5
        | [_, _, _, _, _, _], _, h6 => exact absurd rfl h6
        | _ :: _ :: _ :: _ :: _ :: _ :: _ :: _, _, _ => rfl
      rw [e]
      exact (line_len g pv p p.length w hp rfl h5 h6).mono fun _ _ h => h

end Go.Proofs.Ytehkebdncfljmaa

namespace Go.Proofs.Ytehkebdncfljmaa
open Go Go.RowKit

theorem fieldsGo_ne : ∀ (l cur t : List UInt8), t ∈ Lib.fieldsGo cur l → t ≠ []
  | [], cur, t, h => by
    unfold Lib.fieldsGo at h
    split at h
    · cases h
    · rename_i hc; rw [List.mem_singleton] at h; subst h; exact fun e => hc (by rw [e]; rfl)
  | b :: l, cur, t, h => by
    unfold Lib.fieldsGo at h
    split at h
    · split at h
      · exact fieldsGo_ne l [] t h
      · rename_i hc
        rcases List.mem_cons.1 h with rfl | h
        · exact fun e => hc (by rw [e]; rfl)
        · exact fieldsGo_ne l [] t h
    · exact fieldsGo_ne l (cur ++ [b]) t h
theorem parts_all (s : ByteArray) : (∀ t ∈ texts (partsR s).1, t.size ≤ 600 ∧ 0 < t.size) ∧ (texts (partsR s).1).length ≤ 10 := by
  unfold partsR
  split
  · simp [texts]
  · rename_i h6
    split
    · split
      · simp [texts]
      · rename_i hm
        refine ⟨fun t ht => ?_, by rw [texts_length]; show (Lib.fields s.data.toList).length ≤ 10; omega⟩
        unfold texts at ht
        obtain ⟨u, hu, rfl⟩ := List.mem_map.1 ht
        have h1 := fieldsGo_sz _ [] u hu
        have h2 := fieldsGo_ne _ [] u hu
        have h3 : 0 < u.length := List.length_pos_iff.2 h2
        have h7 : s.data.size = s.size := rfl
        constructor
        · show u.toArray.size ≤ _
          simp at h1 ⊢
          omega
        · show 0 < u.toArray.size
          simpa using h3
    · simp [texts]
theorem extract_sz (s : ByteArray) (a b : Nat) : (s.extract a b).size ≤ s.size := by simp [ByteArray.size_extract]; omega
theorem linesN_sz (s : ByteArray) : ∀ i, ∀ t ∈ (linesN s i).1, t.size ≤ s.size
  | 0, t, h => by simp [linesN] at h
  | i + 1, t, h => by
    unfold linesN at h
    split at h
    · rcases List.mem_append.1 h with h | h
      · exact linesN_sz s i t h
      · rw [List.mem_singleton] at h; subst h; exact extract_sz s _ _
    · exact linesN_sz s i t h
theorem lines_sz (s : ByteArray) : ∀ t ∈ linesB s, t.size ≤ s.size := by
  intro t h
  unfold linesB at h
  split at h
  · rcases List.mem_append.1 h with h | h
    · exact linesN_sz s _ t h
    · rw [List.mem_singleton] at h; subst h; exact extract_sz s _ _
  · exact linesN_sz s _ t h
theorem lines_len (s : ByteArray) : (linesB s).length ≤ s.size + 1 := by
  have := (linesN_bd s s.size).2
  unfold linesB
  split
  · simp; omega
  · omega
theorem namesGo_len : ∀ (p l nl : List ByteArray), namesGo p l = some nl → nl.length ≤ l.length + p.length
  | [], l, nl, h => by simp only [namesGo, Option.some.injEq] at h; subst h; simp
  | s :: r, l, nl, h => by
    unfold namesGo at h
    split at h
    · have h1 := namesGo_len r _ nl h
      have h2 := insN_len1 (l := l) s
      simp; omega
    · cases h
theorem namesO_len {s : ByteArray} {nl : List ByteArray} (h : namesO s = some nl) : nl.length ≤ s.size + 1 := by
  have h1 := namesGo_len _ _ _ h
  have h2 := (cutsN_bd s 44 (s.size + 1)).2
  unfold splitB at h1
  simp at h1
  omega
theorem cronX_size (a b c d e : List Int) : (cronX a b c d e).size ≤ 1000 := by
  unfold cronX
  split
  · rename_i hq
    unfold cronB at hq
    simp only [Bool.and_eq_true] at hq
    obtain ⟨q0, q1, q2, q3, q4⟩ := hq
    have y0 := showS_size 60 (listB_bd (by decide) (by decide) (by decide) q0)
    have y1 := showS_size 24 (listB_bd (by decide) (by decide) (by decide) q1)
    have y2 := showS_size 31 (listB_bd (by decide) (by decide) (by decide) q2)
    have y3 := showS_size 12 (listB_bd (by decide) (by decide) (by decide) q3)
    have y4 := showS_size 7 (listB_bd (by decide) (by decide) (by decide) q4)
    have one : (ByteArray.mk #[32]).size = 1 := rfl
    unfold cronS
    simp only [ByteArray.size_append, one]
    omega
  · show 0 ≤ _; omega
/-- A plan on the way: what its walk asks. -/
structure Gd (d : Dg) : Prop where
  few : d.tasks.length ≤ 4
  small : ∀ t ∈ d.tasks, t.after.length ≤ 1000 ∧ t.name.size ≤ 1000
  cron : d.cron.size ≤ 1000
  name : d.name.size ≤ 1000
theorem Gd.at {w : World} {tv : Value} {d : Dg} (h : Gd d) (ht : Tasks w tv d.tasks) : DagAt w tv d := ⟨ht, by have := h.few; omega, fun t hm => by have := h.small t hm; omega, by have := h.cron; omega, by have := h.name; omega⟩
def zeroD : Dg := ⟨⟨#[]⟩, ⟨#[]⟩, 0, 0, false, []⟩
theorem gd_zero : Gd zeroD := ⟨Nat.zero_le _, (fun _ h => nomatch h), Nat.zero_le _, Nat.zero_le _⟩
theorem headO_good {a : Nat} {d d' : Dg} {p : List ByteArray} (h : headO a d p = some d') (hg : Gd d) (hs : ∀ x ∈ p, x.size ≤ 600) : Gd d' ∧ d'.tasks = d.tasks := by
  unfold headO at h
  split at h
  · split at h
    · cases h; exact ⟨⟨hg.few, hg.small, hg.cron, Nat.le_trans (hs _ (List.mem_cons_of_mem _ (List.mem_cons_self ..))) (by decide)⟩, rfl⟩
    · cases h
  · split at h
    · split at h
      · cases h; exact ⟨⟨hg.few, hg.small, cronX_size _ _ _ _ _, hg.name⟩, rfl⟩
      · cases h
    · cases h
  · split at h
    · split at h
      · cases h; exact ⟨⟨hg.few, hg.small, hg.cron, hg.name⟩, rfl⟩
      · cases h
    · cases h
  · split at h
    · split at h
      · cases h; exact ⟨⟨hg.few, hg.small, hg.cron, hg.name⟩, rfl⟩
      · cases h
    · cases h
  · split at h
    · cases h; exact ⟨⟨hg.few, hg.small, hg.cron, hg.name⟩, rfl⟩
    · cases h
  · cases h
theorem lineT_few {ts : List Ta} {p0 p1 p2 p3 p4 : ByteArray} (h : lineT ts p0 p1 p2 p3 p4 = true) : ts.length ≠ 4 := by
  unfold lineT at h
  simp only [Bool.and_eq_true, Bool.not_eq_true', decide_eq_false_iff_not] at h
  exact h.2.1
theorem gd_more {d : Dg} {t : Ta} (hg : Gd d) (h4 : d.tasks.length ≠ 4) (ht : t.after.length ≤ 1000 ∧ t.name.size ≤ 1000) : Gd { d with tasks := d.tasks ++ [t] } := by
  refine ⟨?_, fun u hu => ?_, hg.cron, hg.name⟩
  · have := hg.few
    show (d.tasks ++ [t]).length ≤ 4
    simp; omega
  · rcases List.mem_append.1 hu with hu | hu
    · exact hg.small u hu
    · rw [List.mem_singleton] at hu; subst hu; exact ht
theorem lineO_good {d d' : Dg} {p : List ByteArray} (h : lineO d p = some d') (hg : Gd d) (hs : ∀ x ∈ p, x.size ≤ 600) : Gd d' := by
  unfold lineO at h
  split at h
  · split at h
    · rename_i hT
      cases h
      exact gd_more hg (lineT_few hT) ⟨Nat.zero_le _, Nat.le_trans (hs _ (List.mem_cons_of_mem _ (List.mem_cons_self ..))) (by decide)⟩
    · cases h
  · split at h
    · rename_i hT
      split at h
      · rename_i nl hnl
        cases h
        have h1 := hs _ (List.mem_cons_of_mem _ (List.mem_cons_self ..))
        have h2 := namesO_len hnl
        have h3 := hs _ (List.mem_cons_of_mem _ (List.mem_cons_of_mem _ (List.mem_cons_of_mem _ (List.mem_cons_of_mem _ (List.mem_cons_of_mem _ (List.mem_cons_self ..))))))
        exact gd_more hg (lineT_few hT) ⟨Nat.le_trans h2 (Nat.le_trans (Nat.add_le_add_right h3 1) (by decide)), Nat.le_trans h1 (by decide)⟩
      · cases h
    · cases h
  · cases h
/-- Whether a line is passed over. -/
def skipB : List ByteArray → Bool
  | [] => true
  | x :: _ => (x.data.toList.getD 0 0).toNat == 35
def stepO (a : Nat) (d : Dg) (p : List ByteArray) : Option Dg := if a < 5 then headO a d p else lineO d p
/-- The lines of a plan: the plan, or the number of the line that is wrong. -/
def dagGo : List ByteArray → Nat → Nat → Dg → Except Nat Dg
  | [], _, _, d => .ok d
  | x :: r, i, a, d =>
    if (partsR x).2 = true then
      if skipB (texts (partsR x).1) = true then dagGo r (i + 1) a d
      else match stepO a d (texts (partsR x).1) with
        | some d' => dagGo r (i + 1) (a + 1) d'
        | none => .error (i + 1)
    else .error (i + 1)
theorem dagGo_at {l : List ByteArray} {k i a : Nat} {d : Dg} {x : ByteArray} (h : l[k]? = some x) : dagGo (l.drop k) i a d = if (partsR x).2 = true then (if skipB (texts (partsR x).1) = true then dagGo (l.drop (k + 1)) (i + 1) a d else match stepO a d (texts (partsR x).1) with
        | some d' => dagGo (l.drop (k + 1)) (i + 1) (a + 1) d'
        | none => .error (i + 1)) else .error (i + 1) := by
  obtain ⟨hk, rfl⟩ := List.getElem?_eq_some_iff.1 h
  rw [List.drop_eq_getElem_cons hk]
  rfl
theorem dagGo_end {l : List ByteArray} {k i a : Nat} {d : Dg} (h : k = l.length) : dagGo (l.drop k) i a d = .ok d := by subst h; rw [List.drop_length]; rfl
/-- The plan of a text, and the number that the specification tells. -/
def dagO (s : ByteArray) : Dg × Int :=
  if 800 < s.size then (zeroD, -1) else match dagGo (linesB s) 0 0 zeroD with
    | .error n => (zeroD, n)
    | .ok d => if dagB d = true then (d, 0) else (zeroD, ((linesB s).length : Int) + 1)
def PdP (s : ByteArray) (w : World) (e : Ending) (w' : World) : Prop :=
  ∃ tv, e = .returned (.tuple #[.agg #[.string (dagO s).1.name, .string (dagO s).1.cron, .int .i64 (dagO s).1.fr, .int .i64 (dagO s).1.up, .bool (dagO s).1.cu, tv], .int .i64 (dagO s).2]) ∧ Tasks w' tv (dagO s).1.tasks ∧ Below w.heap.size w w'
theorem tasks_zero (w : World) (ao : Option Addr) (cap : Nat) : Tasks w (.slice ao 0 cap) [] := ⟨[], reads_none _ _ _, rfl, fun i t h => by simp at h⟩
theorem pd_no {s : ByteArray} {w w' : World} {n : Int} (h : dagO s = (zeroD, n)) (hb : Below w.heap.size w w') : PdP s w (.returned (.tuple #[.agg #[.string ⟨#[]⟩, .string ⟨#[]⟩, .int .i64 0, .int .i64 0, .bool false, .slice none 0 0], .int .i64 n])) w' := by
  refine ⟨.slice none 0 0, by rw [h]; rfl, ?_, hb⟩
  rw [h]
  exact tasks_zero _ _ _

end Go.Proofs.Ytehkebdncfljmaa

namespace Go.Proofs.Ytehkebdncfljmaa
open Go Go.RowKit

theorem reads_far {α : Type} [Rec α] {w W : World} {v : Value} {l : List α} {b : Nat} (h : Reads w v l) (hs : w.heap.size ≤ W.heap.size) (hW : ∀ k, k ≠ b → W.heap[k]? = w.heap[k]?) (hB : ∀ o c, v = .slice (some ⟨b, o, none⟩) l.length c → l ≠ [] → False) : Reads W v l := by
  obtain ⟨ao, cap, rfl, h⟩ := h
  refine ⟨ao, cap, rfl, fun hne => ?_⟩
  obtain ⟨B, o, rfl, hlt, hc⟩ := h hne
  have hBb : B ≠ b := fun e => by subst e; exact hB o cap rfl hne
  exact ⟨B, o, rfl, Nat.lt_of_lt_of_le hlt hs, fun i x hx j u hu => (cell_block (hW B hBb)).trans (hc i x hx j u hu)⟩
theorem D6.off {w : World} {g : Nat} {nm cr : ByteArray} {fr up : Int} {cu : Bool} {tv : Value} (h : D6 w g nm cr fr up cu tv) (o : Nat) : w.cell? ⟨g, o, none⟩ = #[.string nm, .string cr, .int .i64 fr, .int .i64 up, .bool cu, tv][o]? := by simp [World.cell?, show w.heap[g]? = _ from h]
abbrev box0 : Array Value := #[.string ⟨#[]⟩, .string ⟨#[]⟩, .int .i64 0, .int .i64 0, .bool false, .slice none 0 0]
theorem box_text {o : Nat} {x : ByteArray} (h : box0[o]? = some (.string x)) : o ≤ 1 ∧ x = ⟨#[]⟩ := by
  match o, h with
  | 0, h => simp at h; exact ⟨by omega, h.symm⟩
  | 1, h => simp at h; exact ⟨by omega, h.symm⟩
  | 2, h => simp at h
  | 3, h => simp at h
  | 4, h => simp at h
  | 5, h => simp at h
  | o + 6, h => simp at h
theorem names_far {w W : World} {v : Value} {l : List ByteArray} {b : Nat} (hd : D6 w b ⟨#[]⟩ ⟨#[]⟩ 0 0 false (.slice none 0 0)) (h : Reads w v l) (hn : ∀ x ∈ l, 0 < x.size) (hs : w.heap.size ≤ W.heap.size) (hW : ∀ k, k ≠ b → W.heap[k]? = w.heap[k]?) : Reads W v l := by
  refine reads_far h hs hW fun o c e hne => ?_
  subst e
  obtain ⟨x, r, rfl⟩ := List.exists_cons_of_ne_nil hne
  obtain ⟨b', o', hq, _, hc⟩ := text_at h (k := 0) rfl
  simp only [Option.some.injEq, Addr.mk.injEq, and_true] at hq
  obtain ⟨e1, e2⟩ := hq
  subst e1 e2
  rw [hd.off] at hc
  have := hn x (by simp)
  rw [(box_text hc).2] at this
  exact absurd this (by decide)
theorem tasks_far {w W : World} {v : Value} {ts : List Ta} {b : Nat} (hd : D6 w b ⟨#[]⟩ ⟨#[]⟩ 0 0 false (.slice none 0 0)) (h : Tasks w v ts) (hn : ∀ t ∈ ts, ∀ x ∈ t.after, 0 < x.size) (hs : w.heap.size ≤ W.heap.size) (hW : ∀ k, k ≠ b → W.heap[k]? = w.heap[k]?) : Tasks W v ts := by
  obtain ⟨ks, hr, hl, ho⟩ := h
  refine ⟨ks, ?_, hl, fun i t ht => ?_⟩
  · refine reads_far hr hs hW fun o c e hne => ?_
    subst e
    obtain ⟨x, r, rfl⟩ := List.exists_cons_of_ne_nil hne
    obtain ⟨b', o', hq, _, hc⟩ := hr.at (k := 0) rfl
    simp only [Option.some.injEq, Addr.mk.injEq, and_true] at hq
    obtain ⟨e1, e2⟩ := hq
    subst e1 e2
    have h1 := hc 1 _ rfl
    have h3 := hc 3 _ rfl
    rw [hd.off] at h1 h3
    have h5 := (box_text h1).1
    have h6 : o = 0 := by omega
    subst h6
    simp at h3
  · obtain ⟨k, hk, h1⟩ := ho i t ht
    exact ⟨k, hk, ⟨h1.name, h1.pool, h1.ret, h1.past, names_far hd h1.after (hn t (List.mem_of_getElem? ht)) hs hW⟩⟩
theorem name_full {s : ByteArray} (h : nameB s = true) : 0 < s.size := by
  unfold nameB at h
  simp only [Bool.and_eq_true, decide_eq_true_eq] at h
  omega
theorem namesGo_full : ∀ (p l nl : List ByteArray), namesGo p l = some nl → (∀ x ∈ l, 0 < x.size) → ∀ x ∈ nl, 0 < x.size
  | [], l, nl, h, hl => by simp only [namesGo, Option.some.injEq] at h; subst h; exact hl
  | s :: r, l, nl, h, hl => by
    unfold namesGo at h
    split at h
    · rename_i hq
      simp only [Bool.and_eq_true] at hq
      refine namesGo_full r _ nl h fun x hx => ?_
      unfold insN at hx
      simp only [List.mem_append, List.mem_filter, List.mem_singleton] at hx
      rcases hx with (⟨hx, _⟩ | rfl) | ⟨hx, _⟩
      · exact hl x hx
      · exact name_full hq.1
      · exact hl x hx
    · cases h
/-- Each name that a task is behind is some. -/
def Fu (d : Dg) : Prop := ∀ t ∈ d.tasks, ∀ x ∈ t.after, 0 < x.size
theorem fu_more {d : Dg} {t : Ta} (hg : Fu d) (ht : ∀ x ∈ t.after, 0 < x.size) : Fu { d with tasks := d.tasks ++ [t] } := by
  intro u hu
  rcases List.mem_append.1 hu with hu | hu
  · exact hg u hu
  · rw [List.mem_singleton] at hu; subst hu; exact ht
theorem lineO_full {d d' : Dg} {p : List ByteArray} (h : lineO d p = some d') (hg : Fu d) : Fu d' := by
  unfold lineO at h
  split at h
  · split at h
    · cases h; exact fu_more hg (fun _ hx => nomatch hx)
    · cases h
  · split at h
    · split at h
      · rename_i nl hnl
        cases h
        exact fu_more hg (namesGo_full _ _ _ hnl (fun _ hx => nomatch hx))
      · cases h
    · cases h
  · cases h

end Go.Proofs.Ytehkebdncfljmaa

namespace Go.Proofs.Ytehkebdncfljmaa
open Go Go.RowKit

section
variable {W : World} {b : Nat} {nm cr : ByteArray} {fr up : Int} {cu : Bool} {tv : Value}
theorem ret_d2 {fn : Func} {p u : Tmp} {x : Value} {tmps : Array Value} (h : fn.results = #[.cell p 115, .tmp u]) (hp : tmps.getD p undef = .pointer (some ⟨b, 0, none⟩)) (hu : tmps.getD u undef = x) (hb : D6 W b nm cr fr up cu tv) :
    (results fn tmps).run Try.prog W = .ok (.tuple #[.agg #[.string nm, .string cr, .int .i64 fr, .int .i64 up, .bool cu, tv], x]) W := by
  have hp' : tmps[p]?.getD undef = .pointer (some ⟨b, 0, none⟩) := by simpa using hp
  have hu' : tmps[u]?.getD undef = x := by simpa using hu
  simp [results, h, hp', hu', hb.c0, hb.c1, hb.c2, hb.c3, hb.c4, hb.c5, asAddr, go_sem]
theorem d6_new (w : World) (nm cr : ByteArray) (fr up : Int) (cu : Bool) (tv : Value) : D6 (w.alloc (.cells #[.string nm, .string cr, .int .i64 fr, .int .i64 up, .bool cu, tv] 115)) w.heap.size nm cr fr up cu tv := by
  show (w.heap.push _)[w.heap.size]? = _; simp
abbrev set6 (W : World) (b : Nat) (u0 u1 : ByteArray) (u2 u3 : Int) (u4 : Bool) (u5 : Value) : World := (((((W.setCell ⟨b, 0, none⟩ (.string u0)).setCell ⟨b, 1, none⟩ (.string u1)).setCell ⟨b, 2, none⟩ (.int .i64 u2)).setCell ⟨b, 3, none⟩ (.int .i64 u3)).setCell ⟨b, 4, none⟩ (.bool u4)).setCell ⟨b, 5, none⟩ u5
theorem D6.set (h : D6 W b nm cr fr up cu tv) (u0 u1 : ByteArray) (u2 u3 : Int) (u4 : Bool) (u5 : Value) : D6 (set6 W b u0 u1 u2 u3 u4 u5) b u0 u1 u2 u3 u4 u5 := (((((h.s0 u0).s1 u1).s2 u2).s3 u3).s4 u4).s5 u5
theorem below_set6 {B : Nat} {V : World} (h : Below B V W) (hb : B ≤ b) (u0 u1 : ByteArray) (u2 u3 : Int) (u4 : Bool) (u5 : Value) : Below B V (set6 W b u0 u1 u2 u3 u4 u5) :=
  Below.setCell (Below.setCell (Below.setCell (Below.setCell (Below.setCell (Below.setCell h hb _) hb _) hb _) hb _) hb _) hb _
end
theorem far6 {W : World} {b k : Nat} {u0 u1 : ByteArray} {u2 u3 : Int} {u4 : Bool} {u5 : Value} (hk : k ≠ b) : (set6 W b u0 u1 u2 u3 u4 u5).heap[k]? = W.heap[k]? := by
  unfold set6
  rw [heap_setCell_other _ _ k _ hk, heap_setCell_other _ _ k _ hk, heap_setCell_other _ _ k _ hk, heap_setCell_other _ _ k _ hk, heap_setCell_other _ _ k _ hk, heap_setCell_other _ _ k _ hk]
theorem first_at {y : ByteArray} (h : 0 < y.size) : skipB [y] = (y[0].toNat == 35) := by
  show ((y.data.toList.getD 0 0).toNat == 35) = _
  rw [first_is h]
theorem skip_first (y : ByteArray) (r : List ByteArray) : skipB (y :: r) = skipB [y] := rfl

set_option maxRecDepth 10000 in
set_option maxHeartbeats 8000000 in
theorem parseDag_any (s : ByteArray) (w : World) (hs : s.size ≤ 1048576) : Calls Try.prog 81 #[.string s] w (PdP s w) := by
  by_cases hl : 800 < s.size
  · have HO : Hid (dagO s = (zeroD, -1)) := by show _ = _; unfold dagO; rw [if_pos hl]
    go_enter Try.func81, Try.ntmps81
    go_wp2
    refine bodyPost_ret (ret_d2 rfl rfl rfl (d6_new w ⟨#[]⟩ ⟨#[]⟩ 0 0 false (.slice none 0 0))) rfl ?_
    exact pd_no HO.out (ba (Below.refl _ _) _)
  have hl8 : s.size ≤ 800 := by omega
  obtain ⟨ls, HLS⟩ : ∃ l, Hid (linesB s = l) := ⟨_, rfl⟩
  have hll : ls.length ≤ 801 := by rw [← HLS.out]; have := lines_len s; omega
  have HSZ : Hid (∀ t ∈ ls, t.size ≤ 800) := by intro t ht; rw [← HLS.out] at ht; have := lines_sz s t ht; omega
  have HL : Hid (∀ W, Calls Try.prog 87 #[.string s] W fun e w' => ∃ lo lc, e = .returned (.slice lo ls.length lc) ∧ Reads w' (.slice lo ls.length lc) ls ∧ Below W.heap.size W w') := by
    intro W
    refine (l12Lines_any s W hs).mono ?_
    rintro e w' ⟨v, rfl, ho, hb⟩
    rw [HLS.out] at ho
    have hr := ownsS_reads ho
    obtain ⟨lo, lc, rfl, -⟩ := id hr
    exact ⟨lo, lc, rfl, hr, hb⟩
  go_enter Try.func81, Try.ntmps81
  go_wp2_with fail
  refine (HL.out _).mono ?_
  rintro e w1 ⟨lo, lc, rfl, hr, hb1⟩
  have B1 : Below w.heap.size w w1 := below_new hb1
  have DR : Hid (D6 w1 w.heap.size ⟨#[]⟩ ⟨#[]⟩ 0 0 false (.slice none 0 0)) := (d6_new w ⟨#[]⟩ ⟨#[]⟩ 0 0 false (.slice none 0 0)).on hb1 (by simp)
  have hz : w.heap.size < w1.heap.size := DR.out.lt
  have HR : Hid (Reads w1 (.slice lo ls.length lc) ls) := hr
  clear hr hb1 HL
  go_wp2
  go_loopw [6, 7] (fun av iv wr => ∃ (k a : Nat) (d : Dg), k ≤ ls.length ∧ av = .int .i64 a ∧ iv = .int .i64 k ∧ a ≤ k ∧ (a ≤ 5 → d.tasks = []) ∧ Hid (Gd d) ∧ Hid (Fu d) ∧ Hid (∃ tv, Dv wr w1.heap.size d tv ∧ Tasks wr tv d.tasks) ∧ Hid (dagGo ls 0 0 zeroD = dagGo (ls.drop k) k a d) ∧ Below w1.heap.size w1 wr) (fun _ iv _ => ls.length - (intOf iv).toNat)
  case atStart => exact ⟨0, 0, zeroD, Nat.zero_le _, rfl, rfl, Nat.le_refl _, fun _ => rfl, gd_zero, (fun _ h => nomatch h), ⟨_, d6_new w1 ⟨#[]⟩ ⟨#[]⟩ 0 0 false (.slice none 0 0), tasks_zero _ _ _⟩, (by show _ = _; rw [List.drop_zero]), ba (Below.refl _ _) _⟩
  case round =>
    obtain ⟨k, a, d, hk, rfl, rfl, hak, h5, HG, HFU, HDT, HE, hb⟩ := hrel
    by_cases hkn : k < ls.length
    · obtain ⟨x, hx⟩ : ∃ x, ls[k]? = some x := ⟨_, List.getElem?_eq_getElem hkn⟩
      have hxs := HSZ.out x (List.mem_of_getElem? hx)
      obtain ⟨lb, lp, rfl, hlt, cx⟩ := text_at (HR.out.below hb) hx
      have HST := dagGo_at (i := k) (a := a) (d := d) hx
      have HPS : Hid (∀ W, Calls Try.prog 88 #[.string x] W (PartsEnd x W)) := fun W => specParts_any x W (by omega)
      clear hx
      go_wp2_with fail
      refine (HPS.out _).mono ?_
      rintro e w2 ⟨pv, rfl, hop, hb2⟩
      have hb12 : Below w1.heap.size w1 w2 := hb.trans (hb2.mono hb.size)
      have BW2 : Below w.heap.size w w2 := Below.on B1 hb12
      have DR2 := DR.out.on hb12 hz
      have cx2 := (hb2.cell hlt).trans cx
      obtain ⟨hA, hA10⟩ := parts_all x
      have HDT2 : Hid (∃ tv, Dv w2 w1.heap.size d tv ∧ Tasks w2 tv d.tasks) := by
        obtain ⟨tv, h1, h2⟩ := HDT.out
        exact ⟨tv, h1.on hb2 h1.lt, h2.below hb2⟩
      have hgw : w1.heap.size < wr.heap.size := by obtain ⟨tv, h1, _⟩ := HDT.out; exact h1.lt
      clear HPS HDT
      cases hok : (partsR x).2 with
      | false =>
        rw [hok, if_neg (by decide)] at HST
        have HE2 : Hid (dagGo ls 0 0 zeroD = .error (k + 1)) := HE.out.trans HST
        have hrp := ownsS_reads hop
        obtain ⟨po, pc, rfl, -⟩ := id hrp
        generalize (texts (partsR x).1).length = np at *
        clear HST hok hop hrp hA hA10 HE HDT2
        clear DR2
        have HO : Hid (dagO s = (zeroD, (k : Int) + 1)) := by
          show _ = _
          unfold dagO
          rw [if_neg hl, HLS.out, HE2.out]
          rfl
        have DX := DR.out.on hb12 hz
        have BX : Below w.heap.size w w2 := Below.on B1 hb12
        have hgz : w.heap.size < w2.heap.size := DX.lt
        have r0 := DX.c0
        have r1 := DX.c1
        have r2 := DX.c2
        have r3 := DX.c3
        have r4 := DX.c4
        have r5 := DX.c5
        have rf0 := DX.fz 0
        have rf1 := DX.fz 1
        have rf2 := DX.fz 2
        have rf3 := DX.fz 3
        have rf4 := DX.fz 4
        have rf5 := DX.fz 5
        have HS6 : Hid (D6 (set6 w2 w.heap.size ⟨#[]⟩ ⟨#[]⟩ 0 0 false (.slice none 0 0)) w.heap.size ⟨#[]⟩ ⟨#[]⟩ 0 0 false (.slice none 0 0)) := DX.set ⟨#[]⟩ ⟨#[]⟩ 0 0 false (.slice none 0 0)
        clear DX
        go_wp2
        refine bodyPost_ret (ret_d2 rfl rfl rfl HS6.out) rfl ?_
        exact pd_no HO.out (below_set6 BX (Nat.le_refl _) ⟨#[]⟩ ⟨#[]⟩ 0 0 false (.slice none 0 0))
      | true =>
        rw [hok, if_pos rfl] at HST
        cases hp : texts (partsR x).1 with
        | nil =>
          rw [hp] at HST hop
          have HE2 : Hid (dagGo ls 0 0 zeroD = dagGo (ls.drop (k + 1)) (k + 1) a d) := HE.out.trans HST
          obtain ⟨po, pc, rfl⟩ := ownsS_empty hop
          clear HST hok hop hA hA10 HE hp
          go_wp2
          go_roundw
          case rel => exact ⟨k + 1, a, d, by omega, rfl, by go_num, by omega, h5, HG, HFU, HDT2, HE2, hb12⟩
          case measure => simp [intOf]; omega
        | cons y r =>
          rw [hp] at HST hop hA hA10
          obtain ⟨pb, pc, rfl, hpB, -⟩ := ownsS_form hop (by simp)
          have hrp := ownsS_reads hop
          obtain ⟨pb', pp', hq, hplt, c0⟩ := text_at hrp (k := 0) rfl
          simp only [Option.some.injEq, Addr.mk.injEq, and_true] at hq
          obtain ⟨e1, e2⟩ := hq
          subst e1 e2
          rw [Nat.add_zero] at c0
          have hy0 := (hA y (by simp)).2
          have HRP : Hid (Reads w2 (.slice (some ⟨pb, 0, none⟩) (y :: r).length pc) (y :: r)) := hrp
          have HA : Hid (∀ t ∈ y :: r, t.size ≤ 600) := fun t ht => (hA t ht).1
          have HPG : Hid (∀ b o n c, Value.slice (some ⟨pb, 0, none⟩) (y :: r).length pc = .slice (some ⟨b, o, none⟩) n c → b ≠ w1.heap.size) := by
            rintro b o n c e
            simp only [Value.slice.injEq, Option.some.injEq, Addr.mk.injEq] at e
            omega
          rw [skip_first, first_at hy0] at HST
          have HNP : Hid ((y :: r).length ≤ 10) := hA10
          obtain ⟨np, HN⟩ : ∃ n, Hid ((y :: r).length = n) := ⟨_, rfl⟩
          have hn0 : ((np : Int) == 0) = false := beq_eq_false_iff_ne.2 (by rw [← HN.out]; simp; omega)
          have hn1 : 0 < np := by rw [← HN.out]; simp
          clear hop hrp hA hA10 hp hok
          cases hc : (y[0].toNat == 35) with
          | true =>
            rw [hc, if_pos rfl] at HST
            have HE2 : Hid (dagGo ls 0 0 zeroD = dagGo (ls.drop (k + 1)) (k + 1) a d) := HE.out.trans HST
            rw [HN.out] at HRP HPG ⊢
            have hc2 : y[0].toNat = 35 := by simpa using hc
            have hc3 : ((y[0].toNat : Int) == 35) = true := by rw [hc2]; rfl
            clear HST HE
            go_wp2
            go_roundw
            case rel => exact ⟨k + 1, a, d, by omega, rfl, by go_num, by omega, h5, HG, HFU, HDT2, HE2, hb12⟩
            case measure => simp [intOf]; omega
          | false =>
            rw [hc, if_neg (by decide)] at HST
            have hc2 : ¬ y[0].toNat = 35 := by simpa using hc
            have hc3 : ((y[0].toNat : Int) == 35) = false := beq_eq_false_iff_ne.2 (by omega)
            by_cases ha : a < 5
            · have ha1 : decide ((a : Int) < 5) = true := decide_eq_true (by omega)
              have ha2 : decide (5 ≤ (a : Int)) = false := decide_eq_false (by omega)
              have ha3 : (a : Int) < 5 := by omega
              have e9 : stepO a d (y :: r) = headO a d (y :: r) := if_pos ha
              rw [e9] at HST
              obtain ⟨tv, hD, hT⟩ := HDT2.out
              have HH : Hid (Calls Try.prog 89 #[.pointer (some ⟨w1.heap.size, 0, none⟩), .int .i64 (a : Int), .string x, .slice (some ⟨pb, 0, none⟩) np pc] w2 (HeadE w1.heap.size tv w2 (headO a d (y :: r)))) := by
                have := head_any w1.heap.size _ tv x d (y :: r) w2 HRP.out hD (by simp) HNP.out HA.out HPG.out a ha
                rw [HN.out] at this
                exact this
              rw [HN.out] at ⊢
              have hT0 : d.tasks = [] := h5 (by omega)
              cases hq : headO a d (y :: r) with
              | some d' =>
                rw [hq] at HST HH
                obtain ⟨hg', ht'⟩ := headO_good hq HG.out HA.out
                have HG2 : Hid (Gd d') := hg'
                have HT2 : Hid (d'.tasks = []) := ht'.trans hT0
                have HE2 : Hid (dagGo ls 0 0 zeroD = dagGo (ls.drop (k + 1)) (k + 1) (a + 1) d') := HE.out.trans HST
                have HTS : Hid (Tasks w2 tv []) := by rw [hT0] at hT; exact hT
                clear HST hq e9 hD hT HE HG hT0 h5 hg' ht' HDT2 DR2
                go_wp2_with (go_at_call 89; refine HH.out.mono ?_; rintro e w3 ⟨rfl, hD3, hS3⟩)
                have hb13 : Below w1.heap.size w1 w3 := hb12.trans (hS3.below (Nat.le_refl _) hb12.size)
                go_roundw
                case rel => exact ⟨k + 1, a + 1, d', by omega, by go_num, by go_num, by omega, fun _ => HT2.out, HG2, (fun t ht => by rw [HT2.out] at ht; cases ht), ⟨tv, hD3, by rw [HT2.out]; obtain ⟨qo, qc, rfl⟩ := HTS.out.slice; exact tasks_zero _ _ _⟩, HE2, hb13⟩
                case measure => simp [intOf]; omega
              | none =>
                rw [hq] at HST HH
                have HE2 : Hid (dagGo ls 0 0 zeroD = .error (k + 1)) := HE.out.trans HST
                clear HST hq e9 hD hT HE HG h5 HDT2 DR2
                go_wp2_with fail
                refine HH.out.mono ?_
                rintro e w3 ⟨rfl, hS3⟩
                have hb13 : Below w1.heap.size w1 w3 := hb12.trans (hS3.below (Nat.le_refl _) hb12.size)
                have HO : Hid (dagO s = (zeroD, (k : Int) + 1)) := by
                  show _ = _
                  unfold dagO
                  rw [if_neg hl, HLS.out, HE2.out]
                  rfl
                have DX := DR.out.on hb13 hz
                have BX : Below w.heap.size w w3 := Below.on B1 hb13
                have hgz : w.heap.size < w3.heap.size := DX.lt
                have r0 := DX.c0
                have r1 := DX.c1
                have r2 := DX.c2
                have r3 := DX.c3
                have r4 := DX.c4
                have r5 := DX.c5
                have rf0 := DX.fz 0
                have rf1 := DX.fz 1
                have rf2 := DX.fz 2
                have rf3 := DX.fz 3
                have rf4 := DX.fz 4
                have rf5 := DX.fz 5
                have HS6 : Hid (D6 (set6 w3 w.heap.size ⟨#[]⟩ ⟨#[]⟩ 0 0 false (.slice none 0 0)) w.heap.size ⟨#[]⟩ ⟨#[]⟩ 0 0 false (.slice none 0 0)) := DX.set ⟨#[]⟩ ⟨#[]⟩ 0 0 false (.slice none 0 0)
                clear DX
                go_wp2
                refine bodyPost_ret (ret_d2 rfl rfl rfl HS6.out) rfl ?_
                exact pd_no HO.out (below_set6 BX (Nat.le_refl _) ⟨#[]⟩ ⟨#[]⟩ 0 0 false (.slice none 0 0))
            · have ha1 : decide ((a : Int) < 5) = false := decide_eq_false (by omega)
              have ha2 : decide (5 ≤ (a : Int)) = true := decide_eq_true (by omega)
              have ha3 : ¬ (a : Int) < 5 := by omega
              have e9 : stepO a d (y :: r) = lineO d (y :: r) := if_neg ha
              rw [e9] at HST
              obtain ⟨tv, hD, hT⟩ := HDT2.out
              have HH : Hid (Calls Try.prog 90 #[.pointer (some ⟨w1.heap.size, 0, none⟩), .slice (some ⟨pb, 0, none⟩) np pc] w2 (LineE w1.heap.size w2 (lineO d (y :: r)))) := by
                have := line_any w1.heap.size _ tv d (y :: r) w2 HRP.out hD hT (by have := HG.out.few; omega) HA.out
                rw [HN.out] at this
                exact this
              rw [HN.out] at ⊢
              cases hq : lineO d (y :: r) with
              | some d' =>
                rw [hq] at HST HH
                have HG2 : Hid (Gd d') := lineO_good hq HG.out HA.out
                have HFU2 : Hid (Fu d') := lineO_full hq HFU.out
                have HE2 : Hid (dagGo ls 0 0 zeroD = dagGo (ls.drop (k + 1)) (k + 1) (a + 1) d') := HE.out.trans HST
                clear HST hq e9 hD hT HE HG h5 HDT2 DR2
                go_wp2_with (go_at_call 90; refine HH.out.mono ?_; rintro e w3 ⟨rfl, hD3, hS3⟩)
                have hb13 : Below w1.heap.size w1 w3 := hb12.trans (hS3.below (Nat.le_refl _) hb12.size)
                go_roundw
                case rel => exact ⟨k + 1, a + 1, d', by omega, by go_num, by go_num, by omega, fun _ => by omega, HG2, HFU2, hD3, HE2, hb13⟩
                case measure => simp [intOf]; omega
              | none =>
                rw [hq] at HST HH
                have HE2 : Hid (dagGo ls 0 0 zeroD = .error (k + 1)) := HE.out.trans HST
                clear HST hq e9 hD hT HE HG h5 HDT2 DR2
                go_wp2_with fail
                refine HH.out.mono ?_
                rintro e w3 ⟨rfl, hS3⟩
                have hb13 : Below w1.heap.size w1 w3 := hb12.trans (hS3.below (Nat.le_refl _) hb12.size)
                have HO : Hid (dagO s = (zeroD, (k : Int) + 1)) := by
                  show _ = _
                  unfold dagO
                  rw [if_neg hl, HLS.out, HE2.out]
                  rfl
                have DX := DR.out.on hb13 hz
                have BX : Below w.heap.size w w3 := Below.on B1 hb13
                have hgz : w.heap.size < w3.heap.size := DX.lt
                have r0 := DX.c0
                have r1 := DX.c1
                have r2 := DX.c2
                have r3 := DX.c3
                have r4 := DX.c4
                have r5 := DX.c5
                have rf0 := DX.fz 0
                have rf1 := DX.fz 1
                have rf2 := DX.fz 2
                have rf3 := DX.fz 3
                have rf4 := DX.fz 4
                have rf5 := DX.fz 5
                have HS6 : Hid (D6 (set6 w3 w.heap.size ⟨#[]⟩ ⟨#[]⟩ 0 0 false (.slice none 0 0)) w.heap.size ⟨#[]⟩ ⟨#[]⟩ 0 0 false (.slice none 0 0)) := DX.set ⟨#[]⟩ ⟨#[]⟩ 0 0 false (.slice none 0 0)
                clear DX
                go_wp2
                refine bodyPost_ret (ret_d2 rfl rfl rfl HS6.out) rfl ?_
                exact pd_no HO.out (below_set6 BX (Nat.le_refl _) ⟨#[]⟩ ⟨#[]⟩ 0 0 false (.slice none 0 0))
    · have hke : k = ls.length := by omega
      have HE2 : Hid (dagGo ls 0 0 zeroD = .ok d) := HE.out.trans (dagGo_end hke)
      obtain ⟨tv, hD, hT⟩ := HDT.out
      obtain ⟨to, tc, rfl⟩ := hT.slice
      have HDO : Hid (Calls Try.prog 91 #[.agg #[.string d.name, .string d.cron, .int .i64 d.fr, .int .i64 d.up, .bool d.cu, .slice to d.tasks.length tc]] wr fun e w' => e = .returned (.bool (dagB d)) ∧ Below wr.heap.size wr w') := dagOk_try _ d.name d.cron d.fr d.up d.cu d.tasks wr (HG.out.at hT)
      have HTT : Hid (Tasks wr (.slice to d.tasks.length tc) d.tasks) := hT
      have HDF : Hid (dagO s = if dagB d = true then (d, 0) else (zeroD, (ls.length : Int) + 1)) := by
        show _ = _
        unfold dagO
        rw [if_neg hl, HLS.out, HE2.out]
      have HD6 : Hid (D6 wr w1.heap.size d.name d.cron d.fr d.up d.cu (.slice to d.tasks.length tc)) := hD
      obtain ⟨dn, dc, df, du, dcu, dts⟩ := d
      have hgl := HD6.out.lt
      have g0 := HD6.out.c0
      have g1 := HD6.out.c1
      have g2 := HD6.out.c2
      have g3 := HD6.out.c3
      have g4 := HD6.out.c4
      have g5 := HD6.out.c5
      clear hD hT HE HDT
      simp only at g0 g1 g2 g3 g4 g5
      subst hke
      go_wp2_with fail
      refine HDO.out.mono ?_
      rintro e w3 ⟨rfl, hb3⟩
      have hb13 : Below w1.heap.size w1 w3 := hb.trans (hb3.mono hb.size)
      have DX := DR.out.on hb13 hz
      have BX : Below w.heap.size w w3 := Below.on B1 hb13
      have hgz : w.heap.size < w3.heap.size := DX.lt
      have r0 := DX.c0
      have r1 := DX.c1
      have r2 := DX.c2
      have r3 := DX.c3
      have r4 := DX.c4
      have r5 := DX.c5
      have rf0 := DX.fz 0
      have rf1 := DX.fz 1
      have rf2 := DX.fz 2
      have rf3 := DX.fz 3
      have rf4 := DX.fz 4
      have rf5 := DX.fz 5
      have HD3 : Hid (D6 w3 w1.heap.size dn dc df du dcu (.slice to dts.length tc)) := HD6.out.on hb3 hgl
      have s0 := HD3.out.c0
      have s1 := HD3.out.c1
      have s2 := HD3.out.c2
      have s3 := HD3.out.c3
      have s4 := HD3.out.c4
      have s5 := HD3.out.c5
      cases hq : dagB ⟨dn, dc, df, du, dcu, dts⟩ with
      | false =>
        have HO : Hid (dagO s = (zeroD, (ls.length : Int) + 1)) := by
          show _ = _
          rw [HDF.out, hq]
          rfl
        have HS6 : Hid (D6 (set6 w3 w.heap.size ⟨#[]⟩ ⟨#[]⟩ 0 0 false (.slice none 0 0)) w.heap.size ⟨#[]⟩ ⟨#[]⟩ 0 0 false (.slice none 0 0)) := DX.set ⟨#[]⟩ ⟨#[]⟩ 0 0 false (.slice none 0 0)
        clear DX hq HDF
        go_wp2
        refine bodyPost_ret (ret_d2 rfl rfl rfl HS6.out) rfl ?_
        exact pd_no HO.out (below_set6 BX (Nat.le_refl _) ⟨#[]⟩ ⟨#[]⟩ 0 0 false (.slice none 0 0))
      | true =>
        have HO : Hid (dagO s = (⟨dn, dc, df, du, dcu, dts⟩, 0)) := by
          show _ = _
          rw [HDF.out, hq]
          rfl
        have HS6 : Hid (D6 (set6 w3 w.heap.size dn dc df du dcu (.slice to dts.length tc)) w.heap.size dn dc df du dcu (.slice to dts.length tc)) := DX.set dn dc df du dcu (.slice to dts.length tc)
        have HTF : Hid (Tasks (set6 w3 w.heap.size dn dc df du dcu (.slice to dts.length tc)) (.slice to dts.length tc) dts) := tasks_far (b := w.heap.size) DX (HTT.out.below hb3) HFU.out (by simp [set6, World.setCell]) (fun k hk => far6 hk)
        clear DX hq HDF
        go_wp2
        refine bodyPost_ret (ret_d2 rfl rfl rfl HS6.out) rfl ?_
        exact ⟨.slice to dts.length tc, by rw [HO.out]; rfl, by rw [HO.out]; exact HTF.out, below_set6 BX (Nat.le_refl _) _ _ _ _ _ _⟩

end Go.Proofs.Ytehkebdncfljmaa
