/- Edf,Lo,Pdp,Far,Rvb -/
import Derived.Test.YtpjpheicldegkaaGreatDoorMgs
import Derived.Test.YtpjpheicldegkaaGreatDoorEs
import Derived.Test.YtpjpheicldegkaaGreatDoorGM5
import Derived.Test.YtpjpheicldegkaaGreatDoorGM15
import Derived.Test.YtpjpheicldegkaaGreatDoorHd1
import Derived.Test.YtpjpheicldegkaaGreatDoorLiz
import Derived.Test.YtpjpheicldegkaaGreatDoorLix
import Derived.Test.YtpjpheicldegkaaGreatDoorGM4
namespace Go.Proofs.YtpjpheicldegkaaGreatDoor
open Go Go.RowKit

def tx8 (f : En) : ByteArray := textX 1 f.term f.kind f.data
def encS (kd fr up tm ix lt cm : Int) (ok : Bool) (da : ByteArray) (la : Bool) (es : List En) (cs : List Int) : ByteArray := bstr [kd, fr, up] ++ bstr (varI tm.toNat) ++ bstr (varI ix.toNat) ++ bstr (varI lt.toNat) ++ bstr (varI cm.toNat) ++ flagS ok ++ flagS la ++ bstr (varI es.length) ++ shoS (es.map tx8) ++ qsa (textC cs) ++ qsa da
def encV (kd fr up tm ix lt cm : Int) (ok : Bool) (da : ByteArray) (la : Bool) (es : List En) (cs : List Int) : Value := if okM kd fr up tm ix lt cm da la es cs then .tuple #[.string (encS kd fr up tm ix lt cm ok da la es cs), .bool true] else .tuple #[.string ⟨#[]⟩, .bool false]
theorem bstr_three (a b c : Int) : bstr [a, b, c] = bstr [a] ++ bstr [b] ++ bstr [c] := by
  rw [← bstr_cons a [b, c], ← bstr_cons b [c], ByteArray.append_assoc]
theorem tx8_size (f : En) (_ : f.data.size ≤ 1048576) : (tx8 f).size ≤ 700 := by
  unfold tx8 textX
  cases h : okX 1 f.term f.kind f.data with
  | false => exact Nat.zero_le _
  | true =>
    obtain ⟨h1, h2, h3, h4, h5, h6, h7⟩ := okX_out h
    have e1 : (⟨#[69]⟩ : ByteArray).size = 1 := rfl
    have e2 := qic (n := (1 : Int).toNat) (by decide)
    have e3 := qic (n := f.term.toNat) (by omega)
    show (textE 1 f.term f.kind f.data).size ≤ 700
    unfold textE rawE
    simp only [ByteArray.size_append, qra, List.length_cons, List.length_nil]
    omega
theorem textC_size (cs : List Int) : (textC cs).size ≤ 4 := by
  unfold textC
  cases h : okC cs with
  | false => exact Nat.zero_le _
  | true =>
    show (bstr cs).size ≤ 4
    rw [qra]
    exact okC_len h
theorem okM_fine {kd fr up tm ix lt cm : Int} {da : ByteArray} {la : Bool} {es : List En} {cs : List Int} (h : okM kd fr up tm ix lt cm da la es cs = true) : 1 ≤ kd ∧ kd ≤ 6 ∧ 1 ≤ fr ∧ fr ≤ 4 ∧ 1 ≤ up ∧ up ≤ 4 ∧ 0 ≤ tm ∧ tm ≤ 100000 ∧ 0 ≤ lt ∧ lt ≤ 100000 ∧ 0 ≤ ix ∧ ix ≤ 1000000 ∧ 0 ≤ cm ∧ cm ≤ 1000000 ∧ es.length ≤ 4 ∧ da.size ≤ 60 := by
  have h2 := h
  rw [okM_eq] at h2
  unfold okMs sendS tailM headM wiB at h2
  simp only [Bool.and_eq_true, decide_eq_true_eq] at h2
  obtain ⟨⟨⟨a1, a2⟩, ⟨b1, b2⟩, ⟨c1, c2⟩, _, ⟨d1, d2⟩, ⟨e1, e2⟩, ⟨f1, f2⟩, g1, g2⟩, ⟨l1, _⟩, t⟩ := h2
  refine ⟨a1, a2, b1, b2, c1, c2, d1, d2, e1, e2, f1, f2, g1, g2, l1, ?_⟩
  split at t
  · unfold chunkM at t
    simp only [Bool.and_eq_true, decide_eq_true_eq] at t
    exact t.2
  · unfold noneC at t
    simp only [Bool.and_eq_true, decide_eq_true_eq] at t
    have h3 := qjc da
    unfold qwd at h3
    rw [t.2.1] at h3
    simp at h3
    omega
end Go.Proofs.YtpjpheicldegkaaGreatDoor

namespace Go.Proofs.YtpjpheicldegkaaGreatDoor
open Go Go.RowKit

def headO : Nat → Dg → List ByteArray → Option Dg
  | 0, d, [p0, p1] => if (p0.toList == [100, 97, 103] && nameB p1) = true then some { d with name := p1 } else none
  | 1, d, [p0, p1, p2, p3, p4, p5] => if (p0.toList == [99, 114, 111, 110]) = true then (if (pcO (joinC p1 p2 p3 p4 p5)).isSome = true then some { d with cron := againS (joinC p1 p2 p3 p4 p5) } else none) else none
  | 2, d, [p0, p1] => if ((rd p1).2 && decide ((rd p1).1 ≤ 68374079)) = true then (if (p0.toList == [102, 114, 111, 109]) = true then some { d with fr := (rd p1).1 } else none) else none
  | 3, d, [p0, p1] => if ((rd p1).2 && decide ((rd p1).1 ≤ 68374079)) = true then (if (p0.toList == [116, 111] && decide (d.fr ≤ (rd p1).1)) = true then some { d with up := (rd p1).1 } else none) else none
  | 4, d, [p0] => if (p0.toList == [99, 97, 116, 99, 104, 117, 112] || p0.toList == [108, 97, 116, 101, 115, 116]) = true then some { d with cu := p0.toList == [99, 97, 116, 99, 104, 117, 112] } else none
  | _, _, _ => none
def lineO : Dg → List ByteArray → Option Dg
  | d, [p0, p1, p2, p3, p4] => if lineT d.tasks p0 p1 p2 p3 p4 = true then some { d with tasks := d.tasks ++ [⟨p1, p2, (rd p3).1, decide (p4 = ⟨#[112, 97, 115, 116]⟩), []⟩] } else none
  | d, [p0, p1, p2, p3, p4, p5] => if lineT d.tasks p0 p1 p2 p3 p4 = true then (match qre p5 with
    | some nl => some { d with tasks := d.tasks ++ [⟨p1, p2, (rd p3).1, decide (p4 = ⟨#[112, 97, 115, 116]⟩), nl⟩] }
    | none => none) else none
  | _, _ => none
def Dv (w : World) (g : Nat) (d : Dg) (tv : Value) : Prop := D6 w g d.name d.cron d.fr d.up d.cu tv
def HeadE (g : Nat) (tv : Value) (w : World) (x : Option Dg) (e : Ending) (w' : World) : Prop :=
  match x with
  | some d => e = .returned (.bool true) ∧ Dv w' g d tv ∧ Save g w w'
  | none => e = .returned (.bool false) ∧ Save g w w'
def LineE (g : Nat) (w : World) (x : Option Dg) (e : Ending) (w' : World) : Prop :=
  match x with
  | some d => e = .returned (.bool true) ∧ (∃ tv, Dv w' g d tv ∧ Tasks w' tv d.tasks) ∧ Save g w w'
  | none => e = .returned (.bool false) ∧ Save g w w'
theorem head_if {g : Nat} {tv : Value} {w w' : World} {b : Bool} {d : Dg} {e : Ending} (h : e = .returned (.bool b) ∧ Dv w' g d tv ∧ Save g w w') : HeadE g tv w (if b = true then some d else none) e w' := by
  cases b
  · exact ⟨h.1, h.2.2⟩
  · exact h
theorem last_at {p : List ByteArray} {k : Nat} (h : p.length = k + 1) : ∃ x, p[k]? = some x := ⟨_, List.getElem?_eq_getElem (by omega)⟩

theorem head_zero (g : Nat) (pv tv : Value) (ln : ByteArray) (d : Dg) (p : List ByteArray) (w : World) (hp : Reads w pv p) (hd : Dv w g d tv) (hne : p ≠ []) (hlen : p.length ≤ 10) (hs : ∀ x ∈ p, x.size ≤ 600) (hpg : ∀ b o n c, pv = .slice (some ⟨b, o, none⟩) n c → b ≠ g) : Calls Tryz.prog 112 #[.pointer (some ⟨g, 0, none⟩), .int .i64 0, .string ln, pv] w (HeadE g tv w (headO 0 d p)) := by
  obtain ⟨k, hk⟩ : ∃ k, p.length = k + 1 := ⟨p.length - 1, by cases p with | nil => exact absurd rfl hne | cons a l => simp⟩
  obtain ⟨x, hx⟩ := last_at hk
  by_cases h2 : k = 1
  · subst h2
    match p, hk with
    | [p0, p1], _ =>
      refine (head0_two g pv tv d.name d.cron ln d.fr d.up d.cu p0 p1 w hp hd (by have := hs p1 (by simp); omega) hpg).mono ?_
      intro e w' h
      exact head_if (d := { d with name := p1 }) h
  · have e : headO 0 d p = none := by
      match p, hk with
      | [_], _ => rfl
      | [_, _], hk => simp at hk; omega
      | _ :: _ :: _ :: _, _ => rfl
    rw [e]
    exact (head0_no g pv tv d.name d.cron ln d.fr d.up d.cu p x k w hp hd hk hx h2 (by omega)).mono fun _ _ h => h

theorem head_one (g : Nat) (pv tv : Value) (ln : ByteArray) (d : Dg) (p : List ByteArray) (w : World) (hp : Reads w pv p) (hd : Dv w g d tv) (hne : p ≠ []) (hs : ∀ x ∈ p, x.size ≤ 600) : Calls Tryz.prog 112 #[.pointer (some ⟨g, 0, none⟩), .int .i64 1, .string ln, pv] w (HeadE g tv w (headO 1 d p)) := by
  obtain ⟨k, hk⟩ : ∃ k, p.length = k + 1 := ⟨p.length - 1, by cases p with | nil => exact absurd rfl hne | cons a l => simp⟩
  by_cases h2 : k = 5
  · subst h2
    match p, hk with
    | [p0, p1, p2, p3, p4, p5], _ =>
      cases h0 : (p0.toList == [99, 114, 111, 110]) with
      | true =>
        have e : headO 1 d [p0, p1, p2, p3, p4, p5] = if (pcO (joinC p1 p2 p3 p4 p5)).isSome = true then some { d with cron := againS (joinC p1 p2 p3 p4 p5) } else none := by simp only [headO, h0, if_true]
        rw [e]
        refine (head1_six g pv tv d.name d.cron ln d.fr d.up d.cu p0 p1 p2 p3 p4 p5 w hp hd (by have h1 := hs p1 (by simp); have h2 := hs p2 (by simp); have h3 := hs p3 (by simp); have h4 := hs p4 (by simp); have h5 := hs p5 (by simp); omega) h0).mono ?_
        intro e w' h
        exact head_if (d := { d with cron := againS (joinC p1 p2 p3 p4 p5) }) h
      | false =>
        have e : headO 1 d [p0, p1, p2, p3, p4, p5] = none := by simp [headO, h0]
        rw [e]
        exact (head1_bad g pv ln p0 p1 p2 p3 p4 p5 w hp h0).mono fun _ _ h => h
  · have e : headO 1 d p = none := by
      match p, hk with
      | [_], _ => rfl
      | [_, _], _ => rfl
      | [_, _, _], _ => rfl
      | [_, _, _, _], _ => rfl
      | [_, _, _, _, _], _ => rfl
      | [_, _, _, _, _, _], hk => simp at hk; omega
      | _ :: _ :: _ :: _ :: _ :: _ :: _ :: _, _ => rfl
    rw [e]
    exact (head1_no g pv ln p k w hp hk h2).mono fun _ _ h => h

theorem head_two (g : Nat) (pv tv : Value) (ln : ByteArray) (d : Dg) (p : List ByteArray) (w : World) (hp : Reads w pv p) (hd : Dv w g d tv) (hne : p ≠ []) (hlen : p.length ≤ 10) (hs : ∀ x ∈ p, x.size ≤ 600) (hpg : ∀ b o n c, pv = .slice (some ⟨b, o, none⟩) n c → b ≠ g) : Calls Tryz.prog 112 #[.pointer (some ⟨g, 0, none⟩), .int .i64 2, .string ln, pv] w (HeadE g tv w (headO 2 d p)) := by
  obtain ⟨k, hk⟩ : ∃ k, p.length = k + 1 := ⟨p.length - 1, by cases p with | nil => exact absurd rfl hne | cons a l => simp⟩
  obtain ⟨x, hx⟩ := last_at hk
  by_cases h2 : k = 1
  · subst h2
    match p, hk with
    | [p0, p1], _ =>
      have h1 := hs p1 (by simp)
      cases hb : ((rd p1).2 && decide ((rd p1).1 ≤ 68374079)) with
      | true =>
        have e : headO 2 d [p0, p1] = if (p0.toList == [102, 114, 111, 109]) = true then some { d with fr := (rd p1).1 } else none := by simp only [headO, hb, if_true]
        rw [e]
        simp only [Bool.and_eq_true, decide_eq_true_eq] at hb
        refine (head2_two g pv tv d.name d.cron ln d.fr d.up d.cu p0 p1 (rd p1).1 w hp hd (by omega) hpg (Prod.ext rfl hb.1) hb.2).mono ?_
        intro e w' h
        exact head_if (d := { d with fr := (rd p1).1 }) h
      | false =>
        have e : headO 2 d [p0, p1] = none := by simp only [headO, hb]; rfl
        rw [e]
        exact (head2_bad g pv ln p0 p1 w hp (by omega) hb).mono fun _ _ h => h
  · have e : headO 2 d p = none := by
      match p, hk with
      | [_], _ => rfl
      | [_, _], hk => simp at hk; omega
      | _ :: _ :: _ :: _, _ => rfl
    rw [e]
    exact (head2_no g pv ln p x k w hp hk hx h2 (by omega) (by have := hs x (List.mem_of_getElem? hx); omega)).mono fun _ _ h => h

theorem head_three (g : Nat) (pv tv : Value) (ln : ByteArray) (d : Dg) (p : List ByteArray) (w : World) (hp : Reads w pv p) (hd : Dv w g d tv) (hne : p ≠ []) (hlen : p.length ≤ 10) (hs : ∀ x ∈ p, x.size ≤ 600) (hpg : ∀ b o n c, pv = .slice (some ⟨b, o, none⟩) n c → b ≠ g) : Calls Tryz.prog 112 #[.pointer (some ⟨g, 0, none⟩), .int .i64 3, .string ln, pv] w (HeadE g tv w (headO 3 d p)) := by
  obtain ⟨k, hk⟩ : ∃ k, p.length = k + 1 := ⟨p.length - 1, by cases p with | nil => exact absurd rfl hne | cons a l => simp⟩
  obtain ⟨x, hx⟩ := last_at hk
  by_cases h2 : k = 1
  · subst h2
    match p, hk with
    | [p0, p1], _ =>
      have h1 := hs p1 (by simp)
      cases hb : ((rd p1).2 && decide ((rd p1).1 ≤ 68374079)) with
      | true =>
        have e : headO 3 d [p0, p1] = if (p0.toList == [116, 111] && decide (d.fr ≤ (rd p1).1)) = true then some { d with up := (rd p1).1 } else none := by simp only [headO, hb, if_true]
        rw [e]
        simp only [Bool.and_eq_true, decide_eq_true_eq] at hb
        refine (head3_two g pv tv d.name d.cron ln d.fr d.up d.cu p0 p1 (rd p1).1 w hp hd (by omega) hpg (Prod.ext rfl hb.1) hb.2).mono ?_
        intro e w' h
        exact head_if (d := { d with up := (rd p1).1 }) h
      | false =>
        have e : headO 3 d [p0, p1] = none := by simp only [headO, hb]; rfl
        rw [e]
        exact (head3_bad g pv ln p0 p1 w hp (by omega) hb).mono fun _ _ h => h
  · have e : headO 3 d p = none := by
      match p, hk with
      | [_], _ => rfl
      | [_, _], hk => simp at hk; omega
      | _ :: _ :: _ :: _, _ => rfl
    rw [e]
    exact (head3_no g pv ln p x k w hp hk hx h2 (by omega) (by have := hs x (List.mem_of_getElem? hx); omega)).mono fun _ _ h => h

theorem head_four (g : Nat) (pv tv : Value) (ln : ByteArray) (d : Dg) (p : List ByteArray) (w : World) (hp : Reads w pv p) (hd : Dv w g d tv) (hne : p ≠ []) (hpg : ∀ b o n c, pv = .slice (some ⟨b, o, none⟩) n c → b ≠ g) : Calls Tryz.prog 112 #[.pointer (some ⟨g, 0, none⟩), .int .i64 4, .string ln, pv] w (HeadE g tv w (headO 4 d p)) := by
  obtain ⟨k, hk⟩ : ∃ k, p.length = k + 1 := ⟨p.length - 1, by cases p with | nil => exact absurd rfl hne | cons a l => simp⟩
  by_cases h2 : k = 0
  · subst h2
    match p, hk with
    | [p0], _ =>
      refine (head4_one g pv tv d.name d.cron ln d.fr d.up d.cu p0 w hp hd hpg).mono ?_
      intro e w' h
      exact head_if (d := { d with cu := p0.toList == [99, 97, 116, 99, 104, 117, 112] }) h
  · have e : headO 4 d p = none := by
      match p, hk with
      | [_], hk => simp at hk; omega
      | _ :: _ :: _, _ => rfl
    rw [e]
    obtain ⟨x, hx⟩ : ∃ x, p[0]? = some x := ⟨_, List.getElem?_eq_getElem (by omega)⟩
    exact (head4_no g pv tv d.name d.cron ln d.fr d.up d.cu p x k w hp hd hk hx h2).mono fun _ _ h => h

theorem head_any (g : Nat) (pv tv : Value) (ln : ByteArray) (d : Dg) (p : List ByteArray) (w : World) (hp : Reads w pv p) (hd : Dv w g d tv) (hne : p ≠ []) (hlen : p.length ≤ 10) (hs : ∀ x ∈ p, x.size ≤ 600) (hpg : ∀ b o n c, pv = .slice (some ⟨b, o, none⟩) n c → b ≠ g) (a : Nat) (ha : a < 5) : Calls Tryz.prog 112 #[.pointer (some ⟨g, 0, none⟩), .int .i64 (a : Int), .string ln, pv] w (HeadE g tv w (headO a d p)) := by
  match a, ha with
  | 0, _ => exact head_zero g pv tv ln d p w hp hd hne hlen hs hpg
  | 1, _ => exact head_one g pv tv ln d p w hp hd hne hs
  | 2, _ => exact head_two g pv tv ln d p w hp hd hne hlen hs hpg
  | 3, _ => exact head_three g pv tv ln d p w hp hd hne hlen hs hpg
  | 4, _ => exact head_four g pv tv ln d p w hp hd hne hpg

set_option maxRecDepth 10000 in
set_option maxHeartbeats 4000000 in
theorem line_len (g : Nat) (pv : Value) (p : List ByteArray) (n : Nat) (w : World) (hp : Reads w pv p) (hk : p.length = n) (h5 : n ≠ 5) (h6 : n ≠ 6) :
    Calls Tryz.prog 113 #[.pointer (some ⟨g, 0, none⟩), pv] w fun e w' => e = .returned (.bool false) ∧ Save g w w' := by
  obtain ⟨po, pc, rfl, -⟩ := id hp
  rw [hk]
  have e5 : ((n : Int) != 5) = true := bne_iff_ne.2 (by omega)
  have e6 : ((n : Int) != 6) = true := bne_iff_ne.2 (by omega)
  clear hp hk h5 h6
  go_enter Tryz.func113, Tryz.ntmps113
  go_wp2
  refine qba (by kernel_rfl) (by kernel_rfl) ?_
  repeat (go_big_quiet_step (fail))
  refine wpQuiet_nil ?_
  rintro _ ⟨x, rfl⟩
  go_wp2
  go_ret
  exact ⟨rfl, Save.of_below x.ok⟩
theorem line_any (g : Nat) (pv tv : Value) (d : Dg) (p : List ByteArray) (w : World) (hp : Reads w pv p) (hd : Dv w g d tv) (ht : Tasks w tv d.tasks) (hn : d.tasks.length ≤ 100000) (hs : ∀ x ∈ p, x.size ≤ 600) :
    Calls Tryz.prog 113 #[.pointer (some ⟨g, 0, none⟩), pv] w (LineE g w (lineO d p)) := by
  have hs' : ∀ x ∈ p, x.size ≤ 100000 := fun x hx => by have := hs x hx; omega
  by_cases h5 : p.length = 5
  · match p, h5 with
    | [p0, p1, p2, p3, p4], _ =>
      cases hb : lineT d.tasks p0 p1 p2 p3 p4 with
      | true =>
        have e : lineO d [p0, p1, p2, p3, p4] = some { d with tasks := d.tasks ++ [⟨p1, p2, (rd p3).1, decide (p4 = ⟨#[112, 97, 115, 116]⟩), []⟩] } := by simp only [lineO, hb, if_true]
        rw [e]
        refine (line_yes5 g pv tv d.name d.cron d.fr d.up d.cu d.tasks p0 p1 p2 p3 p4 w hp hd ht hn hs' hb).mono ?_
        rintro e w' ⟨rfl, tv', h1, h2, h3⟩
        exact ⟨rfl, ⟨tv', h1, h2⟩, h3⟩
      | false =>
        have e : lineO d [p0, p1, p2, p3, p4] = none := by simp [lineO, hb]
        rw [e]
        exact (line_no5 g pv tv d.name d.cron d.fr d.up d.cu d.tasks p0 p1 p2 p3 p4 w hp hd ht hn hs' hb).mono fun _ _ h => ⟨h.1, Save.of_below h.2⟩
  · by_cases h6 : p.length = 6
    · match p, h6 with
      | [p0, p1, p2, p3, p4, p5], _ =>
        cases hb : lineT d.tasks p0 p1 p2 p3 p4 with
        | true =>
          cases hl : qre p5 with
          | some nl =>
            have e : lineO d [p0, p1, p2, p3, p4, p5] = some { d with tasks := d.tasks ++ [⟨p1, p2, (rd p3).1, decide (p4 = ⟨#[112, 97, 115, 116]⟩), nl⟩] } := by simp only [lineO, hb, if_true, hl]
            rw [e]
            refine (line_yes6 g pv tv d.name d.cron d.fr d.up d.cu d.tasks p0 p1 p2 p3 p4 p5 w hp hd ht hn hs' hb nl hl).mono ?_
            rintro e w' ⟨rfl, tv', h1, h2, h3⟩
            exact ⟨rfl, ⟨tv', h1, h2⟩, h3⟩
          | none =>
            have e : lineO d [p0, p1, p2, p3, p4, p5] = none := by simp [lineO, hl]
            rw [e]
            exact (line_nam6 g pv tv d.name d.cron d.fr d.up d.cu d.tasks p0 p1 p2 p3 p4 p5 w hp hd ht hn hs' hb hl).mono fun _ _ h => ⟨h.1, Save.of_below h.2⟩
        | false =>
          have e : lineO d [p0, p1, p2, p3, p4, p5] = none := by simp [lineO, hb]
          rw [e]
          exact (line_no6 g pv tv d.name d.cron d.fr d.up d.cu d.tasks p0 p1 p2 p3 p4 p5 w hp hd ht hn hs' hb).mono fun _ _ h => ⟨h.1, Save.of_below h.2⟩
    · have e : lineO d p = none := by
        match p, h5, h6 with
        | [], _, _ => rfl
        | [_], _, _ => rfl
        | [_, _], _, _ => rfl
        | [_, _, _], _, _ => rfl
        | [_, _, _, _], _, _ => rfl
        | [_, _, _, _, _], h5, _ => exact absurd rfl h5
        | [_, _, _, _, _, _], _, h6 => exact absurd rfl h6
        | _ :: _ :: _ :: _ :: _ :: _ :: _ :: _, _, _ => rfl
      rw [e]
      exact (line_len g pv p p.length w hp rfl h5 h6).mono fun _ _ h => h

end Go.Proofs.YtpjpheicldegkaaGreatDoor

namespace Go.Proofs.YtpjpheicldegkaaGreatDoor
open Go Go.RowKit

theorem fieldsGo_ne : ∀ (l cur t : List UInt8), t ∈ Lib.fieldsGo cur l → t ≠ []
  | [], cur, t, h => by
    unfold Lib.fieldsGo at h
    split at h
    · cases h
    · rename_i hc; rw [List.mem_singleton] at h; subst h; exact fun e => hc (by rw [e]; rfl)
  | b :: l, cur, t, h => by
    unfold Lib.fieldsGo at h
    split at h
    · split at h
      · exact fieldsGo_ne l [] t h
      · rename_i hc
        rcases List.mem_cons.1 h with rfl | h
        · exact fun e => hc (by rw [e]; rfl)
        · exact fieldsGo_ne l [] t h
    · exact fieldsGo_ne l (cur ++ [b]) t h
theorem parts_all (s : ByteArray) : (∀ t ∈ texts (qfb s).1, t.size ≤ 600 ∧ 0 < t.size) ∧ (texts (qfb s).1).length ≤ 10 := by
  unfold qfb
  split
  · simp [texts]
  · rename_i h6
    split
    · split
      · simp [texts]
      · rename_i hm
        refine ⟨fun t ht => ?_, by rw [texts_length]; show (Lib.fields s.data.toList).length ≤ 10; omega⟩
        unfold texts at ht
        obtain ⟨u, hu, rfl⟩ := List.mem_map.1 ht
        have h1 := qqe _ [] u hu
        have h2 := fieldsGo_ne _ [] u hu
        have h3 : 0 < u.length := List.length_pos_iff.2 h2
        have h7 : s.data.size = s.size := rfl
        constructor
        · show u.toArray.size ≤ _
          simp at h1 ⊢
          omega
        · show 0 < u.toArray.size
          simpa using h3
    · simp [texts]
theorem extract_sz (s : ByteArray) (a b : Nat) : (s.extract a b).size ≤ s.size := by simp [ByteArray.size_extract]; omega
theorem linesN_sz (s : ByteArray) : ∀ i, ∀ t ∈ (qrb s i).1, t.size ≤ s.size
  | 0, t, h => by simp [qrb] at h
  | i + 1, t, h => by
    unfold qrb at h
    split at h
    · rcases List.mem_append.1 h with h | h
      · exact linesN_sz s i t h
      · rw [List.mem_singleton] at h; subst h; exact extract_sz s _ _
    · exact linesN_sz s i t h
theorem lines_sz (s : ByteArray) : ∀ t ∈ qxc s, t.size ≤ s.size := by
  intro t h
  unfold qxc at h
  split at h
  · rcases List.mem_append.1 h with h | h
    · exact linesN_sz s _ t h
    · rw [List.mem_singleton] at h; subst h; exact extract_sz s _ _
  · exact linesN_sz s _ t h
theorem lines_len (s : ByteArray) : (qxc s).length ≤ s.size + 1 := by
  have := (linesN_bd s s.size).2
  unfold qxc
  split
  · simp; omega
  · omega
theorem namesGo_len : ∀ (p l nl : List ByteArray), qad p l = some nl → nl.length ≤ l.length + p.length
  | [], l, nl, h => by simp only [qad, Option.some.injEq] at h; subst h; simp
  | s :: r, l, nl, h => by
    unfold qad at h
    split at h
    · have h1 := namesGo_len r _ nl h
      have h2 := insN_len1 (l := l) s
      simp; omega
    · cases h
theorem namesO_len {s : ByteArray} {nl : List ByteArray} (h : qre s = some nl) : nl.length ≤ s.size + 1 := by
  have h1 := namesGo_len _ _ _ h
  have h2 := (cutsN_bd s 44 (s.size + 1)).2
  unfold splitB at h1
  simp at h1
  omega
theorem cronX_size (a b c d e : List Int) : (cronX a b c d e).size ≤ 1000 := by
  unfold cronX
  split
  · rename_i hq
    unfold cronB at hq
    simp only [Bool.and_eq_true] at hq
    obtain ⟨q0, q1, q2, q3, q4⟩ := hq
    have y0 := qdc 60 (qrd (by decide) (by decide) (by decide) q0)
    have y1 := qdc 24 (qrd (by decide) (by decide) (by decide) q1)
    have y2 := qdc 31 (qrd (by decide) (by decide) (by decide) q2)
    have y3 := qdc 12 (qrd (by decide) (by decide) (by decide) q3)
    have y4 := qdc 7 (qrd (by decide) (by decide) (by decide) q4)
    have one : (ByteArray.mk #[32]).size = 1 := rfl
    unfold cronS
    simp only [ByteArray.size_append, one]
    omega
  · show 0 ≤ _; omega
structure Gd (d : Dg) : Prop where
  few : d.tasks.length ≤ 4
  small : ∀ t ∈ d.tasks, t.after.length ≤ 1000 ∧ t.name.size ≤ 1000
  cron : d.cron.size ≤ 1000
  name : d.name.size ≤ 1000
theorem Gd.at {w : World} {tv : Value} {d : Dg} (h : Gd d) (ht : Tasks w tv d.tasks) : DagAt w tv d := ⟨ht, by have := h.few; omega, fun t hm => by have := h.small t hm; omega, by have := h.cron; omega, by have := h.name; omega⟩
def zeroD : Dg := ⟨⟨#[]⟩, ⟨#[]⟩, 0, 0, false, []⟩
theorem gd_zero : Gd zeroD := ⟨Nat.zero_le _, (fun _ h => nomatch h), Nat.zero_le _, Nat.zero_le _⟩
theorem headO_good {a : Nat} {d d' : Dg} {p : List ByteArray} (h : headO a d p = some d') (hg : Gd d) (hs : ∀ x ∈ p, x.size ≤ 600) : Gd d' ∧ d'.tasks = d.tasks := by
  unfold headO at h
  split at h
  · split at h
    · cases h; exact ⟨⟨hg.few, hg.small, hg.cron, Nat.le_trans (hs _ (List.mem_cons_of_mem _ (List.mem_cons_self ..))) (by decide)⟩, rfl⟩
    · cases h
  · split at h
    · split at h
      · cases h; exact ⟨⟨hg.few, hg.small, cronX_size _ _ _ _ _, hg.name⟩, rfl⟩
      · cases h
    · cases h
  · split at h
    · split at h
      · cases h; exact ⟨⟨hg.few, hg.small, hg.cron, hg.name⟩, rfl⟩
      · cases h
    · cases h
  · split at h
    · split at h
      · cases h; exact ⟨⟨hg.few, hg.small, hg.cron, hg.name⟩, rfl⟩
      · cases h
    · cases h
  · split at h
    · cases h; exact ⟨⟨hg.few, hg.small, hg.cron, hg.name⟩, rfl⟩
    · cases h
  · cases h
theorem lineT_few {ts : List Ta} {p0 p1 p2 p3 p4 : ByteArray} (h : lineT ts p0 p1 p2 p3 p4 = true) : ts.length ≠ 4 := by
  unfold lineT at h
  simp only [Bool.and_eq_true, Bool.not_eq_true', decide_eq_false_iff_not] at h
  exact h.2.1
theorem gd_more {d : Dg} {t : Ta} (hg : Gd d) (h4 : d.tasks.length ≠ 4) (ht : t.after.length ≤ 1000 ∧ t.name.size ≤ 1000) : Gd { d with tasks := d.tasks ++ [t] } := by
  refine ⟨?_, fun u hu => ?_, hg.cron, hg.name⟩
  · have := hg.few
    show (d.tasks ++ [t]).length ≤ 4
    simp; omega
  · rcases List.mem_append.1 hu with hu | hu
    · exact hg.small u hu
    · rw [List.mem_singleton] at hu; subst hu; exact ht
theorem lineO_good {d d' : Dg} {p : List ByteArray} (h : lineO d p = some d') (hg : Gd d) (hs : ∀ x ∈ p, x.size ≤ 600) : Gd d' := by
  unfold lineO at h
  split at h
  · split at h
    · rename_i hT
      cases h
      exact gd_more hg (lineT_few hT) ⟨Nat.zero_le _, Nat.le_trans (hs _ (List.mem_cons_of_mem _ (List.mem_cons_self ..))) (by decide)⟩
    · cases h
  · split at h
    · rename_i hT
      split at h
      · rename_i nl hnl
        cases h
        have h1 := hs _ (List.mem_cons_of_mem _ (List.mem_cons_self ..))
        have h2 := namesO_len hnl
        have h3 := hs _ (List.mem_cons_of_mem _ (List.mem_cons_of_mem _ (List.mem_cons_of_mem _ (List.mem_cons_of_mem _ (List.mem_cons_of_mem _ (List.mem_cons_self ..))))))
        exact gd_more hg (lineT_few hT) ⟨Nat.le_trans h2 (Nat.le_trans (Nat.add_le_add_right h3 1) (by decide)), Nat.le_trans h1 (by decide)⟩
      · cases h
    · cases h
  · cases h
def skipB : List ByteArray → Bool
  | [] => true
  | x :: _ => (x.data.toList.getD 0 0).toNat == 35
def stepO (a : Nat) (d : Dg) (p : List ByteArray) : Option Dg := if a < 5 then headO a d p else lineO d p
def dagGo : List ByteArray → Nat → Nat → Dg → Except Nat Dg
  | [], _, _, d => .ok d
  | x :: r, i, a, d =>
    if (qfb x).2 = true then
      if skipB (texts (qfb x).1) = true then dagGo r (i + 1) a d
      else match stepO a d (texts (qfb x).1) with
        | some d' => dagGo r (i + 1) (a + 1) d'
        | none => .error (i + 1)
    else .error (i + 1)
theorem dagGo_at {l : List ByteArray} {k i a : Nat} {d : Dg} {x : ByteArray} (h : l[k]? = some x) : dagGo (l.drop k) i a d = if (qfb x).2 = true then (if skipB (texts (qfb x).1) = true then dagGo (l.drop (k + 1)) (i + 1) a d else match stepO a d (texts (qfb x).1) with
        | some d' => dagGo (l.drop (k + 1)) (i + 1) (a + 1) d'
        | none => .error (i + 1)) else .error (i + 1) := by
  obtain ⟨hk, rfl⟩ := List.getElem?_eq_some_iff.1 h
  rw [List.drop_eq_getElem_cons hk]
  rfl
theorem dagGo_end {l : List ByteArray} {k i a : Nat} {d : Dg} (h : k = l.length) : dagGo (l.drop k) i a d = .ok d := by subst h; rw [List.drop_length]; rfl
def dagO (s : ByteArray) : Dg × Int :=
  if 800 < s.size then (zeroD, -1) else match dagGo (qxc s) 0 0 zeroD with
    | .error n => (zeroD, n)
    | .ok d => if dagB d = true then (d, 0) else (zeroD, ((qxc s).length : Int) + 1)
def PdP (s : ByteArray) (w : World) (e : Ending) (w' : World) : Prop :=
  ∃ tv, e = .returned (.tuple #[.agg #[.string (dagO s).1.name, .string (dagO s).1.cron, .int .i64 (dagO s).1.fr, .int .i64 (dagO s).1.up, .bool (dagO s).1.cu, tv], .int .i64 (dagO s).2]) ∧ Tasks w' tv (dagO s).1.tasks ∧ Below w.heap.size w w'
theorem tasks_zero (w : World) (ao : Option Addr) (cap : Nat) : Tasks w (.slice ao 0 cap) [] := ⟨[], reads_none _ _ _, rfl, fun i t h => by simp at h⟩
theorem pd_no {s : ByteArray} {w w' : World} {n : Int} (h : dagO s = (zeroD, n)) (hb : Below w.heap.size w w') : PdP s w (.returned (.tuple #[.agg #[.string ⟨#[]⟩, .string ⟨#[]⟩, .int .i64 0, .int .i64 0, .bool false, .slice none 0 0], .int .i64 n])) w' := by
  refine ⟨.slice none 0 0, by rw [h]; rfl, ?_, hb⟩
  rw [h]
  exact tasks_zero _ _ _

end Go.Proofs.YtpjpheicldegkaaGreatDoor

namespace Go.Proofs.YtpjpheicldegkaaGreatDoor
open Go Go.RowKit

theorem reads_far {α : Type} [Rec α] {w W : World} {v : Value} {l : List α} {b : Nat} (h : Reads w v l) (hs : w.heap.size ≤ W.heap.size) (hW : ∀ k, k ≠ b → W.heap[k]? = w.heap[k]?) (hB : ∀ o c, v = .slice (some ⟨b, o, none⟩) l.length c → l ≠ [] → False) : Reads W v l := by
  obtain ⟨ao, cap, rfl, h⟩ := h
  refine ⟨ao, cap, rfl, fun hne => ?_⟩
  obtain ⟨B, o, rfl, hlt, hc⟩ := h hne
  have hBb : B ≠ b := fun e => by subst e; exact hB o cap rfl hne
  exact ⟨B, o, rfl, Nat.lt_of_lt_of_le hlt hs, fun i x hx j u hu => (cell_block (hW B hBb)).trans (hc i x hx j u hu)⟩
theorem D6.off {w : World} {g : Nat} {nm cr : ByteArray} {fr up : Int} {cu : Bool} {tv : Value} (h : D6 w g nm cr fr up cu tv) (o : Nat) : w.cell? ⟨g, o, none⟩ = #[.string nm, .string cr, .int .i64 fr, .int .i64 up, .bool cu, tv][o]? := by simp [World.cell?, show w.heap[g]? = _ from h]
abbrev box0 : Array Value := #[.string ⟨#[]⟩, .string ⟨#[]⟩, .int .i64 0, .int .i64 0, .bool false, .slice none 0 0]
theorem box_text {o : Nat} {x : ByteArray} (h : box0[o]? = some (.string x)) : o ≤ 1 ∧ x = ⟨#[]⟩ := by
  match o, h with
  | 0, h => simp at h; exact ⟨by omega, h.symm⟩
  | 1, h => simp at h; exact ⟨by omega, h.symm⟩
  | 2, h => simp at h
  | 3, h => simp at h
  | 4, h => simp at h
  | 5, h => simp at h
  | o + 6, h => simp at h
theorem names_far {w W : World} {v : Value} {l : List ByteArray} {b : Nat} (hd : D6 w b ⟨#[]⟩ ⟨#[]⟩ 0 0 false (.slice none 0 0)) (h : Reads w v l) (hn : ∀ x ∈ l, 0 < x.size) (hs : w.heap.size ≤ W.heap.size) (hW : ∀ k, k ≠ b → W.heap[k]? = w.heap[k]?) : Reads W v l := by
  refine reads_far h hs hW fun o c e hne => ?_
  subst e
  obtain ⟨x, r, rfl⟩ := List.exists_cons_of_ne_nil hne
  obtain ⟨b', o', hq, _, hc⟩ := qka h (k := 0) rfl
  simp only [Option.some.injEq, Addr.mk.injEq, and_true] at hq
  obtain ⟨e1, e2⟩ := hq
  subst e1 e2
  rw [hd.off] at hc
  have := hn x (by simp)
  rw [(box_text hc).2] at this
  exact absurd this (by decide)
theorem tasks_far {w W : World} {v : Value} {ts : List Ta} {b : Nat} (hd : D6 w b ⟨#[]⟩ ⟨#[]⟩ 0 0 false (.slice none 0 0)) (h : Tasks w v ts) (hn : ∀ t ∈ ts, ∀ x ∈ t.after, 0 < x.size) (hs : w.heap.size ≤ W.heap.size) (hW : ∀ k, k ≠ b → W.heap[k]? = w.heap[k]?) : Tasks W v ts := by
  obtain ⟨ks, hr, hl, ho⟩ := h
  refine ⟨ks, ?_, hl, fun i t ht => ?_⟩
  · refine reads_far hr hs hW fun o c e hne => ?_
    subst e
    obtain ⟨x, r, rfl⟩ := List.exists_cons_of_ne_nil hne
    obtain ⟨b', o', hq, _, hc⟩ := hr.at (k := 0) rfl
    simp only [Option.some.injEq, Addr.mk.injEq, and_true] at hq
    obtain ⟨e1, e2⟩ := hq
    subst e1 e2
    have h1 := hc 1 _ rfl
    have h3 := hc 3 _ rfl
    rw [hd.off] at h1 h3
    have h5 := (box_text h1).1
    have h6 : o = 0 := by omega
    subst h6
    simp at h3
  · obtain ⟨k, hk, h1⟩ := ho i t ht
    exact ⟨k, hk, ⟨h1.name, h1.pool, h1.ret, h1.past, names_far hd h1.after (hn t (List.mem_of_getElem? ht)) hs hW⟩⟩
theorem name_full {s : ByteArray} (h : nameB s = true) : 0 < s.size := by
  unfold nameB at h
  simp only [Bool.and_eq_true, decide_eq_true_eq] at h
  omega
theorem namesGo_full : ∀ (p l nl : List ByteArray), qad p l = some nl → (∀ x ∈ l, 0 < x.size) → ∀ x ∈ nl, 0 < x.size
  | [], l, nl, h, hl => by simp only [qad, Option.some.injEq] at h; subst h; exact hl
  | s :: r, l, nl, h, hl => by
    unfold qad at h
    split at h
    · rename_i hq
      simp only [Bool.and_eq_true] at hq
      refine namesGo_full r _ nl h fun x hx => ?_
      unfold insN at hx
      simp only [List.mem_append, List.mem_filter, List.mem_singleton] at hx
      rcases hx with (⟨hx, _⟩ | rfl) | ⟨hx, _⟩
      · exact hl x hx
      · exact name_full hq.1
      · exact hl x hx
    · cases h
def Fu (d : Dg) : Prop := ∀ t ∈ d.tasks, ∀ x ∈ t.after, 0 < x.size
theorem fu_more {d : Dg} {t : Ta} (hg : Fu d) (ht : ∀ x ∈ t.after, 0 < x.size) : Fu { d with tasks := d.tasks ++ [t] } := by
  intro u hu
  rcases List.mem_append.1 hu with hu | hu
  · exact hg u hu
  · rw [List.mem_singleton] at hu; subst hu; exact ht
theorem lineO_full {d d' : Dg} {p : List ByteArray} (h : lineO d p = some d') (hg : Fu d) : Fu d' := by
  unfold lineO at h
  split at h
  · split at h
    · cases h; exact fu_more hg (fun _ hx => nomatch hx)
    · cases h
  · split at h
    · split at h
      · rename_i nl hnl
        cases h
        exact fu_more hg (namesGo_full _ _ _ hnl (fun _ hx => nomatch hx))
      · cases h
    · cases h
  · cases h

end Go.Proofs.YtpjpheicldegkaaGreatDoor

namespace Go.Proofs.YtpjpheicldegkaaGreatDoor
open Go.RowKit

theorem qbe (l : List Int) : (bstr l).size = l.length := by simp [bstr, ByteArray.size]
def Fits (s : ByteArray) (i : Nat) (l : List Int) : Prop := ∀ j x, l[j]? = some x → ∃ h : i + j < s.size, (s[i + j].toNat : Int) = x
theorem Fits.tail {s : ByteArray} {i : Nat} {x : Int} {l : List Int} (h : Fits s i (x :: l)) : Fits s (i + 1) l := by
  intro j y hy
  have := h (j + 1) y (by simpa using hy)
  rw [show i + (j + 1) = i + 1 + j by omega] at this
  exact this
theorem rvGo_back (s : ByteArray) : ∀ (f m i k N : Nat), f + k = 5 → Fits s i (varI m) → N + m * 128 ^ k ≤ 1000000000 → (0 < m ∨ k = 0) →
    rvGo s f i k N = (((N + m * 128 ^ k : Nat) : Int), ((i + (varI m).length : Nat) : Int), true)
  | 0, m, i, k, N, hf, hb, hv, hk => by
    exfalso
    obtain rfl : k = 5 := by omega
    rcases hk with h | h
    · have : 1 * 128 ^ 5 ≤ m * 128 ^ 5 := Nat.mul_le_mul_right _ h
      omega
    · omega
  | f + 1, m, i, k, N, hf, hb, hv, hk => by
    by_cases hm : 127 < m
    · rw [qsb hm] at hb ⊢
      obtain ⟨hi, hx⟩ := hb 0 _ rfl
      have hx2 : s[i].toNat = m % 128 + 128 := by have : (s[i].toNat : Int) = (m : Int) % 128 + 128 := hx; omega
      have hi2 : i < s.size := hi
      rw [rvGo_more hi2 (by omega), hx2, show (m % 128 + 128) % 128 = m % 128 by omega]
      have e : N + m % 128 * 128 ^ k + m / 128 * 128 ^ (k + 1) = N + m * 128 ^ k := by
        have h1 : m * 128 ^ k = (m % 128 + 128 * (m / 128)) * 128 ^ k := by rw [Nat.mod_add_div]
        rw [h1, Nat.pow_succ, Nat.add_mul, Nat.add_assoc]
        congr 2
        rw [Nat.mul_comm (128 ^ k) 128, ← Nat.mul_assoc, Nat.mul_comm (m / 128) 128]
      rw [rvGo_back s f (m / 128) (i + 1) (k + 1) _ (by omega) hb.tail (by rw [e]; exact hv) (Or.inl (by omega)), e]
      rw [List.length_cons, show i + 1 + (varI (m / 128)).length = i + ((varI (m / 128)).length + 1) by omega]
    · rw [qcb hm] at hb ⊢
      obtain ⟨hi, hx⟩ := hb 0 _ rfl
      have hi2 : i < s.size := hi
      have hx2 : s[i].toNat = m := by have : (s[i].toNat : Int) = (m : Int) := hx; omega
      rw [rvGo_ok hi2 (by omega)]
      · rw [hx2, Nat.mod_eq_of_lt (by omega : m < 128)]
        rfl
      · rw [hx2, Nat.mod_eq_of_lt (by omega : m < 128)]
        omega
theorem fits_bstr (a b : ByteArray) (l : List Int) (hl : ∀ x ∈ l, 0 ≤ x ∧ x < 256) : Fits (a ++ bstr l ++ b) a.size l := by
  intro j x hx
  obtain ⟨hj, rfl⟩ := List.getElem?_eq_some_iff.1 hx
  have hs : (a ++ bstr l ++ b).size = a.size + l.length + b.size := by rw [ByteArray.size_append, ByteArray.size_append, qbe]
  refine ⟨by omega, ?_⟩
  have hr := hl l[j] (List.getElem_mem hj)
  have e : (a ++ bstr l ++ b)[a.size + j]'(by omega) = UInt8.ofNat (l[j]).toNat := by
    show (a ++ bstr l ++ b).data[a.size + j]'(by show _ < (a ++ bstr l ++ b).size; omega) = _
    have h2 : (a ++ bstr l ++ b).data = a.data ++ (l.map fun n => UInt8.ofNat n.toNat).toArray ++ b.data := by
      rw [ByteArray.data_append, ByteArray.data_append]; rfl
    have h3 : ((a ++ bstr l ++ b).data)[a.size + j]? = some (UInt8.ofNat (l[j]).toNat) := by
      rw [h2, Array.getElem?_append_left (by simp; exact hj), Array.getElem?_append_right (by show a.size ≤ a.size + j; omega)]
      simp [hj]
    exact (Array.getElem?_eq_some_iff.1 h3).2
  rw [e]
  simp
  omega
theorem rv_back (a b : ByteArray) (n : Nat) (hn : n ≤ 1000000000) : rv (a ++ bstr (varI n) ++ b) a.size = ((n : Int), ((a.size + (varI n).length : Nat) : Int), true) := by
  unfold rv
  have hs : (a ++ bstr (varI n) ++ b).size = a.size + (varI n).length + b.size := by rw [ByteArray.size_append, ByteArray.size_append, qbe]
  rw [if_pos (by omega), Int.toNat_natCast, rvGo_back _ 5 n a.size 0 0 rfl (fits_bstr a b _ (varI_range n n (Nat.le_refl _))) (by omega) (Or.inr rfl)]
  simp

end Go.Proofs.YtpjpheicldegkaaGreatDoor
