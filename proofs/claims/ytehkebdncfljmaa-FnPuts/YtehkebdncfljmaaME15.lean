/-
  A command in bytes, as the specification writes it: the walks. A command in bytes, as the specification writes it: the walk. A right command's text is short: plain facts. The text of a conf: the walks. Entries that are drawn, as the specification draws them: the walks of l05Right, l05Any. The cursor that a text is read with: the walks of its two functions. What is read with the cursor: small facts on it, and on blocks. A conf read from its text: the walks. A conf read from its text, as the specification reads it; and marks in rows of numbers: the walks. Entries: the law's helpers, and whether one is right: the walks.
-/
import Derived.Test.YtehkebdncfljmaaME14
import Derived.Test.YtehkebdncfljmaaRvs
import Derived.Test.YtehkebdncfljmaaWd
import Derived.Test.YtehkebdncfljmaaDci
import Derived.Test.YtehkebdncfljmaaLco
import Derived.WalkSpells
import Derived.WalkLawsBesides
import Derived.Test.YtehkebdncfljmaaME11
import Derived.Test.YtehkebdncfljmaaSv
import Derived.Test.YtehkebdncfljmaaGn
namespace Go.Proofs.Ytehkebdncfljmaa
open Go Go.RowKit

theorem varF_len : ∀ f n, (varF f n).length ≤ f + 1
  | 0, n => by simp [varF]
  | f + 1, n => by
    unfold varF
    split
    · have := varF_len f (n / 128); simp; omega
    · simp
theorem var_size (n : Nat) : (bstr (varI n)).size ≤ n + 1 := by rw [bstr_size']; exact varF_len n n
/-- A text with its length ahead. -/
def shortS (s : ByteArray) : ByteArray := bstr (varI s.size) ++ s
def flagS (b : Bool) : ByteArray := if b then ⟨#[1]⟩ else ⟨#[0]⟩
/-- A command in bytes. -/
def cmtS (op tok seq : Int) (text task : ByteArray) (num up : Int) (yes : Bool) : ByteArray := bstr [op] ++ bstr (varI tok.toNat) ++ bstr (varI seq.toNat) ++ shortS text ++ shortS task ++ bstr (varI num.toNat) ++ bstr (varI up.toNat) ++ flagS yes
def cmtX (op tok seq : Int) (text task : ByteArray) (num up : Int) (yes : Bool) : ByteArray := if cmdB op tok seq text task num up yes then cmtS op tok seq text task num up yes else ⟨#[]⟩
theorem rest_fine {f1 f2 f3 f4 f5 : Bool} {text task : ByteArray} {num up : Int} {yes : Bool} (h : restB f1 f2 f3 f4 f5 text task num up yes = true) : (f1 = false → text.size = 0) ∧ (f2 = false → task.size = 0) ∧ (f3 = false → num = 0) ∧ (f4 = false → up = 0) := by
  unfold restB at h
  simp only [Bool.and_eq_true, Bool.or_eq_true, decide_eq_true_eq] at h
  obtain ⟨h1, h2, h3, h4, _⟩ := h
  refine ⟨fun e => ?_, fun e => ?_, fun e => ?_, fun e => ?_⟩
  · subst e; rcases h1 with h | h; cases h; subst h; rfl
  · subst e; rcases h2 with h | h; cases h; subst h; rfl
  · subst e; rcases h3 with h | h; cases h; exact h
  · subst e; rcases h4 with h | h; cases h; exact h
theorem name_size8 {s : ByteArray} (h : nameB s = true) : s.size ≤ 8 := by
  unfold nameB at h
  simp only [Bool.and_eq_true, decide_eq_true_eq] at h
  exact h.1.2
theorem cmd_fine {op tok seq : Int} {text task : ByteArray} {num up : Int} {yes : Bool} (h : cmdB op tok seq text task num up yes = true) : 1 ≤ op ∧ op ≤ 9 ∧ 0 ≤ tok ∧ tok ≤ 1000000 ∧ 0 ≤ seq ∧ seq ≤ 1000000 ∧ text.size ≤ 600 ∧ task.size ≤ 8 ∧ 0 ≤ num ∧ num ≤ 1000000000 ∧ 0 ≤ up ∧ up ≤ 68374079 := by
  unfold cmdB opB at h
  simp only [Bool.and_eq_true, decide_eq_true_eq] at h
  obtain ⟨h1, h2, h⟩ := h
  refine (fun (k : 1 ≤ op ∧ op ≤ 9 ∧ text.size ≤ 600 ∧ task.size ≤ 8 ∧ 0 ≤ num ∧ num ≤ 1000000000 ∧ 0 ≤ up ∧ up ≤ 68374079) => ⟨k.1, k.2.1, h1.1, h1.2, h2.1, h2.2, k.2.2⟩) ?_
  repeat' split at h
  all_goals (try simp only [Bool.and_eq_true, decide_eq_true_eq] at h)
  all_goals (try (cases h; done))
  · obtain ⟨_, _, h⟩ := h; have r := rest_fine h; have a := r.1 rfl; have b := r.2.1 rfl; have c := r.2.2.1 rfl; have d := r.2.2.2 rfl; omega
  · obtain ⟨x, h⟩ := h; have r := rest_fine h; have b := r.2.1 rfl; have c := r.2.2.1 rfl; have d := r.2.2.2 rfl; omega
  · obtain ⟨x, h⟩ := h; have r := rest_fine h; have a := name_size8 x; have b := r.2.1 rfl; have c := r.2.2.1 rfl; have d := r.2.2.2 rfl; omega
  · obtain ⟨x, h⟩ := h; have r := rest_fine h; have a := r.1 rfl; have b := r.2.1 rfl; have d := r.2.2.2 rfl; omega
  · have r := rest_fine h; have a := r.1 rfl; have b := r.2.1 rfl; have c := r.2.2.1 rfl; have d := r.2.2.2 rfl; omega
  · obtain ⟨x, h⟩ := h; have r := rest_fine h; have a := r.1 rfl; have b := r.2.1 rfl; have d := r.2.2.2 rfl; omega
  · obtain ⟨x, h⟩ := h; have r := rest_fine h; have a := r.1 rfl; have b := r.2.1 rfl; have d := r.2.2.2 rfl; omega
  · obtain ⟨x, y, z, h⟩ := h; have r := rest_fine h; have a := name_size8 x; have b := r.2.1 rfl; omega
  · obtain ⟨x, y, z, h⟩ := h; have r := rest_fine h; have a := name_size8 x; have b := name_size8 y; have d := r.2.2.2 rfl; omega

set_option maxHeartbeats 400000 in
theorem l17Byte_any (n : Int) (w : World) (h0 : 0 ≤ n) (h1 : n ≤ 255) : Calls Try.prog 72 #[.int .i64 n] w fun e w' => e = .returned (.string (bstr [n])) ∧ Below w.heap.size w w' := by
  have hcv := run_one_string w n
  go_enter Try.func72, Try.ntmps72
  go_wp2
  go_ret
  exact ⟨rfl, ba (Below.refl _ _) _⟩
set_option maxHeartbeats 400000 in
theorem l17Short_any (s : ByteArray) (w : World) (hs : s.size ≤ 1000000) : Calls Try.prog 73 #[.string s] w fun e w' => e = .returned (.string (shortS s)) ∧ Below w.heap.size w w' := by
  unfold shortS
  have HV := l01Var_any s.size w (by omega)
  have hz := var_size s.size
  obtain ⟨V, hV⟩ : ∃ V, bstr (varI s.size) = V := ⟨_, rfl⟩
  rw [hV] at HV hz ⊢
  clear hV
  go_enter Try.func73, Try.ntmps73
  go_wp2_with (go_at_call 39; refine HV.mono ?_; rintro e w1 ⟨rfl, hb1⟩)
  go_ret
  exact ⟨rfl, hb1⟩
theorem l17Flag_any (b : Bool) (w : World) : Calls Try.prog 74 #[.bool b] w fun e w' => e = .returned (.string (flagS b)) ∧ w' = w := by
  cases b <;>
  · go_enter Try.func74, Try.ntmps74
    go_wp2
    go_ret
    exact ⟨rfl, rfl⟩
end Go.Proofs.Ytehkebdncfljmaa

namespace Go.Proofs.Ytehkebdncfljmaa
open Go Go.RowKit

theorem short_size (s : ByteArray) : (shortS s).size ≤ 2 * s.size + 1 := by
  unfold shortS
  rw [ByteArray.size_append]
  have := var_size s.size
  omega
set_option maxRecDepth 10000 in
set_option maxHeartbeats 2000000 in
theorem commandText_any (op tok seq : Int) (text task : ByteArray) (num up : Int) (yes : Bool) (w : World) (ht : text.size ≤ 9223372036854775807) (hk : task.size ≤ 9223372036854775807) :
    Calls Try.prog 69 #[.agg #[.int .i64 op, .int .i64 tok, .int .i64 seq, .string text, .string task, .int .i64 num, .int .i64 up, .bool yes]] w fun e w' => e = .returned (.tuple #[.string (cmtX op tok seq text task num up yes), .bool (cmdB op tok seq text task num up yes)]) ∧ Below w.heap.size w w' := by
  have HC : Hid (∀ w, Calls Try.prog 71 #[.agg #[.int .i64 op, .int .i64 tok, .int .i64 seq, .string text, .string task, .int .i64 num, .int .i64 up, .bool yes]] w fun e w' => e = .returned (.bool (cmdB op tok seq text task num up yes)) ∧ Below w.heap.size w w') := fun w => commandOk_any op tok seq text task num up yes w ht hk
  clear ht hk
  cases hq : cmdB op tok seq text task num up yes with
  | false =>
    have HX : Hid (cmtX op tok seq text task num up yes = ⟨#[]⟩) := by show cmtX op tok seq text task num up yes = _; unfold cmtX; rw [hq]; rfl
    rw [hq] at HC
    rw [HX.out]
    clear hq HX
    go_enter Try.func69, Try.ntmps69
    go_wp2_with (go_at_call 71; refine (HC.out _).mono ?_; rintro x w1 ⟨rfl, hb1⟩)
    go_ret2
    exact ⟨rfl, below_new hb1⟩
  | true =>
    have HX : Hid (cmtX op tok seq text task num up yes = cmtS op tok seq text task num up yes) := by show cmtX op tok seq text task num up yes = _; unfold cmtX; rw [hq]; rfl
    obtain ⟨o0, o1, t0, t1, s0, s1, x0, k0, n0, n1, u0, u1⟩ := cmd_fine hq
    rw [hq] at HC
    rw [HX.out]
    clear hq HX
    unfold cmtS
    have Ca : Hid (∀ w, Calls Try.prog 72 #[.int .i64 op] w fun e w' => e = .returned (.string (bstr [op])) ∧ Below w.heap.size w w') := fun w => l17Byte_any op w (by omega) (by omega)
    have Cb : Hid (∀ w, Calls Try.prog 39 #[.int .i64 tok] w fun e w' => e = .returned (.string (bstr (varI tok.toNat))) ∧ Below w.heap.size w w') := fun w => l01Var_int tok w (by omega) (by omega)
    have Cc : Hid (∀ w, Calls Try.prog 39 #[.int .i64 seq] w fun e w' => e = .returned (.string (bstr (varI seq.toNat))) ∧ Below w.heap.size w w') := fun w => l01Var_int seq w (by omega) (by omega)
    have Cd : Hid (∀ w, Calls Try.prog 73 #[.string text] w fun e w' => e = .returned (.string (shortS text)) ∧ Below w.heap.size w w') := fun w => l17Short_any text w (by omega)
    have Ce : Hid (∀ w, Calls Try.prog 73 #[.string task] w fun e w' => e = .returned (.string (shortS task)) ∧ Below w.heap.size w w') := fun w => l17Short_any task w (by omega)
    have Cf : Hid (∀ w, Calls Try.prog 39 #[.int .i64 num] w fun e w' => e = .returned (.string (bstr (varI num.toNat))) ∧ Below w.heap.size w w') := fun w => l01Var_int num w (by omega) (by omega)
    have Cg : Hid (∀ w, Calls Try.prog 39 #[.int .i64 up] w fun e w' => e = .returned (.string (bstr (varI up.toNat))) ∧ Below w.heap.size w w') := fun w => l01Var_int up w (by omega) (by omega)
    have Ch : Hid (∀ w, Calls Try.prog 74 #[.bool yes] w fun e w' => e = .returned (.string (flagS yes)) ∧ w' = w) := fun w => l17Flag_any yes w
    have za : (bstr [op]).size = 1 := by rw [bstr_size']; rfl
    have zb := var_size tok.toNat
    have zc := var_size seq.toNat
    have zd := short_size text
    have ze := short_size task
    have zf := var_size num.toNat
    have zg := var_size up.toNat
    have zh : (flagS yes).size = 1 := by cases yes <;> rfl
    obtain ⟨Sa, ha⟩ : ∃ S, bstr [op] = S := ⟨_, rfl⟩
    rw [ha] at Ca za ⊢
    clear ha
    obtain ⟨Sb, hb⟩ : ∃ S, bstr (varI tok.toNat) = S := ⟨_, rfl⟩
    rw [hb] at Cb zb ⊢
    clear hb
    obtain ⟨Sc, hc⟩ : ∃ S, bstr (varI seq.toNat) = S := ⟨_, rfl⟩
    rw [hc] at Cc zc ⊢
    clear hc
    obtain ⟨Sd, hd⟩ : ∃ S, shortS text = S := ⟨_, rfl⟩
    rw [hd] at Cd zd ⊢
    clear hd
    obtain ⟨Se, he⟩ : ∃ S, shortS task = S := ⟨_, rfl⟩
    rw [he] at Ce ze ⊢
    clear he
    obtain ⟨Sf, hf⟩ : ∃ S, bstr (varI num.toNat) = S := ⟨_, rfl⟩
    rw [hf] at Cf zf ⊢
    clear hf
    obtain ⟨Sg, hg⟩ : ∃ S, bstr (varI up.toNat) = S := ⟨_, rfl⟩
    rw [hg] at Cg zg ⊢
    clear hg
    obtain ⟨Sh, hh⟩ : ∃ S, flagS yes = S := ⟨_, rfl⟩
    rw [hh] at Ch zh ⊢
    clear hh
    have yb : (Sa ++ Sb).size = Sa.size + Sb.size := by simp only [ByteArray.size_append]
    have yc : (Sa ++ Sb ++ Sc).size = Sa.size + Sb.size + Sc.size := by simp only [ByteArray.size_append]
    have yd : (Sa ++ Sb ++ Sc ++ Sd).size = Sa.size + Sb.size + Sc.size + Sd.size := by simp only [ByteArray.size_append]
    have ye : (Sa ++ Sb ++ Sc ++ Sd ++ Se).size = Sa.size + Sb.size + Sc.size + Sd.size + Se.size := by simp only [ByteArray.size_append]
    have yf : (Sa ++ Sb ++ Sc ++ Sd ++ Se ++ Sf).size = Sa.size + Sb.size + Sc.size + Sd.size + Se.size + Sf.size := by simp only [ByteArray.size_append]
    have yg : (Sa ++ Sb ++ Sc ++ Sd ++ Se ++ Sf ++ Sg).size = Sa.size + Sb.size + Sc.size + Sd.size + Se.size + Sf.size + Sg.size := by simp only [ByteArray.size_append]
    have yh : (Sa ++ Sb ++ Sc ++ Sd ++ Se ++ Sf ++ Sg ++ Sh).size = Sa.size + Sb.size + Sc.size + Sd.size + Se.size + Sf.size + Sg.size + Sh.size := by simp only [ByteArray.size_append]
    go_enter Try.func69, Try.ntmps69
    go_wp2_with fail
    refine (HC.out _).mono ?_
    rintro x w1 ⟨rfl, hb1⟩
    have B1 := below_new hb1
    have q0 := Wd.cell ((hb1.cell (p := ⟨w.heap.size, 0, none⟩) (by simp)).trans (show _ = some (.int .i64 op) by simp [go_sem]))
    have q1 := Wd.cell ((hb1.cell (p := ⟨w.heap.size, 1, none⟩) (by simp)).trans (show _ = some (.int .i64 tok) by simp [go_sem]))
    have q2 := Wd.cell ((hb1.cell (p := ⟨w.heap.size, 2, none⟩) (by simp)).trans (show _ = some (.int .i64 seq) by simp [go_sem]))
    have q3 := Wd.cell ((hb1.cell (p := ⟨w.heap.size, 3, none⟩) (by simp)).trans (show _ = some (.string text) by simp [go_sem]))
    have q4 := Wd.cell ((hb1.cell (p := ⟨w.heap.size, 4, none⟩) (by simp)).trans (show _ = some (.string task) by simp [go_sem]))
    have q5 := Wd.cell ((hb1.cell (p := ⟨w.heap.size, 5, none⟩) (by simp)).trans (show _ = some (.int .i64 num) by simp [go_sem]))
    have q6 := Wd.cell ((hb1.cell (p := ⟨w.heap.size, 6, none⟩) (by simp)).trans (show _ = some (.int .i64 up) by simp [go_sem]))
    have q7 := Wd.cell ((hb1.cell (p := ⟨w.heap.size, 7, none⟩) (by simp)).trans (show _ = some (.bool yes) by simp [go_sem]))
    clear hb1 HC
    go_wp2_with fail
    refine wp_region_wd (by kernel_rfl) (by kernel_rfl) ?_
    repeat (go_big_quiet_step (first | (go_at_call 72; refine calls_wd (v := .string Sa) ?_; with_reducible exact Ca.out _) | (go_at_call 39; refine calls_wd (v := .string Sb) ?_; with_reducible exact Cb.out _) | (go_at_call 39; refine calls_wd (v := .string Sc) ?_; with_reducible exact Cc.out _) | (go_at_call 73; refine calls_wd (v := .string Sd) ?_; with_reducible exact Cd.out _) | (go_at_call 73; refine calls_wd (v := .string Se) ?_; with_reducible exact Ce.out _) | (go_at_call 39; refine calls_wd (v := .string Sf) ?_; with_reducible exact Cf.out _) | (go_at_call 39; refine calls_wd (v := .string Sg) ?_; with_reducible exact Cg.out _) | (go_at_call 74; refine calls_wd_same (v := .string Sh) ?_; with_reducible exact Ch.out _)))
    refine wpQuiet_nil ?_
    rintro _ ⟨x, rfl⟩
    go_wp2
    go_ret2
    exact ⟨rfl, Below.on B1 x.ok⟩
end Go.Proofs.Ytehkebdncfljmaa

namespace Go.Proofs.Ytehkebdncfljmaa
open Go Go.RowKit

theorem varI_five {n : Nat} (hn : n ≤ 1000000000) : (varI n).length ≤ 5 := by
  by_cases h1 : 127 < n
  · rw [varI_more h1]
    by_cases h2 : 127 < n / 128
    · rw [varI_more h2]
      by_cases h3 : 127 < n / 128 / 128
      · rw [varI_more h3]
        by_cases h4 : 127 < n / 128 / 128 / 128
        · rw [varI_more h4, varI_last (show ¬ 127 < n / 128 / 128 / 128 / 128 by omega)]
          simp
        · rw [varI_last h4]; simp
      · rw [varI_last h3]; simp
    · rw [varI_last h2]; simp
  · rw [varI_last h1]; simp
theorem cmtX_size {op tok seq : Int} {text task : ByteArray} {num up : Int} {yes : Bool} : (cmtX op tok seq text task num up yes).size ≤ 1000 := by
  unfold cmtX
  cases h : cmdB op tok seq text task num up yes with
  | false => exact Nat.zero_le _
  | true =>
    obtain ⟨_, _, t0, t1, s0, s1, x1, k1, n0, n1, u0, u1⟩ := cmd_fine h
    have e1 : ∀ l : List Int, (bstr l).size = l.length := fun l => by simp [bstr, ByteArray.size]
    have e2 := varI_five (n := tok.toNat) (by omega)
    have e3 := varI_five (n := seq.toNat) (by omega)
    have e4 := varI_five (n := num.toNat) (by omega)
    have e5 := varI_five (n := up.toNat) (by omega)
    have e6 := varI_five (n := text.size) (by omega)
    have e7 := varI_five (n := task.size) (by omega)
    have e8 : (flagS yes).size = 1 := by cases yes <;> rfl
    show (cmtS op tok seq text task num up yes).size ≤ 1000
    unfold cmtS shortS
    simp only [ByteArray.size_append, e1, e8, List.length_cons, List.length_nil]
    omega
end Go.Proofs.Ytehkebdncfljmaa

namespace Go.Proofs.Ytehkebdncfljmaa
open Go Go.RowKit

/-- The text of a conf, and whether it is right. -/
def textC (l : List Int) : ByteArray := if okC l then bstr l else ByteArray.empty
def textV (l : List Int) : Value := .tuple #[.string (textC l), .bool (okC l)]
theorem textV_no {l : List Int} (h : okC l = false) : textV l = .tuple #[.string ByteArray.empty, .bool false] := by simp [textV, textC, h]
theorem textV_yes {l : List Int} (h : okC l = true) : textV l = .tuple #[.string (bstr l), .bool true] := by simp [textV, textC, h]
theorem okC_at {l : List Int} (h : okC l = true) {k : Nat} {x : Int} (hx : l[k]? = some x) : 0 < x ∧ x ≤ 4 := by
  have h0 : asc 0 l = true := by
    unfold okC at h
    rw [Bool.and_eq_true] at h
    exact h.2
  exact okC_range l 0 h0 (Int.le_refl _) x (List.mem_of_getElem? hx)
theorem okC_len {l : List Int} (h : okC l = true) : l.length ≤ 4 := by
  rcases Nat.lt_or_ge 4 l.length with h1 | h1
  · rw [okC_long h1] at h; cases h
  · exact h1
theorem take_snoc {α : Type} {l : List α} {k : Nat} {x : α} (h : l[k]? = some x) : l.take (k + 1) = l.take k ++ [x] := by
  rw [List.take_add_one, h]
  rfl

set_option maxHeartbeats 1000000 in
theorem confText_any {w : World} {v : Value} {l : List Int} (hr : Reads w v l) (hn : l.length ≤ 1048577) :
    Calls Try.prog 12 #[v] w fun e w' => e = .returned (textV l) ∧ Below w.heap.size w w' := by
  obtain ⟨ao, c, rfl, _⟩ := id hr
  have hmk : ∀ w, (Instr.makeSlice 22 (.int .i64 0) (.int .i64 4)).run Try.prog w = .ok (.slice (some ⟨w.heap.size, 0, none⟩) 0 4) (w.alloc (.cells #[.int .u8 0, .int .u8 0, .int .u8 0, .int .u8 0] 5)) := fun _ => by kernel_rfl
  have HR : Hid (Reads w (.slice ao l.length c) l) := hr
  clear hr
  obtain ⟨n, HN⟩ : ∃ n, Hid (n = l.length) := ⟨_, rfl⟩
  have HC : Hid (Calls Try.prog 16 #[.slice ao n c] w fun e w' => e = .returned (.bool (okC l)) ∧ Below w.heap.size w w') := by
    show Calls _ _ _ _ _
    rw [HN.out]
    exact confOk_any HR.out hn
  rw [← HN.out]
  have HR : Hid (Reads w (.slice ao n c) l) := by show Reads _ _ _; rw [HN.out]; exact HR.out
  cases hq : okC l with
  | false =>
    rw [textV_no hq]
    rw [hq] at HC
    go_enter Try.func12, Try.ntmps12
    go_wp2_with (go_at_call 16; refine (HC.out).mono ?_; rintro e w1 ⟨rfl, hb1⟩)
    go_ret2
    exact ⟨rfl, hb1⟩
  | true =>
    rw [textV_yes hq]
    have hl4 : n ≤ 4 := by rw [HN.out]; exact okC_len hq
    have HQ : Hid (okC l = true) := hq
    rw [hq] at HC
    clear hq
    go_enter Try.func12, Try.ntmps12
    go_wp2_with (go_at_call 16; refine (HC.out).mono ?_; rintro e w1 ⟨rfl, hb1⟩)
    have hs1 := hb1.size
    go_loopw [4, 13] (fun out i wr => ∃ k : Nat, k ≤ n ∧ i = .int .i64 k ∧ ownsB wr w.heap.size 5 out (l.take k) ∧ Below w.heap.size w wr) (fun _ i _ => n - (intOf i).toNat)
    case atStart => exact ⟨0, Nat.zero_le _, rfl, ownsB_made _ _ _ _ _ hs1 (by decide) rfl, hb1.alloc hs1 _⟩
    case round =>
      obtain ⟨k, hk, rfl, hown, hbel⟩ := hrel
      have hsz := hbel.size
      by_cases hlt : k < n
      · obtain ⟨x, hx⟩ : ∃ x, l[k]? = some x := ⟨_, List.getElem?_eq_getElem (by rw [← HN.out]; exact hlt)⟩
        have HT : Hid (l.take (k + 1) = l.take k ++ [x]) := take_snoc hx
        obtain ⟨hx0, hx4⟩ := okC_at HQ.out hx
        obtain ⟨b, o, rfl, hb, c0⟩ := int_at (HR.out.below hbel) hx
        clear hx
        have hlen : (l.take k).length ≤ 4 := by simp; omega
        go_wp2_with (at_builtin; refine wpList_append_byte _ w rfl (.tmp 17) (.tmp 20) 22 rfl w.heap.size 5 Try.underlying22 info5 _ (l.take k) rfl (hown.alloc _) (hbel.alloc hsz _) ⟨wr.heap.size, 0, none⟩ 1 x rfl ?c1 ?c2 ?c3 ?_)
        case c1 => simp
        case c2 => omega
        case c3 => simp; omega
        intro v' w2 hown2 hbel2
        clear hown hbel
        rw [← HT.out] at hown2
        go_wp2
        go_roundw
        case rel => exact ⟨k + 1, by omega, by go_num, hown2, hbel2⟩
        case measure => simp [intOf]; omega
      · have hkn : k = l.length := by rw [← HN.out]; omega
        have hown2 := hown
        rw [hkn, List.take_length] at hown2
        have hcv := run_own_string (P := Try.prog) 22 9 hown2 Try.underlying22 Try.underlying5 Try.underlying9
        clear hown hown2 hkn
        go_wp2
        go_ret2
        exact ⟨rfl, hbel⟩

set_option maxHeartbeats 1000000 in
theorem specConfText_any {w : World} {v : Value} {l : List Int} (hr : Reads w v l) (hn : l.length ≤ 1048577) :
    Calls Try.prog 68 #[v] w fun e w' => e = .returned (textV l) ∧ Below w.heap.size w w' := by
  obtain ⟨ao, c, rfl, _⟩ := id hr
  have HR : Hid (Reads w (.slice ao l.length c) l) := hr
  clear hr
  obtain ⟨n, HN⟩ : ∃ n, Hid (n = l.length) := ⟨_, rfl⟩
  have HC : Hid (Calls Try.prog 14 #[.slice ao n c] w fun e w' => e = .returned (.bool (okC l)) ∧ Below w.heap.size w w') := by
    show Calls _ _ _ _ _
    rw [HN.out]
    exact specConfOk_any HR.out hn
  rw [← HN.out]
  have HR : Hid (Reads w (.slice ao n c) l) := by show Reads _ _ _; rw [HN.out]; exact HR.out
  cases hq : okC l with
  | false =>
    rw [textV_no hq]
    rw [hq] at HC
    go_enter Try.func68, Try.ntmps68
    go_wp2_with (go_at_call 14; refine (HC.out).mono ?_; rintro e w1 ⟨rfl, hb1⟩)
    go_ret2
    exact ⟨rfl, hb1⟩
  | true =>
    rw [textV_yes hq]
    have hl4 : n ≤ 4 := by rw [HN.out]; exact okC_len hq
    have HQ : Hid (okC l = true) := hq
    rw [hq] at HC
    clear hq
    go_enter Try.func68, Try.ntmps68
    go_wp2_with (go_at_call 14; refine (HC.out).mono ?_; rintro e w1 ⟨rfl, hb1⟩)
    have hs1 := hb1.size
    go_loopw [4, 5] (fun out i wr => ∃ k : Nat, k ≤ n ∧ i = .int .i64 k ∧ ownsB wr w.heap.size 5 out (l.take k) ∧ Below w.heap.size w wr) (fun _ i _ => n - (intOf i).toNat)
    case atStart => exact ⟨0, Nat.zero_le _, rfl, ownsB_made _ _ _ _ _ hs1 (by decide) rfl, hb1.alloc hs1 _⟩
    case round =>
      obtain ⟨k, hk, rfl, hown, hbel⟩ := hrel
      have hsz := hbel.size
      by_cases hlt : k < n
      · obtain ⟨x, hx⟩ : ∃ x, l[k]? = some x := ⟨_, List.getElem?_eq_getElem (by rw [← HN.out]; exact hlt)⟩
        have HT : Hid (l.take (k + 1) = l.take k ++ [x]) := take_snoc hx
        obtain ⟨hx0, hx4⟩ := okC_at HQ.out hx
        obtain ⟨b, o, rfl, hb, c0⟩ := int_at (HR.out.below hbel) hx
        clear hx
        have hlen : (l.take k).length ≤ 4 := by simp; omega
        go_wp2_with (at_builtin; refine wpList_append_byte _ w rfl (.tmp 16) (.tmp 22) 22 rfl w.heap.size 5 Try.underlying22 info5 _ (l.take k) rfl (hown.alloc _) (hbel.alloc hsz _) ⟨wr.heap.size, 0, none⟩ 1 x rfl ?c1 ?c2 ?c3 ?_)
        case c1 => simp
        case c2 => omega
        case c3 => simp; omega
        intro v' w2 hown2 hbel2
        clear hown hbel
        rw [← HT.out] at hown2
        go_wp2
        go_roundw
        case rel => exact ⟨k + 1, by omega, by go_num, hown2, hbel2⟩
        case measure => simp [intOf]; omega
      · have hkn : k = l.length := by rw [← HN.out]; omega
        have hown2 := hown
        rw [hkn, List.take_length] at hown2
        have hcv := run_own_string (P := Try.prog) 22 9 hown2 Try.underlying22 Try.underlying5 Try.underlying9
        clear hown hown2 hkn
        go_wp2
        go_ret2
        exact ⟨rfl, hbel⟩

end Go.Proofs.Ytehkebdncfljmaa

namespace Go.Proofs.Ytehkebdncfljmaa
open Go Go.RowKit
set_option linter.unusedVariables false

/-- What lies there while an entry is drawn: the answer's block, the entry's block. -/
structure EnS (g : Nat) (w : World) (b : Nat) (t k : Int) (d : ByteArray) (W : World) : Prop where
  res : K3 25 W w.heap.size (.int .i64 0) (.int .i64 0) (.string ⟨#[]⟩)
  en : K3 25 W b (.int .i64 t) (.int .i64 k) (.string d)
  drw : Drw W g
  sv : Save g w W
  gl : g < w.heap.size
  lo : w.heap.size < b
section
variable {g : Nat} {w W W' : World} {b : Nat} {t k : Int} {d : ByteArray}
theorem EnS.save (h : EnS g w b t k d W) (hs : Save g W W') (hd : Drw W' g) : EnS g w b t k d W' :=
  ⟨h.res.save hs (by have := h.gl; omega), h.en.save hs (by have := h.gl; have := h.lo; omega), hd, h.sv.trans hs, h.gl, h.lo⟩
theorem EnS.up (h : EnS g w b t k d W) (hb : Below W.heap.size W W') : EnS g w b t k d W' := h.save (Save.of_below hb) (h.drw.keep (hb.mono h.drw.lt))
theorem EnS.put {t' k' : Int} {d' : ByteArray} (h : EnS g w b t k d W) (hw : Below w.heap.size W W') (hr : W'.heap[w.heap.size]? = W.heap[w.heap.size]?) (he : K3 25 W' b (.int .i64 t') (.int .i64 k') (.string d')) : EnS g w b t' k' d' W' :=
  ⟨hr.trans h.res, he, h.drw.keep (hw.mono h.gl), h.sv.below_on hw (Nat.le_refl _), h.gl, h.lo⟩
theorem set_otherE (W : World) {p : Addr} {q : Nat} (h : p.block ≠ q) (u : Value) : (W.setCell p u).heap[q]? = W.heap[q]? := heap_setCell_other W p q u (Ne.symm h)
theorem EnS.set0 (h : EnS g w b t k d W) (u : Int) : EnS g w b u k d (W.setCell ⟨b, 0, none⟩ (.int .i64 u)) :=
  h.put (Below.setCell (Below.refl _ _) (by show w.heap.size ≤ b; have := h.lo; omega) _) (set_otherE W (by show b ≠ _; have := h.lo; omega) _) (h.en.s0 _)
theorem EnS.set1 (h : EnS g w b t k d W) (u : Int) : EnS g w b t u d (W.setCell ⟨b, 1, none⟩ (.int .i64 u)) :=
  h.put (Below.setCell (Below.refl _ _) (by show w.heap.size ≤ b; have := h.lo; omega) _) (set_otherE W (by show b ≠ _; have := h.lo; omega) _) (h.en.s1 _)
theorem EnS.set2 (h : EnS g w b t k d W) (u : ByteArray) : EnS g w b t k u (W.setCell ⟨b, 2, none⟩ (.string u)) :=
  h.put (Below.setCell (Below.refl _ _) (by show w.heap.size ≤ b; have := h.lo; omega) _) (set_otherE W (by show b ≠ _; have := h.lo; omega) _) (h.en.s2 _)
theorem EnS.set3 (h : EnS g w b t k d W) (t' k' : Int) (d' : ByteArray) : EnS g w b t' k' d' (((W.setCell ⟨b, 0, none⟩ (.int .i64 t')).setCell ⟨b, 1, none⟩ (.int .i64 k')).setCell ⟨b, 2, none⟩ (.string d')) := ((h.set0 t').set1 k').set2 d'
abbrev set3E (W : World) (b : Nat) (x y z : Value) : World := ((W.setCell ⟨b, 0, none⟩ x).setCell ⟨b, 1, none⟩ y).setCell ⟨b, 2, none⟩ z
theorem EnS.fin (h : EnS g w b t k d W) : K3 25 (set3E W w.heap.size (.int .i64 t) (.int .i64 k) (.string d)) w.heap.size (.int .i64 t) (.int .i64 k) (.string d) ∧ Drw (set3E W w.heap.size (.int .i64 t) (.int .i64 k) (.string d)) g ∧ Save g w (set3E W w.heap.size (.int .i64 t) (.int .i64 k) (.string d)) :=
  have hb : Below w.heap.size W (set3E W w.heap.size (.int .i64 t) (.int .i64 k) (.string d)) := Below.setCell (p := ⟨w.heap.size, 2, none⟩) (Below.setCell (p := ⟨w.heap.size, 1, none⟩) (Below.setCell (p := ⟨w.heap.size, 0, none⟩) (Below.refl _ _) (Nat.le_refl _) _) (Nat.le_refl _) _) (Nat.le_refl _) _
  ⟨((h.res.s0 _).s1 _).s2 _, h.drw.keep (hb.mono h.gl), h.sv.below_on hb (Nat.le_refl _)⟩
end
theorem ret_e1 {W : World} {b : Nat} {x0 x1 x2 : Value} {fn : Func} {p : Tmp} {tmps : Array Value} (h : fn.results = #[.cell p 25]) (hp : tmps.getD p undef = .pointer (some ⟨b, 0, none⟩)) (hb : K3 25 W b x0 x1 x2) :
    (results fn tmps).run Try.prog W = .ok (.agg #[x0, x1, x2]) W := by
  have hp' : tmps[p]?.getD undef = .pointer (some ⟨b, 0, none⟩) := by simpa using hp
  simp [results, h, hp', hb.c0, hb.c1, hb.c2, asAddr, go_sem]
/-- What l05Right, l05Any answer. -/
def EnD (g : Nat) (w : World) (e : Ending) (w' : World) : Prop :=
  ∃ (t k : Int) (d : ByteArray), e = .returned (.agg #[.int .i64 t, .int .i64 k, .string d]) ∧ d.size ≤ 1000 ∧ Drw w' g ∧ Save g w w'
theorem EnS.end {g : Nat} {w W : World} {b : Nat} {t k : Int} {d : ByteArray} (h : EnS g w b t k d W) (hd : d.size ≤ 1000) : EnD g w (.returned (.agg #[.int .i64 t, .int .i64 k, .string d])) (set3E W w.heap.size (.int .i64 t) (.int .i64 k) (.string d)) := ⟨t, k, d, rfl, hd, h.fin.2.1, h.fin.2.2⟩

theorem textC_size4 (cs : List Int) : (textC cs).size ≤ 4 := by
  unfold textC
  cases h : okC cs with
  | false => exact Nat.zero_le _
  | true =>
    show (bstr cs).size ≤ 4
    have e : (bstr cs).size = cs.length := by simp [bstr, ByteArray.size]
    rw [e]
    exact okC_len h
set_option maxRecDepth 10000 in
set_option maxHeartbeats 2000000 in
theorem l05Right_any (g : Nat) (t : Int) (w : World) (hd : Drw w g) : Calls Try.prog 56 #[.pointer (some ⟨g, 0, none⟩), .int .i64 t] w (EnD g w) := by
  have hgl : g < w.heap.size := hd.lt
  obtain ⟨W0, HW0⟩ : ∃ W0, Hid (w.alloc (.cells #[.int .i64 0, .int .i64 0, .string ⟨#[]⟩] 25) = W0) := ⟨_, rfl⟩
  have Z0 : Hid (K3 25 W0 w.heap.size (.int .i64 0) (.int .i64 0) (.string ⟨#[]⟩)) := by rw [← HW0.out]; exact K3.new _ _ _ _ _
  have B0 : Hid (Below w.heap.size w W0) := by rw [← HW0.out]; exact ba (Below.refl _ _) _
  have D0 : Hid (Drw W0 g) := hd.keep (B0.out.mono hgl)
  clear hd
  go_enter Try.func56, Try.ntmps56
  go_wp2_with fail
  have hz0 : w.heap.size + 1 = W0.heap.size := by rw [← HW0.out]; simp
  rw [HW0.out]
  try rw [hz0]
  refine (pickLit_from g [1, 2, 3, 3, 3] W0 W0 D0.out (Save.refl _ _) (by decide) (by decide) (by decide) #[.int .i64 1, .int .i64 2, .int .i64 3, .int .i64 3, .int .i64 3] rfl 5 rfl).mono ?_
  rintro x W1 ⟨z, rfl, -, -, hd1, hs1⟩
  obtain ⟨W2, HW2⟩ : ∃ W2, Hid (W1.alloc (.cells #[.int .i64 t, .int .i64 z, .string ⟨#[]⟩] 25) = W2) := ⟨_, rfl⟩
  have HE : Hid (EnS g w W1.heap.size t z ⟨#[]⟩ W2) := by
    have h0 := B0.out.size
    have h1 := hs1.size
    have h2 := Z0.out.lt
    have hz : K3 25 W1 w.heap.size (.int .i64 0) (.int .i64 0) (.string ⟨#[]⟩) := Z0.out.save hs1 (by omega)
    rw [← HW2.out]
    exact ⟨hz.alloc _, K3.new _ _ _ _ _, hd1.keep ((ba (Below.refl _ _) _).mono hd1.lt), ((Save.of_below B0.out).trans hs1).alloc _, hgl, by omega⟩
  clear hd1 hs1 Z0 B0 D0 HW0
  by_cases h2 : z = 2
  · subst h2
    go_wp2_with fail
    obtain ⟨b, hb⟩ : ∃ b, W1.heap.size = b := ⟨_, rfl⟩
    rw [hb] at HE
    rw [HW2.out]
    try rw [hb]
    clear hb HW2
    refine (l05Conf_any g W2 HE.out.drw).mono ?_
    rintro x W3 ⟨v, l, rfl, hl, hr, hc⟩
    have HE3 : Hid (EnS g w b t 2 ⟨#[]⟩ W3) := HE.out.save hc.sv hc.drw
    have HR : Hid (Reads W3 v l) := hc.own.reads
    have hl4 := hr.len
    clear hc hr HE hl
    go_wp2_with fail
    refine (specConfText_any HR.out (by omega)).mono ?_
    unfold textV
    rintro x W4 ⟨rfl, hb4⟩
    have HE4 : Hid (EnS g w b t 2 ⟨#[]⟩ W4) := HE3.out.up hb4
    obtain ⟨d, hdd⟩ : ∃ d, textC l = d := ⟨_, rfl⟩
    obtain ⟨q, hqq⟩ : ∃ q, okC l = q := ⟨_, rfl⟩
    have hd4 : d.size ≤ 4 := by rw [← hdd]; exact textC_size4 l
    rw [hdd, hqq]
    clear hdd hqq hb4 HE3 HR
    have HE : Hid (EnS g w b t 2 d (W4.setCell ⟨b, 2, none⟩ (.string d))) := HE4.out.set2 d
    have i2 := HE4.out.en.c2
    have j2 := HE4.out.en.fz 2
    have e0 := HE.out.en.c0
    have r0 := HE.out.res.c0
    have f0 := HE.out.res.fz 0
    have e1 := HE.out.en.c1
    have r1 := HE.out.res.c1
    have f1 := HE.out.res.fz 1
    have e2 := HE.out.en.c2
    have r2 := HE.out.res.c2
    have f2 := HE.out.res.fz 2
    go_wp2
    exact bodyPost_ret (ret_e1 (p := 4) (by kernel_rfl) (by kernel_rfl) HE.out.fin.1) rfl (HE.out.end (by omega))
  · have e2 : (z == 2) = false := beq_eq_false_iff_ne.2 h2
    by_cases h3 : z = 3
    · subst h3
      go_wp2_with fail
      obtain ⟨b, hb⟩ : ∃ b, W1.heap.size = b := ⟨_, rfl⟩
      rw [hb] at HE
      rw [HW2.out]
      try rw [hb]
      clear hb HW2
      refine (l17Right_any g W2 HE.out.drw).mono ?_
      rintro x W3 ⟨op, tok, seq, text, task, num, up, yes, rfl, hq, ht, hk, hd3, hs3⟩
      have HE3 : Hid (EnS g w b t 3 ⟨#[]⟩ W3) := HE.out.save hs3 hd3
      clear HE hd3 hs3 hq
      go_wp2_with fail
      refine (commandText_any op tok seq text task num up yes _ (by omega) (by omega)).mono ?_
      rintro x W4 ⟨rfl, hb4⟩
      have HE4 : Hid (EnS g w b t 3 ⟨#[]⟩ W4) := HE3.out.up hb4
      have hd4 : (cmtX op tok seq text task num up yes).size ≤ 1000 := cmtX_size
      obtain ⟨d, hdd⟩ : ∃ d, cmtX op tok seq text task num up yes = d := ⟨_, rfl⟩
      obtain ⟨q, hqq⟩ : ∃ q, cmdB op tok seq text task num up yes = q := ⟨_, rfl⟩
      rw [hdd] at hd4
      rw [hdd, hqq]
      clear hdd hqq hb4 HE3 ht hk
      have HE : Hid (EnS g w b t 3 d (W4.setCell ⟨b, 2, none⟩ (.string d))) := HE4.out.set2 d
      have i2 := HE4.out.en.c2
      have j2 := HE4.out.en.fz 2
      have e0 := HE.out.en.c0
      have r0 := HE.out.res.c0
      have f0 := HE.out.res.fz 0
      have e1 := HE.out.en.c1
      have r1 := HE.out.res.c1
      have f1 := HE.out.res.fz 1
      have e2 := HE.out.en.c2
      have r2 := HE.out.res.c2
      have f2 := HE.out.res.fz 2
      go_wp2
      exact bodyPost_ret (ret_e1 (p := 4) (by kernel_rfl) (by kernel_rfl) HE.out.fin.1) rfl (HE.out.end hd4)
    · have e3 : (z == 3) = false := beq_eq_false_iff_ne.2 h3
      have hz0 : (⟨#[]⟩ : ByteArray).size ≤ 1000 := Nat.zero_le _
      have HE' := HE.out
      rw [← HW2.out] at HE'
      have HE : Hid _ := HE'
      clear HE'
      have e0 := HE.out.en.c0
      have r0 := HE.out.res.c0
      have f0 := HE.out.res.fz 0
      have e1 := HE.out.en.c1
      have r1 := HE.out.res.c1
      have f1 := HE.out.res.fz 1
      have e2 := HE.out.en.c2
      have r2 := HE.out.res.c2
      have f2 := HE.out.res.fz 2
      go_wp2
      exact bodyPost_ret (ret_e1 (p := 4) (by kernel_rfl) (by kernel_rfl) HE.out.fin.1) rfl (HE.out.end hz0)

set_option maxRecDepth 10000 in
set_option maxHeartbeats 2000000 in
theorem l05Any_any (g : Nat) (w : World) (hd : Drw w g) : Calls Try.prog 33 #[.pointer (some ⟨g, 0, none⟩)] w (EnD g w) := by
  have hgl : g < w.heap.size := hd.lt
  obtain ⟨W0, HW0⟩ : ∃ W0, Hid (w.alloc (.cells #[.int .i64 0, .int .i64 0, .string ⟨#[]⟩] 25) = W0) := ⟨_, rfl⟩
  have Z0 : Hid (K3 25 W0 w.heap.size (.int .i64 0) (.int .i64 0) (.string ⟨#[]⟩)) := by rw [← HW0.out]; exact K3.new _ _ _ _ _
  have B0 : Hid (Below w.heap.size w W0) := by rw [← HW0.out]; exact ba (Below.refl _ _) _
  have D0 : Hid (Drw W0 g) := hd.keep (B0.out.mono hgl)
  clear hd
  go_enter Try.func33, Try.ntmps33
  go_wp2_with fail
  rw [HW0.out]
  refine (below_any g 9 _ D0.out (by decide) (by decide)).mono ?_
  rintro x W1 ⟨q, rfl, q0, q1, hd1, hs1⟩
  have Z1 : Hid (K3 25 W1 w.heap.size (.int .i64 0) (.int .i64 0) (.string ⟨#[]⟩)) := Z0.out.save hs1 (by omega)
  have D1 : Hid (Drw W1 g) := hd1
  have S1 : Hid (Save g w W1) := (Save.of_below B0.out).trans hs1
  clear hd1 hs1 D0 Z0 B0 HW0
  go_wp2_with fail
  refine (l05Right_any g q _ D1.out).mono ?_
  rintro x W2 ⟨t, k, d, rfl, hdz, hd2, hs2⟩
  obtain ⟨W3, HW3⟩ : ∃ V, Hid (W2.alloc (.cells #[.int .i64 t, .int .i64 k, .string d] 25) = V) := ⟨_, rfl⟩
  have HE : Hid (EnS g w W2.heap.size t k d W3) := by
    have h2 := Z1.out.lt
    have h1 := hs2.size
    have hz : K3 25 W2 w.heap.size (.int .i64 0) (.int .i64 0) (.string ⟨#[]⟩) := Z1.out.save hs2 (by omega)
    rw [← HW3.out]
    exact ⟨hz.alloc _, K3.new _ _ _ _ _, hd2.keep ((ba (Below.refl _ _) _).mono hd2.lt), (S1.out.trans hs2).alloc _, hgl, by omega⟩
  clear hd2 hs2 D1 S1 Z1 q0 q1
  go_wp2_with fail
  obtain ⟨b, hb⟩ : ∃ b, W2.heap.size = b := ⟨_, rfl⟩
  rw [hb] at HE
  rw [HW3.out]
  try rw [hb]
  clear hb HW3
  refine (below_any g 30 _ HE.out.drw (by decide) (by decide)).mono ?_
  rintro x W4 ⟨r, rfl, r0, r1, hd4, hs4⟩
  have HE4 : Hid (EnS g w b t k d W4) := HE.out.save hs4 hd4
  clear hd4 hs4 HE
  by_cases h0 : r = 0
  · subst h0
    go_wp2_with fail
    refine (pickLit_from g [-1, 100000, 100001] W4 W4 HE4.out.drw (Save.refl _ _) (by decide) (by decide) (by decide) #[.int .i64 (-1), .int .i64 100000, .int .i64 100001] rfl 3 rfl).mono ?_
    rintro x W5 ⟨z, rfl, -, -, hd5, hs5⟩
    have HE5 : Hid (EnS g w b t k d W5) := HE4.out.save hs5 hd5
    clear hd5 hs5 HE4
    have HE : Hid (EnS g w b z k d (W5.setCell ⟨b, 0, none⟩ (.int .i64 z))) := HE5.out.set0 z
    have i2 := HE5.out.en.c0
    have j2 := HE5.out.en.fz 0
    have e0 := HE.out.en.c0
    have r0 := HE.out.res.c0
    have f0 := HE.out.res.fz 0
    have e1 := HE.out.en.c1
    have r1 := HE.out.res.c1
    have f1 := HE.out.res.fz 1
    have e2 := HE.out.en.c2
    have r2 := HE.out.res.c2
    have f2 := HE.out.res.fz 2
    go_wp2
    exact bodyPost_ret (ret_e1 (p := 2) (by kernel_rfl) (by kernel_rfl) HE.out.fin.1) rfl (HE.out.end hdz)
  · have x0 : (r == 0) = false := beq_eq_false_iff_ne.2 h0
    by_cases h1 : r = 1
    · subst h1
      go_wp2_with fail
      refine (pickLit_from g [0, 4, 1, 2] W4 W4 HE4.out.drw (Save.refl _ _) (by decide) (by decide) (by decide) #[.int .i64 0, .int .i64 4, .int .i64 1, .int .i64 2] rfl 4 rfl).mono ?_
      rintro x W5 ⟨z, rfl, -, -, hd5, hs5⟩
      have HE5 : Hid (EnS g w b t k d W5) := HE4.out.save hs5 hd5
      clear hd5 hs5 HE4
      have HE : Hid (EnS g w b t z d (W5.setCell ⟨b, 1, none⟩ (.int .i64 z))) := HE5.out.set1 z
      have i2 := HE5.out.en.c1
      have j2 := HE5.out.en.fz 1
      have e0 := HE.out.en.c0
      have r0 := HE.out.res.c0
      have f0 := HE.out.res.fz 0
      have e1 := HE.out.en.c1
      have r1 := HE.out.res.c1
      have f1 := HE.out.res.fz 1
      have e2 := HE.out.en.c2
      have r2 := HE.out.res.c2
      have f2 := HE.out.res.fz 2
      go_wp2
      exact bodyPost_ret (ret_e1 (p := 2) (by kernel_rfl) (by kernel_rfl) HE.out.fin.1) rfl (HE.out.end hdz)
    · have x1 : (r == 1) = false := beq_eq_false_iff_ne.2 h1
      by_cases h2 : r = 2
      · subst h2
        go_wp2_with fail
        refine (below_any g 2 _ HE4.out.drw (by decide) (by decide)).mono ?_
        rintro x W5 ⟨u, rfl, u0, u1, hd5, hs5⟩
        have HE5 : Hid (EnS g w b t k d W5) := HE4.out.save hs5 hd5
        clear hd5 hs5 HE4
        obtain ⟨U, rfl⟩ : ∃ U : Nat, u = (U : Int) := ⟨u.toNat, by omega⟩
        have hU : U < 2 := by omega
        clear u0 u1
        go_wp2_with fail
        refine (show Calls Try.prog 61 #[.int .i64 (640 + (U : Int)), .int .u8 65] W5 _ from long_any (640 + U) 65 W5 (by omega) (by omega)).mono ?_
        rintro x W6 ⟨D, rfl, hD, hb6⟩
        have HE6 : Hid (EnS g w b t k d W6) := HE5.out.up hb6
        clear hb6 HE5
        have HE : Hid (EnS g w b 0 3 D (((W6.setCell ⟨b, 0, none⟩ (.int .i64 0)).setCell ⟨b, 1, none⟩ (.int .i64 3)).setCell ⟨b, 2, none⟩ (.string D))) := HE6.out.set3 0 3 D
        have i0 := HE6.out.en.c0
        have j0 := HE6.out.en.fz 0
        have i1 := HE6.out.en.c1
        have j1 := HE6.out.en.fz 1
        have i2 := HE6.out.en.c2
        have j2 := HE6.out.en.fz 2
        have e0 := HE.out.en.c0
        have r0 := HE.out.res.c0
        have f0 := HE.out.res.fz 0
        have e1 := HE.out.en.c1
        have r1 := HE.out.res.c1
        have f1 := HE.out.res.fz 1
        have e2 := HE.out.en.c2
        have r2 := HE.out.res.c2
        have f2 := HE.out.res.fz 2
        go_wp2
        exact bodyPost_ret (ret_e1 (p := 2) (by kernel_rfl) (by kernel_rfl) HE.out.fin.1) rfl (HE.out.end (by omega))
      · have x2 : (r == 2) = false := beq_eq_false_iff_ne.2 h2
        have HE := HE4
        clear HE4
        have e0 := HE.out.en.c0
        have r0 := HE.out.res.c0
        have f0 := HE.out.res.fz 0
        have e1 := HE.out.en.c1
        have r1 := HE.out.res.c1
        have f1 := HE.out.res.fz 1
        have e2 := HE.out.en.c2
        have r2 := HE.out.res.c2
        have f2 := HE.out.res.fz 2
        go_wp2
        exact bodyPost_ret (ret_e1 (p := 2) (by kernel_rfl) (by kernel_rfl) HE.out.fin.1) rfl (HE.out.end hdz)
end Go.Proofs.Ytehkebdncfljmaa

namespace Go.Proofs.Ytehkebdncfljmaa
open Go Go.RowKit

/-- What is taken. -/
def takeS (s : ByteArray) (a : Nat) (b : Bool) (n : Nat) : ByteArray × Nat × Bool := if b = false ∧ a + n ≤ s.size then (s.extract a (a + n), a + n, false) else (ByteArray.empty, a, true)

theorem takeS_no1 (s : ByteArray) (a n : Nat) : takeS s a true n = (ByteArray.empty, a, true) := by simp [takeS]
theorem takeS_no2 {s : ByteArray} {a n : Nat} (h : s.size < a + n) : takeS s a false n = (ByteArray.empty, a, true) := by unfold takeS; rw [if_neg (by omega)]
theorem takeS_yes {s : ByteArray} {a n : Nat} (h : a + n ≤ s.size) : takeS s a false n = (s.extract a (a + n), a + n, false) := by unfold takeS; rw [if_pos ⟨rfl, h⟩]
/-- Where a number that is read lies. -/
theorem rvGo_in (s : ByteArray) : ∀ (f i k n : Nat) (x y : Int), rvGo s f i k n = (x, y, true) → ∃ X Y : Nat, x = X ∧ y = Y ∧ X ≤ 1000000000 ∧ i < Y ∧ Y ≤ s.size
  | 0, _, _, _, x, y, h => by simp [rvGo] at h
  | f + 1, i, k, n, x, y, h => by
    rw [rvGo] at h
    split at h
    · rename_i hi
      split at h
      · split at h
        · simp at h
        · rename_i hx
          simp only [Prod.mk.injEq, and_true] at h
          exact ⟨_, i + 1, h.1.symm, by omega, by omega, by omega, by omega⟩
      · obtain ⟨X, Y, h1, h2, h3, h4, h5⟩ := rvGo_in s f _ _ _ x y h
        exact ⟨X, Y, h1, h2, h3, by omega, h5⟩
    · simp at h
theorem rv_in {s : ByteArray} {a : Int} {x y : Int} (h : rv s a = (x, y, true)) : ∃ X Y : Nat, x = X ∧ y = Y ∧ X ≤ 1000000000 ∧ a < Y ∧ Y ≤ s.size := by
  unfold rv at h
  split at h
  · obtain ⟨X, Y, h1, h2, h3, h4, h5⟩ := rvGo_in s _ _ _ _ x y h
    exact ⟨X, Y, h1, h2, h3, by omega, h5⟩
  · simp at h

/-- The number that is read. -/
def varS (s : ByteArray) (a : Nat) (b : Bool) : Nat × Nat × Bool := if b = false ∧ (rv s a).2.2 = true then ((rv s a).1.toNat, (rv s a).2.1.toNat, false) else (0, a, true)

end Go.Proofs.Ytehkebdncfljmaa

namespace Go.Proofs.Ytehkebdncfljmaa
open Go Go.RowKit

/-- The byte at a place. -/
def kAt (s : ByteArray) (a : Nat) : Nat := if h : a < s.size then s[a].toNat else 0
theorem kAt_in {s : ByteArray} {a : Nat} (h : a < s.size) : kAt s a = s[a].toNat := by simp [kAt, h]
theorem kAt_lt (s : ByteArray) (a : Nat) : kAt s a < 256 := by
  unfold kAt
  split
  · exact UInt8.toNat_lt _
  · omega
theorem takeS_ok {s t : ByteArray} {a a' n : Nat} {b : Bool} (h : takeS s a b n = (t, a', false)) : b = false ∧ a + n ≤ s.size ∧ t = s.extract a (a + n) ∧ a' = a + n := by
  unfold takeS at h
  split at h
  · rename_i hc
    simp only [Prod.mk.injEq, and_true] at h
    exact ⟨hc.1, hc.2, h.1.symm, h.2.symm⟩
  · simp at h
theorem varS_ok {s : ByteArray} {a x a' : Nat} {b : Bool} (h : varS s a b = (x, a', false)) : b = false ∧ rv s a = ((x : Int), (a' : Int), true) := by
  unfold varS at h
  split at h
  · rename_i hc
    refine ⟨hc.1, ?_⟩
    rcases hr : rv s a with ⟨X, Y, z⟩
    rw [hr] at hc h
    obtain ⟨-, rfl⟩ := hc
    obtain ⟨X', Y', rfl, rfl, -⟩ := rv_in hr
    simp only [Prod.mk.injEq, and_true, Int.toNat_natCast] at h
    rw [h.1, h.2]
  · simp at h
theorem varS_yes {s : ByteArray} {a X Y : Nat} (h : rv s a = ((X : Int), (Y : Int), true)) : varS s a false = (X, Y, false) := by simp [varS, h]
theorem varS_bad (s : ByteArray) (a : Nat) : varS s a true = (0, a, true) := by simp [varS]
theorem heap_last (W : World) (o : Obj) : (W.alloc o).heap[W.heap.size]? = some o := by show (W.heap.push o)[W.heap.size]? = some o; simp
theorem heap_next (W : World) (o o2 : Obj) : ((W.alloc o).alloc o2).heap[W.heap.size + 1]? = some o2 := by
  have := heap_last (W.alloc o) o2
  rwa [World.size_alloc] at this
theorem heap_old {W : World} {k : Nat} {o : Obj} (h : W.heap[k]? = some o) (o2 : Obj) : (W.alloc o2).heap[k]? = some o :=
  (Below.heap_alloc _ _ _ (Array.getElem?_eq_some_iff.1 h).1).trans h
theorem heap_far {W : World} {k : Nat} {o : Obj} (h : W.heap[k]? = some o) {p : Addr} (hp : p.block ≠ k) (u : Value) : (W.setCell p u).heap[k]? = some o :=
  (Below.heap_setCell _ _ _ _ (by omega)).trans h
theorem Save.heap {g : Nat} {w w' : World} {k : Nat} {o : Obj} (h : Save g w w') (hk : k ≠ g) (hc : w.heap[k]? = some o) : w'.heap[k]? = some o :=
  (h.block k (Array.getElem?_eq_some_iff.1 hc).1 hk).trans hc
theorem Save.under {B g : Nat} {w w1 w' : World} (h : Below B w w1) (hs : Save g w1 w') (hg : B ≤ g) (hB : B ≤ w1.heap.size) : Below B w w' := h.trans (hs.below hg hB)
end Go.Proofs.Ytehkebdncfljmaa

namespace Go.Proofs.Ytehkebdncfljmaa
open Go Go.RowKit

/-- The bytes of a text as numbers. -/
def bytesI (s : ByteArray) : List Int := s.toList.map fun b => (b.toNat : Int)
theorem bytesI_length (s : ByteArray) : (bytesI s).length = s.size := by
  unfold bytesI
  rw [List.length_map, ByteArray.toList_eq]
  exact Array.length_toList
theorem bytesI_at {s : ByteArray} {k : Nat} (h : k < s.size) : (bytesI s)[k]? = some (s[k].toNat : Int) := by
  unfold bytesI
  rw [ByteArray.toList_eq, List.getElem?_map, Array.getElem?_toList]
  have h' : k < s.data.size := h
  rw [Array.getElem?_eq_getElem h']
  rfl
/-- The conf that is read, and whether there is one. -/
def okT (s : ByteArray) : Bool := okC (bytesI s)
def confT (s : ByteArray) : List Int := if okT s then bytesI s else []
theorem okT_long {s : ByteArray} (h : 4 < s.size) : okT s = false := okC_long (by rw [bytesI_length]; exact h)
theorem confT_no {s : ByteArray} (h : okT s = false) : confT s = [] := by simp [confT, h]
theorem confT_yes {s : ByteArray} (h : okT s = true) : confT s = bytesI s := by simp [confT, h]
theorem confT_len (s : ByteArray) : (confT s).length ≤ 4 := by
  cases h : okT s with
  | false => rw [confT_no h]; simp
  | true => rw [confT_yes h]; exact okC_len h

/-- One number more behind a row that the call owns. -/
theorem cells_int {b : Nat} {x : Int} {w : World} (h : w.cell? ⟨b, 0, none⟩ = some (.int .i64 x)) : ∀ j u, (Rec.cells x)[j]? = some u → w.cell? ⟨b, j, none⟩ = some u ∧ u.oneCell' = true := by
  intro j u hj
  match j, hj with
  | 0, hj =>
    have : Value.int .i64 x = u := by simpa [Rec.cells] using hj
    subst this
    exact ⟨h, rfl⟩
theorem ownsN_made (w : World) (B cap : Nat) (cur : Array Value) (hb : B ≤ w.heap.size) (hm : cap ≤ maxLen) (hs : cur.size = cap) :
    ownsR (w.alloc (.cells cur 3)) B 3 (.slice (some ⟨w.heap.size, 0, none⟩) 0 cap) ([] : List Int) :=
  World.ownsRow_made w cur cap hb hm (by simp [Rec.width]; omega)

set_option maxHeartbeats 1000000 in
theorem readConf_any (s : ByteArray) (w : World) (hs : s.size ≤ maxLen) :
    Calls Try.prog 13 #[.string s] w fun e w' => ∃ v, e = .returned (.tuple #[v, .bool (okT s)]) ∧ ownsR w' w.heap.size 3 v (confT s) ∧ Below w.heap.size w w' := by
  unfold maxLen at hs
  have hmk : ∀ w, (Instr.makeSlice 32 (.int .i64 0) (.int .i64 4)).run Try.prog w = .ok (.slice (some ⟨w.heap.size, 0, none⟩) 0 4) (w.alloc (.cells #[.int .i64 0, .int .i64 0, .int .i64 0, .int .i64 0] 3)) := fun _ => by kernel_rfl
  by_cases h4 : (4 : Int) < (s.size : Int)
  · have HF : Hid (okT s = false) := okT_long (by omega)
    go_enter Try.func13, Try.ntmps13
    go_wp2
    go_ret2
    rw [HF.out, confT_no HF.out]
    exact ⟨_, rfl, ownsN_made _ _ _ _ (Nat.le_refl _) (by decide) rfl, (Below.refl _ _).alloc (Nat.le_refl _) _⟩
  · obtain ⟨l, HB⟩ : ∃ l, Hid (bytesI s = l) := ⟨_, rfl⟩
    have HL : Hid (l.length = s.size) := by show l.length = s.size; rw [← HB.out]; exact bytesI_length s
    go_enter Try.func13, Try.ntmps13
    go_wp2
    go_loopw [4, 5] (fun out i wr => ∃ k : Nat, k ≤ s.size ∧ i = .int .i64 k ∧ ownsR wr w.heap.size 3 out (l.take k) ∧ Below w.heap.size w wr) (fun _ i _ => s.size - (intOf i).toNat)
    case atStart => exact ⟨0, Nat.zero_le _, rfl, ownsN_made _ _ _ _ (Nat.le_refl _) (by decide) rfl, (Below.refl _ _).alloc (Nat.le_refl _) _⟩
    case round =>
      obtain ⟨k, hk, rfl, hown, hbel⟩ := hrel
      have hsz := hbel.size
      by_cases hlt : k < s.size
      · have HT : Hid (l.take (k + 1) = l.take k ++ [(s[k].toNat : Int)]) := take_snoc (by rw [← HB.out]; exact bytesI_at hlt)
        have hlen : (l.take k).length ≤ 4 := by simp; omega
        have hb8 : s[k].toNat < 256 := s[k].toNat_lt
        go_wp2_with (at_builtin; refine wpList_append_rec _ w rfl (.tmp 17) (.tmp 22) 32 rfl w.heap.size 3 _ 8 Try.underlying32 info3 rfl _ (l.take k) rfl (hown.alloc _) (hbel.alloc hsz _) wr.heap.size 1 (s[k].toNat : Int) rfl ?c1 ?c2 ?c3 ?c4 ?_)
        case c1 => exact cells_int (by simp)
        case c2 => omega
        case c3 => omega
        case c4 => simp; omega
        intro v' w2 hown2 hbel2 _
        clear hown hbel
        rw [← HT.out] at hown2
        go_wp2
        go_roundw
        case rel => exact ⟨k + 1, by omega, by go_num, hown2, hbel2⟩
        case measure => simp [intOf]; omega
      · have hkn : k = l.length := by rw [HL.out]; omega
        have hown2 := hown
        rw [hkn, List.take_length] at hown2
        have HO : Hid (ownsR wr w.heap.size 3 _ l) := hown2
        clear hown hown2 hkn
        have hC := confOk_any HO.out.reads (by rw [HL.out]; omega)
        cases hq : okC l with
        | true =>
          have HQ : Hid (okT s = true) := by show okC (bytesI s) = true; rw [HB.out]; exact hq
          rw [hq] at hC
          go_wp2_with (go_at_call 16; refine hC.mono ?_; rintro e w3 ⟨rfl, hb3⟩)
          go_ret2
          rw [HQ.out, confT_yes HQ.out, HB.out]
          exact ⟨_, rfl, HO.out.all hb3, hbel.trans (hb3.mono hsz)⟩
        | false =>
          have HQ : Hid (okT s = false) := by show okC (bytesI s) = false; rw [HB.out]; exact hq
          rw [hq] at hC
          go_wp2_with (go_at_call 16; refine hC.mono ?_; rintro e w3 ⟨rfl, hb3⟩)
          go_ret2
          rw [HQ.out, confT_no HQ.out]
          have hb4 := hbel.trans (hb3.mono hsz)
          exact ⟨_, rfl, ownsN_made _ _ _ _ hb4.size (by decide) rfl, hb4.alloc hb4.size _⟩
end Go.Proofs.Ytehkebdncfljmaa

namespace Go.Proofs.Ytehkebdncfljmaa
open Go Go.RowKit

set_option maxHeartbeats 1000000 in
theorem specReadConf_any (s : ByteArray) (w : World) (hs : s.size ≤ maxLen) :
    Calls Try.prog 63 #[.string s] w fun e w' => ∃ v, e = .returned (.tuple #[v, .bool (okT s)]) ∧ ownsR w' w.heap.size 3 v (confT s) ∧ Below w.heap.size w w' := by
  unfold maxLen at hs
  obtain ⟨l, HB⟩ : ∃ l, Hid (bytesI s = l) := ⟨_, rfl⟩
  have HL : Hid (l.length = s.size) := by show l.length = s.size; rw [← HB.out]; exact bytesI_length s
  go_enter Try.func63, Try.ntmps63
  go_wp2
  go_loopw [4, 5] (fun out i wr => ∃ k : Nat, k ≤ s.size ∧ k ≤ 5 ∧ i = .int .i64 k ∧ ownsR wr w.heap.size 3 out (l.take k) ∧ Below w.heap.size w wr) (fun _ i _ => s.size - (intOf i).toNat)
  case atStart => exact ⟨0, Nat.zero_le _, Nat.zero_le _, rfl, ownsN_made _ _ _ _ (Nat.le_refl _) (by decide) rfl, (Below.refl _ _).alloc (Nat.le_refl _) _⟩
  case round =>
    obtain ⟨k, hk, hk5, rfl, hown, hbel⟩ := hrel
    have hsz := hbel.size
    by_cases hlt : k < s.size
    · by_cases hk4 : (k : Int) ≤ 4
      · have HT : Hid (l.take (k + 1) = l.take k ++ [(s[k].toNat : Int)]) := take_snoc (by rw [← HB.out]; exact bytesI_at hlt)
        have hlen : (l.take k).length ≤ 4 := by simp; omega
        have hb8 : s[k].toNat < 256 := s[k].toNat_lt
        go_wp2_with (at_builtin; refine wpList_append_rec _ w rfl (.tmp 17) (.tmp 22) 32 rfl w.heap.size 3 _ 8 Try.underlying32 info3 rfl _ (l.take k) rfl (hown.alloc _) (hbel.alloc hsz _) wr.heap.size 1 (s[k].toNat : Int) rfl ?c1 ?c2 ?c3 ?c4 ?_)
        case c1 => exact cells_int (by simp)
        case c2 => omega
        case c3 => omega
        case c4 => simp; omega
        intro v' w2 hown2 hbel2 _
        clear hown hbel
        rw [← HT.out] at hown2
        go_wp2
        go_roundw
        case rel => exact ⟨k + 1, by omega, by omega, by go_num, hown2, hbel2⟩
        case measure => simp [intOf]; omega
      · have HQ : Hid (okT s = false) := okT_long (by omega)
        have hk6 : k = 5 := by omega
        obtain ⟨a, c, rfl⟩ := hown.slice
        have e5 : (l.take k).length = 5 := by rw [List.length_take, HL.out]; omega
        rw [e5] at hown ⊢
        by_cases h6 : s.size = 5
        · have HO : Hid (ownsR wr w.heap.size 3 (.slice a 5 c) l) := by
            have := hown
            rw [List.take_of_length_le (by rw [HL.out]; omega)] at this
            exact this
          have hC := specConfOk_any HO.out.reads (by rw [HL.out]; omega)
          rw [show okC l = false by rw [← HB.out]; exact HQ.out] at hC
          clear hown e5
          go_wp2_with (go_at_call 14; refine hC.mono ?_; rintro e w3 ⟨rfl, hb3⟩)
          go_ret2
          rw [HQ.out, confT_no HQ.out]
          have hb4 := hbel.trans (hb3.mono hsz)
          exact ⟨_, rfl, ownsN_made _ _ _ _ hb4.size (by decide) rfl, hb4.alloc hb4.size _⟩
        · have h7 : ¬ (5 : Int) = (s.size : Int) := by omega
          clear hown e5 h6
          go_wp2
          go_ret2
          rw [HQ.out, confT_no HQ.out]
          exact ⟨_, rfl, ownsN_made _ _ _ _ hsz (by decide) rfl, hbel.alloc hsz _⟩
    · have hkn : k = l.length := by rw [HL.out]; omega
      have hown2 := hown
      rw [hkn, List.take_length] at hown2
      obtain ⟨a, c, rfl⟩ := hown2.slice
      have HO : Hid (ownsR wr w.heap.size 3 (.slice a l.length c) l) := hown2
      have hC := specConfOk_any HO.out.reads (by rw [HL.out]; omega)
      rw [HL.out] at hC ⊢
      clear hown hown2
      have h7 : ¬ k < s.size := hlt
      cases hq : okC l with
      | true =>
        have HQ : Hid (okT s = true) := by show okC (bytesI s) = true; rw [HB.out]; exact hq
        rw [hq] at hC
        clear hkn
        go_wp2_with (go_at_call 14; refine hC.mono ?_; rintro e w3 ⟨rfl, hb3⟩)
        go_ret2
        rw [HQ.out, confT_yes HQ.out, HB.out]
        refine ⟨_, rfl, ?_, hbel.trans (hb3.mono hsz)⟩
        have := HO.out.all hb3
        rw [HL.out] at this
        exact this
      | false =>
        have HQ : Hid (okT s = false) := by show okC (bytesI s) = false; rw [HB.out]; exact hq
        rw [hq] at hC
        clear hkn
        go_wp2_with (go_at_call 14; refine hC.mono ?_; rintro e w3 ⟨rfl, hb3⟩)
        go_ret2
        rw [HQ.out, confT_no HQ.out]
        have hb4 := hbel.trans (hb3.mono hsz)
        exact ⟨_, rfl, ownsN_made _ _ _ _ hb4.size (by decide) rfl, hb4.alloc hb4.size _⟩
end Go.Proofs.Ytehkebdncfljmaa

namespace Go.Proofs.Ytehkebdncfljmaa
open Go Go.RowKit

/-- What an entry's kind asks of its data. -/
def kindOk (k : Int) (d : ByteArray) : Bool :=
  if k = 1 then d.toList.isEmpty else if k = 2 then okT d else if k = 3 then decide ((d.size : Int) ≤ 640) else false
def okE (t k : Int) (d : ByteArray) : Bool := decide (0 ≤ t) && decide (t ≤ 100000) && kindOk k d
/-- The kind of an entry, as the program tells it: a type behind an interface. -/
def contV (k : Int) (d : ByteArray) : Value := if k = 1 then .iface 87 (.string d) else if k = 2 then .iface 88 (.string d) else if k = 3 then .iface 89 (.string d) else .nilIface

theorem contentOf_any (t k : Int) (d : ByteArray) (w : World) :
    Calls Try.prog 36 #[.agg #[.int .i64 t, .int .i64 k, .string d]] w fun e w' => e = .returned (contV k d) ∧ Below w.heap.size w w' := by
  by_cases h1 : k = 1
  · subst h1
    go_enter Try.func36, Try.ntmps36
    go_wp2
    go_ret
    exact ⟨rfl, ba (Below.refl _ _) _⟩
  · by_cases h2 : k = 2
    · subst h2
      go_enter Try.func36, Try.ntmps36
      go_wp2
      go_ret
      exact ⟨rfl, ba (Below.refl _ _) _⟩
    · by_cases h3 : k = 3
      · subst h3
        go_enter Try.func36, Try.ntmps36
        go_wp2
        go_ret
        exact ⟨rfl, ba (Below.refl _ _) _⟩
      · have HC : Hid (contV k d = .nilIface) := by show contV k d = _; simp [contV, h1, h2, h3]
        rw [HC.out]
        go_enter Try.func36, Try.ntmps36
        go_wp2
        go_ret
        exact ⟨rfl, ba (Below.refl _ _) _⟩

theorem as_yes (t : TypeId) (ht : t = 87 ∨ t = 88 ∨ t = 89) (d : ByteArray) (w : World) : (Instr.typeAssert (.iface t (.string d)) 62 t true).run Try.prog w = .ok (.tuple #[.string d, .bool true]) w := by
  rcases ht with rfl | rfl | rfl <;> kernel_rfl
theorem as_64_63 (d : ByteArray) (w : World) : (Instr.typeAssert (.iface 88 (.string d)) 62 87 true).run Try.prog w = .ok (.tuple #[.string ByteArray.empty, .bool false]) w := by kernel_rfl
theorem as_65_63 (d : ByteArray) (w : World) : (Instr.typeAssert (.iface 89 (.string d)) 62 87 true).run Try.prog w = .ok (.tuple #[.string ByteArray.empty, .bool false]) w := by kernel_rfl
theorem as_65_64 (d : ByteArray) (w : World) : (Instr.typeAssert (.iface 89 (.string d)) 62 88 true).run Try.prog w = .ok (.tuple #[.string ByteArray.empty, .bool false]) w := by kernel_rfl
theorem as_nil_63 (w : World) : (Instr.typeAssert .nilIface 62 87 true).run Try.prog w = .ok (.tuple #[.string ByteArray.empty, .bool false]) w := by kernel_rfl
theorem as_nil_64 (w : World) : (Instr.typeAssert .nilIface 62 88 true).run Try.prog w = .ok (.tuple #[.string ByteArray.empty, .bool false]) w := by kernel_rfl
theorem as_nil_65 (w : World) : (Instr.typeAssert .nilIface 62 89 true).run Try.prog w = .ok (.tuple #[.string ByteArray.empty, .bool false]) w := by kernel_rfl

set_option maxHeartbeats 1000000 in
theorem isRight_any (k : Int) (d : ByteArray) (w : World) (hd : d.size ≤ maxLen) :
    Calls Try.prog 62 #[contV k d] w fun e w' => e = .returned (.bool (kindOk k d)) ∧ Below w.heap.size w w' := by
  have HD : Hid (d.size ≤ maxLen) := hd
  clear hd
  by_cases h1 : k = 1
  · subst h1
    have a1 := as_yes 87 (by decide) d
    show Calls Try.prog 62 #[.iface 87 (.string d)] w fun e w' => e = .returned (.bool d.toList.isEmpty) ∧ Below w.heap.size w w'
    go_enter Try.func62, Try.ntmps62
    go_wp2
    go_ret
    exact ⟨rfl, Below.refl _ _⟩
  · by_cases h2 : k = 2
    · subst h2
      have a1 := as_64_63 d
      have a2 := as_yes 88 (by decide) d
      show Calls Try.prog 62 #[.iface 88 (.string d)] w fun e w' => e = .returned (.bool (okT d)) ∧ Below w.heap.size w w'
      go_enter Try.func62, Try.ntmps62
      go_wp2_with (go_at_call 13; refine (readConf_any _ _ HD.out).mono ?_; rintro e w1 ⟨v1, rfl, ho, hb⟩; clear ho)
      go_ret
      exact ⟨rfl, hb⟩
    · by_cases h3 : k = 3
      · subst h3
        have hd := HD.out
        unfold maxLen at hd
        have a1 := as_65_63 d
        have a2 := as_65_64 d
        have a3 := as_yes 89 (by decide) d
        show Calls Try.prog 62 #[.iface 89 (.string d)] w fun e w' => e = .returned (.bool (decide ((d.size : Int) ≤ 640))) ∧ Below w.heap.size w w'
        go_enter Try.func62, Try.ntmps62
        go_wp2
        go_ret
        exact ⟨rfl, Below.refl _ _⟩
      · have HC : Hid (contV k d = .nilIface) := by show contV k d = _; simp [contV, h1, h2, h3]
        have HK : Hid (kindOk k d = false) := by show kindOk k d = _; simp [kindOk, h1, h2, h3]
        rw [HC.out, HK.out]
        have a1 := as_nil_63
        have a2 := as_nil_64
        have a3 := as_nil_65
        go_enter Try.func62, Try.ntmps62
        go_wp2
        go_ret
        exact ⟨rfl, Below.refl _ _⟩
end Go.Proofs.Ytehkebdncfljmaa
