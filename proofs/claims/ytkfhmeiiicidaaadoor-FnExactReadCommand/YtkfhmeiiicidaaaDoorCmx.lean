/-
  A command in bytes, as the specification writes it: the walk.
-/
import Derived.Test.YtkfhmeiiicidaaaDoorCmt
namespace Go.Proofs.YtkfhmeiiicidaaaDoor
open Go Go.RowKit

theorem short_size (s : ByteArray) : (shortS s).size ≤ 2 * s.size + 1 := by
  unfold shortS
  rw [ByteArray.size_append]
  have := var_size s.size
  omega
set_option maxRecDepth 10000 in
set_option maxHeartbeats 2000000 in
theorem commandText_any (op tok seq : Int) (text task : ByteArray) (num up : Int) (yes : Bool) (w : World) (ht : text.size ≤ 9223372036854775807) (hk : task.size ≤ 9223372036854775807) :
    Calls Tryd.prog 6 #[.agg #[.int .i64 op, .int .i64 tok, .int .i64 seq, .string text, .string task, .int .i64 num, .int .i64 up, .bool yes]] w fun e w' => e = .returned (.tuple #[.string (cmtX op tok seq text task num up yes), .bool (cmdB op tok seq text task num up yes)]) ∧ Below w.heap.size w w' := by
  have HC : Hid (∀ w, Calls Tryd.prog 12 #[.agg #[.int .i64 op, .int .i64 tok, .int .i64 seq, .string text, .string task, .int .i64 num, .int .i64 up, .bool yes]] w fun e w' => e = .returned (.bool (cmdB op tok seq text task num up yes)) ∧ Below w.heap.size w w') := fun w => commandOk_any op tok seq text task num up yes w ht hk
  clear ht hk
  cases hq : cmdB op tok seq text task num up yes with
  | false =>
    have HX : Hid (cmtX op tok seq text task num up yes = ⟨#[]⟩) := by show cmtX op tok seq text task num up yes = _; unfold cmtX; rw [hq]; rfl
    rw [hq] at HC
    rw [HX.out]
    clear hq HX
    go_enter Tryd.func6, Tryd.ntmps6
    go_wp2_with (go_at_call 12; refine (HC.out _).mono ?_; rintro x w1 ⟨rfl, hb1⟩)
    go_ret2
    exact ⟨rfl, below_new hb1⟩
  | true =>
    have HX : Hid (cmtX op tok seq text task num up yes = cmtS op tok seq text task num up yes) := by show cmtX op tok seq text task num up yes = _; unfold cmtX; rw [hq]; rfl
    obtain ⟨o0, o1, t0, t1, s0, s1, x0, k0, n0, n1, u0, u1⟩ := cmd_fine hq
    rw [hq] at HC
    rw [HX.out]
    clear hq HX
    unfold cmtS
    have Ca : Hid (∀ w, Calls Tryd.prog 13 #[.int .i64 op] w fun e w' => e = .returned (.string (bstr [op])) ∧ Below w.heap.size w w') := fun w => l17Byte_any op w (by omega) (by omega)
    have Cb : Hid (∀ w, Calls Tryd.prog 14 #[.int .i64 tok] w fun e w' => e = .returned (.string (bstr (varI tok.toNat))) ∧ Below w.heap.size w w') := fun w => l01Var_int tok w (by omega) (by omega)
    have Cc : Hid (∀ w, Calls Tryd.prog 14 #[.int .i64 seq] w fun e w' => e = .returned (.string (bstr (varI seq.toNat))) ∧ Below w.heap.size w w') := fun w => l01Var_int seq w (by omega) (by omega)
    have Cd : Hid (∀ w, Calls Tryd.prog 15 #[.string text] w fun e w' => e = .returned (.string (shortS text)) ∧ Below w.heap.size w w') := fun w => l17Short_any text w (by omega)
    have Ce : Hid (∀ w, Calls Tryd.prog 15 #[.string task] w fun e w' => e = .returned (.string (shortS task)) ∧ Below w.heap.size w w') := fun w => l17Short_any task w (by omega)
    have Cf : Hid (∀ w, Calls Tryd.prog 14 #[.int .i64 num] w fun e w' => e = .returned (.string (bstr (varI num.toNat))) ∧ Below w.heap.size w w') := fun w => l01Var_int num w (by omega) (by omega)
    have Cg : Hid (∀ w, Calls Tryd.prog 14 #[.int .i64 up] w fun e w' => e = .returned (.string (bstr (varI up.toNat))) ∧ Below w.heap.size w w') := fun w => l01Var_int up w (by omega) (by omega)
    have Ch : Hid (∀ w, Calls Tryd.prog 16 #[.bool yes] w fun e w' => e = .returned (.string (flagS yes)) ∧ w' = w) := fun w => l17Flag_any yes w
    have za : (bstr [op]).size = 1 := by rw [bstr_size']; rfl
    have zb := var_size tok.toNat
    have zc := var_size seq.toNat
    have zd := short_size text
    have ze := short_size task
    have zf := var_size num.toNat
    have zg := var_size up.toNat
    have zh : (flagS yes).size = 1 := by cases yes <;> rfl
    obtain ⟨Sa, ha⟩ : ∃ S, bstr [op] = S := ⟨_, rfl⟩
    rw [ha] at Ca za ⊢
    clear ha
    obtain ⟨Sb, hb⟩ : ∃ S, bstr (varI tok.toNat) = S := ⟨_, rfl⟩
    rw [hb] at Cb zb ⊢
    clear hb
    obtain ⟨Sc, hc⟩ : ∃ S, bstr (varI seq.toNat) = S := ⟨_, rfl⟩
    rw [hc] at Cc zc ⊢
    clear hc
    obtain ⟨Sd, hd⟩ : ∃ S, shortS text = S := ⟨_, rfl⟩
    rw [hd] at Cd zd ⊢
    clear hd
    obtain ⟨Se, he⟩ : ∃ S, shortS task = S := ⟨_, rfl⟩
    rw [he] at Ce ze ⊢
    clear he
    obtain ⟨Sf, hf⟩ : ∃ S, bstr (varI num.toNat) = S := ⟨_, rfl⟩
    rw [hf] at Cf zf ⊢
    clear hf
    obtain ⟨Sg, hg⟩ : ∃ S, bstr (varI up.toNat) = S := ⟨_, rfl⟩
    rw [hg] at Cg zg ⊢
    clear hg
    obtain ⟨Sh, hh⟩ : ∃ S, flagS yes = S := ⟨_, rfl⟩
    rw [hh] at Ch zh ⊢
    clear hh
    have yb : (Sa ++ Sb).size = Sa.size + Sb.size := by simp only [ByteArray.size_append]
    have yc : (Sa ++ Sb ++ Sc).size = Sa.size + Sb.size + Sc.size := by simp only [ByteArray.size_append]
    have yd : (Sa ++ Sb ++ Sc ++ Sd).size = Sa.size + Sb.size + Sc.size + Sd.size := by simp only [ByteArray.size_append]
    have ye : (Sa ++ Sb ++ Sc ++ Sd ++ Se).size = Sa.size + Sb.size + Sc.size + Sd.size + Se.size := by simp only [ByteArray.size_append]
    have yf : (Sa ++ Sb ++ Sc ++ Sd ++ Se ++ Sf).size = Sa.size + Sb.size + Sc.size + Sd.size + Se.size + Sf.size := by simp only [ByteArray.size_append]
    have yg : (Sa ++ Sb ++ Sc ++ Sd ++ Se ++ Sf ++ Sg).size = Sa.size + Sb.size + Sc.size + Sd.size + Se.size + Sf.size + Sg.size := by simp only [ByteArray.size_append]
    have yh : (Sa ++ Sb ++ Sc ++ Sd ++ Se ++ Sf ++ Sg ++ Sh).size = Sa.size + Sb.size + Sc.size + Sd.size + Se.size + Sf.size + Sg.size + Sh.size := by simp only [ByteArray.size_append]
    go_enter Tryd.func6, Tryd.ntmps6
    go_wp2_with fail
    refine (HC.out _).mono ?_
    rintro x w1 ⟨rfl, hb1⟩
    have B1 := below_new hb1
    have q0 := Wd.cell ((hb1.cell (p := ⟨w.heap.size, 0, none⟩) (by simp)).trans (show _ = some (.int .i64 op) by simp [go_sem]))
    have q1 := Wd.cell ((hb1.cell (p := ⟨w.heap.size, 1, none⟩) (by simp)).trans (show _ = some (.int .i64 tok) by simp [go_sem]))
    have q2 := Wd.cell ((hb1.cell (p := ⟨w.heap.size, 2, none⟩) (by simp)).trans (show _ = some (.int .i64 seq) by simp [go_sem]))
    have q3 := Wd.cell ((hb1.cell (p := ⟨w.heap.size, 3, none⟩) (by simp)).trans (show _ = some (.string text) by simp [go_sem]))
    have q4 := Wd.cell ((hb1.cell (p := ⟨w.heap.size, 4, none⟩) (by simp)).trans (show _ = some (.string task) by simp [go_sem]))
    have q5 := Wd.cell ((hb1.cell (p := ⟨w.heap.size, 5, none⟩) (by simp)).trans (show _ = some (.int .i64 num) by simp [go_sem]))
    have q6 := Wd.cell ((hb1.cell (p := ⟨w.heap.size, 6, none⟩) (by simp)).trans (show _ = some (.int .i64 up) by simp [go_sem]))
    have q7 := Wd.cell ((hb1.cell (p := ⟨w.heap.size, 7, none⟩) (by simp)).trans (show _ = some (.bool yes) by simp [go_sem]))
    clear hb1 HC
    go_wp2_with fail
    refine wp_region_wd (by kernel_rfl) (by kernel_rfl) ?_
    repeat (go_big_quiet_step (first | (go_at_call 13; refine calls_wd (v := .string Sa) ?_; with_reducible exact Ca.out _) | (go_at_call 14; refine calls_wd (v := .string Sb) ?_; with_reducible exact Cb.out _) | (go_at_call 14; refine calls_wd (v := .string Sc) ?_; with_reducible exact Cc.out _) | (go_at_call 15; refine calls_wd (v := .string Sd) ?_; with_reducible exact Cd.out _) | (go_at_call 15; refine calls_wd (v := .string Se) ?_; with_reducible exact Ce.out _) | (go_at_call 14; refine calls_wd (v := .string Sf) ?_; with_reducible exact Cf.out _) | (go_at_call 14; refine calls_wd (v := .string Sg) ?_; with_reducible exact Cg.out _) | (go_at_call 16; refine calls_wd_same (v := .string Sh) ?_; with_reducible exact Ch.out _)))
    refine wpQuiet_nil ?_
    rintro _ ⟨x, rfl⟩
    go_wp2
    go_ret2
    exact ⟨rfl, Below.on B1 x.ok⟩
end Go.Proofs.YtkfhmeiiicidaaaDoor
