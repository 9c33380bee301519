/- Cmx,Enx -/
import Derived.Test.YtpjpheicldegkaaGreatDoorGM11
import Derived.Test.YtpjpheicldegkaaGreatDoorEns8
namespace Go.Proofs.YtpjpheicldegkaaGreatDoor
open Go Go.RowKit

theorem short_size (s : ByteArray) : (qsa s).size ≤ 2 * s.size + 1 := by
  unfold qsa
  rw [ByteArray.size_append]
  have := qxb s.size
  omega
set_option maxRecDepth 10000 in
set_option maxHeartbeats 2000000 in
theorem commandText_any (op tok seq : Int) (text task : ByteArray) (num up : Int) (yes : Bool) (w : World) (ht : text.size ≤ 9223372036854775807) (hk : task.size ≤ 9223372036854775807) :
    Calls Tryz.prog 85 #[.agg #[.int .i64 op, .int .i64 tok, .int .i64 seq, .string text, .string task, .int .i64 num, .int .i64 up, .bool yes]] w fun e w' => e = .returned (.tuple #[.string (cmtX op tok seq text task num up yes), .bool (cmdB op tok seq text task num up yes)]) ∧ Below w.heap.size w w' := by
  have HC : Hid (∀ w, Calls Tryz.prog 92 #[.agg #[.int .i64 op, .int .i64 tok, .int .i64 seq, .string text, .string task, .int .i64 num, .int .i64 up, .bool yes]] w fun e w' => e = .returned (.bool (cmdB op tok seq text task num up yes)) ∧ Below w.heap.size w w') := fun w => commandOk_any op tok seq text task num up yes w ht hk
  clear ht hk
  cases hq : cmdB op tok seq text task num up yes with
  | false =>
    have HX : Hid (cmtX op tok seq text task num up yes = ⟨#[]⟩) := by show cmtX op tok seq text task num up yes = _; unfold cmtX; rw [hq]; rfl
    rw [hq] at HC
    rw [HX.out]
    clear hq HX
    go_enter Tryz.func85, Tryz.ntmps85
    go_wp2_with (go_at_call 92; refine (HC.out _).mono ?_; rintro x w1 ⟨rfl, hb1⟩)
    go_ret2
    exact ⟨rfl, qma hb1⟩
  | true =>
    have HX : Hid (cmtX op tok seq text task num up yes = cmtS op tok seq text task num up yes) := by show cmtX op tok seq text task num up yes = _; unfold cmtX; rw [hq]; rfl
    obtain ⟨o0, o1, t0, t1, s0, s1, x0, k0, n0, n1, u0, u1⟩ := cmd_fine hq
    rw [hq] at HC
    rw [HX.out]
    clear hq HX
    unfold cmtS
    have Ca : Hid (∀ w, Calls Tryz.prog 93 #[.int .i64 op] w fun e w' => e = .returned (.string (bstr [op])) ∧ Below w.heap.size w w') := fun w => l17Byte_any op w (by omega) (by omega)
    have Cb : Hid (∀ w, Calls Tryz.prog 62 #[.int .i64 tok] w fun e w' => e = .returned (.string (bstr (varI tok.toNat))) ∧ Below w.heap.size w w') := fun w => l01Var_int tok w (by omega) (by omega)
    have Cc : Hid (∀ w, Calls Tryz.prog 62 #[.int .i64 seq] w fun e w' => e = .returned (.string (bstr (varI seq.toNat))) ∧ Below w.heap.size w w') := fun w => l01Var_int seq w (by omega) (by omega)
    have Cd : Hid (∀ w, Calls Tryz.prog 94 #[.string text] w fun e w' => e = .returned (.string (qsa text)) ∧ Below w.heap.size w w') := fun w => l17Short_any text w (by omega)
    have Ce : Hid (∀ w, Calls Tryz.prog 94 #[.string task] w fun e w' => e = .returned (.string (qsa task)) ∧ Below w.heap.size w w') := fun w => l17Short_any task w (by omega)
    have Cf : Hid (∀ w, Calls Tryz.prog 62 #[.int .i64 num] w fun e w' => e = .returned (.string (bstr (varI num.toNat))) ∧ Below w.heap.size w w') := fun w => l01Var_int num w (by omega) (by omega)
    have Cg : Hid (∀ w, Calls Tryz.prog 62 #[.int .i64 up] w fun e w' => e = .returned (.string (bstr (varI up.toNat))) ∧ Below w.heap.size w w') := fun w => l01Var_int up w (by omega) (by omega)
    have Ch : Hid (∀ w, Calls Tryz.prog 95 #[.bool yes] w fun e w' => e = .returned (.string (flagS yes)) ∧ w' = w) := fun w => l17Flag_any yes w
    have za : (bstr [op]).size = 1 := by rw [qra]; rfl
    have zb := qxb tok.toNat
    have zc := qxb seq.toNat
    have zd := short_size text
    have ze := short_size task
    have zf := qxb num.toNat
    have zg := qxb up.toNat
    have zh : (flagS yes).size = 1 := by cases yes <;> rfl
    obtain ⟨Sa, ha⟩ : ∃ S, bstr [op] = S := ⟨_, rfl⟩
    rw [ha] at Ca za ⊢
    clear ha
    obtain ⟨Sb, hb⟩ : ∃ S, bstr (varI tok.toNat) = S := ⟨_, rfl⟩
    rw [hb] at Cb zb ⊢
    clear hb
    obtain ⟨Sc, hc⟩ : ∃ S, bstr (varI seq.toNat) = S := ⟨_, rfl⟩
    rw [hc] at Cc zc ⊢
    clear hc
    obtain ⟨Sd, hd⟩ : ∃ S, qsa text = S := ⟨_, rfl⟩
    rw [hd] at Cd zd ⊢
    clear hd
    obtain ⟨Se, he⟩ : ∃ S, qsa task = S := ⟨_, rfl⟩
    rw [he] at Ce ze ⊢
    clear he
    obtain ⟨Sf, hf⟩ : ∃ S, bstr (varI num.toNat) = S := ⟨_, rfl⟩
    rw [hf] at Cf zf ⊢
    clear hf
    obtain ⟨Sg, hg⟩ : ∃ S, bstr (varI up.toNat) = S := ⟨_, rfl⟩
    rw [hg] at Cg zg ⊢
    clear hg
    obtain ⟨Sh, hh⟩ : ∃ S, flagS yes = S := ⟨_, rfl⟩
    rw [hh] at Ch zh ⊢
    clear hh
    have yb : (Sa ++ Sb).size = Sa.size + Sb.size := by simp only [ByteArray.size_append]
    have yc : (Sa ++ Sb ++ Sc).size = Sa.size + Sb.size + Sc.size := by simp only [ByteArray.size_append]
    have yd : (Sa ++ Sb ++ Sc ++ Sd).size = Sa.size + Sb.size + Sc.size + Sd.size := by simp only [ByteArray.size_append]
    have ye : (Sa ++ Sb ++ Sc ++ Sd ++ Se).size = Sa.size + Sb.size + Sc.size + Sd.size + Se.size := by simp only [ByteArray.size_append]
    have yf : (Sa ++ Sb ++ Sc ++ Sd ++ Se ++ Sf).size = Sa.size + Sb.size + Sc.size + Sd.size + Se.size + Sf.size := by simp only [ByteArray.size_append]
    have yg : (Sa ++ Sb ++ Sc ++ Sd ++ Se ++ Sf ++ Sg).size = Sa.size + Sb.size + Sc.size + Sd.size + Se.size + Sf.size + Sg.size := by simp only [ByteArray.size_append]
    have yh : (Sa ++ Sb ++ Sc ++ Sd ++ Se ++ Sf ++ Sg ++ Sh).size = Sa.size + Sb.size + Sc.size + Sd.size + Se.size + Sf.size + Sg.size + Sh.size := by simp only [ByteArray.size_append]
    go_enter Tryz.func85, Tryz.ntmps85
    go_wp2_with fail
    refine (HC.out _).mono ?_
    rintro x w1 ⟨rfl, hb1⟩
    have B1 := qma hb1
    have q0 := Wd.cell ((hb1.cell (p := ⟨w.heap.size, 0, none⟩) (by simp)).trans (show _ = some (.int .i64 op) by simp [go_sem]))
    have q1 := Wd.cell ((hb1.cell (p := ⟨w.heap.size, 1, none⟩) (by simp)).trans (show _ = some (.int .i64 tok) by simp [go_sem]))
    have q2 := Wd.cell ((hb1.cell (p := ⟨w.heap.size, 2, none⟩) (by simp)).trans (show _ = some (.int .i64 seq) by simp [go_sem]))
    have q3 := Wd.cell ((hb1.cell (p := ⟨w.heap.size, 3, none⟩) (by simp)).trans (show _ = some (.string text) by simp [go_sem]))
    have q4 := Wd.cell ((hb1.cell (p := ⟨w.heap.size, 4, none⟩) (by simp)).trans (show _ = some (.string task) by simp [go_sem]))
    have q5 := Wd.cell ((hb1.cell (p := ⟨w.heap.size, 5, none⟩) (by simp)).trans (show _ = some (.int .i64 num) by simp [go_sem]))
    have q6 := Wd.cell ((hb1.cell (p := ⟨w.heap.size, 6, none⟩) (by simp)).trans (show _ = some (.int .i64 up) by simp [go_sem]))
    have q7 := Wd.cell ((hb1.cell (p := ⟨w.heap.size, 7, none⟩) (by simp)).trans (show _ = some (.bool yes) by simp [go_sem]))
    clear hb1 HC
    go_wp2_with fail
    refine qba (by kernel_rfl) (by kernel_rfl) ?_
    repeat (go_big_quiet_step (first | (go_at_call 93; refine qwa (v := .string Sa) ?_; with_reducible exact Ca.out _) | (go_at_call 62; refine qwa (v := .string Sb) ?_; with_reducible exact Cb.out _) | (go_at_call 62; refine qwa (v := .string Sc) ?_; with_reducible exact Cc.out _) | (go_at_call 94; refine qwa (v := .string Sd) ?_; with_reducible exact Cd.out _) | (go_at_call 94; refine qwa (v := .string Se) ?_; with_reducible exact Ce.out _) | (go_at_call 62; refine qwa (v := .string Sf) ?_; with_reducible exact Cf.out _) | (go_at_call 62; refine qwa (v := .string Sg) ?_; with_reducible exact Cg.out _) | (go_at_call 95; refine qaa (v := .string Sh) ?_; with_reducible exact Ch.out _)))
    refine wpQuiet_nil ?_
    rintro _ ⟨x, rfl⟩
    go_wp2
    go_ret2
    exact ⟨rfl, Below.on B1 x.ok⟩
end Go.Proofs.YtpjpheicldegkaaGreatDoor

namespace Go.Proofs.YtpjpheicldegkaaGreatDoor
open Go Go.RowKit

set_option maxHeartbeats 400000 in
theorem l18Flag_any (f : Bool) (w : World) : Calls Tryz.prog 63 #[.bool f] w fun e w' => e = .returned (.string (flagS f)) ∧ Below w.heap.size w w' := by
  cases f with
  | false =>
    go_enter Tryz.func63, Tryz.ntmps63
    go_wp2
    go_ret
    exact ⟨rfl, Below.refl _ _⟩
  | true =>
    go_enter Tryz.func63, Tryz.ntmps63
    go_wp2
    go_ret
    exact ⟨rfl, Below.refl _ _⟩
set_option maxRecDepth 10000 in
set_option maxHeartbeats 4000000 in
theorem specEncode_no (kd fr up tm ix lt cm : Int) (ok : Bool) (da : ByteArray) (la : Bool) (ao bo : Option Addr) (n cap m cbp : Nat) (w : World)
    (hq : Hid (∀ W, Below w.heap.size w W → Calls Tryz.prog 8 #[.agg #[.int .i64 kd, .int .i64 fr, .int .i64 up, .int .i64 tm, .int .i64 ix, .int .i64 lt, .int .i64 cm, .bool ok, .slice ao n cap, .slice bo m cbp, .string da, .bool la]] W fun e w' => e = .returned (.bool false) ∧ Below W.heap.size W w')) :
    Calls Tryz.prog 33 #[.agg #[.int .i64 kd, .int .i64 fr, .int .i64 up, .int .i64 tm, .int .i64 ix, .int .i64 lt, .int .i64 cm, .bool ok, .slice ao n cap, .slice bo m cbp, .string da, .bool la]] w fun e w' => e = .returned (.tuple #[.string ⟨#[]⟩, .bool false]) ∧ Below w.heap.size w w' := by
  go_enter Tryz.func33, Tryz.ntmps33
  go_wp2_with (go_at_call 8; refine (hq.out _ (ba (Below.refl _ _) _)).mono ?_; rintro e w1 ⟨rfl, hb1⟩)
  go_ret2
  exact ⟨rfl, qma hb1⟩
set_option maxHeartbeats 4000000 in
theorem qsd (kd fr up tm ix lt cm : Int) (ok : Bool) (da : ByteArray) (la : Bool) (e c : Value) (es : List En) (cs : List Int) (w : World) (he : Reads w e es) (hc : Reads w c cs) (hn : es.length ≤ 1048577) (hm : cs.length ≤ 1048577) (hz : qsc es) :
    Calls Tryz.prog 33 #[.agg #[.int .i64 kd, .int .i64 fr, .int .i64 up, .int .i64 tm, .int .i64 ix, .int .i64 lt, .int .i64 cm, .bool ok, e, c, .string da, .bool la]] w fun e' w' => e' = .returned (encV kd fr up tm ix lt cm ok da la es cs) ∧ Below w.heap.size w w' := by
  obtain ⟨ao, cap, rfl, _⟩ := id he
  obtain ⟨bo, cbp, rfl, _⟩ := id hc
  cases hq : okM kd fr up tm ix lt cm da la es cs with
  | false =>
    have HX : encV kd fr up tm ix lt cm ok da la es cs = .tuple #[.string ⟨#[]⟩, .bool false] := by unfold encV; rw [hq]; rfl
    rw [HX]
    refine specEncode_no kd fr up tm ix lt cm ok da la ao bo _ cap _ cbp w (fun W hb => ?_)
    have := qnd kd fr up tm ix lt cm ok da la _ _ es cs W (he.below hb) (hc.below hb) hn hm hz
    rwa [hq] at this
  | true =>
    have HX : encV kd fr up tm ix lt cm ok da la es cs = .tuple #[.string (encS kd fr up tm ix lt cm ok da la es cs), .bool true] := by unfold encV; rw [hq]; rfl
    rw [HX]
    obtain ⟨a1, a2, b1, b2, c1, c2, d1, d2, l1, l2, i1, i2, m1, m2, n1, z1⟩ := okM_fine hq
    have y0 : (bstr [kd, fr, up]).size = 3 := by rw [qra]; rfl
    have y1 := qxb tm.toNat
    have y2 := qxb ix.toNat
    have y3 := qxb lt.toNat
    have y4 := qxb cm.toNat
    have y5 : (flagS ok).size = 1 := by cases ok <;> rfl
    have y6 : (flagS la).size = 1 := by cases la <;> rfl
    have y7 := qxb es.length
    refine specEncode_go kd fr up tm ix lt cm ok da la ao bo _ cap _ cbp es (textC cs) (okC cs) (bstr [kd, fr, up]) (bstr (varI tm.toNat)) (bstr (varI ix.toNat)) (bstr (varI lt.toNat)) (bstr (varI cm.toNat)) (flagS ok) (flagS la) (bstr (varI es.length)) ((bstr [kd, fr, up]) ++ (bstr (varI tm.toNat))) (((bstr [kd, fr, up]) ++ (bstr (varI tm.toNat))) ++ (bstr (varI ix.toNat))) ((((bstr [kd, fr, up]) ++ (bstr (varI tm.toNat))) ++ (bstr (varI ix.toNat))) ++ (bstr (varI lt.toNat))) (((((bstr [kd, fr, up]) ++ (bstr (varI tm.toNat))) ++ (bstr (varI ix.toNat))) ++ (bstr (varI lt.toNat))) ++ (bstr (varI cm.toNat))) ((((((bstr [kd, fr, up]) ++ (bstr (varI tm.toNat))) ++ (bstr (varI ix.toNat))) ++ (bstr (varI lt.toNat))) ++ (bstr (varI cm.toNat))) ++ (flagS ok)) (((((((bstr [kd, fr, up]) ++ (bstr (varI tm.toNat))) ++ (bstr (varI ix.toNat))) ++ (bstr (varI lt.toNat))) ++ (bstr (varI cm.toNat))) ++ (flagS ok)) ++ (flagS la)) ((((((((bstr [kd, fr, up]) ++ (bstr (varI tm.toNat))) ++ (bstr (varI ix.toNat))) ++ (bstr (varI lt.toNat))) ++ (bstr (varI cm.toNat))) ++ (flagS ok)) ++ (flagS la)) ++ (bstr (varI es.length))) w he hz n1 (by show _ ≤ _; (try simp only [ByteArray.size_append]); omega) (textC_size cs) z1 (fun W hb => specConfText_any (hc.below hb) hm) (fun W hb => ?_) (by go_arith) (by go_arith) (by go_arith) (fun W => by have := qpc tm.toNat W (by omega); rwa [Int.toNat_of_nonneg d1] at this) (fun W => by have := qpc ix.toNat W (by omega); rwa [Int.toNat_of_nonneg i1] at this) (fun W => by have := qpc lt.toNat W (by omega); rwa [Int.toNat_of_nonneg l1] at this) (fun W => by have := qpc cm.toNat W (by omega); rwa [Int.toNat_of_nonneg m1] at this) (fun W => qpc es.length W (by omega)) (fun W => l18Flag_any ok W) (fun W => l18Flag_any la W) (fun w X h => conv3_at h) (fun wx => run_string_add_sum wx _ _ (by show _ ≤ _; (try simp only [ByteArray.size_append]); omega)) (fun wx => run_string_add_sum wx _ _ (by show _ ≤ _; (try simp only [ByteArray.size_append]); omega)) (fun wx => run_string_add_sum wx _ _ (by show _ ≤ _; (try simp only [ByteArray.size_append]); omega)) (fun wx => run_string_add_sum wx _ _ (by show _ ≤ _; (try simp only [ByteArray.size_append]); omega)) (fun wx => run_string_add_sum wx _ _ (by show _ ≤ _; (try simp only [ByteArray.size_append]); omega)) (fun wx => run_string_add_sum wx _ _ (by show _ ≤ _; (try simp only [ByteArray.size_append]); omega)) (fun wx => run_string_add_sum wx _ _ (by show _ ≤ _; (try simp only [ByteArray.size_append]); omega))
    have := qnd kd fr up tm ix lt cm ok da la _ _ es cs W (he.below hb) (hc.below hb) hn hm hz
    rwa [hq] at this
end Go.Proofs.YtpjpheicldegkaaGreatDoor
