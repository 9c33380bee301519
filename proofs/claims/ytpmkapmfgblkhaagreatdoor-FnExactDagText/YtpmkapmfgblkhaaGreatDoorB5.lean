/-
  A plan's text, as the program tells it: the walk of DagText; its head by what holds between the operations of a drawn region.
-/
import Derived.Test.YtpmkapmfgblkhaaGreatDoorB3
import Derived.Test.YtpmkapmfgblkhaaGreatDoorB1
namespace Go.Proofs.YtpmkapmfgblkhaaGreatDoor
open Go Go.RowKit

/-- Tasks whose rows have room. -/
def TasksR (w : World) (v : Value) (ts : List Ta) : Prop := ∃ ks : List Tk, Reads w v ks ∧ ks.length = ts.length ∧ ∀ (i : Nat) (t : Ta), ts[i]? = some t → ∃ k : Tk, ks[i]? = some k ∧ OneT w k t ∧ Roomy k.after
theorem TasksR.tasks {w : World} {v : Value} {ts : List Ta} (h : TasksR w v ts) : Tasks w v ts := by
  obtain ⟨ks, h1, h2, h3⟩ := h
  exact ⟨ks, h1, h2, fun i t ht => by obtain ⟨k, hk, ho, _⟩ := h3 i t ht; exact ⟨k, hk, ho⟩⟩
theorem TasksR.below {w w' : World} {v : Value} {ts : List Ta} (h : TasksR w v ts) (hb : Below w.heap.size w w') : TasksR w' v ts := by
  obtain ⟨ks, h1, h2, h3⟩ := h
  refine ⟨ks, h1.below hb, h2, fun i t ht => ?_⟩
  obtain ⟨k, hk, ho, hr⟩ := h3 i t ht
  exact ⟨k, hk, ⟨ho.name, ho.pool, ho.ret, ho.past, ho.after.below hb⟩, hr⟩
theorem TasksB.room {B : Nat} {w : World} {v : Value} {ts : List Ta} (h : TasksB B w v ts) : TasksR w v ts := by
  obtain ⟨_, ks, h1, h2, h3⟩ := h
  exact ⟨ks, h1, h2, fun i t ht => by obtain ⟨k, hk, ho, _, hr⟩ := h3 i t ht; exact ⟨k, hk, ho, hr⟩⟩
theorem TasksR.at {w : World} {ao : Option Addr} {n cap : Nat} {l : List Ta} (h : TasksR w (.slice ao n cap) l) {k : Nat} {t : Ta} (ht : l[k]? = some t) :
    ∃ b o fo m fc, ao = some ⟨b, o, none⟩ ∧ b < w.heap.size ∧ w.cell? ⟨b, o + k * 5, none⟩ = some (.string t.name) ∧ w.cell? ⟨b, o + k * 5 + 1, none⟩ = some (.string t.pool) ∧ w.cell? ⟨b, o + k * 5 + 2, none⟩ = some (.int .i64 t.ret) ∧ w.cell? ⟨b, o + k * 5 + 3, none⟩ = some (.bool t.past) ∧ w.cell? ⟨b, o + k * 5 + 4, none⟩ = some (.slice fo m fc) ∧ Reads w (.slice fo m fc) t.after ∧ m ≤ fc := by
  obtain ⟨ks, h1, h2, h3⟩ := h
  obtain ⟨x, hx, ho, hr⟩ := h3 k t ht
  obtain ⟨b, o, rfl, hlt, c0, c1, c2, c3, c4⟩ := tk_at h1 hx
  rw [ho.name] at c0
  rw [ho.pool] at c1
  rw [ho.ret] at c2
  rw [ho.past] at c3
  obtain ⟨fo, fc, hv, _⟩ := id ho.after
  have ha := ho.after
  rw [hv] at ha c4
  exact ⟨b, o, fo, _, fc, rfl, hlt, c0, c1, c2, c3, c4, ha, hr _ _ _ hv⟩
/-- The line of one part, of two. -/
def ln2 (a b : ByteArray) : ByteArray := joinB [a, b] ⟨#[32]⟩ ++ ⟨#[10]⟩
def ln1 (a : ByteArray) : ByteArray := joinB [a] ⟨#[32]⟩ ++ ⟨#[10]⟩
theorem ln2_size (a b : ByteArray) : (ln2 a b).size = a.size + b.size + 2 := by
  unfold ln2
  rw [joinB_two]
  have k1 : (⟨#[32]⟩ : ByteArray).size = 1 := rfl
  have k2 : (⟨#[10]⟩ : ByteArray).size = 1 := rfl
  simp only [ByteArray.size_append, k1, k2]
  omega
theorem ln1_size (a : ByteArray) : (ln1 a).size = a.size + 1 := by
  unfold ln1
  rw [joinB_one]
  have k2 : (⟨#[10]⟩ : ByteArray).size = 1 := rfl
  simp only [ByteArray.size_append, k2]
def chB (cu : Bool) : ByteArray := if cu then ⟨#[99, 97, 116, 99, 104, 117, 112]⟩ else ⟨#[108, 97, 116, 101, 115, 116]⟩
theorem head_is {d : Dg} (h0 : 0 ≤ d.fr) (h1 : 0 ≤ d.up) : ln2 ⟨#[100, 97, 103]⟩ d.name ++ ln2 ⟨#[99, 114, 111, 110]⟩ d.cron ++ ln2 ⟨#[102, 114, 111, 109]⟩ (decS d.fr) ++ ln2 ⟨#[116, 111]⟩ (decS d.up) ++ ln1 (chB d.cu) = headS d := by
  have e1 : bstr (decI d.fr.toNat) = decS d.fr := by rw [decS_pos]; congr 1; omega
  have e2 : bstr (decI d.up.toNat) = decS d.up := by rw [decS_pos]; congr 1; omega
  unfold headS ln2 ln1 chB
  rw [e1, e2, joinB_two, joinB_two, joinB_two, joinB_two, joinB_one]
  apply ByteArray.ext
  apply Array.toList_inj.1
  cases d.cu <;> simp
theorem text_sum {T Y : ByteArray} {k : Nat} (h1 : T.size ≤ 2000000 + 10000100 * k) (h2 : Y.size ≤ 10000010) : (T ++ Y).size ≤ 2000000 + 10000100 * (k + 1) := by rw [ByteArray.size_append]; omega
theorem reads_two (w : World) (x y : ByteArray) : Reads (w.alloc (.cells #[.string x, .string y] 9)) (.slice (some ⟨w.heap.size, 0, none⟩) 2 2) [x, y] := ownsS_reads (owns_new w [x, y] (by simp))
theorem reads_one (w : World) (x : ByteArray) : Reads (w.alloc (.cells #[.string x] 9)) (.slice (some ⟨w.heap.size, 0, none⟩) 1 1) [x] := ownsS_reads (owns_new w [x] (by simp))
theorem line2_any {w : World} {v : Value} {x y : ByteArray} (h : ∃ b, v = .slice (some ⟨b, 0, none⟩) 2 2 ∧ Reads w v [x, y]) (hs : x.size + y.size ≤ 10000000) : Calls Tryz.prog 32 #[v] w fun e w' => e = .returned (.string (ln2 x y)) ∧ Below w.heap.size w w' := by
  obtain ⟨b, rfl, hr⟩ := h
  exact lineOf_any hr (Nat.le_refl _) (by simp) (by omega) (by rw [joinB_two]; have k1 : (⟨#[32]⟩ : ByteArray).size = 1 := rfl; simp only [ByteArray.size_append, k1]; omega)
theorem line1_any {w : World} {v : Value} {x : ByteArray} (h : ∃ b, v = .slice (some ⟨b, 0, none⟩) 1 1 ∧ Reads w v [x]) (hs : x.size ≤ 10000000) : Calls Tryz.prog 32 #[v] w fun e w' => e = .returned (.string (ln1 x)) ∧ Below w.heap.size w w' := by
  obtain ⟨b, rfl, hr⟩ := h
  exact lineOf_any hr (Nat.le_refl _) (by simp) (by omega) (by rw [joinB_one]; omega)
/-- The frame of DagText while its head is made. -/
abbrev dtF (B : Nat) (nm cr ch : ByteArray) (fr up : Int) (cu : Bool) (tv : Value) (u : Nat → Value) : Act := ⟨#[.agg #[.string nm, .string cr, .int .i64 fr, .int .i64 up, .bool cu, tv], .pointer (some ⟨B, 0, none⟩), .string ⟨#[]⟩, .bool false, .string ch, u 5, undef, undef, .agg #[.string nm, .string cr, .int .i64 fr, .int .i64 up, .bool cu, tv], .bool true, .bool false, .pointer (some ⟨B, 4, none⟩), .bool cu, u 13, u 14, u 15, u 16, u 17, u 18, u 19, u 20, u 21, u 22, u 23, u 24, u 25, u 26, u 27, u 28, u 29, u 30, u 31, u 32, u 33, u 34, u 35, u 36, u 37, undef, undef, undef, undef, undef, undef, undef, undef, undef, undef, undef, undef, undef], []⟩
def dtS : Nat → Nat
  | 0 => 13
  | 1 => 14
  | 2 => 15
  | 3 => 16
  | 4 => 17
  | 5 => 18
  | 6 => 19
  | 7 => 20
  | 8 => 21
  | 9 => 22
  | 10 => 23
  | 11 => 24
  | 12 => 25
  | 13 => 26
  | 14 => 27
  | 15 => 28
  | 16 => 29
  | 17 => 30
  | 18 => 31
  | 19 => 32
  | 20 => 33
  | 21 => 34
  | 22 => 35
  | 23 => 36
  | 24 => 37
  | 25 => 5
  | _ => 0
/-- What each operation leaves. -/
def dtG (B : Nat) (nm cr ch D1 D2 L1 L2 L3 L4 L5 T2 T3 T4 T5 : ByteArray) (fr up : Int) : Nat → Value → World → Prop
  | 0, v, _ => v = .pointer (some ⟨B, 0, none⟩)
  | 1, v, _ => v = .string nm
  | 2, v, w => ∃ b, v = .slice (some ⟨b, 0, none⟩) 2 2 ∧ Reads w v [⟨#[100, 97, 103]⟩, nm]
  | 3, v, _ => v = .string L1
  | 4, v, _ => v = .pointer (some ⟨B, 1, none⟩)
  | 5, v, _ => v = .string cr
  | 6, v, w => ∃ b, v = .slice (some ⟨b, 0, none⟩) 2 2 ∧ Reads w v [⟨#[99, 114, 111, 110]⟩, cr]
  | 7, v, _ => v = .string L2
  | 8, v, _ => v = .string T2
  | 9, v, _ => v = .pointer (some ⟨B, 2, none⟩)
  | 10, v, _ => v = .int .i64 fr
  | 11, v, _ => v = .string D1
  | 12, v, w => ∃ b, v = .slice (some ⟨b, 0, none⟩) 2 2 ∧ Reads w v [⟨#[102, 114, 111, 109]⟩, D1]
  | 13, v, _ => v = .string L3
  | 14, v, _ => v = .string T3
  | 15, v, _ => v = .pointer (some ⟨B, 3, none⟩)
  | 16, v, _ => v = .int .i64 up
  | 17, v, _ => v = .string D2
  | 18, v, w => ∃ b, v = .slice (some ⟨b, 0, none⟩) 2 2 ∧ Reads w v [⟨#[116, 111]⟩, D2]
  | 19, v, _ => v = .string L4
  | 20, v, _ => v = .string T4
  | 21, v, _ => v = .string ch
  | 22, v, w => ∃ b, v = .slice (some ⟨b, 0, none⟩) 1 1 ∧ Reads w v [ch]
  | 23, v, _ => v = .string L5
  | 24, v, _ => v = .string T5
  | 25, v, _ => v = .string T5
  | _, _, _ => True
theorem dtG_up {B : Nat} {nm cr ch D1 D2 L1 L2 L3 L4 L5 T2 T3 T4 T5 : ByteArray} {fr up : Int} {j : Nat} {v : Value} {w w' : World} (h : dtG B nm cr ch D1 D2 L1 L2 L3 L4 L5 T2 T3 T4 T5 fr up j v w) (hb : Below w.heap.size w w') : dtG B nm cr ch D1 D2 L1 L2 L3 L4 L5 T2 T3 T4 T5 fr up j v w' := by
  match j, h with
  | 0, h => exact h
  | 1, h => exact h
  | 2, h => obtain ⟨b, e, hr⟩ := h; exact ⟨b, e, hr.below hb⟩
  | 3, h => exact h
  | 4, h => exact h
  | 5, h => exact h
  | 6, h => obtain ⟨b, e, hr⟩ := h; exact ⟨b, e, hr.below hb⟩
  | 7, h => exact h
  | 8, h => exact h
  | 9, h => exact h
  | 10, h => exact h
  | 11, h => exact h
  | 12, h => obtain ⟨b, e, hr⟩ := h; exact ⟨b, e, hr.below hb⟩
  | 13, h => exact h
  | 14, h => exact h
  | 15, h => exact h
  | 16, h => exact h
  | 17, h => exact h
  | 18, h => obtain ⟨b, e, hr⟩ := h; exact ⟨b, e, hr.below hb⟩
  | 19, h => exact h
  | 20, h => exact h
  | 21, h => exact h
  | 22, h => obtain ⟨b, e, hr⟩ := h; exact ⟨b, e, hr.below hb⟩
  | 23, h => exact h
  | 24, h => exact h
  | 25, h => exact h
  | _ + 26, _ => trivial
/-- What holds between two operations. -/
def dtJ (B : Nat) (nm cr ch D1 D2 L1 L2 L3 L4 L5 T2 T3 T4 T5 : ByteArray) (fr up : Int) (cu : Bool) (tv : Value) (W : World) (d : Nat → Bool) (a : Act) (w : World) : Prop := ∃ u : Nat → Value, a = dtF B nm cr ch fr up cu tv u ∧ Below W.heap.size W w ∧ ∀ j, j < 26 → d j = true → dtG B nm cr ch D1 D2 L1 L2 L3 L4 L5 T2 T3 T4 T5 fr up j (u (dtS j)) w
theorem dtS_inj : ∀ i, i < 26 → ∀ j, j < 26 → dtS i = dtS j → i = j := by decide
theorem dt_next {B : Nat} {nm cr ch D1 D2 L1 L2 L3 L4 L5 T2 T3 T4 T5 : ByteArray} {fr up : Int} {cu : Bool} {tv : Value} {W w w' : World} {d : Nat → Bool} {u : Nat → Value} {i : Nat} {v : Value} {a' : Act} (hi : i < 26) (hW : Below W.heap.size W w) (hG : ∀ j, j < 26 → d j = true → dtG B nm cr ch D1 D2 L1 L2 L3 L4 L5 T2 T3 T4 T5 fr up j (u (dtS j)) w) (hb : Below w.heap.size w w') (ha : a' = dtF B nm cr ch fr up cu tv (fun s => if s = dtS i then v else u s)) (hg : dtG B nm cr ch D1 D2 L1 L2 L3 L4 L5 T2 T3 T4 T5 fr up i v w') :
    dtJ B nm cr ch D1 D2 L1 L2 L3 L4 L5 T2 T3 T4 T5 fr up cu tv W (fun j => if j = i then true else d j) a' w' := by
  refine ⟨_, ha, Below.on hW hb, fun j hj hd => ?_⟩
  by_cases e : j = i
  · subst e
    show dtG B nm cr ch D1 D2 L1 L2 L3 L4 L5 T2 T3 T4 T5 fr up j (if dtS j = dtS j then v else u (dtS j)) w'
    rw [if_pos rfl]
    exact hg
  · dsimp only at hd ⊢
    rw [if_neg e] at hd
    rw [if_neg (fun h => e (dtS_inj j hj i hi h))]
    exact dtG_up (hG j hj hd) hb
set_option maxRecDepth 20000 in
set_option maxHeartbeats 8000000 in
theorem implDagText_any (ao : Option Addr) (n cap : Nat) (nm cr : ByteArray) (fr up : Int) (cu : Bool) (ts : List Ta) (w : World) (hd : DagI w ao n cap ⟨nm, cr, fr, up, cu, ts⟩) (hR : TasksR w (.slice ao n cap) ts) (hg : Gl w) :
    Calls Tryz.prog 10 #[.agg #[.string nm, .string cr, .int .i64 fr, .int .i64 up, .bool cu, .slice ao n cap]] w fun e w' => e = .returned (.tuple #[.string (dagX ⟨nm, cr, fr, up, cu, ts⟩), .bool (dagB ⟨nm, cr, fr, up, cu, ts⟩)]) ∧ Below w.heap.size w w' := by
  have HN : Hid (ts.length = n) := by
    obtain ⟨ao', cap', e⟩ := hR.tasks.slice
    injection e with _ e2 _
    exact e2.symm
  have HO : Hid (∀ W, Below w.heap.size w W → Calls Tryz.prog 13 #[.agg #[.string nm, .string cr, .int .i64 fr, .int .i64 up, .bool cu, .slice ao n cap]] W fun e w' => e = .returned (.bool (dagB ⟨nm, cr, fr, up, cu, ts⟩)) ∧ Below W.heap.size W w') := fun W hb => implDagOk_any ao n cap nm cr fr up cu ts W (hd.below hb) (hg.up hb)
  have hcr : cr.size ≤ 1048576 := hd.cron
  have HSM : Hid (∀ t ∈ ts, t.after.length ≤ 1048576) := fun t ht => (hd.small t ht).few
  have HR : Hid (∀ W, Below w.heap.size w W → TasksR W (.slice ao n cap) ts) := fun W hb => hR.below hb
  have HG : Hid (∀ W, Below w.heap.size w W → PowIs W) := fun W hb => (hg.up hb).pow
  clear hd hR hg
  obtain ⟨W0, hW0⟩ : ∃ W0, w.alloc (.cells #[.string nm, .string cr, .int .i64 fr, .int .i64 up, .bool cu, .slice ao n cap] 26) = W0 := ⟨_, rfl⟩
  have Z0 : P6 W0 w.heap.size nm cr fr up cu (.slice ao n cap) := by rw [← hW0]; exact P6.new _ _ _ _ _ _ _
  have B0 : Below w.heap.size w W0 := by rw [← hW0]; exact ba (Below.refl _ _) _
  have c0 := Z0.c0
  have c1 := Z0.c1
  have c2 := Z0.c2
  have c3 := Z0.c3
  have c4 := Z0.c4
  have c5 := Z0.c5
  cases hq : dagB ⟨nm, cr, fr, up, cu, ts⟩ with
  | false =>
    have HF : Hid (dagX ⟨nm, cr, fr, up, cu, ts⟩ = ⟨#[]⟩) := by show dagX _ = _; unfold dagX; rw [hq]; rfl
    rw [hq] at HO
    rw [HF.out]
    clear hq HF
    go_enter Tryz.func10, Tryz.ntmps10
    go_wp2_with (go_at_call 13; refine (HO.out _ B0).mono ?_; rintro e w1 ⟨rfl, hb1⟩)
    go_ret2
    exact ⟨rfl, Below.on B0 hb1⟩
  | true =>
    obtain ⟨n8, f0, f1, u0, u1, t4, hfine⟩ := dag_fine hq
    dsimp only at n8 f0 f1 u0 u1 t4
    have HX : Hid (dagX ⟨nm, cr, fr, up, cu, ts⟩ = dagP ⟨nm, cr, fr, up, cu, ts⟩ ts (headS ⟨nm, cr, fr, up, cu, ts⟩)) := by show dagX _ = _; unfold dagX dagS; rw [hq]; rfl
    have HH : Hid (ln2 ⟨#[100, 97, 103]⟩ nm ++ ln2 ⟨#[99, 114, 111, 110]⟩ cr ++ ln2 ⟨#[102, 114, 111, 109]⟩ (decS fr) ++ ln2 ⟨#[116, 111]⟩ (decS up) ++ ln1 (chB cu) = headS ⟨nm, cr, fr, up, cu, ts⟩) := head_is (d := ⟨nm, cr, fr, up, cu, ts⟩) f0 u0
    have HFI : Hid (∀ t ∈ ts, FineT t) := hfine
    rw [hq] at HO
    clear hq hfine
    rw [HX.out]
    clear HX
    obtain ⟨d0, HDD⟩ : ∃ d0 : Dg, Hid (⟨nm, cr, fr, up, cu, ts⟩ = d0) := ⟨_, rfl⟩
    rw [HDD.out] at HH
    rw [HDD.out]
    go_enter Tryz.func10, Tryz.ntmps10
    cases cu with
    | true =>
      go_wp2_with (go_at_call 13; refine (HO.out _ B0).mono ?_; rintro e w1 ⟨rfl, hb1⟩; have Z1 := Z0.on hb1; have B1 := Below.on B0 hb1; have e4 := Z1.c4; clear hb1)
      clear c0 c1 c2 c3 c4 c5 Z0 B0 HO e4
      have HCH : Hid (chB true = ⟨#[99, 97, 116, 99, 104, 117, 112]⟩) := rfl
      rw [HCH.out] at HH
      obtain ⟨ch, HC⟩ : ∃ ch : ByteArray, Hid (ch = ⟨#[99, 97, 116, 99, 104, 117, 112]⟩) := ⟨_, rfl⟩
      have hch : ch.size ≤ 7 := by rw [HC.out]; decide
      rw [← HC.out] at HH
      rw [← HC.out]
      have hD1 := decS_small f0 (by omega)
      have hD2 := decS_small u0 (by omega)
      have CD1 : Hid (∀ W, Below w1.heap.size w1 W → Calls Tryz.prog 33 #[.int .i64 fr] W fun e w' => e = .returned (.string (decS fr)) ∧ Below W.heap.size W w') := fun W hb => decimal_any fr W (by omega) (by omega) (HG.out W (Below.on B1 hb))
      have CD2 : Hid (∀ W, Below w1.heap.size w1 W → Calls Tryz.prog 33 #[.int .i64 up] W fun e w' => e = .returned (.string (decS up)) ∧ Below W.heap.size W w') := fun W hb => decimal_any up W (by omega) (by omega) (HG.out W (Below.on B1 hb))
      obtain ⟨D1, HD1⟩ : ∃ D, Hid (decS fr = D) := ⟨_, rfl⟩
      obtain ⟨D2, HD2⟩ : ∃ D, Hid (decS up = D) := ⟨_, rfl⟩
      rw [HD1.out] at CD1 HH hD1
      rw [HD2.out] at CD2 HH hD2
      have C1 : Hid (∀ v W, (∃ b, v = .slice (some ⟨b, 0, none⟩) 2 2 ∧ Reads W v [⟨#[100, 97, 103]⟩, nm]) → Calls Tryz.prog 32 #[v] W fun e w' => e = .returned (.string (ln2 ⟨#[100, 97, 103]⟩ nm)) ∧ Below W.heap.size W w') := fun v W h => line2_any h (by have : (⟨#[100, 97, 103]⟩ : ByteArray).size = 3 := rfl; omega)
      have C2 : Hid (∀ v W, (∃ b, v = .slice (some ⟨b, 0, none⟩) 2 2 ∧ Reads W v [⟨#[99, 114, 111, 110]⟩, cr]) → Calls Tryz.prog 32 #[v] W fun e w' => e = .returned (.string (ln2 ⟨#[99, 114, 111, 110]⟩ cr)) ∧ Below W.heap.size W w') := fun v W h => line2_any h (by have : (⟨#[99, 114, 111, 110]⟩ : ByteArray).size = 4 := rfl; omega)
      have C3 : Hid (∀ v W, (∃ b, v = .slice (some ⟨b, 0, none⟩) 2 2 ∧ Reads W v [⟨#[102, 114, 111, 109]⟩, D1]) → Calls Tryz.prog 32 #[v] W fun e w' => e = .returned (.string (ln2 ⟨#[102, 114, 111, 109]⟩ D1)) ∧ Below W.heap.size W w') := fun v W h => line2_any h (by have : (⟨#[102, 114, 111, 109]⟩ : ByteArray).size = 4 := rfl; omega)
      have C4 : Hid (∀ v W, (∃ b, v = .slice (some ⟨b, 0, none⟩) 2 2 ∧ Reads W v [⟨#[116, 111]⟩, D2]) → Calls Tryz.prog 32 #[v] W fun e w' => e = .returned (.string (ln2 ⟨#[116, 111]⟩ D2)) ∧ Below W.heap.size W w') := fun v W h => line2_any h (by have : (⟨#[116, 111]⟩ : ByteArray).size = 2 := rfl; omega)
      have C5 : Hid (∀ v W, (∃ b, v = .slice (some ⟨b, 0, none⟩) 1 1 ∧ Reads W v [ch]) → Calls Tryz.prog 32 #[v] W fun e w' => e = .returned (.string (ln1 ch)) ∧ Below W.heap.size W w') := fun v W h => line1_any h (by omega)
      have s1 := ln2_size ⟨#[100, 97, 103]⟩ nm
      have s2 := ln2_size ⟨#[99, 114, 111, 110]⟩ cr
      have s3 := ln2_size ⟨#[102, 114, 111, 109]⟩ D1
      have s4 := ln2_size ⟨#[116, 111]⟩ D2
      have s5 := ln1_size ch
      rw [show (⟨#[100, 97, 103]⟩ : ByteArray).size = 3 from rfl] at s1
      rw [show (⟨#[99, 114, 111, 110]⟩ : ByteArray).size = 4 from rfl] at s2
      rw [show (⟨#[102, 114, 111, 109]⟩ : ByteArray).size = 4 from rfl] at s3
      rw [show (⟨#[116, 111]⟩ : ByteArray).size = 2 from rfl] at s4
      obtain ⟨L1, HL1⟩ : ∃ L, Hid (ln2 ⟨#[100, 97, 103]⟩ nm = L) := ⟨_, rfl⟩
      obtain ⟨L2, HL2⟩ : ∃ L, Hid (ln2 ⟨#[99, 114, 111, 110]⟩ cr = L) := ⟨_, rfl⟩
      obtain ⟨L3, HL3⟩ : ∃ L, Hid (ln2 ⟨#[102, 114, 111, 109]⟩ D1 = L) := ⟨_, rfl⟩
      obtain ⟨L4, HL4⟩ : ∃ L, Hid (ln2 ⟨#[116, 111]⟩ D2 = L) := ⟨_, rfl⟩
      obtain ⟨L5, HL5⟩ : ∃ L, Hid (ln1 ch = L) := ⟨_, rfl⟩
      rw [HL1.out] at C1 HH s1
      rw [HL2.out] at C2 HH s2
      rw [HL3.out] at C3 HH s3
      rw [HL4.out] at C4 HH s4
      rw [HL5.out] at C5 HH s5
      obtain ⟨T2, HT2⟩ : ∃ T, Hid (L1 ++ L2 = T) := ⟨_, rfl⟩
      have t2 : T2.size = L1.size + L2.size := by rw [← HT2.out, ByteArray.size_append]
      rw [HT2.out] at HH
      obtain ⟨T3, HT3⟩ : ∃ T, Hid (T2 ++ L3 = T) := ⟨_, rfl⟩
      have t3 : T3.size = T2.size + L3.size := by rw [← HT3.out, ByteArray.size_append]
      rw [HT3.out] at HH
      obtain ⟨T4, HT4⟩ : ∃ T, Hid (T3 ++ L4 = T) := ⟨_, rfl⟩
      have t4' : T4.size = T3.size + L4.size := by rw [← HT4.out, ByteArray.size_append]
      rw [HT4.out] at HH
      obtain ⟨T5, HT5⟩ : ∃ T, Hid (T4 ++ L5 = T) := ⟨_, rfl⟩
      have t5 : T5.size = T4.size + L5.size := by rw [← HT5.out, ByteArray.size_append]
      rw [HT5.out] at HH
      have HSZ : Hid (L1.size + L2.size ≤ 9223372036854775807 ∧ T2.size + L3.size ≤ 9223372036854775807 ∧ T3.size + L4.size ≤ 9223372036854775807 ∧ T4.size + L5.size ≤ 9223372036854775807) := ⟨by omega, by omega, by omega, by omega⟩
      have hT5 : T5.size ≤ 2000000 := by omega
      clear s1 s2 s3 s4 s5 t2 t3 t4' t5 HL1 HL2 HL3 HL4 HL5 HD1 HD2
      have HZ : Hid (P6 w1 w.heap.size nm cr fr up true (.slice ao n cap)) := Z1
      clear Z1
      refine wp_region_inv (dtJ w.heap.size nm cr ch D1 D2 L1 L2 L3 L4 L5 T2 T3 T4 T5 fr up true (.slice ao n cap) w1) (by kernel_rfl) (by kernel_rfl) ⟨fun _ => undef, rfl, (Below.refl _ _).drew, fun j _ h => by cases h⟩ ?_ ?_
      · intro d a W i o ho hd hdep hJ K hK
        obtain ⟨u, rfl, hB, hG⟩ := hJ
        have HGG : Hid (∀ j, j < 26 → d j = true → dtG w.heap.size nm cr ch D1 D2 L1 L2 L3 L4 L5 T2 T3 T4 T5 fr up j (u (dtS j)) W) := hG
        have HBB : Hid (Below w1.heap.size w1 W) := hB
        have HZW : Hid (P6 W w.heap.size nm cr fr up true (.slice ao n cap)) := HZ.out.on hB
        clear hG hd
        match i, ho with
        | 0, ho =>
          obtain rfl := Option.some.inj ho
          clear hdep
          go_wp2
          exact hK.out _ _ (dt_next (i := 0) (v := .pointer (some ⟨w.heap.size, 0, none⟩)) (by decide) HBB.out HGG.out (Below.refl _ _) (by rfl) rfl)
        | 1, ho =>
          obtain rfl := Option.some.inj ho
          have g : u 13 = .pointer (some ⟨w.heap.size, 0, none⟩) := HGG.out 0 (by decide) (hdep ⟨0, .data⟩ (by simp) rfl)
          have cc := HZW.out.c0
          clear hdep
          go_wp2
          exact hK.out _ _ (dt_next (i := 1) (v := (.string nm)) (by decide) HBB.out HGG.out (Below.refl _ _) (by simp [dtF, dtS, g]) rfl)
        | 2, ho =>
          obtain rfl := Option.some.inj ho
          have g : u 14 = .string nm := HGG.out 1 (by decide) (hdep ⟨1, .data⟩ (by simp) rfl)
          clear hdep
          go_wp2
          exact hK.out _ _ (dt_next (i := 2) (v := (.slice (some ⟨W.heap.size, 0, none⟩) 2 2)) (by decide) HBB.out HGG.out (ba (Below.refl _ _) _) (by simp [dtF, dtS, g]) ⟨_, rfl, (reads_two _ _ _)⟩)
        | 3, ho =>
          obtain rfl := Option.some.inj ho
          have g := HGG.out 2 (by decide) (hdep ⟨2, .data⟩ (by simp) rfl)
          have HC6 : Hid (Calls Tryz.prog 32 #[u 15] W fun e w' => e = .returned (.string L1) ∧ Below W.heap.size W w') := C1.out _ W g
          clear hdep g
          go_wp2_with (go_at_call 32; refine HC6.out.mono ?_; rintro e V ⟨rfl, hb⟩)
          exact hK.out _ _ (dt_next (i := 3) (v := (.string L1)) (by decide) HBB.out HGG.out hb (by rfl) rfl)
        | 4, ho =>
          obtain rfl := Option.some.inj ho
          clear hdep
          go_wp2
          exact hK.out _ _ (dt_next (i := 4) (v := .pointer (some ⟨w.heap.size, 1, none⟩)) (by decide) HBB.out HGG.out (Below.refl _ _) (by rfl) rfl)
        | 5, ho =>
          obtain rfl := Option.some.inj ho
          have g : u 17 = .pointer (some ⟨w.heap.size, 1, none⟩) := HGG.out 4 (by decide) (hdep ⟨4, .data⟩ (by simp) rfl)
          have cc := HZW.out.c1
          clear hdep
          go_wp2
          exact hK.out _ _ (dt_next (i := 5) (v := (.string cr)) (by decide) HBB.out HGG.out (Below.refl _ _) (by simp [dtF, dtS, g]) rfl)
        | 6, ho =>
          obtain rfl := Option.some.inj ho
          have g : u 18 = .string cr := HGG.out 5 (by decide) (hdep ⟨5, .data⟩ (by simp) rfl)
          clear hdep
          go_wp2
          exact hK.out _ _ (dt_next (i := 6) (v := (.slice (some ⟨W.heap.size, 0, none⟩) 2 2)) (by decide) HBB.out HGG.out (ba (Below.refl _ _) _) (by simp [dtF, dtS, g]) ⟨_, rfl, (reads_two _ _ _)⟩)
        | 7, ho =>
          obtain rfl := Option.some.inj ho
          have g := HGG.out 6 (by decide) (hdep ⟨6, .data⟩ (by simp) rfl)
          have HC6 : Hid (Calls Tryz.prog 32 #[u 19] W fun e w' => e = .returned (.string L2) ∧ Below W.heap.size W w') := C2.out _ W g
          clear hdep g
          go_wp2_with (go_at_call 32; refine HC6.out.mono ?_; rintro e V ⟨rfl, hb⟩)
          exact hK.out _ _ (dt_next (i := 7) (v := (.string L2)) (by decide) HBB.out HGG.out hb (by rfl) rfl)
        | 8, ho =>
          obtain rfl := Option.some.inj ho
          have g1 : u 16 = .string L1 := HGG.out 3 (by decide) (hdep ⟨3, .data⟩ (by simp) rfl)
          have g2 : u 20 = .string L2 := HGG.out 7 (by decide) (hdep ⟨7, .data⟩ (by simp) rfl)
          have zz := HSZ.out.1
          clear hdep
          go_wp2
          exact hK.out _ _ (dt_next (i := 8) (v := (.string (L1 ++ L2))) (by decide) HBB.out HGG.out (Below.refl _ _) (by simp [dtF, dtS, g1, g2]) (by show Value.string _ = .string _; rw [HT2.out]))
        | 9, ho =>
          obtain rfl := Option.some.inj ho
          clear hdep
          go_wp2
          exact hK.out _ _ (dt_next (i := 9) (v := .pointer (some ⟨w.heap.size, 2, none⟩)) (by decide) HBB.out HGG.out (Below.refl _ _) (by rfl) rfl)
        | 10, ho =>
          obtain rfl := Option.some.inj ho
          have g : u 22 = .pointer (some ⟨w.heap.size, 2, none⟩) := HGG.out 9 (by decide) (hdep ⟨9, .data⟩ (by simp) rfl)
          have cc := HZW.out.c2
          clear hdep
          go_wp2
          exact hK.out _ _ (dt_next (i := 10) (v := (.int .i64 fr)) (by decide) HBB.out HGG.out (Below.refl _ _) (by simp [dtF, dtS, g]) rfl)
        | 11, ho =>
          obtain rfl := Option.some.inj ho
          have g : u 23 = .int .i64 fr := HGG.out 10 (by decide) (hdep ⟨10, .data⟩ (by simp) rfl)
          clear hdep
          go_wp2_with (go_at_call 33; refine (CD1.out _ HBB.out).mono ?_; rintro e V ⟨rfl, hb⟩)
          exact hK.out _ _ (dt_next (i := 11) (v := (.string D1)) (by decide) HBB.out HGG.out hb (by simp [dtF, dtS, g]) rfl)
        | 12, ho =>
          obtain rfl := Option.some.inj ho
          have g : u 24 = .string D1 := HGG.out 11 (by decide) (hdep ⟨11, .data⟩ (by simp) rfl)
          clear hdep
          go_wp2
          exact hK.out _ _ (dt_next (i := 12) (v := (.slice (some ⟨W.heap.size, 0, none⟩) 2 2)) (by decide) HBB.out HGG.out (ba (Below.refl _ _) _) (by simp [dtF, dtS, g]) ⟨_, rfl, (reads_two _ _ _)⟩)
        | 13, ho =>
          obtain rfl := Option.some.inj ho
          have g := HGG.out 12 (by decide) (hdep ⟨12, .data⟩ (by simp) rfl)
          have HC6 : Hid (Calls Tryz.prog 32 #[u 25] W fun e w' => e = .returned (.string L3) ∧ Below W.heap.size W w') := C3.out _ W g
          clear hdep g
          go_wp2_with (go_at_call 32; refine HC6.out.mono ?_; rintro e V ⟨rfl, hb⟩)
          exact hK.out _ _ (dt_next (i := 13) (v := (.string L3)) (by decide) HBB.out HGG.out hb (by rfl) rfl)
        | 14, ho =>
          obtain rfl := Option.some.inj ho
          have g1 : u 21 = .string T2 := HGG.out 8 (by decide) (hdep ⟨8, .data⟩ (by simp) rfl)
          have g2 : u 26 = .string L3 := HGG.out 13 (by decide) (hdep ⟨13, .data⟩ (by simp) rfl)
          have zz := HSZ.out.2.1
          clear hdep
          go_wp2
          exact hK.out _ _ (dt_next (i := 14) (v := (.string (T2 ++ L3))) (by decide) HBB.out HGG.out (Below.refl _ _) (by simp [dtF, dtS, g1, g2]) (by show Value.string _ = .string _; rw [HT3.out]))
        | 15, ho =>
          obtain rfl := Option.some.inj ho
          clear hdep
          go_wp2
          exact hK.out _ _ (dt_next (i := 15) (v := .pointer (some ⟨w.heap.size, 3, none⟩)) (by decide) HBB.out HGG.out (Below.refl _ _) (by rfl) rfl)
        | 16, ho =>
          obtain rfl := Option.some.inj ho
          have g : u 28 = .pointer (some ⟨w.heap.size, 3, none⟩) := HGG.out 15 (by decide) (hdep ⟨15, .data⟩ (by simp) rfl)
          have cc := HZW.out.c3
          clear hdep
          go_wp2
          exact hK.out _ _ (dt_next (i := 16) (v := (.int .i64 up)) (by decide) HBB.out HGG.out (Below.refl _ _) (by simp [dtF, dtS, g]) rfl)
        | 17, ho =>
          obtain rfl := Option.some.inj ho
          have g : u 29 = .int .i64 up := HGG.out 16 (by decide) (hdep ⟨16, .data⟩ (by simp) rfl)
          clear hdep
          go_wp2_with (go_at_call 33; refine (CD2.out _ HBB.out).mono ?_; rintro e V ⟨rfl, hb⟩)
          exact hK.out _ _ (dt_next (i := 17) (v := (.string D2)) (by decide) HBB.out HGG.out hb (by simp [dtF, dtS, g]) rfl)
        | 18, ho =>
          obtain rfl := Option.some.inj ho
          have g : u 30 = .string D2 := HGG.out 17 (by decide) (hdep ⟨17, .data⟩ (by simp) rfl)
          clear hdep
          go_wp2
          exact hK.out _ _ (dt_next (i := 18) (v := (.slice (some ⟨W.heap.size, 0, none⟩) 2 2)) (by decide) HBB.out HGG.out (ba (Below.refl _ _) _) (by simp [dtF, dtS, g]) ⟨_, rfl, (reads_two _ _ _)⟩)
        | 19, ho =>
          obtain rfl := Option.some.inj ho
          have g := HGG.out 18 (by decide) (hdep ⟨18, .data⟩ (by simp) rfl)
          have HC6 : Hid (Calls Tryz.prog 32 #[u 31] W fun e w' => e = .returned (.string L4) ∧ Below W.heap.size W w') := C4.out _ W g
          clear hdep g
          go_wp2_with (go_at_call 32; refine HC6.out.mono ?_; rintro e V ⟨rfl, hb⟩)
          exact hK.out _ _ (dt_next (i := 19) (v := (.string L4)) (by decide) HBB.out HGG.out hb (by rfl) rfl)
        | 20, ho =>
          obtain rfl := Option.some.inj ho
          have g1 : u 27 = .string T3 := HGG.out 14 (by decide) (hdep ⟨14, .data⟩ (by simp) rfl)
          have g2 : u 32 = .string L4 := HGG.out 19 (by decide) (hdep ⟨19, .data⟩ (by simp) rfl)
          have zz := HSZ.out.2.2.1
          clear hdep
          go_wp2
          exact hK.out _ _ (dt_next (i := 20) (v := (.string (T3 ++ L4))) (by decide) HBB.out HGG.out (Below.refl _ _) (by simp [dtF, dtS, g1, g2]) (by show Value.string _ = .string _; rw [HT4.out]))
        | 21, ho =>
          obtain rfl := Option.some.inj ho
          clear hdep
          go_wp2
          exact hK.out _ _ (dt_next (i := 21) (v := (.string ch)) (by decide) HBB.out HGG.out (Below.refl _ _) (by rfl) rfl)
        | 22, ho =>
          obtain rfl := Option.some.inj ho
          have g : u 34 = .string ch := HGG.out 21 (by decide) (hdep ⟨21, .data⟩ (by simp) rfl)
          clear hdep
          go_wp2
          exact hK.out _ _ (dt_next (i := 22) (v := (.slice (some ⟨W.heap.size, 0, none⟩) 1 1)) (by decide) HBB.out HGG.out (ba (Below.refl _ _) _) (by simp [dtF, dtS, g]) ⟨_, rfl, (reads_one _ _)⟩)
        | 23, ho =>
          obtain rfl := Option.some.inj ho
          have g := HGG.out 22 (by decide) (hdep ⟨22, .data⟩ (by simp) rfl)
          have HC6 : Hid (Calls Tryz.prog 32 #[u 35] W fun e w' => e = .returned (.string L5) ∧ Below W.heap.size W w') := C5.out _ W g
          clear hdep g
          go_wp2_with (go_at_call 32; refine HC6.out.mono ?_; rintro e V ⟨rfl, hb⟩)
          exact hK.out _ _ (dt_next (i := 23) (v := (.string L5)) (by decide) HBB.out HGG.out hb (by rfl) rfl)
        | 24, ho =>
          obtain rfl := Option.some.inj ho
          have g1 : u 33 = .string T4 := HGG.out 20 (by decide) (hdep ⟨20, .data⟩ (by simp) rfl)
          have g2 : u 36 = .string L5 := HGG.out 23 (by decide) (hdep ⟨23, .data⟩ (by simp) rfl)
          have zz := HSZ.out.2.2.2
          clear hdep
          go_wp2
          exact hK.out _ _ (dt_next (i := 24) (v := (.string (T4 ++ L5))) (by decide) HBB.out HGG.out (Below.refl _ _) (by simp [dtF, dtS, g1, g2]) (by show Value.string _ = .string _; rw [HT5.out]))
        | 25, ho =>
          obtain rfl := Option.some.inj ho
          have g : u 37 = .string T5 := HGG.out 24 (by decide) (hdep ⟨24, .data⟩ (by simp) rfl)
          clear hdep
          go_wp2
          exact hK.out _ _ (dt_next (i := 25) (v := (.string T5)) (by decide) HBB.out HGG.out (Below.refl _ _) (by simp [dtF, dtS, g]) rfl)
        | i + 26, ho => simp at ho
      · intro d a W hall hJ
        obtain ⟨u, rfl, hB, hG⟩ := hJ
        have h5 : u 5 = .string T5 := hG 25 (by decide) (hall 25 (by decide))
        have B2 := Below.on B1 hB
        have Z2 := HZ.out.on hB
        have e5 := Z2.c5
        clear hG hall hB HZ Z2 C1 C2 C3 C4 C5 CD1 CD2 HSZ HT2 HT3 HT4 HT5
        have hn4 : n ≤ 4 := by rw [← HN.out]; exact t4
        have HSTART : Hid (dagP d0 ts (headS d0) = dagP d0 (ts.drop 0) T5) := by show dagP d0 ts (headS d0) = _; rw [List.drop_zero, HH.out]
        clear HH
        dsimp only [dtF]
        have hK0 := h5
        go_wp2
        go_loopw [5, 41] (fun tx i wr => ∃ (k : Nat) (T : ByteArray), k ≤ n ∧ i = .int .i64 k ∧ tx = .string T ∧ T.size ≤ 2000000 + 10000100 * k ∧ Hid (dagP d0 ts (headS d0) = dagP d0 (ts.drop k) T) ∧ Below w.heap.size w wr) (fun _ i _ => n - (intOf i).toNat)
        case atStart => exact ⟨0, T5, Nat.zero_le _, rfl, h5, by omega, HSTART, B2⟩
        case round =>
          clear HSTART B2 e5
          obtain ⟨k, T, hk, rfl, rfl, hT, HE, hbel⟩ := hrel
          by_cases hlt : k < n
          · obtain ⟨t, ht⟩ : ∃ t, ts[k]? = some t := ⟨_, List.getElem?_eq_getElem (by rw [HN.out]; exact hlt)⟩
            have htm := List.mem_of_getElem? ht
            obtain ⟨b', o, fo, m, fc, rfl, hb, c0, c1, c2, c3, c4, hav, hroom⟩ := (HR.out wr hbel).at ht
            have hm : m ≤ 1048576 := by rw [hav.len]; exact HSM.out t htm
            have HF : Hid (dagP d0 ts (headS d0) = dagP d0 (ts.drop (k + 1)) (T ++ lineL t)) := HE.out.trans (by rw [dagP_at ht, lineS_is])
            have hls : (lineL t).size ≤ 10000010 := lineL_size (HFI.out t htm) (by rw [← hav.len]; exact hm)
            have HC : Hid (∀ W, Below wr.heap.size wr W → Calls Tryz.prog 34 #[.agg #[.string t.name, .string t.pool, .int .i64 t.ret, .bool t.past, .slice fo m fc]] W fun e w' => e = .returned (.string (lineL t)) ∧ Below W.heap.size W w') := fun W hb => taskLine_any t.name t.pool t.ret t.past fo m fc t.after W (hav.below hb) hroom (HFI.out t htm) hm (HG.out W (Below.on hbel hb))
            obtain ⟨Y, HY⟩ : ∃ Y, Hid (lineL t = Y) := ⟨_, rfl⟩
            rw [HY.out] at HF HC hls
            have hsum : T.size + Y.size ≤ 9223372036854775807 := by omega
            have hT2 : (T ++ Y).size ≤ 2000000 + 10000100 * (k + 1) := text_sum hT hls
            clear ht hav htm HE HR
            go_wp2_with (go_at_call 34; refine (HC.out _ (ba (Below.refl _ _) _)).mono ?_; rintro e w2 ⟨rfl, hb2⟩)
            have hbel2 := Below.on hbel (below_new hb2)
            clear hbel hb2 HC c0 c1 c2 c3 c4
            go_roundw
            case rel => exact ⟨k + 1, T ++ Y, by omega, by go_num, rfl, hT2, HF, hbel2⟩
            case measure => simp [intOf]; omega
          · have HF : Hid (dagP d0 ts (headS d0) = T) := HE.out.trans (by rw [show k = ts.length by rw [HN.out]; omega, List.drop_length]; rfl)
            go_wp2
            go_ret2
            exact ⟨by rw [HF.out]; rfl, hbel⟩
    | false =>
      go_wp2_with (go_at_call 13; refine (HO.out _ B0).mono ?_; rintro e w1 ⟨rfl, hb1⟩; have Z1 := Z0.on hb1; have B1 := Below.on B0 hb1; have e4 := Z1.c4; clear hb1)
      clear c0 c1 c2 c3 c4 c5 Z0 B0 HO e4
      have HCH : Hid (chB false = ⟨#[108, 97, 116, 101, 115, 116]⟩) := rfl
      rw [HCH.out] at HH
      obtain ⟨ch, HC⟩ : ∃ ch : ByteArray, Hid (ch = ⟨#[108, 97, 116, 101, 115, 116]⟩) := ⟨_, rfl⟩
      have hch : ch.size ≤ 7 := by rw [HC.out]; decide
      rw [← HC.out] at HH
      rw [← HC.out]
      have hD1 := decS_small f0 (by omega)
      have hD2 := decS_small u0 (by omega)
      have CD1 : Hid (∀ W, Below w1.heap.size w1 W → Calls Tryz.prog 33 #[.int .i64 fr] W fun e w' => e = .returned (.string (decS fr)) ∧ Below W.heap.size W w') := fun W hb => decimal_any fr W (by omega) (by omega) (HG.out W (Below.on B1 hb))
      have CD2 : Hid (∀ W, Below w1.heap.size w1 W → Calls Tryz.prog 33 #[.int .i64 up] W fun e w' => e = .returned (.string (decS up)) ∧ Below W.heap.size W w') := fun W hb => decimal_any up W (by omega) (by omega) (HG.out W (Below.on B1 hb))
      obtain ⟨D1, HD1⟩ : ∃ D, Hid (decS fr = D) := ⟨_, rfl⟩
      obtain ⟨D2, HD2⟩ : ∃ D, Hid (decS up = D) := ⟨_, rfl⟩
      rw [HD1.out] at CD1 HH hD1
      rw [HD2.out] at CD2 HH hD2
      have C1 : Hid (∀ v W, (∃ b, v = .slice (some ⟨b, 0, none⟩) 2 2 ∧ Reads W v [⟨#[100, 97, 103]⟩, nm]) → Calls Tryz.prog 32 #[v] W fun e w' => e = .returned (.string (ln2 ⟨#[100, 97, 103]⟩ nm)) ∧ Below W.heap.size W w') := fun v W h => line2_any h (by have : (⟨#[100, 97, 103]⟩ : ByteArray).size = 3 := rfl; omega)
      have C2 : Hid (∀ v W, (∃ b, v = .slice (some ⟨b, 0, none⟩) 2 2 ∧ Reads W v [⟨#[99, 114, 111, 110]⟩, cr]) → Calls Tryz.prog 32 #[v] W fun e w' => e = .returned (.string (ln2 ⟨#[99, 114, 111, 110]⟩ cr)) ∧ Below W.heap.size W w') := fun v W h => line2_any h (by have : (⟨#[99, 114, 111, 110]⟩ : ByteArray).size = 4 := rfl; omega)
      have C3 : Hid (∀ v W, (∃ b, v = .slice (some ⟨b, 0, none⟩) 2 2 ∧ Reads W v [⟨#[102, 114, 111, 109]⟩, D1]) → Calls Tryz.prog 32 #[v] W fun e w' => e = .returned (.string (ln2 ⟨#[102, 114, 111, 109]⟩ D1)) ∧ Below W.heap.size W w') := fun v W h => line2_any h (by have : (⟨#[102, 114, 111, 109]⟩ : ByteArray).size = 4 := rfl; omega)
      have C4 : Hid (∀ v W, (∃ b, v = .slice (some ⟨b, 0, none⟩) 2 2 ∧ Reads W v [⟨#[116, 111]⟩, D2]) → Calls Tryz.prog 32 #[v] W fun e w' => e = .returned (.string (ln2 ⟨#[116, 111]⟩ D2)) ∧ Below W.heap.size W w') := fun v W h => line2_any h (by have : (⟨#[116, 111]⟩ : ByteArray).size = 2 := rfl; omega)
      have C5 : Hid (∀ v W, (∃ b, v = .slice (some ⟨b, 0, none⟩) 1 1 ∧ Reads W v [ch]) → Calls Tryz.prog 32 #[v] W fun e w' => e = .returned (.string (ln1 ch)) ∧ Below W.heap.size W w') := fun v W h => line1_any h (by omega)
      have s1 := ln2_size ⟨#[100, 97, 103]⟩ nm
      have s2 := ln2_size ⟨#[99, 114, 111, 110]⟩ cr
      have s3 := ln2_size ⟨#[102, 114, 111, 109]⟩ D1
      have s4 := ln2_size ⟨#[116, 111]⟩ D2
      have s5 := ln1_size ch
      rw [show (⟨#[100, 97, 103]⟩ : ByteArray).size = 3 from rfl] at s1
      rw [show (⟨#[99, 114, 111, 110]⟩ : ByteArray).size = 4 from rfl] at s2
      rw [show (⟨#[102, 114, 111, 109]⟩ : ByteArray).size = 4 from rfl] at s3
      rw [show (⟨#[116, 111]⟩ : ByteArray).size = 2 from rfl] at s4
      obtain ⟨L1, HL1⟩ : ∃ L, Hid (ln2 ⟨#[100, 97, 103]⟩ nm = L) := ⟨_, rfl⟩
      obtain ⟨L2, HL2⟩ : ∃ L, Hid (ln2 ⟨#[99, 114, 111, 110]⟩ cr = L) := ⟨_, rfl⟩
      obtain ⟨L3, HL3⟩ : ∃ L, Hid (ln2 ⟨#[102, 114, 111, 109]⟩ D1 = L) := ⟨_, rfl⟩
      obtain ⟨L4, HL4⟩ : ∃ L, Hid (ln2 ⟨#[116, 111]⟩ D2 = L) := ⟨_, rfl⟩
      obtain ⟨L5, HL5⟩ : ∃ L, Hid (ln1 ch = L) := ⟨_, rfl⟩
      rw [HL1.out] at C1 HH s1
      rw [HL2.out] at C2 HH s2
      rw [HL3.out] at C3 HH s3
      rw [HL4.out] at C4 HH s4
      rw [HL5.out] at C5 HH s5
      obtain ⟨T2, HT2⟩ : ∃ T, Hid (L1 ++ L2 = T) := ⟨_, rfl⟩
      have t2 : T2.size = L1.size + L2.size := by rw [← HT2.out, ByteArray.size_append]
      rw [HT2.out] at HH
      obtain ⟨T3, HT3⟩ : ∃ T, Hid (T2 ++ L3 = T) := ⟨_, rfl⟩
      have t3 : T3.size = T2.size + L3.size := by rw [← HT3.out, ByteArray.size_append]
      rw [HT3.out] at HH
      obtain ⟨T4, HT4⟩ : ∃ T, Hid (T3 ++ L4 = T) := ⟨_, rfl⟩
      have t4' : T4.size = T3.size + L4.size := by rw [← HT4.out, ByteArray.size_append]
      rw [HT4.out] at HH
      obtain ⟨T5, HT5⟩ : ∃ T, Hid (T4 ++ L5 = T) := ⟨_, rfl⟩
      have t5 : T5.size = T4.size + L5.size := by rw [← HT5.out, ByteArray.size_append]
      rw [HT5.out] at HH
      have HSZ : Hid (L1.size + L2.size ≤ 9223372036854775807 ∧ T2.size + L3.size ≤ 9223372036854775807 ∧ T3.size + L4.size ≤ 9223372036854775807 ∧ T4.size + L5.size ≤ 9223372036854775807) := ⟨by omega, by omega, by omega, by omega⟩
      have hT5 : T5.size ≤ 2000000 := by omega
      clear s1 s2 s3 s4 s5 t2 t3 t4' t5 HL1 HL2 HL3 HL4 HL5 HD1 HD2
      have HZ : Hid (P6 w1 w.heap.size nm cr fr up false (.slice ao n cap)) := Z1
      clear Z1
      refine wp_region_inv (dtJ w.heap.size nm cr ch D1 D2 L1 L2 L3 L4 L5 T2 T3 T4 T5 fr up false (.slice ao n cap) w1) (by kernel_rfl) (by kernel_rfl) ⟨fun _ => undef, rfl, (Below.refl _ _).drew, fun j _ h => by cases h⟩ ?_ ?_
      · intro d a W i o ho hd hdep hJ K hK
        obtain ⟨u, rfl, hB, hG⟩ := hJ
        have HGG : Hid (∀ j, j < 26 → d j = true → dtG w.heap.size nm cr ch D1 D2 L1 L2 L3 L4 L5 T2 T3 T4 T5 fr up j (u (dtS j)) W) := hG
        have HBB : Hid (Below w1.heap.size w1 W) := hB
        have HZW : Hid (P6 W w.heap.size nm cr fr up false (.slice ao n cap)) := HZ.out.on hB
        clear hG hd
        match i, ho with
        | 0, ho =>
          obtain rfl := Option.some.inj ho
          clear hdep
          go_wp2
          exact hK.out _ _ (dt_next (i := 0) (v := .pointer (some ⟨w.heap.size, 0, none⟩)) (by decide) HBB.out HGG.out (Below.refl _ _) (by rfl) rfl)
        | 1, ho =>
          obtain rfl := Option.some.inj ho
          have g : u 13 = .pointer (some ⟨w.heap.size, 0, none⟩) := HGG.out 0 (by decide) (hdep ⟨0, .data⟩ (by simp) rfl)
          have cc := HZW.out.c0
          clear hdep
          go_wp2
          exact hK.out _ _ (dt_next (i := 1) (v := (.string nm)) (by decide) HBB.out HGG.out (Below.refl _ _) (by simp [dtF, dtS, g]) rfl)
        | 2, ho =>
          obtain rfl := Option.some.inj ho
          have g : u 14 = .string nm := HGG.out 1 (by decide) (hdep ⟨1, .data⟩ (by simp) rfl)
          clear hdep
          go_wp2
          exact hK.out _ _ (dt_next (i := 2) (v := (.slice (some ⟨W.heap.size, 0, none⟩) 2 2)) (by decide) HBB.out HGG.out (ba (Below.refl _ _) _) (by simp [dtF, dtS, g]) ⟨_, rfl, (reads_two _ _ _)⟩)
        | 3, ho =>
          obtain rfl := Option.some.inj ho
          have g := HGG.out 2 (by decide) (hdep ⟨2, .data⟩ (by simp) rfl)
          have HC6 : Hid (Calls Tryz.prog 32 #[u 15] W fun e w' => e = .returned (.string L1) ∧ Below W.heap.size W w') := C1.out _ W g
          clear hdep g
          go_wp2_with (go_at_call 32; refine HC6.out.mono ?_; rintro e V ⟨rfl, hb⟩)
          exact hK.out _ _ (dt_next (i := 3) (v := (.string L1)) (by decide) HBB.out HGG.out hb (by rfl) rfl)
        | 4, ho =>
          obtain rfl := Option.some.inj ho
          clear hdep
          go_wp2
          exact hK.out _ _ (dt_next (i := 4) (v := .pointer (some ⟨w.heap.size, 1, none⟩)) (by decide) HBB.out HGG.out (Below.refl _ _) (by rfl) rfl)
        | 5, ho =>
          obtain rfl := Option.some.inj ho
          have g : u 17 = .pointer (some ⟨w.heap.size, 1, none⟩) := HGG.out 4 (by decide) (hdep ⟨4, .data⟩ (by simp) rfl)
          have cc := HZW.out.c1
          clear hdep
          go_wp2
          exact hK.out _ _ (dt_next (i := 5) (v := (.string cr)) (by decide) HBB.out HGG.out (Below.refl _ _) (by simp [dtF, dtS, g]) rfl)
        | 6, ho =>
          obtain rfl := Option.some.inj ho
          have g : u 18 = .string cr := HGG.out 5 (by decide) (hdep ⟨5, .data⟩ (by simp) rfl)
          clear hdep
          go_wp2
          exact hK.out _ _ (dt_next (i := 6) (v := (.slice (some ⟨W.heap.size, 0, none⟩) 2 2)) (by decide) HBB.out HGG.out (ba (Below.refl _ _) _) (by simp [dtF, dtS, g]) ⟨_, rfl, (reads_two _ _ _)⟩)
        | 7, ho =>
          obtain rfl := Option.some.inj ho
          have g := HGG.out 6 (by decide) (hdep ⟨6, .data⟩ (by simp) rfl)
          have HC6 : Hid (Calls Tryz.prog 32 #[u 19] W fun e w' => e = .returned (.string L2) ∧ Below W.heap.size W w') := C2.out _ W g
          clear hdep g
          go_wp2_with (go_at_call 32; refine HC6.out.mono ?_; rintro e V ⟨rfl, hb⟩)
          exact hK.out _ _ (dt_next (i := 7) (v := (.string L2)) (by decide) HBB.out HGG.out hb (by rfl) rfl)
        | 8, ho =>
          obtain rfl := Option.some.inj ho
          have g1 : u 16 = .string L1 := HGG.out 3 (by decide) (hdep ⟨3, .data⟩ (by simp) rfl)
          have g2 : u 20 = .string L2 := HGG.out 7 (by decide) (hdep ⟨7, .data⟩ (by simp) rfl)
          have zz := HSZ.out.1
          clear hdep
          go_wp2
          exact hK.out _ _ (dt_next (i := 8) (v := (.string (L1 ++ L2))) (by decide) HBB.out HGG.out (Below.refl _ _) (by simp [dtF, dtS, g1, g2]) (by show Value.string _ = .string _; rw [HT2.out]))
        | 9, ho =>
          obtain rfl := Option.some.inj ho
          clear hdep
          go_wp2
          exact hK.out _ _ (dt_next (i := 9) (v := .pointer (some ⟨w.heap.size, 2, none⟩)) (by decide) HBB.out HGG.out (Below.refl _ _) (by rfl) rfl)
        | 10, ho =>
          obtain rfl := Option.some.inj ho
          have g : u 22 = .pointer (some ⟨w.heap.size, 2, none⟩) := HGG.out 9 (by decide) (hdep ⟨9, .data⟩ (by simp) rfl)
          have cc := HZW.out.c2
          clear hdep
          go_wp2
          exact hK.out _ _ (dt_next (i := 10) (v := (.int .i64 fr)) (by decide) HBB.out HGG.out (Below.refl _ _) (by simp [dtF, dtS, g]) rfl)
        | 11, ho =>
          obtain rfl := Option.some.inj ho
          have g : u 23 = .int .i64 fr := HGG.out 10 (by decide) (hdep ⟨10, .data⟩ (by simp) rfl)
          clear hdep
          go_wp2_with (go_at_call 33; refine (CD1.out _ HBB.out).mono ?_; rintro e V ⟨rfl, hb⟩)
          exact hK.out _ _ (dt_next (i := 11) (v := (.string D1)) (by decide) HBB.out HGG.out hb (by simp [dtF, dtS, g]) rfl)
        | 12, ho =>
          obtain rfl := Option.some.inj ho
          have g : u 24 = .string D1 := HGG.out 11 (by decide) (hdep ⟨11, .data⟩ (by simp) rfl)
          clear hdep
          go_wp2
          exact hK.out _ _ (dt_next (i := 12) (v := (.slice (some ⟨W.heap.size, 0, none⟩) 2 2)) (by decide) HBB.out HGG.out (ba (Below.refl _ _) _) (by simp [dtF, dtS, g]) ⟨_, rfl, (reads_two _ _ _)⟩)
        | 13, ho =>
          obtain rfl := Option.some.inj ho
          have g := HGG.out 12 (by decide) (hdep ⟨12, .data⟩ (by simp) rfl)
          have HC6 : Hid (Calls Tryz.prog 32 #[u 25] W fun e w' => e = .returned (.string L3) ∧ Below W.heap.size W w') := C3.out _ W g
          clear hdep g
          go_wp2_with (go_at_call 32; refine HC6.out.mono ?_; rintro e V ⟨rfl, hb⟩)
          exact hK.out _ _ (dt_next (i := 13) (v := (.string L3)) (by decide) HBB.out HGG.out hb (by rfl) rfl)
        | 14, ho =>
          obtain rfl := Option.some.inj ho
          have g1 : u 21 = .string T2 := HGG.out 8 (by decide) (hdep ⟨8, .data⟩ (by simp) rfl)
          have g2 : u 26 = .string L3 := HGG.out 13 (by decide) (hdep ⟨13, .data⟩ (by simp) rfl)
          have zz := HSZ.out.2.1
          clear hdep
          go_wp2
          exact hK.out _ _ (dt_next (i := 14) (v := (.string (T2 ++ L3))) (by decide) HBB.out HGG.out (Below.refl _ _) (by simp [dtF, dtS, g1, g2]) (by show Value.string _ = .string _; rw [HT3.out]))
        | 15, ho =>
          obtain rfl := Option.some.inj ho
          clear hdep
          go_wp2
          exact hK.out _ _ (dt_next (i := 15) (v := .pointer (some ⟨w.heap.size, 3, none⟩)) (by decide) HBB.out HGG.out (Below.refl _ _) (by rfl) rfl)
        | 16, ho =>
          obtain rfl := Option.some.inj ho
          have g : u 28 = .pointer (some ⟨w.heap.size, 3, none⟩) := HGG.out 15 (by decide) (hdep ⟨15, .data⟩ (by simp) rfl)
          have cc := HZW.out.c3
          clear hdep
          go_wp2
          exact hK.out _ _ (dt_next (i := 16) (v := (.int .i64 up)) (by decide) HBB.out HGG.out (Below.refl _ _) (by simp [dtF, dtS, g]) rfl)
        | 17, ho =>
          obtain rfl := Option.some.inj ho
          have g : u 29 = .int .i64 up := HGG.out 16 (by decide) (hdep ⟨16, .data⟩ (by simp) rfl)
          clear hdep
          go_wp2_with (go_at_call 33; refine (CD2.out _ HBB.out).mono ?_; rintro e V ⟨rfl, hb⟩)
          exact hK.out _ _ (dt_next (i := 17) (v := (.string D2)) (by decide) HBB.out HGG.out hb (by simp [dtF, dtS, g]) rfl)
        | 18, ho =>
          obtain rfl := Option.some.inj ho
          have g : u 30 = .string D2 := HGG.out 17 (by decide) (hdep ⟨17, .data⟩ (by simp) rfl)
          clear hdep
          go_wp2
          exact hK.out _ _ (dt_next (i := 18) (v := (.slice (some ⟨W.heap.size, 0, none⟩) 2 2)) (by decide) HBB.out HGG.out (ba (Below.refl _ _) _) (by simp [dtF, dtS, g]) ⟨_, rfl, (reads_two _ _ _)⟩)
        | 19, ho =>
          obtain rfl := Option.some.inj ho
          have g := HGG.out 18 (by decide) (hdep ⟨18, .data⟩ (by simp) rfl)
          have HC6 : Hid (Calls Tryz.prog 32 #[u 31] W fun e w' => e = .returned (.string L4) ∧ Below W.heap.size W w') := C4.out _ W g
          clear hdep g
          go_wp2_with (go_at_call 32; refine HC6.out.mono ?_; rintro e V ⟨rfl, hb⟩)
          exact hK.out _ _ (dt_next (i := 19) (v := (.string L4)) (by decide) HBB.out HGG.out hb (by rfl) rfl)
        | 20, ho =>
          obtain rfl := Option.some.inj ho
          have g1 : u 27 = .string T3 := HGG.out 14 (by decide) (hdep ⟨14, .data⟩ (by simp) rfl)
          have g2 : u 32 = .string L4 := HGG.out 19 (by decide) (hdep ⟨19, .data⟩ (by simp) rfl)
          have zz := HSZ.out.2.2.1
          clear hdep
          go_wp2
          exact hK.out _ _ (dt_next (i := 20) (v := (.string (T3 ++ L4))) (by decide) HBB.out HGG.out (Below.refl _ _) (by simp [dtF, dtS, g1, g2]) (by show Value.string _ = .string _; rw [HT4.out]))
        | 21, ho =>
          obtain rfl := Option.some.inj ho
          clear hdep
          go_wp2
          exact hK.out _ _ (dt_next (i := 21) (v := (.string ch)) (by decide) HBB.out HGG.out (Below.refl _ _) (by rfl) rfl)
        | 22, ho =>
          obtain rfl := Option.some.inj ho
          have g : u 34 = .string ch := HGG.out 21 (by decide) (hdep ⟨21, .data⟩ (by simp) rfl)
          clear hdep
          go_wp2
          exact hK.out _ _ (dt_next (i := 22) (v := (.slice (some ⟨W.heap.size, 0, none⟩) 1 1)) (by decide) HBB.out HGG.out (ba (Below.refl _ _) _) (by simp [dtF, dtS, g]) ⟨_, rfl, (reads_one _ _)⟩)
        | 23, ho =>
          obtain rfl := Option.some.inj ho
          have g := HGG.out 22 (by decide) (hdep ⟨22, .data⟩ (by simp) rfl)
          have HC6 : Hid (Calls Tryz.prog 32 #[u 35] W fun e w' => e = .returned (.string L5) ∧ Below W.heap.size W w') := C5.out _ W g
          clear hdep g
          go_wp2_with (go_at_call 32; refine HC6.out.mono ?_; rintro e V ⟨rfl, hb⟩)
          exact hK.out _ _ (dt_next (i := 23) (v := (.string L5)) (by decide) HBB.out HGG.out hb (by rfl) rfl)
        | 24, ho =>
          obtain rfl := Option.some.inj ho
          have g1 : u 33 = .string T4 := HGG.out 20 (by decide) (hdep ⟨20, .data⟩ (by simp) rfl)
          have g2 : u 36 = .string L5 := HGG.out 23 (by decide) (hdep ⟨23, .data⟩ (by simp) rfl)
          have zz := HSZ.out.2.2.2
          clear hdep
          go_wp2
          exact hK.out _ _ (dt_next (i := 24) (v := (.string (T4 ++ L5))) (by decide) HBB.out HGG.out (Below.refl _ _) (by simp [dtF, dtS, g1, g2]) (by show Value.string _ = .string _; rw [HT5.out]))
        | 25, ho =>
          obtain rfl := Option.some.inj ho
          have g : u 37 = .string T5 := HGG.out 24 (by decide) (hdep ⟨24, .data⟩ (by simp) rfl)
          clear hdep
          go_wp2
          exact hK.out _ _ (dt_next (i := 25) (v := (.string T5)) (by decide) HBB.out HGG.out (Below.refl _ _) (by simp [dtF, dtS, g]) rfl)
        | i + 26, ho => simp at ho
      · intro d a W hall hJ
        obtain ⟨u, rfl, hB, hG⟩ := hJ
        have h5 : u 5 = .string T5 := hG 25 (by decide) (hall 25 (by decide))
        have B2 := Below.on B1 hB
        have Z2 := HZ.out.on hB
        have e5 := Z2.c5
        clear hG hall hB HZ Z2 C1 C2 C3 C4 C5 CD1 CD2 HSZ HT2 HT3 HT4 HT5
        have hn4 : n ≤ 4 := by rw [← HN.out]; exact t4
        have HSTART : Hid (dagP d0 ts (headS d0) = dagP d0 (ts.drop 0) T5) := by show dagP d0 ts (headS d0) = _; rw [List.drop_zero, HH.out]
        clear HH
        dsimp only [dtF]
        have hK0 := h5
        go_wp2
        go_loopw [5, 41] (fun tx i wr => ∃ (k : Nat) (T : ByteArray), k ≤ n ∧ i = .int .i64 k ∧ tx = .string T ∧ T.size ≤ 2000000 + 10000100 * k ∧ Hid (dagP d0 ts (headS d0) = dagP d0 (ts.drop k) T) ∧ Below w.heap.size w wr) (fun _ i _ => n - (intOf i).toNat)
        case atStart => exact ⟨0, T5, Nat.zero_le _, rfl, h5, by omega, HSTART, B2⟩
        case round =>
          clear HSTART B2 e5
          obtain ⟨k, T, hk, rfl, rfl, hT, HE, hbel⟩ := hrel
          by_cases hlt : k < n
          · obtain ⟨t, ht⟩ : ∃ t, ts[k]? = some t := ⟨_, List.getElem?_eq_getElem (by rw [HN.out]; exact hlt)⟩
            have htm := List.mem_of_getElem? ht
            obtain ⟨b', o, fo, m, fc, rfl, hb, c0, c1, c2, c3, c4, hav, hroom⟩ := (HR.out wr hbel).at ht
            have hm : m ≤ 1048576 := by rw [hav.len]; exact HSM.out t htm
            have HF : Hid (dagP d0 ts (headS d0) = dagP d0 (ts.drop (k + 1)) (T ++ lineL t)) := HE.out.trans (by rw [dagP_at ht, lineS_is])
            have hls : (lineL t).size ≤ 10000010 := lineL_size (HFI.out t htm) (by rw [← hav.len]; exact hm)
            have HC : Hid (∀ W, Below wr.heap.size wr W → Calls Tryz.prog 34 #[.agg #[.string t.name, .string t.pool, .int .i64 t.ret, .bool t.past, .slice fo m fc]] W fun e w' => e = .returned (.string (lineL t)) ∧ Below W.heap.size W w') := fun W hb => taskLine_any t.name t.pool t.ret t.past fo m fc t.after W (hav.below hb) hroom (HFI.out t htm) hm (HG.out W (Below.on hbel hb))
            obtain ⟨Y, HY⟩ : ∃ Y, Hid (lineL t = Y) := ⟨_, rfl⟩
            rw [HY.out] at HF HC hls
            have hsum : T.size + Y.size ≤ 9223372036854775807 := by omega
            have hT2 : (T ++ Y).size ≤ 2000000 + 10000100 * (k + 1) := text_sum hT hls
            clear ht hav htm HE HR
            go_wp2_with (go_at_call 34; refine (HC.out _ (ba (Below.refl _ _) _)).mono ?_; rintro e w2 ⟨rfl, hb2⟩)
            have hbel2 := Below.on hbel (below_new hb2)
            clear hbel hb2 HC c0 c1 c2 c3 c4
            go_roundw
            case rel => exact ⟨k + 1, T ++ Y, by omega, by go_num, rfl, hT2, HF, hbel2⟩
            case measure => simp [intOf]; omega
          · have HF : Hid (dagP d0 ts (headS d0) = T) := HE.out.trans (by rw [show k = ts.length by rw [HN.out]; omega, List.drop_length]; rfl)
            go_wp2
            go_ret2
            exact ⟨by rw [HF.out]; rfl, hbel⟩
end Go.Proofs.YtpmkapmfgblkhaaGreatDoor
