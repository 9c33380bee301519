/-
  A plan that came in, made anew for the program: the walks of the law's toStringS, toTask, toTaskS and toDag.
-/
import Derived.Test.YtkfhmeiiicidaaaSzt
namespace Go.Proofs.Ytkfhmeiiicidaaa
open Go Go.RowKit

theorem tx_width : Rec.width ByteArray = 1 := rfl
theorem madeTx (n : Nat) : (madeCells (Value.cells (.string ByteArray.empty)) (n * 1)).toList = (List.replicate n (default : ByteArray)).flatMap Rec.cells := by
  apply List.ext_getElem?
  intro m
  have e := flat_at (List.replicate n (default : ByteArray)) m 0 (by decide)
  rw [tx_width, Nat.mul_one, Nat.add_zero] at e
  rw [e]
  simp only [madeCells, Value.cells, Array.toList_map, Array.toList_range, List.getElem?_map, List.getElem?_replicate]
  by_cases hlt : m < n
  · rw [if_pos hlt, List.getElem?_range (by omega)]
    simp
    rw [Nat.mod_one]
    rfl
  · rw [if_neg hlt, List.getElem?_eq_none (by simp; omega)]
    rfl
theorem tx_put {w : World} {B : Nat} {g n cap : Nat} {l : List ByteArray} (h : ownsR w B 9 (.slice (some ⟨g, 0, none⟩) n cap) l) {i : Nat} {y : ByteArray} (f : ByteArray) (hi : l[i]? = some y) :
    ownsR (w.setCell ⟨g, i, none⟩ (.string f)) B 9 (.slice (some ⟨g, 0, none⟩) n cap) (l.set i f) := by
  have h1 := h.put (j := 0) (u := .string f) f hi (by decide) rfl
  simpa only [tx_width, Nat.add_zero, Nat.mul_one] using h1
set_option maxRecDepth 10000 in
set_option maxHeartbeats 1000000 in
theorem toS_any (ao : Option Addr) (n cap : Nat) (l : List ByteArray) (w : World) (hr : Reads w (.slice ao n cap) l) (hn : n ≤ 1048576) :
    Calls Try.prog 90 #[.slice ao n cap] w fun e w' => e = .returned (.slice (some ⟨w.heap.size, 0, none⟩) n n) ∧ ownsR w' w.heap.size 9 (.slice (some ⟨w.heap.size, 0, none⟩) n n) l ∧ Below w.heap.size w w' := by
  obtain ⟨i0, hi0, hz0, hz1, hz2⟩ := info_parts info9
  have hnl := hr.len
  have HR : Hid (Reads w (.slice ao n cap) l) := hr
  have HN : Hid (n = l.length) := hnl
  clear hr hnl
  go_enter Try.func90, Try.ntmps90
  go_wp2_with (at_make; refine wpList_make_full _ rfl _ _ 107 rfl w.heap.size 9 i0 _ 1 Try.underlying107 hi0 hz0 hz1 .i64 .i64 _ _ n rfl rfl rfl rfl (by rw [hz2]; omega) (by unfold maxLen; omega) (Nat.le_refl _) ?_; intro w1 ho hg)
  rw [madeTx, HN.out, ← filledR_none, ← HN.out] at ho
  have ho : ownsR w1 w.heap.size 9 (.slice (some ⟨w.heap.size, 0, none⟩) n n) (filledR l 0) := by unfold ownsR; rw [filledR_length (Nat.zero_le _), ← HN.out]; exact ho
  have hbel1 : Below w.heap.size w w1 := (Below.refl _ w).grown hg (Nat.le_refl _) (fun j hj => by cases hj)
  generalize hB : w.heap.size = B at *
  go_loopw [4] (fun i wr => ∃ k : Nat, k ≤ n ∧ i = .int .i64 k ∧ ownsR wr B 9 (.slice (some ⟨B, 0, none⟩) n n) (filledR l k) ∧ Below B w wr) (fun i _ => n - (intOf i).toNat)
  case atStart => exact ⟨0, Nat.zero_le _, rfl, ho, hbel1⟩
  case round =>
    obtain ⟨k, hk, rfl, hown, hbel⟩ := hrel
    clear ho hbel1
    by_cases hlt : k < n
    · obtain ⟨f, hf⟩ : ∃ f, l[k]? = some f := ⟨_, List.getElem?_eq_getElem (by rw [← HN.out]; exact hlt)⟩
      have HF : Hid (l[k]? = some f) := hf
      obtain ⟨b, o, rfl, hb, c0⟩ := text_at (HR.out.below (hB ▸ hbel)) hf
      clear hf
      have HO : Hid (ownsR wr B 9 (.slice (some ⟨B, 0, none⟩) n n) (filledR l k)) := hown
      clear hown
      obtain ⟨hgs, -, -, hat⟩ := HO.out.at (filledR_at (l := l) (k := k) (by rw [← HN.out]; exact hlt))
      have d0 : wr.cell? ⟨B, k, none⟩ = some (.string ByteArray.empty) := by have := (hat 0 (by decide)).1; simp only [tx_width, Nat.mul_one, Nat.add_zero] at this; exact this
      have f0 : wr.frozen? ⟨B, k, none⟩ = false := by have := (hat 0 (by decide)).2; simpa only [tx_width, Nat.mul_one, Nat.add_zero] using this
      clear hat
      have R := tx_put HO.out f (filledR_at (l := l) (k := k) (by rw [← HN.out]; exact hlt))
      rw [filledR_set HF.out] at R
      go_wp2
      go_roundw
      case rel => exact ⟨k + 1, by omega, by go_num, R, hbel.setCell (p := ⟨B, k, none⟩) (Nat.le_refl _) _⟩
      case measure => simp [intOf]; omega
    · have hkn : k = n := by omega
      have R : ownsR wr B 9 (.slice (some ⟨B, 0, none⟩) n n) l := by rw [hkn, HN.out, filledR_all] at hown; rw [HN.out]; exact hown
      clear hown
      go_wp2
      go_ret
      subst hB
      exact ⟨rfl, R, hbel⟩
theorem ret_t1 {W : World} {b : Nat} {x0 x1 x2 x3 x4 : Value} {fn : Func} {p : Tmp} {tmps : Array Value} (h : fn.results = #[.cell p 109]) (hp : tmps.getD p undef = .pointer (some ⟨b, 0, none⟩)) (hb : B5 109 W b x0 x1 x2 x3 x4) :
    (results fn tmps).run Try.prog W = .ok (.agg #[x0, x1, x2, x3, x4]) W := by
  have hp' : tmps[p]?.getD undef = .pointer (some ⟨b, 0, none⟩) := by simpa using hp
  simp [results, h, hp', hb.c0, hb.c1, hb.c2, hb.c3, hb.c4, asAddr, go_sem]
set_option maxRecDepth 10000 in
set_option maxHeartbeats 2000000 in
theorem toT_any (nm po : ByteArray) (rt : Int) (pa : Bool) (fo : Option Addr) (m fc : Nat) (af : List ByteArray) (w : World) (hr : Reads w (.slice fo m fc) af) (hm : m ≤ 1048576) :
    Calls Try.prog 87 #[.agg #[.string nm, .string po, .int .i64 rt, .bool pa, .slice fo m fc]] w fun e w' => ∃ g, e = .returned (.agg #[.string nm, .string po, .int .i64 rt, .bool pa, .slice (some ⟨g, 0, none⟩) m m]) ∧ w.heap.size ≤ g ∧ Reads w' (.slice (some ⟨g, 0, none⟩) m m) af ∧ Below w.heap.size w w' := by
  have HS : Hid (∀ W, Below w.heap.size w W → Calls Try.prog 90 #[.slice fo m fc] W fun e w' => e = .returned (.slice (some ⟨W.heap.size, 0, none⟩) m m) ∧ ownsR w' W.heap.size 9 (.slice (some ⟨W.heap.size, 0, none⟩) m m) af ∧ Below W.heap.size W w') := fun W hb => toS_any fo m fc af W (hr.below hb) hm
  clear hr
  go_enter Try.func87, Try.ntmps87
  go_wp2_with fail
  obtain ⟨W0, hW⟩ : ∃ W, ((w.alloc (.cells #[.string nm, .string po, .int .i64 rt, .bool pa, .slice fo m fc] 136)).alloc (.cells #[.string ⟨#[]⟩, .string ⟨#[]⟩, .int .i64 0, .bool false, .slice none 0 0] 109)).alloc (.cells #[.string nm, .string po, .int .i64 rt, .bool pa, .slice none 0 0] 109) = W := ⟨_, rfl⟩
  have Z1 : B5 109 W0 (w.heap.size + 1) (.string ⟨#[]⟩) (.string ⟨#[]⟩) (.int .i64 0) (.bool false) (.slice none 0 0) := by
    rw [← hW]
    have := (B5.new 109 (w.alloc (.cells #[.string nm, .string po, .int .i64 rt, .bool pa, .slice fo m fc] 136)) (.string ⟨#[]⟩) (.string ⟨#[]⟩) (.int .i64 0) (.bool false) (.slice none 0 0)).alloc (.cells #[.string nm, .string po, .int .i64 rt, .bool pa, .slice none 0 0] 109)
    simpa using this
  have Z2 : B5 109 W0 (w.heap.size + 1 + 1) (.string nm) (.string po) (.int .i64 rt) (.bool pa) (.slice none 0 0) := by
    rw [← hW]
    have := B5.new 109 ((w.alloc (.cells #[.string nm, .string po, .int .i64 rt, .bool pa, .slice fo m fc] 136)).alloc (.cells #[.string ⟨#[]⟩, .string ⟨#[]⟩, .int .i64 0, .bool false, .slice none 0 0] 109)) (.string nm) (.string po) (.int .i64 rt) (.bool pa) (.slice none 0 0)
    simpa using this
  have B0 : Below w.heap.size w W0 := by rw [← hW]; exact ba (ba (ba (Below.refl _ _) _) _) _
  rw [hW]
  clear hW
  refine (HS.out W0 B0).mono ?_
  rintro x W1 ⟨rfl, ho, hb1⟩
  have Y1 := Z1.up hb1
  have Y2 := Z2.up hb1
  have B1 := Below.on B0 hb1
  have hlow : w.heap.size + 1 + 1 < W0.heap.size := Z2.lt
  clear HS Z1 Z2 B0 hb1
  obtain ⟨g, HG⟩ : ∃ g, Hid (W0.heap.size = g) := ⟨_, rfl⟩
  rw [HG.out] at hlow ho
  rw [HG.out]
  have HO : Hid (ownsR W1 g 9 (.slice (some ⟨g, 0, none⟩) m m) af) := ho
  clear ho HG
  have X2 := Y2.s4 (.slice (some ⟨g, 0, none⟩) m m)
  have X1 := Y1.far (p := ⟨w.heap.size + 1 + 1, 4, none⟩) (by show w.heap.size + 1 + 1 ≠ w.heap.size + 1; omega) (.slice (some ⟨g, 0, none⟩) m m)
  have HX : Hid (ownsR (W1.setCell ⟨w.heap.size + 1 + 1, 4, none⟩ (.slice (some ⟨g, 0, none⟩) m m)) g 9 (.slice (some ⟨g, 0, none⟩) m m) af) := HO.out.setB (by show w.heap.size + 1 + 1 < g; omega) _
  have BX : Below w.heap.size w (W1.setCell ⟨w.heap.size + 1 + 1, 4, none⟩ (.slice (some ⟨g, 0, none⟩) m m)) := B1.setCell (p := ⟨w.heap.size + 1 + 1, 4, none⟩) (by show w.heap.size ≤ w.heap.size + 1 + 1; omega) _
  have c4 := Y2.c4
  have f4 := Y2.fr 4
  obtain ⟨W2, hW2⟩ : ∃ W, W1.setCell ⟨w.heap.size + 1 + 1, 4, none⟩ (.slice (some ⟨g, 0, none⟩) m m) = W := ⟨_, rfl⟩
  rw [hW2] at X1 X2 HX BX
  have HW2 : Hid (W1.setCell ⟨w.heap.size + 1 + 1, 4, none⟩ (.slice (some ⟨g, 0, none⟩) m m) = W2) := hW2
  have e0 := X2.c0
  have e1 := X2.c1
  have e2 := X2.c2
  have e3 := X2.c3
  have e4 := X2.c4
  have h0 := X1.c0
  have h1 := X1.c1
  have h2 := X1.c2
  have h3 := X1.c3
  have h4 := X1.c4
  have k0 := X1.fr 0
  have k1 := X1.fr 1
  have k2 := X1.fr 2
  have k3 := X1.fr 3
  have k4 := X1.fr 4
  go_wp2
  have HE := X1.set (.string nm) (.string po) (.int .i64 rt) (.bool pa) (.slice (some ⟨g, 0, none⟩) m m)
  refine bodyPost_ret (ret_t1 rfl rfl HE) rfl ?_
  refine ⟨g, rfl, by omega, ?_, below_set5 BX (by omega) _ _ _ _ _⟩
  exact (ownsR_set5 HX.out (by omega) _ _ _ _ _).reads
instance : Inhabited Tk := ⟨⟨⟨#[]⟩, ⟨#[]⟩, 0, false, .slice none 0 0⟩⟩
theorem tk_width : Rec.width Tk = 5 := rfl
theorem infoTk : (Try.prog.info? 109).map (fun i => (i.zero, i.size, i.bytes)) = some (some (.agg #[.string ⟨#[]⟩, .string ⟨#[]⟩, .int .i64 0, .bool false, .slice none 0 0]), 5, 72) := by kernel_rfl
theorem madeTk (n : Nat) : (madeCells (Value.cells (.agg #[.string ⟨#[]⟩, .string ⟨#[]⟩, .int .i64 0, .bool false, .slice none 0 0])) (n * 5)).toList = (List.replicate n (default : Tk)).flatMap Rec.cells := by
  apply List.ext_getElem?
  intro m
  have hm := Nat.div_add_mod m 5
  have h3 : m % 5 < 5 := Nat.mod_lt _ (by decide)
  have e := flat_at (List.replicate n (default : Tk)) (m / 5) (m % 5) h3
  rw [tk_width, show m / 5 * 5 + m % 5 = m by omega] at e
  rw [e]
  simp only [madeCells, Value.cells, Array.toList_map, Array.toList_range, List.getElem?_map, List.getElem?_replicate]
  by_cases hlt : m / 5 < n
  · rw [if_pos hlt, List.getElem?_range (by omega)]
    match hx : m % 5, h3 with
    | 0, _ => simp [hx]; rfl
    | 1, _ => simp [hx]; rfl
    | 2, _ => simp [hx]; rfl
    | 3, _ => simp [hx]; rfl
    | 4, _ => simp [hx]; rfl
  · rw [if_neg hlt, List.getElem?_eq_none (by simp; omega)]
    rfl
theorem tk_put {w : World} {B : Nat} {g n cap : Nat} {l : List Tk} (h : ownsR w B 109 (.slice (some ⟨g, 0, none⟩) n cap) l) {i : Nat} {y : Tk} (f : Tk) (hi : l[i]? = some y) :
    ownsR (((((w.setCell ⟨g, i * 5, none⟩ (.string f.name)).setCell ⟨g, i * 5 + 1, none⟩ (.string f.pool)).setCell ⟨g, i * 5 + 2, none⟩ (.int .i64 f.ret)).setCell ⟨g, i * 5 + 3, none⟩ (.bool f.past)).setCell ⟨g, i * 5 + 4, none⟩ f.after) B 109 (.slice (some ⟨g, 0, none⟩) n cap) (l.set i f) := by
  have hil : i < l.length := (List.getElem?_eq_some_iff.1 hi).1
  have h1 := h.put (j := 0) (u := .string f.name) { y with name := f.name } hi (by decide) rfl
  have h2 := h1.put (i := i) (j := 1) (u := .string f.pool) { y with name := f.name, pool := f.pool } (List.getElem?_set_self (by simpa using hil)) (by decide) rfl
  have h3 := h2.put (i := i) (j := 2) (u := .int .i64 f.ret) { y with name := f.name, pool := f.pool, ret := f.ret } (List.getElem?_set_self (by simpa using hil)) (by decide) rfl
  have h4 := h3.put (i := i) (j := 3) (u := .bool f.past) { y with name := f.name, pool := f.pool, ret := f.ret, past := f.past } (List.getElem?_set_self (by simpa using hil)) (by decide) rfl
  have h5 := h4.put (i := i) (j := 4) (u := f.after) f (List.getElem?_set_self (by simpa using hil)) (by decide) rfl
  simpa only [tk_width, Nat.add_zero, List.set_set] using h5
/-- A row of texts is not turned by what is stored into a row of tasks. -/
theorem reads_set {w : World} {v : Value} {l : List ByteArray} {g : Nat} (h : Reads w v l) (hv : ∀ b o n c, v = .slice (some ⟨b, o, none⟩) n c → b ≠ g) (i : Nat) (f : Tk) :
    Reads (((((w.setCell ⟨g, i * 5, none⟩ (.string f.name)).setCell ⟨g, i * 5 + 1, none⟩ (.string f.pool)).setCell ⟨g, i * 5 + 2, none⟩ (.int .i64 f.ret)).setCell ⟨g, i * 5 + 3, none⟩ (.bool f.past)).setCell ⟨g, i * 5 + 4, none⟩ f.after) v l := by
  obtain ⟨ao, c, rfl, h⟩ := h
  refine ⟨ao, c, rfl, fun hne => ?_⟩
  obtain ⟨b, o, rfl, hlt, hc⟩ := h hne
  have hb := hv b o _ _ rfl
  refine ⟨b, o, rfl, by simpa using hlt, fun i x hx j u hu => ?_⟩
  have := hc i x hx j u hu
  exact cell_far (cell_far (cell_far (cell_far (cell_far this (fun e => hb e.symm) _) (fun e => hb e.symm) _) (fun e => hb e.symm) _) (fun e => hb e.symm) _) (fun e => hb e.symm) _
/-- A row that has room for what it holds. -/
def Roomy (v : Value) : Prop := ∀ a n c, v = .slice a n c → n ≤ c
theorem roomy_full (a : Option Addr) (n : Nat) : Roomy (.slice a n n) := fun a' n' c' e => by injection e with _ e2 e3; omega
/-- Tasks on the way: the first k are made, the others are none yet. -/
structure ToS (w : World) (B n : Nat) (ts : List Ta) (k : Nat) (ks : List Tk) (W : World) : Prop where
  own : ownsR W B 109 (.slice (some ⟨B, 0, none⟩) n n) ks
  len : ks.length = n
  bel : Below B w W
  done : ∀ (i : Nat) (t : Ta), i < k → ts[i]? = some t → ∃ x, ks[i]? = some x ∧ OneT W x t ∧ (∀ b o n c, x.after = .slice (some ⟨b, o, none⟩) n c → B < b) ∧ Roomy x.after
  rest : ∀ i, k ≤ i → i < n → ks[i]? = some default
  low : w.heap.size = B
theorem ToS.up {w : World} {B n : Nat} {ts : List Ta} {k : Nat} {ks : List Tk} {W W' : World} (h : ToS w B n ts k ks W) (hb : Below W.heap.size W W') : ToS w B n ts k ks W' := by
  refine ⟨h.own.all hb, h.len, h.bel.trans (hb.mono (by rw [← h.low]; exact h.bel.size)), fun i t hi ht => ?_, h.rest, h.low⟩
  obtain ⟨x, hx, ho, hn⟩ := h.done i t hi ht
  exact ⟨x, hx, ⟨ho.name, ho.pool, ho.ret, ho.past, ho.after.below hb⟩, hn⟩
theorem ToS.put {w : World} {B n : Nat} {ts : List Ta} {k : Nat} {ks : List Tk} {W : World} (h : ToS w B n ts k ks W) (hk : k < n) {t : Ta} (ht : ts[k]? = some t) (f : Tk) (hf : OneT W f t) (hfb : (∀ b o n c, f.after = .slice (some ⟨b, o, none⟩) n c → B < b) ∧ Roomy f.after) :
    ToS w B n ts (k + 1) (ks.set k f) (((((W.setCell ⟨B, k * 5, none⟩ (.string f.name)).setCell ⟨B, k * 5 + 1, none⟩ (.string f.pool)).setCell ⟨B, k * 5 + 2, none⟩ (.int .i64 f.ret)).setCell ⟨B, k * 5 + 3, none⟩ (.bool f.past)).setCell ⟨B, k * 5 + 4, none⟩ f.after) := by
  have hl : k < ks.length := by rw [h.len]; exact hk
  refine ⟨tk_put h.own f (h.rest k (Nat.le_refl _) hk), by rw [List.length_set]; exact h.len, ?_, fun i u hi hu => ?_, fun i hi hin => ?_, h.low⟩
  · exact ((((h.bel.setCell (p := ⟨B, k * 5, none⟩) (Nat.le_refl _) _).setCell (p := ⟨B, k * 5 + 1, none⟩) (Nat.le_refl _) _).setCell (p := ⟨B, k * 5 + 2, none⟩) (Nat.le_refl _) _).setCell (p := ⟨B, k * 5 + 3, none⟩) (Nat.le_refl _) _).setCell (p := ⟨B, k * 5 + 4, none⟩) (Nat.le_refl _) _
  · by_cases e : i = k
    · subst e
      rw [ht] at hu
      cases hu
      exact ⟨f, List.getElem?_set_self hl, ⟨hf.name, hf.pool, hf.ret, hf.past, reads_set hf.after (fun b o n c e => by have := hfb.1 b o n c e; omega) i f⟩, hfb⟩
    · obtain ⟨x, hx, ho, hn⟩ := h.done i u (by omega) hu
      exact ⟨x, by rw [List.getElem?_set_ne (fun e' => e e'.symm)]; exact hx, ⟨ho.name, ho.pool, ho.ret, ho.past, reads_set ho.after (fun b o n c e => by have := hn.1 b o n c e; omega) k f⟩, hn⟩
  · rw [List.getElem?_set_ne (by omega)]
    exact h.rest i (by omega) hin
/-- Tasks that lie in blocks from one on. -/
def TasksB (B : Nat) (w : World) (v : Value) (ts : List Ta) : Prop := (∀ b o n c, v = .slice (some ⟨b, o, none⟩) n c → B ≤ b) ∧ ∃ ks : List Tk, Reads w v ks ∧ ks.length = ts.length ∧ ∀ (i : Nat) (t : Ta), ts[i]? = some t → ∃ k : Tk, ks[i]? = some k ∧ OneT w k t ∧ (∀ b o n c, k.after = .slice (some ⟨b, o, none⟩) n c → B ≤ b) ∧ Roomy k.after
theorem TasksB.tasks {B : Nat} {w : World} {v : Value} {ts : List Ta} (h : TasksB B w v ts) : Tasks w v ts := by
  obtain ⟨_, ks, h1, h2, h3⟩ := h
  exact ⟨ks, h1, h2, fun i t ht => by obtain ⟨k, hk, ho, _⟩ := h3 i t ht; exact ⟨k, hk, ho⟩⟩
theorem reads_high {α : Type} [Rec α] {B : Nat} {w W : World} {v : Value} {l : List α} (hr : Reads w v l) (hs : w.heap.size ≤ W.heap.size) (hW : ∀ k, B ≤ k → W.heap[k]? = w.heap[k]?) (hb : ∀ b o n c, v = .slice (some ⟨b, o, none⟩) n c → B ≤ b) : Reads W v l := by
  obtain ⟨ao, c, rfl, hr⟩ := hr
  refine ⟨ao, c, rfl, fun hne => ?_⟩
  obtain ⟨b, o, rfl, hlt, hc⟩ := hr hne
  have hbg := hb b o _ _ rfl
  refine ⟨b, o, rfl, by omega, fun i x hx j u hu => ?_⟩
  rw [← hc i x hx j u hu]
  exact World.cell?_of_block (a := ⟨b, _, none⟩) (hW b hbg)
theorem TasksB.high {B : Nat} {w W : World} {v : Value} {ts : List Ta} (h : TasksB B w v ts) (hs : w.heap.size ≤ W.heap.size) (hW : ∀ k, B ≤ k → W.heap[k]? = w.heap[k]?) : TasksB B W v ts := by
  obtain ⟨h0, ks, h1, h2, h3⟩ := h
  refine ⟨h0, ks, reads_high h1 hs hW h0, h2, fun i t ht => ?_⟩
  obtain ⟨k, hk, ho, hb⟩ := h3 i t ht
  exact ⟨k, hk, ⟨ho.name, ho.pool, ho.ret, ho.past, reads_high ho.after hs hW hb.1⟩, hb⟩
theorem ToS.tasks {w : World} {B n : Nat} {ts : List Ta} {ks : List Tk} {W : World} (h : ToS w B n ts n ks W) (hn : ts.length = n) : TasksB B W (.slice (some ⟨B, 0, none⟩) n n) ts := by
  refine ⟨fun b o n c e => by injection e with e1 _ _; injection e1 with e1; injection e1 with e1 _ _; omega, ks, h.own.reads, by rw [h.len, hn], fun i t ht => ?_⟩
  obtain ⟨x, hx, ho, hb⟩ := h.done i t (by rw [← hn]; exact (List.getElem?_eq_some_iff.1 ht).1) ht
  exact ⟨x, hx, ho, fun b o n c e => by have := hb.1 b o n c e; omega, hb.2⟩
set_option maxRecDepth 10000 in
set_option maxHeartbeats 2000000 in
theorem toTS_any (ao : Option Addr) (n cap : Nat) (ts : List Ta) (w : World) (hr : Tasks w (.slice ao n cap) ts) (hn : n ≤ 1048576) (ha : ∀ t ∈ ts, t.after.length ≤ 1048576) :
    Calls Try.prog 80 #[.slice ao n cap] w fun e w' => e = .returned (.slice (some ⟨w.heap.size, 0, none⟩) n n) ∧ TasksB w.heap.size w' (.slice (some ⟨w.heap.size, 0, none⟩) n n) ts ∧ Below w.heap.size w w' := by
  obtain ⟨i0, hi0, hz0, hz1, hz2⟩ := info_parts infoTk
  have HN : Hid (ts.length = n) := by
    obtain ⟨ao', cap', e⟩ := hr.slice
    injection e with _ e2 _
    exact e2.symm
  have HR : Hid (∀ W, Below w.heap.size w W → Tasks W (.slice ao n cap) ts) := fun W hb => hr.below hb
  have HA : Hid (∀ t ∈ ts, t.after.length ≤ 1048576) := ha
  clear hr ha
  go_enter Try.func80, Try.ntmps80
  go_wp2_with (at_make; refine wpList_make_full _ rfl _ _ 66 rfl w.heap.size 109 i0 _ 5 Try.underlying66 hi0 hz0 hz1 .i64 .i64 _ _ n rfl rfl rfl rfl (by rw [hz2]; omega) (by unfold maxLen; omega) (Nat.le_refl _) ?_; intro w1 ho hg)
  rw [madeTk] at ho
  have hS : ToS w w.heap.size n ts 0 (List.replicate n default) w1 := by
    refine ⟨?_, List.length_replicate .., (Below.refl _ w).grown hg (Nat.le_refl _) (fun j hj => by cases hj), fun i t hi => by omega, fun i _ hi => by rw [List.getElem?_replicate, if_pos hi], rfl⟩
    unfold ownsR
    rw [List.length_replicate]
    exact ho
  clear ho hg
  generalize hB : w.heap.size = B at *
  go_loopw [4] (fun i wr => ∃ (k : Nat) (ks : List Tk), k ≤ n ∧ i = .int .i64 k ∧ Hid (ToS w B n ts k ks wr)) (fun i _ => n - (intOf i).toNat)
  case atStart => exact ⟨0, _, Nat.zero_le _, rfl, hS⟩
  case round =>
    clear hS
    obtain ⟨k, ks, hk, rfl, HS⟩ := hrel
    by_cases hlt : k < n
    · obtain ⟨t, ht⟩ : ∃ t, ts[k]? = some t := ⟨_, List.getElem?_eq_getElem (by rw [HN.out]; exact hlt)⟩
      have HT : Hid (ts[k]? = some t) := ht
      obtain ⟨b', o, av, rfl, hb, c0, c1, c2, c3, c4, hav⟩ := (HR.out wr HS.out.bel).at ht
      obtain ⟨fo, fc, rfl, _⟩ := id hav
      obtain ⟨m, HM⟩ : ∃ m, Hid (t.after.length = m) := ⟨_, rfl⟩
      have hm : m ≤ 1048576 := by rw [← HM.out]; exact HA.out t (List.mem_of_getElem? ht)
      rw [HM.out] at hav c4
      have HC : Hid (Calls Try.prog 87 #[.agg #[.string t.name, .string t.pool, .int .i64 t.ret, .bool t.past, .slice fo m fc]] wr fun e w' => ∃ g, e = .returned (.agg #[.string t.name, .string t.pool, .int .i64 t.ret, .bool t.past, .slice (some ⟨g, 0, none⟩) m m]) ∧ wr.heap.size ≤ g ∧ Reads w' (.slice (some ⟨g, 0, none⟩) m m) t.after ∧ Below wr.heap.size wr w') := toT_any t.name t.pool t.ret t.past fo m fc t.after wr hav hm
      clear ht hav
      obtain ⟨hgs, -, -, _⟩ := HS.out.own.at (HS.out.rest k (Nat.le_refl _) hlt)
      go_wp2_with fail
      refine HC.out.mono ?_
      rintro e w2 ⟨g, rfl, hg1, hrd, hb2⟩
      have HS2 : Hid (ToS w B n ts k ks w2) := HS.out.up hb2
      have hgB : B < g := by omega
      have HP : Hid (ToS w B n ts (k + 1) (ks.set k ⟨t.name, t.pool, t.ret, t.past, .slice (some ⟨g, 0, none⟩) m m⟩) (((((w2.setCell ⟨B, k * 5, none⟩ (.string t.name)).setCell ⟨B, k * 5 + 1, none⟩ (.string t.pool)).setCell ⟨B, k * 5 + 2, none⟩ (.int .i64 t.ret)).setCell ⟨B, k * 5 + 3, none⟩ (.bool t.past)).setCell ⟨B, k * 5 + 4, none⟩ (.slice (some ⟨g, 0, none⟩) m m))) :=
        HS2.out.put hlt HT.out ⟨t.name, t.pool, t.ret, t.past, .slice (some ⟨g, 0, none⟩) m m⟩ ⟨rfl, rfl, rfl, rfl, hrd⟩ ⟨fun b o n c e => by injection e with e1 _ _; injection e1 with e1; injection e1 with e1 _ _; rw [← e1]; exact hgB, roomy_full _ _⟩
      obtain ⟨hgs2, -, -, hat⟩ := HS2.out.own.at (HS2.out.rest k (Nat.le_refl _) hlt)
      have d0 : w2.cell? ⟨B, k * 5, none⟩ = some (.string ⟨#[]⟩) := (hat 0 (by decide)).1
      have f0 : w2.frozen? ⟨B, k * 5, none⟩ = false := (hat 0 (by decide)).2
      have d1 : w2.cell? ⟨B, k * 5 + 1, none⟩ = some (.string ⟨#[]⟩) := (hat 1 (by decide)).1
      have f1 : w2.frozen? ⟨B, k * 5 + 1, none⟩ = false := (hat 1 (by decide)).2
      have d2 : w2.cell? ⟨B, k * 5 + 2, none⟩ = some (.int .i64 0) := (hat 2 (by decide)).1
      have f2 : w2.frozen? ⟨B, k * 5 + 2, none⟩ = false := (hat 2 (by decide)).2
      have d3 : w2.cell? ⟨B, k * 5 + 3, none⟩ = some (.bool false) := (hat 3 (by decide)).1
      have f3 : w2.frozen? ⟨B, k * 5 + 3, none⟩ = false := (hat 3 (by decide)).2
      have d4 : w2.cell? ⟨B, k * 5 + 4, none⟩ = some (.slice none 0 0) := (hat 4 (by decide)).1
      have f4 : w2.frozen? ⟨B, k * 5 + 4, none⟩ = false := (hat 4 (by decide)).2
      clear hat HS HS2 HC hrd hb2 c0 c1 c2 c3 c4
      go_wp2
      go_roundw
      case rel => exact ⟨k + 1, _, by omega, by go_num, HP⟩
      case measure => simp [intOf]; omega
    · have hkn : k = n := by omega
      subst hkn
      go_wp2
      go_ret
      subst hB
      exact ⟨rfl, HS.out.tasks HN.out, HS.out.bel⟩
theorem ret_g1 {W : World} {b : Nat} {nm cr : ByteArray} {fr up : Int} {cu : Bool} {tv : Value} {fn : Func} {p : Tmp} {tmps : Array Value} (h : fn.results = #[.cell p 68]) (hp : tmps.getD p undef = .pointer (some ⟨b, 0, none⟩)) (hb : P6 W b nm cr fr up cu tv) :
    (results fn tmps).run Try.prog W = .ok (.agg #[.string nm, .string cr, .int .i64 fr, .int .i64 up, .bool cu, tv]) W := by
  have hp' : tmps[p]?.getD undef = .pointer (some ⟨b, 0, none⟩) := by simpa using hp
  simp [results, h, hp', hb.c0, hb.c1, hb.c2, hb.c3, hb.c4, hb.c5, asAddr, go_sem]
set_option maxRecDepth 10000 in
set_option maxHeartbeats 4000000 in
theorem toD_any (ao : Option Addr) (n cap : Nat) (nm cr : ByteArray) (fr up : Int) (cu : Bool) (ts : List Ta) (w : World) (hr : Tasks w (.slice ao n cap) ts) (hn : n ≤ 1048576) (ha : ∀ t ∈ ts, t.after.length ≤ 1048576) :
    Calls Try.prog 65 #[.agg #[.string nm, .string cr, .int .i64 fr, .int .i64 up, .bool cu, .slice ao n cap]] w fun e w' => ∃ g, e = .returned (.agg #[.string nm, .string cr, .int .i64 fr, .int .i64 up, .bool cu, .slice (some ⟨g, 0, none⟩) n n]) ∧ TasksB w.heap.size w' (.slice (some ⟨g, 0, none⟩) n n) ts ∧ Below w.heap.size w w' := by
  have HS : Hid (∀ W, Below w.heap.size w W → Calls Try.prog 80 #[.slice ao n cap] W fun e w' => e = .returned (.slice (some ⟨W.heap.size, 0, none⟩) n n) ∧ TasksB W.heap.size w' (.slice (some ⟨W.heap.size, 0, none⟩) n n) ts ∧ Below W.heap.size W w') := fun W hb => toTS_any ao n cap ts W (hr.below hb) hn ha
  clear hr ha
  go_enter Try.func65, Try.ntmps65
  go_wp2_with fail
  obtain ⟨W0, hW⟩ : ∃ W, ((w.alloc (.cells #[.string nm, .string cr, .int .i64 fr, .int .i64 up, .bool cu, .slice ao n cap] 83)).alloc (.cells #[.string ⟨#[]⟩, .string ⟨#[]⟩, .int .i64 0, .int .i64 0, .bool false, .slice none 0 0] 68)).alloc (.cells #[.string nm, .string cr, .int .i64 fr, .int .i64 up, .bool cu, .slice none 0 0] 68) = W := ⟨_, rfl⟩
  have Z1 : P6 W0 (w.heap.size + 1) ⟨#[]⟩ ⟨#[]⟩ 0 0 false (.slice none 0 0) := by
    rw [← hW]
    have := (P6.new (w.alloc (.cells #[.string nm, .string cr, .int .i64 fr, .int .i64 up, .bool cu, .slice ao n cap] 83)) ⟨#[]⟩ ⟨#[]⟩ 0 0 false (.slice none 0 0)).on (ba (Below.refl _ _) (.cells #[.string nm, .string cr, .int .i64 fr, .int .i64 up, .bool cu, .slice none 0 0] 68))
    simpa using this
  have Z2 : P6 W0 (w.heap.size + 1 + 1) nm cr fr up cu (.slice none 0 0) := by
    rw [← hW]
    have := P6.new ((w.alloc (.cells #[.string nm, .string cr, .int .i64 fr, .int .i64 up, .bool cu, .slice ao n cap] 83)).alloc (.cells #[.string ⟨#[]⟩, .string ⟨#[]⟩, .int .i64 0, .int .i64 0, .bool false, .slice none 0 0] 68)) nm cr fr up cu (.slice none 0 0)
    simpa using this
  have B0 : Below w.heap.size w W0 := by rw [← hW]; exact ba (ba (ba (Below.refl _ _) _) _) _
  rw [hW]
  clear hW
  refine (HS.out W0 B0).mono ?_
  rintro x W1 ⟨rfl, ht, hb1⟩
  have Y1 := Z1.on hb1
  have Y2 := Z2.on hb1
  have B1 := Below.on B0 hb1
  have hlow : w.heap.size + 1 + 1 < W0.heap.size := Z2.lt
  clear HS Z1 Z2 B0 hb1
  obtain ⟨g, HG⟩ : ∃ g, Hid (W0.heap.size = g) := ⟨_, rfl⟩
  rw [HG.out] at hlow ht
  rw [HG.out]
  have HO : Hid (TasksB g W1 (.slice (some ⟨g, 0, none⟩) n n) ts) := ht
  clear ht HG
  have X2 := Y2.s5 (.slice (some ⟨g, 0, none⟩) n n)
  have X1 := Y1.far (a := ⟨w.heap.size + 1 + 1, 5, none⟩) (by show w.heap.size + 1 + 1 ≠ w.heap.size + 1; omega) (.slice (some ⟨g, 0, none⟩) n n)
  have HX : Hid (TasksB g (W1.setCell ⟨w.heap.size + 1 + 1, 5, none⟩ (.slice (some ⟨g, 0, none⟩) n n)) (.slice (some ⟨g, 0, none⟩) n n) ts) := HO.out.high (by simp) fun k hk => heap_setCell_other W1 ⟨w.heap.size + 1 + 1, 5, none⟩ k _ (fun e => by have e' : k = w.heap.size + 1 + 1 := e; omega)
  have BX : Below w.heap.size w (W1.setCell ⟨w.heap.size + 1 + 1, 5, none⟩ (.slice (some ⟨g, 0, none⟩) n n)) := B1.setCell (p := ⟨w.heap.size + 1 + 1, 5, none⟩) (by show w.heap.size ≤ w.heap.size + 1 + 1; omega) _
  have c4 := Y2.c5
  have f4 := Y2.fz 5
  obtain ⟨W2, hW2⟩ : ∃ W, W1.setCell ⟨w.heap.size + 1 + 1, 5, none⟩ (.slice (some ⟨g, 0, none⟩) n n) = W := ⟨_, rfl⟩
  rw [hW2] at X1 X2 HX BX
  have e0 := X2.c0
  have e1 := X2.c1
  have e2 := X2.c2
  have e3 := X2.c3
  have e4 := X2.c4
  have e5 := X2.c5
  have h0 := X1.c0
  have h1 := X1.c1
  have h2 := X1.c2
  have h3 := X1.c3
  have h4 := X1.c4
  have h5 := X1.c5
  have k0 := X1.fz 0
  have k1 := X1.fz 1
  have k2 := X1.fz 2
  have k3 := X1.fz 3
  have k4 := X1.fz 4
  have k5 := X1.fz 5
  go_wp2
  have HE := ((((((X1.s0 nm).s1 cr).s2 fr).s3 up).s4 cu).s5 (.slice (some ⟨g, 0, none⟩) n n))
  refine bodyPost_ret (ret_g1 rfl rfl HE) rfl ?_
  have low : w.heap.size ≤ w.heap.size + 1 := Nat.le_succ _
  refine ⟨g, rfl, ?_, (((((BX.setCell (p := ⟨w.heap.size + 1, 0, none⟩) low _).setCell (p := ⟨w.heap.size + 1, 1, none⟩) low _).setCell (p := ⟨w.heap.size + 1, 2, none⟩) low _).setCell (p := ⟨w.heap.size + 1, 3, none⟩) low _).setCell (p := ⟨w.heap.size + 1, 4, none⟩) low _).setCell (p := ⟨w.heap.size + 1, 5, none⟩) low _⟩
  have HH := HX.out.high (W := (((((W2.setCell ⟨w.heap.size + 1, 0, none⟩ (.string nm)).setCell ⟨w.heap.size + 1, 1, none⟩ (.string cr)).setCell ⟨w.heap.size + 1, 2, none⟩ (.int .i64 fr)).setCell ⟨w.heap.size + 1, 3, none⟩ (.int .i64 up)).setCell ⟨w.heap.size + 1, 4, none⟩ (.bool cu)).setCell ⟨w.heap.size + 1, 5, none⟩ (.slice (some ⟨g, 0, none⟩) n n)) (by simp) (fun k hk => by
    have hne : k ≠ w.heap.size + 1 := by omega
    rw [heap_setCell_other _ ⟨w.heap.size + 1, 5, none⟩ k _ hne, heap_setCell_other _ ⟨w.heap.size + 1, 4, none⟩ k _ hne, heap_setCell_other _ ⟨w.heap.size + 1, 3, none⟩ k _ hne, heap_setCell_other _ ⟨w.heap.size + 1, 2, none⟩ k _ hne, heap_setCell_other _ ⟨w.heap.size + 1, 1, none⟩ k _ hne, heap_setCell_other _ ⟨w.heap.size + 1, 0, none⟩ k _ hne])
  obtain ⟨y0, ks, y1, y2, y3⟩ := HH
  refine ⟨fun b o n c e => by have := y0 b o n c e; omega, ks, y1, y2, fun i t ht => ?_⟩
  obtain ⟨k, hk, ho, hb⟩ := y3 i t ht
  exact ⟨k, hk, ho, fun b o n c e => by have := hb.1 b o n c e; omega, hb.2⟩
end Go.Proofs.Ytkfhmeiiicidaaa
