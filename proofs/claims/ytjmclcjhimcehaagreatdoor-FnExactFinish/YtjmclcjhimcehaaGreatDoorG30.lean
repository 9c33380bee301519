/-
  A plan that came in, made anew for the program, whose rows the call owns, each in a block of its own: the walks. Marks on the tasks of a plan that the call owns: the walks of the law's markStringS, markTaskS and markDag.
-/
import Derived.Test.YtjmclcjhimcehaaGreatDoorG29
import Derived.Test.YtjmclcjhimcehaaGreatDoorG23
import Derived.Test.YtjmclcjhimcehaaGreatDoorG21
namespace Go.Proofs.YtjmclcjhimcehaaGreatDoor
open Go Go.RowKit
set_option linter.unusedVariables false

/-- Tasks on the way: the first k are made, each with a row of its own. -/
structure ToO (w : World) (B n : Nat) (ts : List Ta) (k : Nat) (ks : List Tk) (W : World) : Prop where
  own : ownsR W B 88 (.slice (some ⟨B, 0, none⟩) n n) ks
  len : ks.length = n
  bel : Below B w W
  done : ∀ (i : Nat) (t : Ta), i < k → ts[i]? = some t → ∃ x, ks[i]? = some x ∧ OneT W x t ∧ (∃ q, x.after.ownBlock = some q) ∧ ownsR W B 9 x.after t.after
  sep : ∀ (i j : Nat) (x y : Tk), i < k → j < i → ks[i]? = some x → ks[j]? = some y → ∃ g, x.after.ownBlock = some g ∧ y.after.ownBlock ≠ some g
  rest : ∀ i, k ≤ i → i < n → ks[i]? = some default
  low : w.heap.size = B
theorem ToO.up {w : World} {B n : Nat} {ts : List Ta} {k : Nat} {ks : List Tk} {W W' : World} (h : ToO w B n ts k ks W) (hb : Below W.heap.size W W') : ToO w B n ts k ks W' := by
  refine ⟨h.own.all hb, h.len, h.bel.trans (hb.mono (by rw [← h.low]; exact h.bel.size)), fun i t hi ht => ?_, h.sep, h.rest, h.low⟩
  obtain ⟨x, hx, ho, hq, hn⟩ := h.done i t hi ht
  exact ⟨x, hx, ⟨ho.name, ho.pool, ho.ret, ho.past, ho.after.below hb⟩, hq, hn.all hb⟩
theorem far5 (W : World) (B k q : Nat) (f : Tk) (hq : q ≠ B) : (((((W.setCell ⟨B, k * 5, none⟩ (.string f.name)).setCell ⟨B, k * 5 + 1, none⟩ (.string f.pool)).setCell ⟨B, k * 5 + 2, none⟩ (.int .i64 f.ret)).setCell ⟨B, k * 5 + 3, none⟩ (.bool f.past)).setCell ⟨B, k * 5 + 4, none⟩ f.after).heap[q]? = W.heap[q]? := by
  rw [heap_setCell_other _ ⟨B, k * 5 + 4, none⟩ q _ hq, heap_setCell_other _ ⟨B, k * 5 + 3, none⟩ q _ hq, heap_setCell_other _ ⟨B, k * 5 + 2, none⟩ q _ hq, heap_setCell_other _ ⟨B, k * 5 + 1, none⟩ q _ hq, heap_setCell_other _ ⟨B, k * 5, none⟩ q _ hq]
theorem ToO.put {w : World} {B n : Nat} {ts : List Ta} {k : Nat} {ks : List Tk} {W : World} (h : ToO w B n ts k ks W) (hk : k < n) {t : Ta} (ht : ts[k]? = some t) (f : Tk) (hf : OneT W f t) (g : Nat) (hfg : f.after.ownBlock = some g) (hg : B < g) (hfo : ownsR W B 9 f.after t.after) (hfr : ∀ (i : Nat) (x : Tk) (u : Ta), i < k → ks[i]? = some x → ts[i]? = some u → x.after.ownBlock ≠ some g) (hn : ts.length = n) :
    ToO w B n ts (k + 1) (ks.set k f) (((((W.setCell ⟨B, k * 5, none⟩ (.string f.name)).setCell ⟨B, k * 5 + 1, none⟩ (.string f.pool)).setCell ⟨B, k * 5 + 2, none⟩ (.int .i64 f.ret)).setCell ⟨B, k * 5 + 3, none⟩ (.bool f.past)).setCell ⟨B, k * 5 + 4, none⟩ f.after) := by
  have hl : k < ks.length := by rw [h.len]; exact hk
  have hrow : ∀ (v : Value) (l : List ByteArray), ownsR W B 9 v l → ownsR (((((W.setCell ⟨B, k * 5, none⟩ (.string f.name)).setCell ⟨B, k * 5 + 1, none⟩ (.string f.pool)).setCell ⟨B, k * 5 + 2, none⟩ (.int .i64 f.ret)).setCell ⟨B, k * 5 + 3, none⟩ (.bool f.past)).setCell ⟨B, k * 5 + 4, none⟩ f.after) B 9 v l := fun v l hv => hv.keep fun q hq => far5 W B k q f fun e => by
    have hb : (W.heap[B]?).isSome := by rw [Array.getElem?_eq_getElem (own_low h.own (k := B) rfl).2]; rfl
    rcases h.own.2 with ⟨h', _⟩ | ⟨g', cap, cur, h', _, hb', _⟩
    · cases h'
    · injection h' with e1 _ _
      injection e1 with e1
      injection e1 with e1 _ _
      subst e1
      exact not_own hv hb' (by decide) (by rw [hq, e])
  refine ⟨tk_put h.own f (h.rest k (Nat.le_refl _) hk), by rw [List.length_set]; exact h.len, ?_, fun i u hi hu => ?_, fun i j x y hi hj hx hy => ?_, fun i hi hin => ?_, h.low⟩
  · exact ((((h.bel.setCell (p := ⟨B, k * 5, none⟩) (Nat.le_refl _) _).setCell (p := ⟨B, k * 5 + 1, none⟩) (Nat.le_refl _) _).setCell (p := ⟨B, k * 5 + 2, none⟩) (Nat.le_refl _) _).setCell (p := ⟨B, k * 5 + 3, none⟩) (Nat.le_refl _) _).setCell (p := ⟨B, k * 5 + 4, none⟩) (Nat.le_refl _) _
  · by_cases e : i = k
    · subst e
      rw [ht] at hu
      cases hu
      exact ⟨f, List.getElem?_set_self hl, ⟨hf.name, hf.pool, hf.ret, hf.past, (hrow _ _ hfo).reads⟩, ⟨g, hfg⟩, hrow _ _ hfo⟩
    · obtain ⟨x, hx, ho, hq, hn⟩ := h.done i u (by omega) hu
      exact ⟨x, by rw [List.getElem?_set_ne (fun e' => e e'.symm)]; exact hx, ⟨ho.name, ho.pool, ho.ret, ho.past, (hrow _ _ hn).reads⟩, hq, hrow _ _ hn⟩
  · by_cases e : i = k
    · subst e
      rw [List.getElem?_set_self hl] at hx
      cases hx
      rw [List.getElem?_set_ne (by omega)] at hy
      obtain ⟨u, hu⟩ : ∃ u, ts[j]? = some u := ⟨_, List.getElem?_eq_getElem (by omega)⟩
      exact ⟨g, hfg, hfr j y u hj hy hu⟩
    · rw [List.getElem?_set_ne (by omega)] at hx hy
      exact h.sep i j x y (by omega) hj hx hy
  · rw [List.getElem?_set_ne (by omega)]
    exact h.rest i (by omega) hin
/-- Tasks whose rows the call owns, each in a block of its own. -/
def TasksO (B : Nat) (w : World) (v : Value) (ts : List Ta) : Prop := ∃ ks : List Tk, ownsR w B 88 v ks ∧ ks.length = ts.length ∧ (∀ (i : Nat) (t : Ta), ts[i]? = some t → ∃ x : Tk, ks[i]? = some x ∧ OneT w x t ∧ (∃ q, x.after.ownBlock = some q) ∧ ownsR w B 9 x.after t.after) ∧ ∀ (i j : Nat) (x y : Tk), j < i → ks[i]? = some x → ks[j]? = some y → ∃ g, x.after.ownBlock = some g ∧ y.after.ownBlock ≠ some g
theorem TasksO.tasks {B : Nat} {w : World} {v : Value} {ts : List Ta} (h : TasksO B w v ts) : Tasks w v ts := by
  obtain ⟨ks, h1, h2, h3, _⟩ := h
  exact ⟨ks, h1.reads, h2, fun i t ht => by obtain ⟨k, hk, ho, _⟩ := h3 i t ht; exact ⟨k, hk, ho⟩⟩
theorem TasksO.mono {B B' : Nat} {w : World} {v : Value} {ts : List Ta} (h : TasksO B w v ts) (hB : B' ≤ B) : TasksO B' w v ts := by
  obtain ⟨ks, h1, h2, h3, h4⟩ := h
  exact ⟨ks, h1.mono hB, h2, fun i t ht => by obtain ⟨k, hk, ho, hq, h5⟩ := h3 i t ht; exact ⟨k, hk, ho, hq, h5.mono hB⟩, h4⟩
theorem TasksO.high {B : Nat} {w W : World} {v : Value} {ts : List Ta} (h : TasksO B w v ts) (hs : w.heap.size ≤ W.heap.size) (hW : ∀ k, B ≤ k → W.heap[k]? = w.heap[k]?) : TasksO B W v ts := by
  obtain ⟨ks, h1, h2, h3, h4⟩ := h
  refine ⟨ks, h1.keep fun k hk => hW k (own_low h1 hk).1, h2, fun i t ht => ?_, h4⟩
  obtain ⟨k, hk, ho, hqq, hb⟩ := h3 i t ht
  have hb2 := hb.keep fun q hq => hW q (own_low hb hq).1
  exact ⟨k, hk, ⟨ho.name, ho.pool, ho.ret, ho.past, hb2.reads⟩, hqq, hb2⟩
theorem TasksO.up {B : Nat} {w W : World} {v : Value} {ts : List Ta} (h : TasksO B w v ts) (hb : Below w.heap.size w W) : TasksO B W v ts := by
  obtain ⟨ks, h1, h2, h3, h4⟩ := h
  refine ⟨ks, h1.all hb, h2, fun i t ht => ?_, h4⟩
  obtain ⟨k, hk, ho, hq, h5⟩ := h3 i t ht
  exact ⟨k, hk, ⟨ho.name, ho.pool, ho.ret, ho.past, ho.after.below hb⟩, hq, h5.all hb⟩
theorem ToO.tasks {w : World} {B n : Nat} {ts : List Ta} {ks : List Tk} {W : World} (h : ToO w B n ts n ks W) (hn : ts.length = n) : TasksO B W (.slice (some ⟨B, 0, none⟩) n n) ts := by
  refine ⟨ks, h.own, by rw [h.len, hn], fun i t ht => h.done i t (by rw [← hn]; exact (List.getElem?_eq_some_iff.1 ht).1) ht, fun i j x y hj hx hy => h.sep i j x y ?_ hj hx hy⟩
  have := (List.getElem?_eq_some_iff.1 hx).1
  rw [h.len] at this
  exact this
set_option maxRecDepth 10000 in
set_option maxHeartbeats 2000000 in
theorem toT_own (nm po : ByteArray) (rt : Int) (pa : Bool) (fo : Option Addr) (m fc : Nat) (af : List ByteArray) (w : World) (hr : Reads w (.slice fo m fc) af) (hm : m ≤ 1048576) :
    Calls Tryz.prog 94 #[.agg #[.string nm, .string po, .int .i64 rt, .bool pa, .slice fo m fc]] w fun e w' => ∃ g, e = .returned (.agg #[.string nm, .string po, .int .i64 rt, .bool pa, .slice (some ⟨g, 0, none⟩) m m]) ∧ w.heap.size ≤ g ∧ ownsR w' w.heap.size 9 (.slice (some ⟨g, 0, none⟩) m m) af ∧ Below w.heap.size w w' := by
  have HS : Hid (∀ W, Below w.heap.size w W → Calls Tryz.prog 138 #[.slice fo m fc] W fun e w' => e = .returned (.slice (some ⟨W.heap.size, 0, none⟩) m m) ∧ ownsR w' W.heap.size 9 (.slice (some ⟨W.heap.size, 0, none⟩) m m) af ∧ Below W.heap.size W w') := fun W hb => toS_any fo m fc af W (hr.below hb) hm
  clear hr
  go_enter Tryz.func94, Tryz.ntmps94
  go_wp2_with fail
  obtain ⟨W0, hW⟩ : ∃ W, ((w.alloc (.cells #[.string nm, .string po, .int .i64 rt, .bool pa, .slice fo m fc] 118)).alloc (.cells #[.string ⟨#[]⟩, .string ⟨#[]⟩, .int .i64 0, .bool false, .slice none 0 0] 88)).alloc (.cells #[.string nm, .string po, .int .i64 rt, .bool pa, .slice none 0 0] 88) = W := ⟨_, rfl⟩
  have Z1 : B5 88 W0 (w.heap.size + 1) (.string ⟨#[]⟩) (.string ⟨#[]⟩) (.int .i64 0) (.bool false) (.slice none 0 0) := by
    rw [← hW]
    have := (B5.new 88 (w.alloc (.cells #[.string nm, .string po, .int .i64 rt, .bool pa, .slice fo m fc] 118)) (.string ⟨#[]⟩) (.string ⟨#[]⟩) (.int .i64 0) (.bool false) (.slice none 0 0)).alloc (.cells #[.string nm, .string po, .int .i64 rt, .bool pa, .slice none 0 0] 88)
    simpa using this
  have Z2 : B5 88 W0 (w.heap.size + 1 + 1) (.string nm) (.string po) (.int .i64 rt) (.bool pa) (.slice none 0 0) := by
    rw [← hW]
    have := B5.new 88 ((w.alloc (.cells #[.string nm, .string po, .int .i64 rt, .bool pa, .slice fo m fc] 118)).alloc (.cells #[.string ⟨#[]⟩, .string ⟨#[]⟩, .int .i64 0, .bool false, .slice none 0 0] 88)) (.string nm) (.string po) (.int .i64 rt) (.bool pa) (.slice none 0 0)
    simpa using this
  have B0 : Below w.heap.size w W0 := by rw [← hW]; exact ba (ba (ba (Below.refl _ _) _) _) _
  rw [hW]
  clear hW
  refine (HS.out W0 B0).mono ?_
  rintro x W1 ⟨rfl, ho, hb1⟩
  have Y1 := Z1.up hb1
  have Y2 := Z2.up hb1
  have B1 := Below.on B0 hb1
  have hlow : w.heap.size + 1 + 1 < W0.heap.size := Z2.lt
  clear HS Z1 Z2 B0 hb1
  obtain ⟨g, HG⟩ : ∃ g, Hid (W0.heap.size = g) := ⟨_, rfl⟩
  rw [HG.out] at hlow ho
  rw [HG.out]
  have HO : Hid (ownsR W1 g 9 (.slice (some ⟨g, 0, none⟩) m m) af) := ho
  clear ho HG
  have X2 := Y2.s4 (.slice (some ⟨g, 0, none⟩) m m)
  have X1 := Y1.far (p := ⟨w.heap.size + 1 + 1, 4, none⟩) (by show w.heap.size + 1 + 1 ≠ w.heap.size + 1; omega) (.slice (some ⟨g, 0, none⟩) m m)
  have HX : Hid (ownsR (W1.setCell ⟨w.heap.size + 1 + 1, 4, none⟩ (.slice (some ⟨g, 0, none⟩) m m)) g 9 (.slice (some ⟨g, 0, none⟩) m m) af) := HO.out.setB (by show w.heap.size + 1 + 1 < g; omega) _
  have BX : Below w.heap.size w (W1.setCell ⟨w.heap.size + 1 + 1, 4, none⟩ (.slice (some ⟨g, 0, none⟩) m m)) := B1.setCell (p := ⟨w.heap.size + 1 + 1, 4, none⟩) (by show w.heap.size ≤ w.heap.size + 1 + 1; omega) _
  have c4 := Y2.c4
  have f4 := Y2.fr 4
  obtain ⟨W2, hW2⟩ : ∃ W, W1.setCell ⟨w.heap.size + 1 + 1, 4, none⟩ (.slice (some ⟨g, 0, none⟩) m m) = W := ⟨_, rfl⟩
  rw [hW2] at X1 X2 HX BX
  have HW2 : Hid (W1.setCell ⟨w.heap.size + 1 + 1, 4, none⟩ (.slice (some ⟨g, 0, none⟩) m m) = W2) := hW2
  have e0 := X2.c0
  have e1 := X2.c1
  have e2 := X2.c2
  have e3 := X2.c3
  have e4 := X2.c4
  have h0 := X1.c0
  have h1 := X1.c1
  have h2 := X1.c2
  have h3 := X1.c3
  have h4 := X1.c4
  have k0 := X1.fr 0
  have k1 := X1.fr 1
  have k2 := X1.fr 2
  have k3 := X1.fr 3
  have k4 := X1.fr 4
  go_wp2
  have HE := X1.set (.string nm) (.string po) (.int .i64 rt) (.bool pa) (.slice (some ⟨g, 0, none⟩) m m)
  refine bodyPost_ret (ret_t1 rfl rfl HE) rfl ?_
  refine ⟨g, rfl, by omega, ?_, below_set5 BX (by omega) _ _ _ _ _⟩
  exact (ownsR_set5 HX.out (by omega) _ _ _ _ _).mono (by omega)
set_option maxRecDepth 10000 in
set_option maxHeartbeats 2000000 in
theorem toTS_own (ao : Option Addr) (n cap : Nat) (ts : List Ta) (w : World) (hr : Tasks w (.slice ao n cap) ts) (hn : n ≤ 1048576) (ha : ∀ t ∈ ts, t.after.length ≤ 1048576) :
    Calls Tryz.prog 37 #[.slice ao n cap] w fun e w' => e = .returned (.slice (some ⟨w.heap.size, 0, none⟩) n n) ∧ TasksO w.heap.size w' (.slice (some ⟨w.heap.size, 0, none⟩) n n) ts ∧ Below w.heap.size w w' := by
  obtain ⟨i0, hi0, hz0, hz1, hz2⟩ := info_parts infoTk
  have HN : Hid (ts.length = n) := by
    obtain ⟨ao', cap', e⟩ := hr.slice
    injection e with _ e2 _
    exact e2.symm
  have HR : Hid (∀ W, Below w.heap.size w W → Tasks W (.slice ao n cap) ts) := fun W hb => hr.below hb
  have HA : Hid (∀ t ∈ ts, t.after.length ≤ 1048576) := ha
  clear hr ha
  go_enter Tryz.func37, Tryz.ntmps37
  go_wp2_with (at_make; refine wpList_make_full _ rfl _ _ 34 rfl w.heap.size 88 i0 _ 5 Tryz.underlying34 hi0 hz0 hz1 .i64 .i64 _ _ n rfl rfl rfl rfl (by rw [hz2]; omega) (by unfold maxLen; omega) (Nat.le_refl _) ?_; intro w1 ho hg)
  rw [madeTk] at ho
  have hS : ToO w w.heap.size n ts 0 (List.replicate n default) w1 := by
    refine ⟨?_, List.length_replicate .., (Below.refl _ w).grown hg (Nat.le_refl _) (fun j hj => by cases hj), fun i t hi => by omega, fun i j x y hi => by omega, fun i _ hi => by rw [List.getElem?_replicate, if_pos hi], rfl⟩
    unfold ownsR
    rw [List.length_replicate]
    exact ho
  clear ho hg
  generalize hB : w.heap.size = B at *
  go_loopw [4] (fun i wr => ∃ (k : Nat) (ks : List Tk), k ≤ n ∧ i = .int .i64 k ∧ Hid (ToO w B n ts k ks wr)) (fun i _ => n - (intOf i).toNat)
  case atStart => exact ⟨0, _, Nat.zero_le _, rfl, hS⟩
  case round =>
    clear hS
    obtain ⟨k, ks, hk, rfl, HS⟩ := hrel
    by_cases hlt : k < n
    · obtain ⟨t, ht⟩ : ∃ t, ts[k]? = some t := ⟨_, List.getElem?_eq_getElem (by rw [HN.out]; exact hlt)⟩
      have HT : Hid (ts[k]? = some t) := ht
      obtain ⟨b', o, av, rfl, hb, c0, c1, c2, c3, c4, hav⟩ := (HR.out wr HS.out.bel).at ht
      obtain ⟨fo, fc, rfl, _⟩ := id hav
      obtain ⟨m, HM⟩ : ∃ m, Hid (t.after.length = m) := ⟨_, rfl⟩
      have hm : m ≤ 1048576 := by rw [← HM.out]; exact HA.out t (List.mem_of_getElem? ht)
      rw [HM.out] at hav c4
      have HC : Hid (Calls Tryz.prog 94 #[.agg #[.string t.name, .string t.pool, .int .i64 t.ret, .bool t.past, .slice fo m fc]] wr fun e w' => ∃ g, e = .returned (.agg #[.string t.name, .string t.pool, .int .i64 t.ret, .bool t.past, .slice (some ⟨g, 0, none⟩) m m]) ∧ wr.heap.size ≤ g ∧ ownsR w' wr.heap.size 9 (.slice (some ⟨g, 0, none⟩) m m) t.after ∧ Below wr.heap.size wr w') := toT_own t.name t.pool t.ret t.past fo m fc t.after wr hav hm
      clear ht hav
      obtain ⟨hgs, -, -, _⟩ := HS.out.own.at (HS.out.rest k (Nat.le_refl _) hlt)
      go_wp2_with fail
      refine HC.out.mono ?_
      rintro e w2 ⟨g, rfl, hg1, hrd, hb2⟩
      have HS2 : Hid (ToO w B n ts k ks w2) := HS.out.up hb2
      have hgB : B < g := by omega
      have hBw : B ≤ wr.heap.size := by rw [← HS.out.low]; exact HS.out.bel.size
      have HP : Hid (ToO w B n ts (k + 1) (ks.set k ⟨t.name, t.pool, t.ret, t.past, .slice (some ⟨g, 0, none⟩) m m⟩) (((((w2.setCell ⟨B, k * 5, none⟩ (.string t.name)).setCell ⟨B, k * 5 + 1, none⟩ (.string t.pool)).setCell ⟨B, k * 5 + 2, none⟩ (.int .i64 t.ret)).setCell ⟨B, k * 5 + 3, none⟩ (.bool t.past)).setCell ⟨B, k * 5 + 4, none⟩ (.slice (some ⟨g, 0, none⟩) m m))) :=
        HS2.out.put hlt HT.out ⟨t.name, t.pool, t.ret, t.past, .slice (some ⟨g, 0, none⟩) m m⟩ ⟨rfl, rfl, rfl, rfl, hrd.reads⟩ g rfl hgB (hrd.mono hBw) (fun i x u hi hx hu e => by
          obtain ⟨y, hy, _, _, hoy⟩ := HS.out.done i u hi hu
          rw [hx] at hy
          cases hy
          have := (own_low hoy e).2
          omega) HN.out
      obtain ⟨hgs2, -, -, hat⟩ := HS2.out.own.at (HS2.out.rest k (Nat.le_refl _) hlt)
      have d0 : w2.cell? ⟨B, k * 5, none⟩ = some (.string ⟨#[]⟩) := (hat 0 (by decide)).1
      have f0 : w2.frozen? ⟨B, k * 5, none⟩ = false := (hat 0 (by decide)).2
      have d1 : w2.cell? ⟨B, k * 5 + 1, none⟩ = some (.string ⟨#[]⟩) := (hat 1 (by decide)).1
      have f1 : w2.frozen? ⟨B, k * 5 + 1, none⟩ = false := (hat 1 (by decide)).2
      have d2 : w2.cell? ⟨B, k * 5 + 2, none⟩ = some (.int .i64 0) := (hat 2 (by decide)).1
      have f2 : w2.frozen? ⟨B, k * 5 + 2, none⟩ = false := (hat 2 (by decide)).2
      have d3 : w2.cell? ⟨B, k * 5 + 3, none⟩ = some (.bool false) := (hat 3 (by decide)).1
      have f3 : w2.frozen? ⟨B, k * 5 + 3, none⟩ = false := (hat 3 (by decide)).2
      have d4 : w2.cell? ⟨B, k * 5 + 4, none⟩ = some (.slice none 0 0) := (hat 4 (by decide)).1
      have f4 : w2.frozen? ⟨B, k * 5 + 4, none⟩ = false := (hat 4 (by decide)).2
      clear hat HS HS2 HC hrd hb2 c0 c1 c2 c3 c4
      go_wp2
      go_roundw
      case rel => exact ⟨k + 1, _, by omega, by go_num, HP⟩
      case measure => simp [intOf]; omega
    · have hkn : k = n := by omega
      subst hkn
      go_wp2
      go_ret
      subst hB
      exact ⟨rfl, HS.out.tasks HN.out, HS.out.bel⟩
set_option maxRecDepth 10000 in
set_option maxHeartbeats 4000000 in
theorem toD_own (ao : Option Addr) (n cap : Nat) (nm cr : ByteArray) (fr up : Int) (cu : Bool) (ts : List Ta) (w : World) (hr : Tasks w (.slice ao n cap) ts) (hn : n ≤ 1048576) (ha : ∀ t ∈ ts, t.after.length ≤ 1048576) :
    Calls Tryz.prog 11 #[.agg #[.string nm, .string cr, .int .i64 fr, .int .i64 up, .bool cu, .slice ao n cap]] w fun e w' => ∃ g, e = .returned (.agg #[.string nm, .string cr, .int .i64 fr, .int .i64 up, .bool cu, .slice (some ⟨g, 0, none⟩) n n]) ∧ TasksO w.heap.size w' (.slice (some ⟨g, 0, none⟩) n n) ts ∧ Below w.heap.size w w' := by
  have HS : Hid (∀ W, Below w.heap.size w W → Calls Tryz.prog 37 #[.slice ao n cap] W fun e w' => e = .returned (.slice (some ⟨W.heap.size, 0, none⟩) n n) ∧ TasksO W.heap.size w' (.slice (some ⟨W.heap.size, 0, none⟩) n n) ts ∧ Below W.heap.size W w') := fun W hb => toTS_own ao n cap ts W (hr.below hb) hn ha
  clear hr ha
  go_enter Tryz.func11, Tryz.ntmps11
  go_wp2_with fail
  obtain ⟨W0, hW⟩ : ∃ W, ((w.alloc (.cells #[.string nm, .string cr, .int .i64 fr, .int .i64 up, .bool cu, .slice ao n cap] 24)).alloc (.cells #[.string ⟨#[]⟩, .string ⟨#[]⟩, .int .i64 0, .int .i64 0, .bool false, .slice none 0 0] 36)).alloc (.cells #[.string nm, .string cr, .int .i64 fr, .int .i64 up, .bool cu, .slice none 0 0] 36) = W := ⟨_, rfl⟩
  have Z1 : P6 W0 (w.heap.size + 1) ⟨#[]⟩ ⟨#[]⟩ 0 0 false (.slice none 0 0) := by
    rw [← hW]
    have := (P6.new (w.alloc (.cells #[.string nm, .string cr, .int .i64 fr, .int .i64 up, .bool cu, .slice ao n cap] 24)) ⟨#[]⟩ ⟨#[]⟩ 0 0 false (.slice none 0 0)).on (ba (Below.refl _ _) (.cells #[.string nm, .string cr, .int .i64 fr, .int .i64 up, .bool cu, .slice none 0 0] 36))
    simpa using this
  have Z2 : P6 W0 (w.heap.size + 1 + 1) nm cr fr up cu (.slice none 0 0) := by
    rw [← hW]
    have := P6.new ((w.alloc (.cells #[.string nm, .string cr, .int .i64 fr, .int .i64 up, .bool cu, .slice ao n cap] 24)).alloc (.cells #[.string ⟨#[]⟩, .string ⟨#[]⟩, .int .i64 0, .int .i64 0, .bool false, .slice none 0 0] 36)) nm cr fr up cu (.slice none 0 0)
    simpa using this
  have B0 : Below w.heap.size w W0 := by rw [← hW]; exact ba (ba (ba (Below.refl _ _) _) _) _
  rw [hW]
  clear hW
  refine (HS.out W0 B0).mono ?_
  rintro x W1 ⟨rfl, ht, hb1⟩
  have Y1 := Z1.on hb1
  have Y2 := Z2.on hb1
  have B1 := Below.on B0 hb1
  have hlow : w.heap.size + 1 + 1 < W0.heap.size := Z2.lt
  clear HS Z1 Z2 B0 hb1
  obtain ⟨g, HG⟩ : ∃ g, Hid (W0.heap.size = g) := ⟨_, rfl⟩
  rw [HG.out] at hlow ht
  rw [HG.out]
  have HO : Hid (TasksO g W1 (.slice (some ⟨g, 0, none⟩) n n) ts) := ht
  clear ht HG
  have X2 := Y2.s5 (.slice (some ⟨g, 0, none⟩) n n)
  have X1 := Y1.far (a := ⟨w.heap.size + 1 + 1, 5, none⟩) (by show w.heap.size + 1 + 1 ≠ w.heap.size + 1; omega) (.slice (some ⟨g, 0, none⟩) n n)
  have HX : Hid (TasksO g (W1.setCell ⟨w.heap.size + 1 + 1, 5, none⟩ (.slice (some ⟨g, 0, none⟩) n n)) (.slice (some ⟨g, 0, none⟩) n n) ts) := HO.out.high (by simp) fun k hk => heap_setCell_other W1 ⟨w.heap.size + 1 + 1, 5, none⟩ k _ (fun e => by have e' : k = w.heap.size + 1 + 1 := e; omega)
  have BX : Below w.heap.size w (W1.setCell ⟨w.heap.size + 1 + 1, 5, none⟩ (.slice (some ⟨g, 0, none⟩) n n)) := B1.setCell (p := ⟨w.heap.size + 1 + 1, 5, none⟩) (by show w.heap.size ≤ w.heap.size + 1 + 1; omega) _
  have c4 := Y2.c5
  have f4 := Y2.fz 5
  obtain ⟨W2, hW2⟩ : ∃ W, W1.setCell ⟨w.heap.size + 1 + 1, 5, none⟩ (.slice (some ⟨g, 0, none⟩) n n) = W := ⟨_, rfl⟩
  rw [hW2] at X1 X2 HX BX
  have e0 := X2.c0
  have e1 := X2.c1
  have e2 := X2.c2
  have e3 := X2.c3
  have e4 := X2.c4
  have e5 := X2.c5
  have h0 := X1.c0
  have h1 := X1.c1
  have h2 := X1.c2
  have h3 := X1.c3
  have h4 := X1.c4
  have h5 := X1.c5
  have k0 := X1.fz 0
  have k1 := X1.fz 1
  have k2 := X1.fz 2
  have k3 := X1.fz 3
  have k4 := X1.fz 4
  have k5 := X1.fz 5
  go_wp2
  have HE := ((((((X1.s0 nm).s1 cr).s2 fr).s3 up).s4 cu).s5 (.slice (some ⟨g, 0, none⟩) n n))
  refine bodyPost_ret (ret_g1 rfl rfl HE) rfl ?_
  have low : w.heap.size ≤ w.heap.size + 1 := Nat.le_succ _
  refine ⟨g, rfl, ?_, (((((BX.setCell (p := ⟨w.heap.size + 1, 0, none⟩) low _).setCell (p := ⟨w.heap.size + 1, 1, none⟩) low _).setCell (p := ⟨w.heap.size + 1, 2, none⟩) low _).setCell (p := ⟨w.heap.size + 1, 3, none⟩) low _).setCell (p := ⟨w.heap.size + 1, 4, none⟩) low _).setCell (p := ⟨w.heap.size + 1, 5, none⟩) low _⟩
  have HH := HX.out.high (W := (((((W2.setCell ⟨w.heap.size + 1, 0, none⟩ (.string nm)).setCell ⟨w.heap.size + 1, 1, none⟩ (.string cr)).setCell ⟨w.heap.size + 1, 2, none⟩ (.int .i64 fr)).setCell ⟨w.heap.size + 1, 3, none⟩ (.int .i64 up)).setCell ⟨w.heap.size + 1, 4, none⟩ (.bool cu)).setCell ⟨w.heap.size + 1, 5, none⟩ (.slice (some ⟨g, 0, none⟩) n n)) (by simp) (fun k hk => by
    have hne : k ≠ w.heap.size + 1 := by omega
    rw [heap_setCell_other _ ⟨w.heap.size + 1, 5, none⟩ k _ hne, heap_setCell_other _ ⟨w.heap.size + 1, 4, none⟩ k _ hne, heap_setCell_other _ ⟨w.heap.size + 1, 3, none⟩ k _ hne, heap_setCell_other _ ⟨w.heap.size + 1, 2, none⟩ k _ hne, heap_setCell_other _ ⟨w.heap.size + 1, 1, none⟩ k _ hne, heap_setCell_other _ ⟨w.heap.size + 1, 0, none⟩ k _ hne])
  exact HH.mono (by omega)
end Go.Proofs.YtjmclcjhimcehaaGreatDoor

namespace Go.Proofs.YtjmclcjhimcehaaGreatDoor
open Go Go.RowKit
set_option linter.unusedVariables false

set_option maxHeartbeats 1000000 in
theorem markTx (x : Int) (w : World) (h0 : 0 < x) (hn : x ≤ 4611686018427387904) :
    Calls Tryz.prog 101 #[.int .i64 x] w fun e w' => (∃ T : ByteArray, e = .returned (.string T)) ∧ Below w.heap.size w w' := by
  obtain ⟨n, rfl⟩ : ∃ n : Nat, x = (n : Int) := ⟨x.toNat, by omega⟩
  have hz : decide ((n : Int) ≤ 0) = false := decide_eq_false (by omega)
  go_enter Tryz.func101, Tryz.ntmps101
  go_wp2
  go_loopw [0, 3] (fun c st wr => ∃ (m : Nat) (t : List Int), c = .int .i64 m ∧ st = .string (bstr t) ∧ m ≤ n ∧ Hid (decI n = decPre m ++ t) ∧ Below w.heap.size w wr) (fun c _ _ => (intOf c).toNat)
  case atStart => exact ⟨n, [], rfl, rfl, by simp, (by show decI n = decPre n ++ []; unfold decPre; rw [if_neg (by omega)]; simp), Below.refl _ _⟩
  case round =>
    obtain ⟨m, t, rfl, rfl, hle, HE, hbel⟩ := hrel
    have hsz := hbel.size
    have htl := told_len (by omega) HE
    by_cases hm : m = 0
    · subst hm
      have hadd : ∀ wx, (Op.stringOp .add { data := #[109] } (bstr t)).run Tryz.prog wx = .ok (.string (bstr (109 :: t))) wx := run_add_one 109 t htl
      go_wp2
      go_ret
      exact ⟨⟨_, rfl⟩, hbel⟩
    · have hm2 : 0 < m := by omega
      have hcv := run_one_string wr (48 + (m : Int) % 10)
      have hadd := run_add_one (48 + (m : Int) % 10) t htl
      go_wp2
      go_roundw
      case rel => exact ⟨m / 10, (48 + (m : Int) % 10) :: t, by go_num, rfl, by omega, (by show decI n = _; rw [HE.out, decPre_step hm]), hbel.alloc hsz _⟩
      case measure => simp [intOf]; omega
set_option maxHeartbeats 1000000 in
theorem markSS_none (ao : Option Addr) (c : Nat) (x : Int) (w : World) :
    Calls Tryz.prog 102 #[.slice ao 0 c, .int .i64 x] w fun e w' => e = .returned (.int .i64 x) ∧ Below w.heap.size w w' := by
  go_enter Tryz.func102, Tryz.ntmps102
  go_wp2
  refine wp_loop_rounds 1 ?_
  rw [rounds_succ]
  go_wp2
  go_ret
  exact ⟨rfl, Below.refl _ _⟩
theorem tx_own {w : World} {B : Nat} {g n cap : Nat} {l : List ByteArray} (h : ownsR w B 9 (.slice (some ⟨g, 0, none⟩) n cap) l) {i : Nat} {y : ByteArray} (hi : l[i]? = some y) :
    g < w.heap.size ∧ w.cell? ⟨g, i, none⟩ = some (.string y) ∧ w.frozen? ⟨g, i, none⟩ = false := by
  obtain ⟨h1, _, _, h2⟩ := h.at hi
  have h3 := h2 0 (by decide)
  simp only [tx_width, Nat.mul_one, Nat.add_zero] at h3
  exact ⟨h1, h3.1, h3.2⟩
set_option maxRecDepth 10000 in
set_option maxHeartbeats 2000000 in
theorem markSS_some (g n c B : Nat) (x : Int) (l : List ByteArray) (w : World) (ho : ownsR w B 9 (.slice (some ⟨g, 0, none⟩) n c) l) (hn : n ≤ 1048577) (hx0 : 0 < x) (hx : x ≤ 4000000000000000000) :
    Calls Tryz.prog 102 #[.slice (some ⟨g, 0, none⟩) n c, .int .i64 x] w fun e w' => e = .returned (.int .i64 (x + n)) ∧ (∃ l' : List ByteArray, l'.length = n ∧ ownsR w' B 9 (.slice (some ⟨g, 0, none⟩) n c) l') ∧ w.grownBy w' (some g) := by
  have hl0 : n = l.length := ho.reads.len
  have HO : Hid (∃ l : List ByteArray, l.length = n ∧ ownsR w B 9 (.slice (some ⟨g, 0, none⟩) n c) l) := ⟨l, hl0.symm, ho⟩
  clear ho hl0
  go_enter Tryz.func102, Tryz.ntmps102
  go_wp2
  go_loopw [1, 5] (fun q i wr => ∃ k : Nat, k ≤ n ∧ i = .int .i64 k ∧ q = .int .i64 (x + k) ∧ Hid (∃ l : List ByteArray, l.length = n ∧ ownsR wr B 9 (.slice (some ⟨g, 0, none⟩) n c) l) ∧ w.grownBy wr (some g)) (fun _ i _ => n - (intOf i).toNat)
  case atStart => exact ⟨0, Nat.zero_le _, rfl, by simp, HO, grown_refl _ _⟩
  case round =>
    obtain ⟨k, hk, rfl, rfl, HL, hbel⟩ := hrel
    by_cases hlt : k < n
    · obtain ⟨l2, hl2, h2⟩ := HL.out
      obtain ⟨y, hy⟩ : ∃ y, l2[k]? = some y := ⟨_, List.getElem?_eq_getElem (by omega)⟩
      have H2 : Hid (ownsR wr B 9 (.slice (some ⟨g, 0, none⟩) n c) l2 ∧ l2[k]? = some y ∧ l2.length = n) := ⟨h2, hy, hl2⟩
      clear h2 hy hl2
      go_wp2_with fail
      refine (markTx (x + k) _ (by omega) (by omega)).mono ?_
      rintro e w1 ⟨⟨T, rfl⟩, hb1⟩
      have h3 := H2.out.1.all hb1
      obtain ⟨hgs, d0, f0⟩ := tx_own h3 H2.out.2.1
      have HR : Hid (∃ l : List ByteArray, l.length = n ∧ ownsR (w1.setCell ⟨g, k, none⟩ (.string T)) B 9 (.slice (some ⟨g, 0, none⟩) n c) l) := ⟨_, by rw [List.length_set]; exact H2.out.2.2, tx_put h3 T H2.out.2.1⟩
      have HG : Hid (w.grownBy (w1.setCell ⟨g, k, none⟩ (.string T)) (some g)) := grown_trans (grown_trans hbel (grown_of_below hb1 _)) (grown_set _ _ _ _)
      clear h3 hb1 H2 HL
      go_wp2
      go_roundw
      case rel => exact ⟨k + 1, by omega, by go_num, by go_num, HR, HG.out⟩
      case measure => simp [intOf]; omega
    · have hkn : k = n := by omega
      subst hkn
      go_wp2
      go_ret
      exact ⟨by simp, HL.out, hbel⟩
/-- But for blocks between two numbers all that was there is as it was. -/
structure Twx (B S : Nat) (w w' : World) : Prop where
  os : w'.os = w.os
  tape : w'.tape = w.tape
  output : w'.output = w.output
  size : w.heap.size ≤ w'.heap.size
  block : ∀ k, k < w.heap.size → (k < B ∨ S ≤ k) → w'.heap[k]? = w.heap[k]?
theorem Twx.refl (B S : Nat) (w : World) : Twx B S w w := ⟨rfl, rfl, rfl, Nat.le_refl _, fun _ _ _ => rfl⟩
theorem Twx.up {B S : Nat} {a w w' : World} (h : Twx B S a w) (hb : Below w.heap.size w w') : Twx B S a w' :=
  ⟨hb.os.trans h.os, hb.tape.trans h.tape, hb.output.trans h.output, Nat.le_trans h.size hb.size, fun k hk h1 => (hb.block k (Nat.lt_of_lt_of_le hk h.size)).trans (h.block k hk h1)⟩
theorem Twx.set {B S : Nat} {a w : World} (h : Twx B S a w) {p : Addr} (h1 : B ≤ p.block) (h2 : p.block < S) (u : Value) : Twx B S a (w.setCell p u) :=
  ⟨h.os, h.tape, h.output, by rw [show (w.setCell p u).heap.size = w.heap.size by simp [World.setCell]]; exact h.size, fun k hk h3 => (heap_setCell_other w p k u (fun e => by omega)).trans (h.block k hk h3)⟩
theorem Twx.grown {B S : Nat} {a w w' : World} {g : Nat} (h : Twx B S a w) (hg : w.grownBy w' (some g)) (h1 : B ≤ g) (h2 : g < S) : Twx B S a w' :=
  ⟨hg.os.trans h.os, hg.tape.trans h.tape, hg.output.trans h.output, Nat.le_trans h.size hg.size, fun k hk h3 => (hg.block k (Nat.lt_of_lt_of_le hk h.size) (fun e => by cases e; omega)).trans (h.block k hk h3)⟩
theorem Twx.below {B S : Nat} {w w' : World} (h : Twx B S w w') (hB : B ≤ w.heap.size) : Below B w w' := ⟨h.os, h.tape, h.output, h.size, fun k hk => h.block k (by omega) (.inl hk)⟩
/-- A row of tasks on the way of being marked. -/
structure TkO (B S g n : Nat) (W : World) (ks : List Tk) : Prop where
  own : ownsR W B 88 (.slice (some ⟨g, 0, none⟩) n n) ks
  len : ks.length = n
  low : g < S
  after : ∀ (i : Nat) (x : Tk), ks[i]? = some x → ∃ (b m c : Nat) (l : List ByteArray), x.after = .slice (some ⟨b, 0, none⟩) m c ∧ m ≤ 1048576 ∧ l.length = m ∧ b < S ∧ ownsR W B 9 x.after l
  sep : ∀ (i j : Nat) (x y : Tk), i ≠ j → ks[i]? = some x → ks[j]? = some y → x.after.ownBlock ≠ y.after.ownBlock
theorem TkO.onW {B S g n : Nat} {W W' : World} {ks : List Tk} (h : TkO B S g n W ks) (hb : Below W.heap.size W W') : TkO B S g n W' ks :=
  ⟨h.own.all hb, h.len, h.low, fun i x hx => by obtain ⟨b, m, c, l, h1, h2, h3, h4, h5⟩ := h.after i x hx; exact ⟨b, m, c, l, h1, h2, h3, h4, h5.all hb⟩, h.sep⟩
theorem TkO.put {B S g n : Nat} {W : World} {ks : List Tk} (h : TkO B S g n W ks) {i : Nat} {x : Tk} (hx : ks[i]? = some x) (f : Tk) (ha : f.after = x.after) {W' : World} (ho : ownsR W' B 88 (.slice (some ⟨g, 0, none⟩) n n) (ks.set i f)) (hW : ∀ k, k ≠ g → W'.heap[k]? = W.heap[k]?) : TkO B S g n W' (ks.set i f) := by
  have hi : i < ks.length := (List.getElem?_eq_some_iff.1 hx).1
  have key : ∀ (j : Nat) (y : Tk), (ks.set i f)[j]? = some y → ∃ z, ks[j]? = some z ∧ z.after = y.after := fun j y hy => by
    by_cases e : j = i
    · subst e
      rw [List.getElem?_set_self hi] at hy
      cases hy
      exact ⟨x, hx, ha.symm⟩
    · rw [List.getElem?_set_ne (fun e' => e e'.symm)] at hy
      exact ⟨y, hy, rfl⟩
  refine ⟨ho, by rw [List.length_set]; exact h.len, h.low, fun j y hy => ?_, fun j j' y y' hjj hy hy' => ?_⟩
  · obtain ⟨z, hz, e⟩ := key j y hy
    obtain ⟨b, m, c, l, h1, h2, h3, h4, h5⟩ := h.after j z hz
    rw [← e]
    refine ⟨b, m, c, l, h1, h2, h3, h4, h5.keep fun q hq => hW q fun eq => ?_⟩
    rcases h.own.2 with ⟨h', _⟩ | ⟨g', cap, cur, h', _, hb', _⟩
    · cases h'
    · injection h' with e1 _ _
      injection e1 with e1
      injection e1 with e1 _ _
      subst e1
      exact not_own h5 hb' (by decide) (by rw [hq, eq])
  · obtain ⟨z, hz, e⟩ := key j y hy
    obtain ⟨z', hz', e'⟩ := key j' y' hy'
    rw [← e, ← e']
    exact h.sep j j' z z' hjj hz hz'
theorem TkO.row {B S g n : Nat} {W W' : World} {ks : List Tk} (h : TkO B S g n W ks) {i : Nat} {x : Tk} (hx : ks[i]? = some x) {b m c : Nat} (hxa : x.after = .slice (some ⟨b, 0, none⟩) m c) {l : List ByteArray} (hl : l.length = m) (ho : ownsR W' B 9 x.after l) (hg : W.grownBy W' (some b)) (hm : m ≤ 1048576) (hbS : b < S) : TkO B S g n W' ks := by
  have hbk : ∀ q, q < W.heap.size → q ≠ b → W'.heap[q]? = W.heap[q]? := fun q hq hne => hg.block q hq (fun e => by cases e; exact hne rfl)
  obtain ⟨b0, m0, c0, l0, a1, a2, a3, a4, a5⟩ := h.after i x hx
  have hbg : b ≠ g := fun e => by
    subst e
    rcases h.own.2 with ⟨h', _⟩ | ⟨g', cap, cur, h', _, hb', _⟩
    · cases h'
    · injection h' with e1 _ _
      injection e1 with e1
      injection e1 with e1 _ _
      subst e1
      exact not_own a5 hb' (by decide) (by rw [hxa]; rfl)
  refine ⟨h.own.keep fun q hq => hbk q (own_low h.own hq).2 (fun e => hbg (by cases hq; exact e.symm)), h.len, h.low, fun j y hy => ?_, h.sep⟩
  by_cases e : j = i
  · subst e
    rw [hx] at hy
    cases hy
    exact ⟨b, m, c, l, hxa, hm, hl, hbS, ho⟩
  · obtain ⟨b1, m1, c1, l1, d1, d2, d3, d4, d5⟩ := h.after j y hy
    refine ⟨b1, m1, c1, l1, d1, d2, d3, d4, d5.keep fun q hq => hbk q (own_low d5 hq).2 fun eq => h.sep j i y x e hy hx ?_⟩
    rw [hq, eq, hxa]
    rfl
theorem tk_own {w : World} {B : Nat} {g n cap : Nat} {l : List Tk} (h : ownsR w B 88 (.slice (some ⟨g, 0, none⟩) n cap) l) {i : Nat} {x : Tk} (hi : l[i]? = some x) :
    g < w.heap.size ∧ (∀ j, w.frozen? ⟨g, i * 5 + j, none⟩ = false ∨ 5 ≤ j) ∧ w.cell? ⟨g, i * 5, none⟩ = some (.string x.name) ∧ w.cell? ⟨g, i * 5 + 1, none⟩ = some (.string x.pool) ∧ w.cell? ⟨g, i * 5 + 2, none⟩ = some (.int .i64 x.ret) ∧ w.cell? ⟨g, i * 5 + 3, none⟩ = some (.bool x.past) ∧ w.cell? ⟨g, i * 5 + 4, none⟩ = some x.after := by
  obtain ⟨h1, _, _, h2⟩ := h.at hi
  refine ⟨h1, fun j => ?_, (h2 0 (by decide)).1, (h2 1 (by decide)).1, (h2 2 (by decide)).1, (h2 3 (by decide)).1, (h2 4 (by decide)).1⟩
  by_cases hj : j < 5
  · exact .inl (h2 j hj).2
  · exact .inr (by omega)
theorem tk_set {w : World} {B : Nat} {g n cap : Nat} {l : List Tk} (h : ownsR w B 88 (.slice (some ⟨g, 0, none⟩) n cap) l) {i : Nat} {x : Tk} (hi : l[i]? = some x) (j : Nat) (hj : j < 5) (f : Tk) (u : Value) (hc : Rec.cells f = (Rec.cells x).set j u) :
    ownsR (w.setCell ⟨g, i * 5 + j, none⟩ u) B 88 (.slice (some ⟨g, 0, none⟩) n cap) (l.set i f) := h.put (j := j) (u := u) f hi hj hc
theorem TkO.set {B S g n : Nat} {W : World} {ks : List Tk} (h : TkO B S g n W ks) {i : Nat} {x : Tk} (hx : ks[i]? = some x) (j : Nat) (hj : j < 5) (f : Tk) (u : Value) (hc : Rec.cells f = (Rec.cells x).set j u) (ha : f.after = x.after) : TkO B S g n (W.setCell ⟨g, i * 5 + j, none⟩ u) (ks.set i f) :=
  h.put hx f ha (tk_set h.own hx j hj f u hc) fun k hk => heap_setCell_other W ⟨g, i * 5 + j, none⟩ k u hk
set_option maxRecDepth 10000 in
set_option maxHeartbeats 4000000 in
theorem markTS_any {B S g n : Nat} {w : World} {ks : List Tk} (h : TkO B S g n w ks) (hn : n ≤ 1048576) :
    Calls Tryz.prog 44 #[.slice (some ⟨g, 0, none⟩) n n, .int .i64 1] w fun e w' => ∃ y : Int, e = .returned (.int .i64 y) ∧ 1 ≤ y ∧ y ≤ 4000000000000000 ∧ Twx B S w w' := by
  have hBg : B ≤ g := (own_low h.own (k := g) rfl).1
  have hgS : g < S := h.low
  have H0 : Hid (∃ ks, TkO B S g n w ks) := ⟨ks, h⟩
  clear h
  go_enter Tryz.func44, Tryz.ntmps44
  go_wp2
  go_loopw [1, 5] (fun q i wr => ∃ (k : Nat) (y : Int), k ≤ n ∧ i = .int .i64 k ∧ q = .int .i64 y ∧ 1 ≤ y ∧ y ≤ 1 + (k : Int) * 1048580 ∧ Hid (∃ ks, TkO B S g n wr ks) ∧ Hid (Twx B S w wr)) (fun _ i _ => n - (intOf i).toNat)
  case atStart => exact ⟨0, 1, Nat.zero_le _, rfl, rfl, by omega, by omega, H0, Twx.refl _ _ _⟩
  case round =>
    clear H0
    obtain ⟨k, y, hk, rfl, rfl, hy1, hy2, HK, HT⟩ := hrel
    by_cases hlt : k < n
    · obtain ⟨ks, hks⟩ := HK.out
      obtain ⟨x, hx⟩ : ∃ x, ks[k]? = some x := ⟨_, List.getElem?_eq_getElem (by rw [hks.len]; exact hlt)⟩
      have HX : Hid (ks[k]? = some x) := hx
      have HKS : Hid (TkO B S g n wr ks) := hks
      have hkl : Hid (k < ks.length) := (List.getElem?_eq_some_iff.1 hx).1
      clear hks hx HK
      go_wp2_with fail
      refine (markTx y _ (by omega) (by omega)).mono ?_
      rintro e w1 ⟨⟨T, rfl⟩, hb1⟩
      have HK1 : Hid (TkO B S g n w1 ks) := HKS.out.onW hb1
      obtain ⟨hg1, f1, d0, -⟩ := tk_own HK1.out.own HX.out
      have f0 : w1.frozen? ⟨g, k * 5, none⟩ = false := (f1 0).resolve_right (by omega)
      obtain ⟨W2, hW2⟩ : ∃ W2, w1.setCell ⟨g, k * 5, none⟩ (.string T) = W2 := ⟨_, rfl⟩
      obtain ⟨x2, HX2⟩ : ∃ x2 : Tk, Hid (x2 = { x with name := T }) := ⟨_, rfl⟩
      have HK2 : Hid (TkO B S g n W2 (ks.set k x2)) := by rw [← hW2]; exact HK1.out.set HX.out 0 (by decide) x2 (.string T) (by rw [HX2.out]; rfl) (by rw [HX2.out])
      have HT2 : Hid (Twx B S w W2) := by rw [← hW2]; exact (HT.out.up hb1).set (p := ⟨g, k * 5, none⟩) hBg hgS _
      clear hb1 HK1 HKS HT f1
      go_wp2_with fail
      refine (markTx (y + 1) _ (by omega) (by omega)).mono ?_
      rintro e w3 ⟨⟨T2, rfl⟩, hb3⟩
      have HX3 : Hid ((ks.set k x2)[k]? = some x2) := List.getElem?_set_self hkl.out
      have HK3 : Hid (TkO B S g n w3 (ks.set k x2)) := HK2.out.onW hb3
      have HT3 : Hid (Twx B S w w3) := HT2.out.up hb3
      clear hb3 HK2 HT2 hW2 d0 f0 hg1
      obtain ⟨hg3, f3, -, d1, d2, d3, d4⟩ := tk_own HK3.out.own HX3.out
      have f1 : w3.frozen? ⟨g, k * 5 + 1, none⟩ = false := (f3 1).resolve_right (by omega)
      have f2 : w3.frozen? ⟨g, k * 5 + 2, none⟩ = false := (f3 2).resolve_right (by omega)
      have f4 : w3.frozen? ⟨g, k * 5 + 3, none⟩ = false := (f3 3).resolve_right (by omega)
      obtain ⟨b, m, c, l, ha, hm, hl, hbS, ho⟩ := HK3.out.after k x2 HX3.out
      have HF : Hid (∀ (z : Int) (q : Bool), ∃ ks', TkO B S g n (((w3.setCell ⟨g, k * 5 + 1, none⟩ (.string T2)).setCell ⟨g, k * 5 + 2, none⟩ (.int .i64 z)).setCell ⟨g, k * 5 + 3, none⟩ (.bool q)) ks' ∧ ∃ x', ks'[k]? = some x' ∧ x'.after = .slice (some ⟨b, 0, none⟩) m c) := fun z q => by
        have h1 := HK3.out.set HX3.out 1 (by decide) { x2 with pool := T2 } (.string T2) rfl rfl
        have e1 : ((ks.set k x2).set k { x2 with pool := T2 })[k]? = some { x2 with pool := T2 } := List.getElem?_set_self (by rw [List.length_set]; exact hkl.out)
        have h2 := h1.set e1 2 (by decide) { x2 with pool := T2, ret := z } (.int .i64 z) rfl rfl
        have e2 : (((ks.set k x2).set k { x2 with pool := T2 }).set k { x2 with pool := T2, ret := z })[k]? = some { x2 with pool := T2, ret := z } := List.getElem?_set_self (by rw [List.length_set, List.length_set]; exact hkl.out)
        have h3 := h2.set e2 3 (by decide) { x2 with pool := T2, ret := z, past := q } (.bool q) rfl rfl
        exact ⟨_, h3, _, List.getElem?_set_self (by rw [List.length_set, List.length_set, List.length_set]; exact hkl.out), ha⟩
      have HG : Hid (∀ (z : Int) (q : Bool), Twx B S w (((w3.setCell ⟨g, k * 5 + 1, none⟩ (.string T2)).setCell ⟨g, k * 5 + 2, none⟩ (.int .i64 z)).setCell ⟨g, k * 5 + 3, none⟩ (.bool q))) := fun z q => ((HT3.out.set (p := ⟨g, k * 5 + 1, none⟩) hBg hgS _).set (p := ⟨g, k * 5 + 2, none⟩) hBg hgS _).set (p := ⟨g, k * 5 + 3, none⟩) hBg hgS _
      rw [ha] at d4
      have HBS : Hid (b < S) := hbS
      clear HK3 HT3 ha ho hl f3 HX3 hbS
      go_wp2_with fail
      obtain ⟨ks', hk', x', hx', ha'⟩ := HF.out (y + 1 + 1) ((y + 1 + 1 + 1) % 3 == 0)
      have hG := HG.out (y + 1 + 1) ((y + 1 + 1 + 1) % 3 == 0)
      obtain ⟨V, hV⟩ : ∃ V, ((w3.setCell ⟨g, k * 5 + 1, none⟩ (.string T2)).setCell ⟨g, k * 5 + 2, none⟩ (.int .i64 (y + 1 + 1))).setCell ⟨g, k * 5 + 3, none⟩ (.bool ((y + 1 + 1 + 1) % 3 == 0)) = V := ⟨_, rfl⟩
      rw [hV] at hk' hG
      rw [hV]
      obtain ⟨b0, m0, c0, l0, a1, a2, a3, a4, a5⟩ := hk'.after k x' hx'
      rw [ha'] at a1 a5
      clear a1
      have HMS : Hid (Calls Tryz.prog 102 #[.slice (some ⟨b, 0, none⟩) m c, .int .i64 (y + 1 + 1 + 1 + 1)] V fun e w' => e = .returned (.int .i64 (y + 1 + 1 + 1 + 1 + m)) ∧ (∃ ks, TkO B S g n w' ks) ∧ Twx B S w w') := by
        refine (markSS_some b m c B (y + 1 + 1 + 1 + 1) l0 V a5 (by omega) (by omega) (by have : (k : Int) * 1048580 ≤ 1048576 * 1048580 := Int.mul_le_mul_of_nonneg_right (by omega) (by decide); omega)).mono ?_
        rintro e w' ⟨rfl, ⟨l', hl', ho'⟩, hg'⟩
        refine ⟨rfl, ⟨ks', hk'.row hx' ha' hl' (by rw [ha']; exact ho') hg' hm HBS.out⟩, hG.grown hg' (own_low a5 (k := b) rfl).1 HBS.out⟩
      clear hV hk' hG a2 a3 a4 a5 HF HG d1 d2 d3 d4 f1 f2 f4 hx' ha'
      refine HMS.out.mono ?_
      rintro e w5 ⟨rfl, hk5, hT5⟩
      have HK5 : Hid (∃ ks, TkO B S g n w5 ks) := hk5
      have HT5 : Hid (Twx B S w w5) := hT5
      clear hk5 hT5 HMS
      go_wp2
      go_roundw
      case rel => exact ⟨k + 1, y + 1 + 1 + 1 + 1 + m, by omega, by go_num, rfl, by omega, by omega, HK5, HT5⟩
      case measure => simp [intOf]; omega
    · go_wp2
      go_ret
      exact ⟨y, rfl, hy1, by have : (k : Int) * 1048580 ≤ 1048576 * 1048580 := Int.mul_le_mul_of_nonneg_right (by omega) (by decide); omega, HT.out⟩
/-- A plan made anew is one that may be marked. -/
theorem TasksO.tk {B : Nat} {w : World} {g n : Nat} {ts : List Ta} (h : TasksO B w (.slice (some ⟨g, 0, none⟩) n n) ts) (hn : ts.length = n) (ha : ∀ t ∈ ts, t.after.length ≤ 1048576) : ∃ ks, TkO B w.heap.size g n w ks := by
  obtain ⟨ks, h1, h2, h3, h4⟩ := h
  have key : ∀ (i : Nat) (x : Tk), ks[i]? = some x → ∃ t, ts[i]? = some t ∧ (∃ q, x.after.ownBlock = some q) ∧ ownsR w B 9 x.after t.after := fun i x hx => by
    obtain ⟨t, ht⟩ : ∃ t, ts[i]? = some t := ⟨_, List.getElem?_eq_getElem (by have := (List.getElem?_eq_some_iff.1 hx).1; omega)⟩
    obtain ⟨y, hy, _, hq, ho⟩ := h3 i t ht
    rw [hx] at hy
    cases hy
    exact ⟨t, ht, hq, ho⟩
  refine ⟨ks, h1, by omega, (own_low h1 (k := g) rfl).2, fun i x hx => ?_, fun i j x y hij hx hy => ?_⟩
  · obtain ⟨t, ht, ⟨q, hq⟩, ho⟩ := key i x hx
    obtain ⟨c, e, _⟩ := some_at ho hq
    exact ⟨q, t.after.length, c, t.after, e, ha t (List.mem_of_getElem? ht), rfl, (own_low ho hq).2, ho⟩
  · rcases Nat.lt_or_ge j i with h | h
    · obtain ⟨q, e1, e2⟩ := h4 i j x y h hx hy
      rw [e1]
      exact fun e => e2 e.symm
    · obtain ⟨q, e1, e2⟩ := h4 j i y x (by omega) hy hx
      rw [e1]
      exact e2
set_option maxRecDepth 10000 in
set_option maxHeartbeats 1000000 in
theorem markD_any {B g n : Nat} {w : World} {ts : List Ta} (nm cr : ByteArray) (fr up : Int) (cu : Bool) (h : TasksO B w (.slice (some ⟨g, 0, none⟩) n n) ts) (hn : ts.length = n) (hn2 : n ≤ 1048576) (ha : ∀ t ∈ ts, t.after.length ≤ 1048576) {S : Nat} {W : World} (hS : w.heap.size = S) (hb : Below w.heap.size w W) :
    Calls Tryz.prog 16 #[.agg #[.string nm, .string cr, .int .i64 fr, .int .i64 up, .bool cu, .slice (some ⟨g, 0, none⟩) n n], .int .i64 1] W fun e w' => ∃ y : Int, e = .returned (.int .i64 y) ∧ 1 ≤ y ∧ y ≤ 4000000000000000 ∧ Twx B S W w' := by
  obtain ⟨ks, hk⟩ := h.tk hn ha
  have hBS : B ≤ S := by rw [← hS]; exact Nat.le_of_lt (Nat.lt_of_le_of_lt (own_low hk.own (k := g) rfl).1 (own_low hk.own (k := g) rfl).2)
  have hs2 : S ≤ W.heap.size := by rw [← hS]; exact hb.size
  rw [hS] at hk
  have HK : Hid (TkO B S g n (W.alloc (.cells #[.string nm, .string cr, .int .i64 fr, .int .i64 up, .bool cu, .slice (some ⟨g, 0, none⟩) n n] 36)) ks) := by
    have h1 : TkO B S g n W ks := by
      refine ⟨hk.own.all (hS ▸ hb), hk.len, hk.low, fun i x hx => ?_, hk.sep⟩
      obtain ⟨b, m, c, l, a1, a2, a3, a4, a5⟩ := hk.after i x hx
      exact ⟨b, m, c, l, a1, a2, a3, a4, a5.all (hS ▸ hb)⟩
    exact h1.onW (ba (Below.refl _ _) _)
  have HM := markTS_any HK.out hn2
  go_enter Tryz.func16, Tryz.ntmps16
  go_wp2_with fail
  refine HM.mono ?_
  rintro e w1 ⟨y, rfl, h1, h2, h3⟩
  have HT : Hid (Twx B S W w1) := ⟨h3.os, h3.tape, h3.output, Nat.le_trans (by simp) h3.size, fun k hk h4 => (h3.block k (by simp; omega) h4).trans (by
    have := (ba (Below.refl W.heap.size W) (.cells #[.string nm, .string cr, .int .i64 fr, .int .i64 up, .bool cu, .slice (some ⟨g, 0, none⟩) n n] 36)).block k hk
    exact this)⟩
  clear h3
  go_wp2
  go_ret
  exact ⟨y, rfl, h1, h2, HT.out⟩
end Go.Proofs.YtjmclcjhimcehaaGreatDoor
