/-
  Rows of plans: what lies there and what it reads as; sizes, copies, held against each other: the walks of the law's helpers.
-/
import Derived.Test.YtkfhmeiiicidaaaDpr
import Derived.Test.YtkfhmeiiicidaaaEqt
import Derived.Test.YtkfhmeiiicidaaaB9s
namespace Go.Proofs.Ytkfhmeiiicidaaa
open Go Go.RowKit
set_option linter.unusedVariables false

structure Pl where
  name : ByteArray
  cron : ByteArray
  fr : Int
  up : Int
  cu : Bool
  tasks : Value
  paused : Bool
  cursor : Int
  floor : Int
instance : Rec Pl := ⟨9, fun s => [.string s.name, .string s.cron, .int .i64 s.fr, .int .i64 s.up, .bool s.cu, s.tasks, .bool s.paused, .int .i64 s.cursor, .int .i64 s.floor], fun _ => rfl, by decide⟩
instance : Inhabited Pl := ⟨⟨⟨#[]⟩, ⟨#[]⟩, 0, 0, false, .slice none 0 0, false, 0, 0⟩⟩
theorem pl_width : Rec.width Pl = 9 := rfl
/-- A plan on a board, plain. -/
structure Po where
  name : ByteArray
  cron : ByteArray
  fr : Int
  up : Int
  cu : Bool
  tasks : List Ta
  paused : Bool
  cursor : Int
  floor : Int
/-- One plan reads as a plain one. -/
structure OnePl (w : World) (k : Pl) (p : Po) : Prop where
  name : k.name = p.name
  cron : k.cron = p.cron
  fr : k.fr = p.fr
  up : k.up = p.up
  cu : k.cu = p.cu
  tasks : Tasks w k.tasks p.tasks
  paused : k.paused = p.paused
  cursor : k.cursor = p.cursor
  floor : k.floor = p.floor
theorem onePl_below : ∀ (w w' : World) (k : Pl) (t : Po), OnePl w k t → Below w.heap.size w w' → OnePl w' k t := fun _ _ _ _ h hb => ⟨h.name, h.cron, h.fr, h.up, h.cu, h.tasks.below hb, h.paused, h.cursor, h.floor⟩
theorem TasksB.up {B : Nat} {w w' : World} {v : Value} {ts : List Ta} (h : TasksB B w v ts) (hb : Below w.heap.size w w') : TasksB B w' v ts := by
  obtain ⟨h0, ks, h1, h2, h3⟩ := h
  refine ⟨h0, ks, h1.below hb, h2, fun i t ht => ?_⟩
  obtain ⟨k, hk, ho, hq⟩ := h3 i t ht
  exact ⟨k, hk, ⟨ho.name, ho.pool, ho.ret, ho.past, ho.after.below hb⟩, hq⟩
theorem TasksB.mono {B C : Nat} {w : World} {v : Value} {ts : List Ta} (h : TasksB B w v ts) (hc : C ≤ B) : TasksB C w v ts := by
  obtain ⟨h0, ks, h1, h2, h3⟩ := h
  refine ⟨fun b o n c e => Nat.le_trans hc (h0 b o n c e), ks, h1, h2, fun i t ht => ?_⟩
  obtain ⟨k, hk, ho, hq⟩ := h3 i t ht
  exact ⟨k, hk, ho, fun b o n c e => Nat.le_trans hc (hq.1 b o n c e), hq.2⟩
/-- The same, its tasks from a block on. -/
structure OnePlB (C : Nat) (w : World) (k : Pl) (p : Po) : Prop where
  name : k.name = p.name
  cron : k.cron = p.cron
  fr : k.fr = p.fr
  up : k.up = p.up
  cu : k.cu = p.cu
  tasks : TasksB C w k.tasks p.tasks
  paused : k.paused = p.paused
  cursor : k.cursor = p.cursor
  floor : k.floor = p.floor
  room : Roomy k.tasks
theorem OnePlB.one {C : Nat} {w : World} {k : Pl} {p : Po} (h : OnePlB C w k p) : OnePl w k p := ⟨h.name, h.cron, h.fr, h.up, h.cu, h.tasks.tasks, h.paused, h.cursor, h.floor⟩
theorem keepsPl : Keeps OnePlB where
  up _ _ _ _ _ h hb := ⟨h.name, h.cron, h.fr, h.up, h.cu, h.tasks.up hb, h.paused, h.cursor, h.floor, h.room⟩
  hi _ _ _ _ _ h hs hW := ⟨h.name, h.cron, h.fr, h.up, h.cu, h.tasks.high hs hW, h.paused, h.cursor, h.floor, h.room⟩
  mono _ _ _ _ _ h hc := ⟨h.name, h.cron, h.fr, h.up, h.cu, h.tasks.mono hc, h.paused, h.cursor, h.floor, h.room⟩
theorem pl_at {C : Nat} {w : World} {ao : Option Addr} {n cap : Nat} {l : List Po} (h : DRow (OnePl) w (.slice ao n cap) l) {k : Nat} {x : Po} (hk : l[k]? = some x) :
    ∃ b o tasksx, ao = some ⟨b, o, none⟩ ∧ b < w.heap.size ∧ w.cell? ⟨b, o + k * 9, none⟩ = some (.string x.name) ∧ w.cell? ⟨b, o + k * 9 + 1, none⟩ = some (.string x.cron) ∧ w.cell? ⟨b, o + k * 9 + 2, none⟩ = some (.int .i64 x.fr) ∧ w.cell? ⟨b, o + k * 9 + 3, none⟩ = some (.int .i64 x.up) ∧ w.cell? ⟨b, o + k * 9 + 4, none⟩ = some (.bool x.cu) ∧ w.cell? ⟨b, o + k * 9 + 5, none⟩ = some (tasksx) ∧ w.cell? ⟨b, o + k * 9 + 6, none⟩ = some (.bool x.paused) ∧ w.cell? ⟨b, o + k * 9 + 7, none⟩ = some (.int .i64 x.cursor) ∧ w.cell? ⟨b, o + k * 9 + 8, none⟩ = some (.int .i64 x.floor) ∧ Tasks w tasksx x.tasks := by
  obtain ⟨y, b, o, rfl, hlt, hc, ho⟩ := h.at hk
  refine ⟨b, o, y.tasks, rfl, hlt, ?_, ?_, ?_, ?_, ?_, ?_, ?_, ?_, ?_, ho.tasks⟩
  · rw [← ho.name]; exact hc 0 _ rfl
  · rw [← ho.cron]; exact hc 1 _ rfl
  · rw [← ho.fr]; exact hc 2 _ rfl
  · rw [← ho.up]; exact hc 3 _ rfl
  · rw [← ho.cu]; exact hc 4 _ rfl
  · exact hc 5 _ rfl
  · rw [← ho.paused]; exact hc 6 _ rfl
  · rw [← ho.cursor]; exact hc 7 _ rfl
  · rw [← ho.floor]; exact hc 8 _ rfl
theorem pl_atB {C : Nat} {w : World} {ao : Option Addr} {n cap : Nat} {l : List Po} (h : DRow (OnePlB C) w (.slice ao n cap) l) {k : Nat} {x : Po} (hk : l[k]? = some x) :
    ∃ b o tasksx, ao = some ⟨b, o, none⟩ ∧ b < w.heap.size ∧ w.cell? ⟨b, o + k * 9, none⟩ = some (.string x.name) ∧ w.cell? ⟨b, o + k * 9 + 1, none⟩ = some (.string x.cron) ∧ w.cell? ⟨b, o + k * 9 + 2, none⟩ = some (.int .i64 x.fr) ∧ w.cell? ⟨b, o + k * 9 + 3, none⟩ = some (.int .i64 x.up) ∧ w.cell? ⟨b, o + k * 9 + 4, none⟩ = some (.bool x.cu) ∧ w.cell? ⟨b, o + k * 9 + 5, none⟩ = some (tasksx) ∧ w.cell? ⟨b, o + k * 9 + 6, none⟩ = some (.bool x.paused) ∧ w.cell? ⟨b, o + k * 9 + 7, none⟩ = some (.int .i64 x.cursor) ∧ w.cell? ⟨b, o + k * 9 + 8, none⟩ = some (.int .i64 x.floor) ∧ Tasks w tasksx x.tasks ∧ Roomy tasksx := by
  obtain ⟨y, b, o, rfl, hlt, hc, ho⟩ := h.at hk
  refine ⟨b, o, y.tasks, rfl, hlt, ?_, ?_, ?_, ?_, ?_, ?_, ?_, ?_, ?_, ⟨ho.tasks.tasks, ho.room⟩⟩
  · rw [← ho.name]; exact hc 0 _ rfl
  · rw [← ho.cron]; exact hc 1 _ rfl
  · rw [← ho.fr]; exact hc 2 _ rfl
  · rw [← ho.up]; exact hc 3 _ rfl
  · rw [← ho.cu]; exact hc 4 _ rfl
  · exact hc 5 _ rfl
  · rw [← ho.paused]; exact hc 6 _ rfl
  · rw [← ho.cursor]; exact hc 7 _ rfl
  · rw [← ho.floor]; exact hc 8 _ rfl
theorem infoPl : (Try.prog.info? 70).map (fun i => (i.zero, i.size, i.bytes)) = some (some (.agg #[.string ⟨#[]⟩, .string ⟨#[]⟩, .int .i64 0, .int .i64 0, .bool false, .slice none 0 0, .bool false, .int .i64 0, .int .i64 0]), 9, 104) := by kernel_rfl
theorem underPl : Try.prog.underlying 29 = some (.slice 70) := by kernel_rfl
theorem madePl (n : Nat) : (madeCells (Value.cells (.agg #[.string ⟨#[]⟩, .string ⟨#[]⟩, .int .i64 0, .int .i64 0, .bool false, .slice none 0 0, .bool false, .int .i64 0, .int .i64 0])) (n * 9)).toList = (List.replicate n (default : Pl)).flatMap Rec.cells := by
  apply List.ext_getElem?
  intro m
  have hm := Nat.div_add_mod m 9
  have h3 : m % 9 < 9 := Nat.mod_lt _ (by decide)
  have e := flat_at (List.replicate n (default : Pl)) (m / 9) (m % 9) h3
  rw [pl_width, show m / 9 * 9 + m % 9 = m by omega] at e
  rw [e]
  simp only [madeCells, Value.cells, Array.toList_map, Array.toList_range, List.getElem?_map, List.getElem?_replicate]
  by_cases hlt : m / 9 < n
  · rw [if_pos hlt, List.getElem?_range (by omega)]
    match hx : m % 9, h3 with
    | 0, _ => simp [hx]; rfl
    | 1, _ => simp [hx]; rfl
    | 2, _ => simp [hx]; rfl
    | 3, _ => simp [hx]; rfl
    | 4, _ => simp [hx]; rfl
    | 5, _ => simp [hx]; rfl
    | 6, _ => simp [hx]; rfl
    | 7, _ => simp [hx]; rfl
    | 8, _ => simp [hx]; rfl
  · rw [if_neg hlt, List.getElem?_eq_none (by simp; omega)]
    rfl
/-- The stores of a whole record. -/
abbrev putPl (w : World) (g i : Nat) (f : Pl) : World := ((((((((w.setCell ⟨g, i * 9, none⟩ (.string f.name)).setCell ⟨g, i * 9 + 1, none⟩ (.string f.cron)).setCell ⟨g, i * 9 + 2, none⟩ (.int .i64 f.fr)).setCell ⟨g, i * 9 + 3, none⟩ (.int .i64 f.up)).setCell ⟨g, i * 9 + 4, none⟩ (.bool f.cu)).setCell ⟨g, i * 9 + 5, none⟩ (f.tasks)).setCell ⟨g, i * 9 + 6, none⟩ (.bool f.paused)).setCell ⟨g, i * 9 + 7, none⟩ (.int .i64 f.cursor)).setCell ⟨g, i * 9 + 8, none⟩ (.int .i64 f.floor)
theorem pl_put {w : World} {B : Nat} {g n cap : Nat} {l : List Pl} (h : ownsR w B 70 (.slice (some ⟨g, 0, none⟩) n cap) l) {i : Nat} {y : Pl} (f : Pl) (hi : l[i]? = some y) :
    ownsR (putPl w g i f) B 70 (.slice (some ⟨g, 0, none⟩) n cap) (l.set i f) := by
  have hil : i < l.length := (List.getElem?_eq_some_iff.1 hi).1
  have h1 := h.put (j := 0) (u := .string f.name) { y with name := f.name } hi (by decide) rfl
  have h2 := h1.put (i := i) (j := 1) (u := .string f.cron) { y with name := f.name, cron := f.cron } (List.getElem?_set_self (by simpa using hil)) (by decide) rfl
  have h3 := h2.put (i := i) (j := 2) (u := .int .i64 f.fr) { y with name := f.name, cron := f.cron, fr := f.fr } (List.getElem?_set_self (by simpa using hil)) (by decide) rfl
  have h4 := h3.put (i := i) (j := 3) (u := .int .i64 f.up) { y with name := f.name, cron := f.cron, fr := f.fr, up := f.up } (List.getElem?_set_self (by simpa using hil)) (by decide) rfl
  have h5 := h4.put (i := i) (j := 4) (u := .bool f.cu) { y with name := f.name, cron := f.cron, fr := f.fr, up := f.up, cu := f.cu } (List.getElem?_set_self (by simpa using hil)) (by decide) rfl
  have h6 := h5.put (i := i) (j := 5) (u := f.tasks) { y with name := f.name, cron := f.cron, fr := f.fr, up := f.up, cu := f.cu, tasks := f.tasks } (List.getElem?_set_self (by simpa using hil)) (by decide) rfl
  have h7 := h6.put (i := i) (j := 6) (u := .bool f.paused) { y with name := f.name, cron := f.cron, fr := f.fr, up := f.up, cu := f.cu, tasks := f.tasks, paused := f.paused } (List.getElem?_set_self (by simpa using hil)) (by decide) rfl
  have h8 := h7.put (i := i) (j := 7) (u := .int .i64 f.cursor) { y with name := f.name, cron := f.cron, fr := f.fr, up := f.up, cu := f.cu, tasks := f.tasks, paused := f.paused, cursor := f.cursor } (List.getElem?_set_self (by simpa using hil)) (by decide) rfl
  have h9 := h8.put (i := i) (j := 8) (u := .int .i64 f.floor) f (List.getElem?_set_self (by simpa using hil)) (by decide) rfl
  simpa only [pl_width, Nat.add_zero, List.set_set] using h9
theorem putPl_other (w : World) (g i : Nat) (f : Pl) {k : Nat} (hk : k ≠ g) : (putPl w g i f).heap[k]? = w.heap[k]? := by
  unfold putPl
  rw [heap_setCell_other _ ⟨g, i * 9 + 8, none⟩ k _ hk, heap_setCell_other _ ⟨g, i * 9 + 7, none⟩ k _ hk, heap_setCell_other _ ⟨g, i * 9 + 6, none⟩ k _ hk, heap_setCell_other _ ⟨g, i * 9 + 5, none⟩ k _ hk, heap_setCell_other _ ⟨g, i * 9 + 4, none⟩ k _ hk, heap_setCell_other _ ⟨g, i * 9 + 3, none⟩ k _ hk, heap_setCell_other _ ⟨g, i * 9 + 2, none⟩ k _ hk, heap_setCell_other _ ⟨g, i * 9 + 1, none⟩ k _ hk, heap_setCell_other _ ⟨g, i * 9, none⟩ k _ hk]
theorem putPl_size (w : World) (g i : Nat) (f : Pl) : (putPl w g i f).heap.size = w.heap.size := by simp [putPl]
theorem below_putPl {B : Nat} {V w : World} {g : Nat} (h : Below B V w) (hb : B ≤ g) (i : Nat) (f : Pl) : Below B V (putPl w g i f) :=
  Below.setCell (Below.setCell (Below.setCell (Below.setCell (Below.setCell (Below.setCell (Below.setCell (Below.setCell (Below.setCell h hb _) hb _) hb _) hb _) hb _) hb _) hb _) hb _) hb _
/-- A plan on a board that came in. -/
structure FitP (p : Po) : Prop where
  name : p.name.size ≤ maxLen
  cron : p.cron.size ≤ maxLen
  few : p.tasks.length ≤ maxLen
  small : ∀ t ∈ p.tasks, FitT t
/-- What a plan weighs at most. -/
def WeiP (p : Po) (L : Int) : Prop := (p.name.size : Int) ≤ L ∧ (p.cron.size : Int) ≤ L ∧ (p.tasks.length : Int) ≤ L ∧ ∀ t ∈ p.tasks, Wei t L
theorem WeiP.more {p : Po} {C L : Int} (h : WeiP p C) (hc : C ≤ L) : WeiP p L := ⟨Int.le_trans h.1 hc, Int.le_trans h.2.1 hc, Int.le_trans h.2.2.1 hc, fun t ht => (h.2.2.2 t ht).more hc⟩
set_option maxRecDepth 10000 in
set_option maxHeartbeats 2000000 in
theorem szPlan_any (ao : Option Addr) (n cap : Nat) (name cron : ByteArray) (fr up : Int) (cu : Bool) (ts : List Ta) (paused : Bool) (cursor floor L : Int) (w : World) (hr : Tasks w (.slice ao n cap) ts) (hf : FitD ⟨name, cron, fr, up, cu, ts⟩ n) (h0 : 0 ≤ L) (h1 : L ≤ 1048576) :
    Calls Try.prog 41 #[.agg #[.string name, .string cron, .int .i64 fr, .int .i64 up, .bool cu, .slice ao n cap, .bool paused, .int .i64 cursor, .int .i64 floor], .int .i64 L] w fun e w' => ∃ r : Int, e = .returned (.int .i64 r) ∧ r ≤ L ∧ -1 ≤ r ∧ (0 ≤ r → WeiP ⟨name, cron, fr, up, cu, ts, paused, cursor, floor⟩ L) ∧ Below w.heap.size w w' := by
  have HS : Hid (∀ W, Below w.heap.size w W → Calls Try.prog 63 #[.agg #[.string name, .string cron, .int .i64 fr, .int .i64 up, .bool cu, .slice ao n cap], .int .i64 L] W fun e w' => ∃ r : Int, e = .returned (.int .i64 r) ∧ r ≤ L ∧ -1 ≤ r ∧ (0 ≤ r → (name.size : Int) ≤ L ∧ (cron.size : Int) ≤ L ∧ (ts.length : Int) ≤ L ∧ ∀ t ∈ ts, Wei t L) ∧ Below W.heap.size W w') :=
    fun W hb => szD_any ao n cap name cron fr up cu ts L W (hr.below hb) hf h0 h1
  clear hr hf
  go_enter Try.func41, Try.ntmps41
  go_wp2_with fail
  refine (HS.out _ (ba (Below.refl _ _) _)).mono ?_
  rintro e w1 ⟨r, rfl, hr1, hr2, hr3, hb1⟩
  have HR3 : Hid (0 ≤ r → WeiP ⟨name, cron, fr, up, cu, ts, paused, cursor, floor⟩ L) := hr3
  have hb2 := Below.on (ba (Below.refl _ _) _) hb1
  clear hr3 hb1
  by_cases a3 : r < 0
  · go_wp2
    go_ret
    exact ⟨_, rfl, by omega, by omega, fun h => by omega, hb2⟩
  · go_wp2
    go_ret
    exact ⟨_, rfl, by omega, by omega, HR3.out, hb2⟩
set_option maxRecDepth 10000 in
set_option maxHeartbeats 2000000 in
theorem szPlanS_any (ao : Option Addr) (n cap : Nat) (l : List Po) (L : Int) (w : World) (hr : DRow OnePl w (.slice ao n cap) l) (hn : n ≤ maxLen) (hf : ∀ x ∈ l, FitP x) (h0 : 0 ≤ L) (h1 : L ≤ 1048576) :
    Calls Try.prog 15 #[.slice ao n cap, .int .i64 L] w fun e w' => ∃ r : Int, e = .returned (.int .i64 r) ∧ r ≤ L ∧ -1 ≤ r ∧ (0 ≤ r → (l.length : Int) ≤ L ∧ ∀ x ∈ l, WeiP x L) ∧ Below w.heap.size w w' := by
  unfold maxLen at hn
  have HN : Hid (l.length = n) := hr.len
  have HR : Hid (∀ W, Below w.heap.size w W → DRow OnePl W (.slice ao n cap) l) := fun W hb => hr.below onePl_below hb
  have HF : Hid (∀ x ∈ l, FitP x) := hf
  clear hr hf
  by_cases hlt : L - n < 0
  · go_enter Try.func15, Try.ntmps15
    go_wp2
    go_ret
    exact ⟨_, rfl, by omega, by omega, fun h => by omega, Below.refl _ _⟩
  · have hge : 0 ≤ L - n := by omega
    go_enter Try.func15, Try.ntmps15
    go_wp2
    go_loopw [1, 5] (fun c i wr => ∃ (k : Nat) (C : Int), k ≤ n ∧ i = .int .i64 k ∧ c = .int .i64 C ∧ 0 ≤ C ∧ C ≤ L - n ∧ Hid (∀ j t, j < k → l[j]? = some t → WeiP t L) ∧ Below w.heap.size w wr) (fun _ i _ => n - (intOf i).toNat)
    case atStart => exact ⟨0, L - n, Nat.zero_le _, rfl, rfl, hge, Int.le_refl _, fun j s hj => by omega, Below.refl _ _⟩
    case round =>
      obtain ⟨k, C, hk, rfl, rfl, hC0, hC1, HE, hbel⟩ := hrel
      by_cases hkn : k < n
      · obtain ⟨t, ht⟩ : ∃ t, l[k]? = some t := ⟨_, List.getElem?_eq_getElem (by rw [HN.out]; exact hkn)⟩
        obtain ⟨b', o, av, rfl, hb, c0, c1, c2, c3, c4, c5, c6, c7, c8, hav⟩ := pl_at (C := 0) (HR.out wr hbel) ht
        have hft := HF.out t (List.mem_of_getElem? ht)
        have HE2 : Hid (WeiP t L → ∀ j u, j < k + 1 → l[j]? = some u → WeiP u L) := fun hw j u hj hu => by
          by_cases e : j = k
          · subst e; rw [ht] at hu; cases hu; exact hw
          · exact HE.out j u (by omega) hu
        obtain ⟨fo, fc, rfl⟩ := hav.slice
        obtain ⟨m, HM⟩ : ∃ m, Hid (t.tasks.length = m) := ⟨_, rfl⟩
        rw [HM.out] at hav c5
        have HC : Hid (Calls Try.prog 41 #[.agg #[.string t.name, .string t.cron, .int .i64 t.fr, .int .i64 t.up, .bool t.cu, .slice fo m fc, .bool t.paused, .int .i64 t.cursor, .int .i64 t.floor], .int .i64 C] wr fun e w' => ∃ r : Int, e = .returned (.int .i64 r) ∧ r ≤ C ∧ -1 ≤ r ∧ (0 ≤ r → WeiP t L) ∧ Below wr.heap.size wr w') :=
          Calls.mono (szPlan_any fo m fc t.name t.cron t.fr t.up t.cu t.tasks t.paused t.cursor t.floor C wr hav ⟨hft.name, hft.cron, by rw [← HM.out]; exact hft.few, hft.small⟩ hC0 (by omega)) (fun e w' ⟨r, h1, h2, h3, h4, h5⟩ => ⟨r, h1, h2, h3, fun h => (h4 h).more (by omega), h5⟩)
        clear ht HE hav hft HR
        go_wp2_with fail
        refine HC.out.mono ?_
        rintro e w1 ⟨r, rfl, hr1, hr2, hr3, hb1⟩
        have HR3 : Hid (0 ≤ r → WeiP t L) := hr3
        have hbel2 := Below.on hbel hb1
        clear hr3 hbel hb1 HC
        by_cases hd : r < 0
        · go_wp2
          go_ret
          exact ⟨_, rfl, by omega, by omega, fun h => by omega, hbel2⟩
        · have hd2 : 0 ≤ r := by omega
          have HE3 := HE2.out (HR3.out hd2)
          go_wp2
          go_roundw
          case rel => exact ⟨k + 1, r, by omega, by go_num, rfl, hd2, by omega, HE3, hbel2⟩
          case measure => simp [intOf]; omega
      · go_wp2
        go_ret
        refine ⟨_, rfl, by omega, by omega, fun _ => ⟨by rw [HN.out]; omega, fun t ht => ?_⟩, hbel⟩
        obtain ⟨j, hj, rfl⟩ := List.getElem_of_mem ht
        exact HE.out j _ (by rw [HN.out] at hj; omega) (List.getElem?_eq_getElem hj)
theorem ret_plan {W : World} {b : Nat} {x0 x1 x2 x3 x4 x5 x6 x7 x8 : Value} {fn : Func} {p : Tmp} {tmps : Array Value} (h : fn.results = #[.cell p 70]) (hp : tmps.getD p undef = .pointer (some ⟨b, 0, none⟩)) (hb : B9 70 W b x0 x1 x2 x3 x4 x5 x6 x7 x8) :
    (results fn tmps).run Try.prog W = .ok (.agg #[x0, x1, x2, x3, x4, x5, x6, x7, x8]) W := by
  have hp' : tmps[p]?.getD undef = .pointer (some ⟨b, 0, none⟩) := by simpa using hp
  simp [results, h, hp', hb.c0, hb.c1, hb.c2, hb.c3, hb.c4, hb.c5, hb.c6, hb.c7, hb.c8, asAddr, go_sem]
set_option maxRecDepth 10000 in
set_option maxHeartbeats 8000000 in
theorem toPlan_any (ao : Option Addr) (n cap : Nat) (name cron : ByteArray) (fr up : Int) (cu : Bool) (ts : List Ta) (paused : Bool) (cursor floor : Int) (w : World) (hr : Tasks w (.slice ao n cap) ts) (hn : n ≤ 1048576) (ha : ∀ t ∈ ts, t.after.length ≤ 1048576) :
    Calls Try.prog 46 #[.agg #[.string name, .string cron, .int .i64 fr, .int .i64 up, .bool cu, .slice ao n cap, .bool paused, .int .i64 cursor, .int .i64 floor]] w fun e w' => ∃ (g : Option Addr) (gc : Nat), e = .returned (.agg #[.string name, .string cron, .int .i64 fr, .int .i64 up, .bool cu, .slice g n gc, .bool paused, .int .i64 cursor, .int .i64 floor]) ∧ OnePlB w.heap.size w' ⟨name, cron, fr, up, cu, .slice g n gc, paused, cursor, floor⟩ ⟨name, cron, fr, up, cu, ts, paused, cursor, floor⟩ ∧ Below w.heap.size w w' := by
  have HS : Hid (∀ W, Below w.heap.size w W → Calls Try.prog 65 #[.agg #[.string name, .string cron, .int .i64 fr, .int .i64 up, .bool cu, .slice ao n cap]] W fun e w' => ∃ g, e = .returned (.agg #[.string name, .string cron, .int .i64 fr, .int .i64 up, .bool cu, .slice (some ⟨g, 0, none⟩) n n]) ∧ TasksB W.heap.size w' (.slice (some ⟨g, 0, none⟩) n n) ts ∧ Below W.heap.size W w') := fun W hb => toD_any ao n cap name cron fr up cu ts W (hr.below hb) hn ha
  clear hr ha
  obtain ⟨W0, hW⟩ : ∃ W, ((w.alloc (.cells #[.string name, .string cron, .int .i64 fr, .int .i64 up, .bool cu, .slice ao n cap, .bool paused, .int .i64 cursor, .int .i64 floor] 85)).alloc (.cells #[.string ⟨#[]⟩, .string ⟨#[]⟩, .int .i64 0, .int .i64 0, .bool false, .slice none 0 0, .bool false, .int .i64 0, .int .i64 0] 70)).alloc (.cells #[.string ⟨#[]⟩, .string ⟨#[]⟩, .int .i64 0, .int .i64 0, .bool false, .slice none 0 0, .bool false, .int .i64 0, .int .i64 0] 70) = W := ⟨_, rfl⟩
  have Z0 : B9 85 W0 w.heap.size (.string name) (.string cron) (.int .i64 fr) (.int .i64 up) (.bool cu) (.slice ao n cap) (.bool paused) (.int .i64 cursor) (.int .i64 floor) := by rw [← hW]; exact ((B9.new _ _ _ _ _ _ _ _ _ _ _).alloc _).alloc _
  have Z1 : B9 70 W0 (w.heap.size + 1) (.string ⟨#[]⟩) (.string ⟨#[]⟩) (.int .i64 0) (.int .i64 0) (.bool false) (.slice none 0 0) (.bool false) (.int .i64 0) (.int .i64 0) := by
    rw [← hW]
    have := (B9.new 70 (w.alloc (.cells #[.string name, .string cron, .int .i64 fr, .int .i64 up, .bool cu, .slice ao n cap, .bool paused, .int .i64 cursor, .int .i64 floor] 85)) (.string ⟨#[]⟩) (.string ⟨#[]⟩) (.int .i64 0) (.int .i64 0) (.bool false) (.slice none 0 0) (.bool false) (.int .i64 0) (.int .i64 0)).alloc (.cells #[.string ⟨#[]⟩, .string ⟨#[]⟩, .int .i64 0, .int .i64 0, .bool false, .slice none 0 0, .bool false, .int .i64 0, .int .i64 0] 70)
    simpa using this
  have Z2 : B9 70 W0 (w.heap.size + 1 + 1) (.string ⟨#[]⟩) (.string ⟨#[]⟩) (.int .i64 0) (.int .i64 0) (.bool false) (.slice none 0 0) (.bool false) (.int .i64 0) (.int .i64 0) := by
    rw [← hW]
    have := B9.new 70 ((w.alloc (.cells #[.string name, .string cron, .int .i64 fr, .int .i64 up, .bool cu, .slice ao n cap, .bool paused, .int .i64 cursor, .int .i64 floor] 85)).alloc (.cells #[.string ⟨#[]⟩, .string ⟨#[]⟩, .int .i64 0, .int .i64 0, .bool false, .slice none 0 0, .bool false, .int .i64 0, .int .i64 0] 70)) (.string ⟨#[]⟩) (.string ⟨#[]⟩) (.int .i64 0) (.int .i64 0) (.bool false) (.slice none 0 0) (.bool false) (.int .i64 0) (.int .i64 0)
    simpa using this
  have B0 : Below w.heap.size w W0 := by rw [← hW]; exact ba (ba (ba (Below.refl _ _) _) _) _
  have HW : Hid (((w.alloc (.cells #[.string name, .string cron, .int .i64 fr, .int .i64 up, .bool cu, .slice ao n cap, .bool paused, .int .i64 cursor, .int .i64 floor] 85)).alloc (.cells #[.string ⟨#[]⟩, .string ⟨#[]⟩, .int .i64 0, .int .i64 0, .bool false, .slice none 0 0, .bool false, .int .i64 0, .int .i64 0] 70)).alloc (.cells #[.string ⟨#[]⟩, .string ⟨#[]⟩, .int .i64 0, .int .i64 0, .bool false, .slice none 0 0, .bool false, .int .i64 0, .int .i64 0] 70) = W0) := hW
  clear hW
  have z0 := Z0.c0
  have z1 := Z0.c1
  have z2 := Z0.c2
  have z3 := Z0.c3
  have z4 := Z0.c4
  have z5 := Z0.c5
  go_enter Try.func46, Try.ntmps46
  go_wp2_with fail
  rw [HW.out]
  refine (HS.out W0 B0).mono ?_
  rintro x W1 ⟨g, rfl, ht, hb1⟩
  have Y0 := Z0.up hb1
  have Y1 := Z1.up hb1
  have Y2 := Z2.up hb1
  have B1 := Below.on B0 hb1
  have hlow : w.heap.size + 1 + 1 < W0.heap.size := Z2.lt
  clear HS Z0 Z1 Z2 B0 hb1 HW z0 z1 z2 z3 z4 z5
  obtain ⟨C, HC⟩ : ∃ C, Hid (W0.heap.size = C) := ⟨_, rfl⟩
  rw [HC.out] at hlow ht
  have HO : Hid (TasksB C W1 (.slice (some ⟨g, 0, none⟩) n n) ts) := ht
  clear ht HC
  have lw : w.heap.size ≤ w.heap.size + 1 + 1 := by omega
  have ne : w.heap.size + 1 + 1 ≠ w.heap.size + 1 := by omega
  obtain ⟨W2, hW2⟩ : ∃ W, ((((((((W1.setCell ⟨w.heap.size + 1 + 1, 0, none⟩ (.string name)).setCell ⟨w.heap.size + 1 + 1, 1, none⟩ (.string cron)).setCell ⟨w.heap.size + 1 + 1, 2, none⟩ (.int .i64 fr)).setCell ⟨w.heap.size + 1 + 1, 3, none⟩ (.int .i64 up)).setCell ⟨w.heap.size + 1 + 1, 4, none⟩ (.bool cu)).setCell ⟨w.heap.size + 1 + 1, 5, none⟩ (.slice (some ⟨g, 0, none⟩) n n)).setCell ⟨w.heap.size + 1 + 1, 6, none⟩ (.bool paused)).setCell ⟨w.heap.size + 1 + 1, 7, none⟩ (.int .i64 cursor)).setCell ⟨w.heap.size + 1 + 1, 8, none⟩ (.int .i64 floor) = W := ⟨_, rfl⟩
  have X2 : B9 70 W2 (w.heap.size + 1 + 1) (.string name) (.string cron) (.int .i64 fr) (.int .i64 up) (.bool cu) (.slice (some ⟨g, 0, none⟩) n n) (.bool paused) (.int .i64 cursor) (.int .i64 floor) := by rw [← hW2]; exact ((((((((Y2.s0 _).s1 _).s2 _).s3 _).s4 _).s5 _).s6 _).s7 _).s8 _
  have X1 : B9 70 W2 (w.heap.size + 1) (.string ⟨#[]⟩) (.string ⟨#[]⟩) (.int .i64 0) (.int .i64 0) (.bool false) (.slice none 0 0) (.bool false) (.int .i64 0) (.int .i64 0) := by rw [← hW2]; exact ((((((((Y1.far (by exact ne) _).far (by exact ne) _).far (by exact ne) _).far (by exact ne) _).far (by exact ne) _).far (by exact ne) _).far (by exact ne) _).far (by exact ne) _).far (by exact ne) _
  have HX : Hid (TasksB C W2 (.slice (some ⟨g, 0, none⟩) n n) ts) := by
    rw [← hW2]
    refine HO.out.high (by simp) fun k hk => ?_
    have hne : k ≠ w.heap.size + 1 + 1 := by omega
    rw [heap_setCell_other _ ⟨w.heap.size + 1 + 1, 8, none⟩ k _ hne, heap_setCell_other _ ⟨w.heap.size + 1 + 1, 7, none⟩ k _ hne, heap_setCell_other _ ⟨w.heap.size + 1 + 1, 6, none⟩ k _ hne, heap_setCell_other _ ⟨w.heap.size + 1 + 1, 5, none⟩ k _ hne, heap_setCell_other _ ⟨w.heap.size + 1 + 1, 4, none⟩ k _ hne, heap_setCell_other _ ⟨w.heap.size + 1 + 1, 3, none⟩ k _ hne, heap_setCell_other _ ⟨w.heap.size + 1 + 1, 2, none⟩ k _ hne, heap_setCell_other _ ⟨w.heap.size + 1 + 1, 1, none⟩ k _ hne, heap_setCell_other _ ⟨w.heap.size + 1 + 1, 0, none⟩ k _ hne]
  have BX : Below w.heap.size w W2 := by
    rw [← hW2]
    exact Below.setCell (Below.setCell (Below.setCell (Below.setCell (Below.setCell (Below.setCell (Below.setCell (Below.setCell (Below.setCell B1 lw _) lw _) lw _) lw _) lw _) lw _) lw _) lw _) lw _
  have y0 := Y2.c0
  have v0 := Y2.fr 0
  have y1 := Y2.c1
  have v1 := Y2.fr 1
  have y2 := Y2.c2
  have v2 := Y2.fr 2
  have y3 := Y2.c3
  have v3 := Y2.fr 3
  have y4 := Y2.c4
  have v4 := Y2.fr 4
  have y5 := Y2.c5
  have v5 := Y2.fr 5
  have y6 := Y2.c6
  have v6 := Y2.fr 6
  have y7 := Y2.c7
  have v7 := Y2.fr 7
  have y8 := Y2.c8
  have v8 := Y2.fr 8
  have a6 := Y0.c6
  have a7 := Y0.c7
  have a8 := Y0.c8
  clear Y0 Y1 Y2 B1 HO
  have p0 := X2.c0
  have p1 := X2.c1
  have p2 := X2.c2
  have p3 := X2.c3
  have p4 := X2.c4
  have p5 := X2.c5
  have p6 := X2.c6
  have p7 := X2.c7
  have p8 := X2.c8
  have r0 := X1.c0
  have s0 := X1.fr 0
  have r1 := X1.c1
  have s1 := X1.fr 1
  have r2 := X1.c2
  have s2 := X1.fr 2
  have r3 := X1.c3
  have s3 := X1.fr 3
  have r4 := X1.c4
  have s4 := X1.fr 4
  have r5 := X1.c5
  have s5 := X1.fr 5
  have r6 := X1.c6
  have s6 := X1.fr 6
  have r7 := X1.c7
  have s7 := X1.fr 7
  have r8 := X1.c8
  have s8 := X1.fr 8
  go_wp2
  have HE := ((((((((X1.s0 (.string name)).s1 (.string cron)).s2 (.int .i64 fr)).s3 (.int .i64 up)).s4 (.bool cu)).s5 (.slice (some ⟨g, 0, none⟩) n n)).s6 (.bool paused)).s7 (.int .i64 cursor)).s8 (.int .i64 floor)
  refine bodyPost_ret (ret_plan rfl rfl HE) rfl ?_
  have lw1 : w.heap.size ≤ w.heap.size + 1 := Nat.le_succ _
  refine ⟨some ⟨g, 0, none⟩, n, rfl, ⟨rfl, rfl, rfl, rfl, rfl, ?_, rfl, rfl, rfl, roomy_full _ _⟩, Below.setCell (Below.setCell (Below.setCell (Below.setCell (Below.setCell (Below.setCell (Below.setCell (Below.setCell (Below.setCell BX lw1 _) lw1 _) lw1 _) lw1 _) lw1 _) lw1 _) lw1 _) lw1 _) lw1 _⟩
  refine (HX.out.high (by simp) fun k hk => ?_).mono (show w.heap.size ≤ C by omega)
  have hne : k ≠ w.heap.size + 1 := by omega
  rw [heap_setCell_other _ ⟨w.heap.size + 1, 8, none⟩ k _ hne, heap_setCell_other _ ⟨w.heap.size + 1, 7, none⟩ k _ hne, heap_setCell_other _ ⟨w.heap.size + 1, 6, none⟩ k _ hne, heap_setCell_other _ ⟨w.heap.size + 1, 5, none⟩ k _ hne, heap_setCell_other _ ⟨w.heap.size + 1, 4, none⟩ k _ hne, heap_setCell_other _ ⟨w.heap.size + 1, 3, none⟩ k _ hne, heap_setCell_other _ ⟨w.heap.size + 1, 2, none⟩ k _ hne, heap_setCell_other _ ⟨w.heap.size + 1, 1, none⟩ k _ hne, heap_setCell_other _ ⟨w.heap.size + 1, 0, none⟩ k _ hne]

set_option maxRecDepth 10000 in
set_option maxHeartbeats 4000000 in
theorem toPlanS_any (ao : Option Addr) (n cap : Nat) (l : List Po) (w : World) (hr : DRow OnePl w (.slice ao n cap) l) (hn : n ≤ 1048576) (ha : ∀ x ∈ l, x.tasks.length ≤ 1048576 ∧ ∀ t ∈ x.tasks, t.after.length ≤ 1048576) :
    Calls Try.prog 20 #[.slice ao n cap] w fun e w' => e = .returned (.slice (some ⟨w.heap.size, 0, none⟩) n n) ∧ DRowB OnePlB w.heap.size w' (.slice (some ⟨w.heap.size, 0, none⟩) n n) l ∧ Below w.heap.size w w' := by
  obtain ⟨i0, hi0, hz0, hz1, hz2⟩ := info_parts infoPl
  have HN : Hid (l.length = n) := hr.len
  have HR : Hid (∀ W, Below w.heap.size w W → DRow OnePl W (.slice ao n cap) l) := fun W hb => hr.below onePl_below hb
  have HA : Hid (∀ x ∈ l, x.tasks.length ≤ 1048576 ∧ ∀ t ∈ x.tasks, t.after.length ≤ 1048576) := ha
  clear hr ha
  go_enter Try.func20, Try.ntmps20
  go_wp2_with (at_make; refine wpList_make_full _ rfl _ _ 29 rfl w.heap.size 70 i0 _ 9 underPl hi0 hz0 hz1 .i64 .i64 _ _ n rfl rfl rfl rfl (by rw [hz2]; omega) (by unfold maxLen; omega) (Nat.le_refl _) ?_; intro w1 ho hg)
  rw [madePl] at ho
  have hS : OnWay OnePlB 70 w w.heap.size n l 0 (List.replicate n default) w1 := by
    refine OnWay.start ?_ ((Below.refl _ w).grown hg (Nat.le_refl _) (fun j hj => by cases hj))
    unfold ownsR
    rw [List.length_replicate]
    exact ho
  clear ho hg
  generalize hB : w.heap.size = B at *
  go_loopw [4] (fun i wr => ∃ (k : Nat) (ks : List Pl), k ≤ n ∧ i = .int .i64 k ∧ Hid (OnWay OnePlB 70 w B n l k ks wr)) (fun i _ => n - (intOf i).toNat)
  case atStart => exact ⟨0, _, Nat.zero_le _, rfl, hS⟩
  case round =>
    clear hS
    obtain ⟨k, ks, hk, rfl, HS⟩ := hrel
    by_cases hlt : k < n
    · obtain ⟨t, ht⟩ : ∃ t, l[k]? = some t := ⟨_, List.getElem?_eq_getElem (by rw [HN.out]; exact hlt)⟩
      have HT : Hid (l[k]? = some t) := ht
      obtain ⟨b', o, av, rfl, hb, c0, c1, c2, c3, c4, c5, c6, c7, c8, hav⟩ := pl_at (C := 0) (HR.out wr (hB ▸ HS.out.bel)) ht
      obtain ⟨fo, fc, rfl⟩ := hav.slice
      obtain ⟨m, HM⟩ : ∃ m, Hid (t.tasks.length = m) := ⟨_, rfl⟩
      have hA := HA.out t (List.mem_of_getElem? ht)
      rw [HM.out] at hav c5
      have HC := (show Hid (Calls Try.prog 46 #[.agg #[.string t.name, .string t.cron, .int .i64 t.fr, .int .i64 t.up, .bool t.cu, .slice fo m fc, .bool t.paused, .int .i64 t.cursor, .int .i64 t.floor]] wr fun e w' => ∃ (g : Option Addr) (gc : Nat), e = .returned (.agg #[.string t.name, .string t.cron, .int .i64 t.fr, .int .i64 t.up, .bool t.cu, .slice g m gc, .bool t.paused, .int .i64 t.cursor, .int .i64 t.floor]) ∧ OnePlB wr.heap.size w' ⟨t.name, t.cron, t.fr, t.up, t.cu, .slice g m gc, t.paused, t.cursor, t.floor⟩ t ∧ Below wr.heap.size wr w') from toPlan_any fo m fc t.name t.cron t.fr t.up t.cu t.tasks t.paused t.cursor t.floor wr hav (by rw [← HM.out]; exact hA.1) hA.2)
      clear ht hav hA
      obtain ⟨hgs, -, -, _⟩ := HS.out.own.at (HS.out.rest k (Nat.le_refl _) hlt)
      go_wp2_with fail
      refine HC.out.mono ?_
      rintro e w2 ⟨g, gc, rfl, hone, hb2⟩
      have HS2 : Hid (OnWay OnePlB 70 w B n l k ks w2) := HS.out.up keepsPl hb2
      have hwr : B + 1 ≤ wr.heap.size := by omega
      have HP : Hid (OnWay OnePlB 70 w B n l (k + 1) (ks.set k ⟨t.name, t.cron, t.fr, t.up, t.cu, .slice g m gc, t.paused, t.cursor, t.floor⟩) (putPl w2 B k ⟨t.name, t.cron, t.fr, t.up, t.cu, .slice g m gc, t.paused, t.cursor, t.floor⟩)) :=
        HS2.out.put keepsPl hlt HT.out _ (keepsPl.mono _ _ _ _ _ hone hwr) (pl_put HS2.out.own _ (HS2.out.rest k (Nat.le_refl _) hlt)) (Nat.le_of_eq (putPl_size _ _ _ _).symm) (fun j hj => putPl_other _ _ _ _ hj) (below_putPl HS2.out.bel (Nat.le_refl _) _ _)
      obtain ⟨hgs2, -, -, hat⟩ := HS2.out.own.at (HS2.out.rest k (Nat.le_refl _) hlt)
      have d0 : w2.cell? ⟨B, k * 9, none⟩ = some (.string ⟨#[]⟩) := (hat 0 (by decide)).1
      have f0 : w2.frozen? ⟨B, k * 9, none⟩ = false := (hat 0 (by decide)).2
      have d1 : w2.cell? ⟨B, k * 9 + 1, none⟩ = some (.string ⟨#[]⟩) := (hat 1 (by decide)).1
      have f1 : w2.frozen? ⟨B, k * 9 + 1, none⟩ = false := (hat 1 (by decide)).2
      have d2 : w2.cell? ⟨B, k * 9 + 2, none⟩ = some (.int .i64 0) := (hat 2 (by decide)).1
      have f2 : w2.frozen? ⟨B, k * 9 + 2, none⟩ = false := (hat 2 (by decide)).2
      have d3 : w2.cell? ⟨B, k * 9 + 3, none⟩ = some (.int .i64 0) := (hat 3 (by decide)).1
      have f3 : w2.frozen? ⟨B, k * 9 + 3, none⟩ = false := (hat 3 (by decide)).2
      have d4 : w2.cell? ⟨B, k * 9 + 4, none⟩ = some (.bool false) := (hat 4 (by decide)).1
      have f4 : w2.frozen? ⟨B, k * 9 + 4, none⟩ = false := (hat 4 (by decide)).2
      have d5 : w2.cell? ⟨B, k * 9 + 5, none⟩ = some (.slice none 0 0) := (hat 5 (by decide)).1
      have f5 : w2.frozen? ⟨B, k * 9 + 5, none⟩ = false := (hat 5 (by decide)).2
      have d6 : w2.cell? ⟨B, k * 9 + 6, none⟩ = some (.bool false) := (hat 6 (by decide)).1
      have f6 : w2.frozen? ⟨B, k * 9 + 6, none⟩ = false := (hat 6 (by decide)).2
      have d7 : w2.cell? ⟨B, k * 9 + 7, none⟩ = some (.int .i64 0) := (hat 7 (by decide)).1
      have f7 : w2.frozen? ⟨B, k * 9 + 7, none⟩ = false := (hat 7 (by decide)).2
      have d8 : w2.cell? ⟨B, k * 9 + 8, none⟩ = some (.int .i64 0) := (hat 8 (by decide)).1
      have f8 : w2.frozen? ⟨B, k * 9 + 8, none⟩ = false := (hat 8 (by decide)).2
      clear hat HS HS2 HC hone hb2 c0 c1 c2 c3 c4 c5 c6 c7 c8
      go_wp2
      go_roundw
      case rel => exact ⟨k + 1, _, by omega, by go_num, HP⟩
      case measure => simp [intOf]; omega
    · have hkn : k = n := by omega
      subst hkn
      go_wp2
      go_ret
      subst hB
      exact ⟨rfl, HS.out.all keepsPl HN.out, HS.out.bel⟩
set_option maxRecDepth 10000 in
set_option maxHeartbeats 2000000 in
theorem eqPlan_any (ao bo : Option Addr) (n c d : Nat) (name cron : ByteArray) (fr up : Int) (cu : Bool) (ts : List Ta) (paused : Bool) (cursor floor : Int) (w : World) (ha : Tasks w (.slice ao n c) ts) (hb : Tasks w (.slice bo n d) ts) (hn : n ≤ 1048577) (hs : ∀ t ∈ ts, t.after.length ≤ 1048577) :
    Calls Try.prog 53 #[.agg #[.string name, .string cron, .int .i64 fr, .int .i64 up, .bool cu, .slice ao n c, .bool paused, .int .i64 cursor, .int .i64 floor], .agg #[.string name, .string cron, .int .i64 fr, .int .i64 up, .bool cu, .slice bo n d, .bool paused, .int .i64 cursor, .int .i64 floor]] w fun e w' => e = .returned (.bool true) ∧ Below w.heap.size w w' := by
  have HE : Hid (∀ W, Below w.heap.size w W → Calls Try.prog 72 #[.agg #[.string name, .string cron, .int .i64 fr, .int .i64 up, .bool cu, .slice ao n c], .agg #[.string name, .string cron, .int .i64 fr, .int .i64 up, .bool cu, .slice bo n d]] W fun e w' => e = .returned (.bool true) ∧ Below W.heap.size W w') := fun W h => eqD_any name cron fr up cu ao bo n c d ts W (ha.below h) (hb.below h) hn hs
  clear ha hb
  obtain ⟨W1, hW1⟩ : ∃ W1, (w.alloc (.cells #[.string name, .string cron, .int .i64 fr, .int .i64 up, .bool cu, .slice ao n c, .bool paused, .int .i64 cursor, .int .i64 floor] 70)).alloc (.cells #[.string name, .string cron, .int .i64 fr, .int .i64 up, .bool cu, .slice bo n d, .bool paused, .int .i64 cursor, .int .i64 floor] 70) = W1 := ⟨_, rfl⟩
  have Z1 : B9 70 W1 w.heap.size (.string name) (.string cron) (.int .i64 fr) (.int .i64 up) (.bool cu) (.slice ao n c) (.bool paused) (.int .i64 cursor) (.int .i64 floor) := by rw [← hW1]; exact (B9.new _ _ _ _ _ _ _ _ _ _ _).alloc _
  have Z2 : B9 70 W1 (w.heap.size + 1) (.string name) (.string cron) (.int .i64 fr) (.int .i64 up) (.bool cu) (.slice bo n d) (.bool paused) (.int .i64 cursor) (.int .i64 floor) := by
    rw [← hW1]
    have := B9.new 70 (w.alloc (.cells #[.string name, .string cron, .int .i64 fr, .int .i64 up, .bool cu, .slice ao n c, .bool paused, .int .i64 cursor, .int .i64 floor] 70)) (.string name) (.string cron) (.int .i64 fr) (.int .i64 up) (.bool cu) (.slice bo n d) (.bool paused) (.int .i64 cursor) (.int .i64 floor)
    simpa using this
  have B1 : Below w.heap.size w W1 := by rw [← hW1]; exact ba (ba (Below.refl _ _) _) _
  have c0 := Z1.c0
  have c1 := Z1.c1
  have c2 := Z1.c2
  have c3 := Z1.c3
  have c4 := Z1.c4
  have c5 := Z1.c5
  have d0 := Z2.c0
  have d1 := Z2.c1
  have d2 := Z2.c2
  have d3 := Z2.c3
  have d4 := Z2.c4
  have d5 := Z2.c5
  go_enter Try.func53, Try.ntmps53
  go_wp2_with fail
  refine (HE.out _ B1).mono ?_
  rintro e w2 ⟨rfl, hb2⟩
  have Y1 := Z1.up hb2
  have Y2 := Z2.up hb2
  have B2 := Below.on B1 hb2
  clear c0 d0 c1 d1 c2 d2 c3 d3 c4 d4 c5 d5 Z1 Z2 B1 hb2 hW1
  have c6 := Y1.c6
  have c7 := Y1.c7
  have c8 := Y1.c8
  have d6 := Y2.c6
  have d7 := Y2.c7
  have d8 := Y2.c8
  go_wp2
  go_ret
  exact ⟨rfl, B2⟩
set_option maxRecDepth 10000 in
set_option maxHeartbeats 2000000 in
theorem eqPlanS_any (ao bo : Option Addr) (n c d : Nat) (l : List Po) (w : World) (ha : DRow OnePl w (.slice ao n c) l) (hb : DRow OnePl w (.slice bo n d) l) (hn : n ≤ 1048577) (hs : ∀ x ∈ l, x.tasks.length ≤ 1048577 ∧ ∀ t ∈ x.tasks, t.after.length ≤ 1048577) :
    Calls Try.prog 25 #[.slice ao n c, .slice bo n d] w fun e w' => e = .returned (.bool true) ∧ Below w.heap.size w w' := by
  have HN : Hid (l.length = n) := ha.len
  have HA : Hid (DRow OnePl w (.slice ao n c) l) := ha
  have HB : Hid (DRow OnePl w (.slice bo n d) l) := hb
  have HS : Hid (∀ x ∈ l, x.tasks.length ≤ 1048577 ∧ ∀ t ∈ x.tasks, t.after.length ≤ 1048577) := hs
  clear ha hb hs
  go_enter Try.func25, Try.ntmps25
  go_wp2
  go_loopw [5] (fun i wr => ∃ k : Nat, k ≤ n ∧ i = .int .i64 k ∧ Below w.heap.size w wr) (fun i _ => n - (intOf i).toNat)
  case atStart => exact ⟨0, Nat.zero_le _, rfl, Below.refl _ _⟩
  case round =>
    obtain ⟨k, hk, rfl, hbel⟩ := hrel
    by_cases hlt : k < n
    · obtain ⟨t, ht⟩ : ∃ t, l[k]? = some t := ⟨_, List.getElem?_eq_getElem (by rw [HN.out]; exact hlt)⟩
      obtain ⟨a, oa, av, rfl, hga, a0, a1, a2, a3, a4, a5, a6, a7, a8, hav⟩ := pl_at (C := 0) (HA.out.below onePl_below hbel) ht
      obtain ⟨b, ob, bv, rfl, hgb, b0, b1, b2, b3, b4, b5, b6, b7, b8, hbv⟩ := pl_at (C := 0) (HB.out.below onePl_below hbel) ht
      obtain ⟨fo, fc, rfl⟩ := hav.slice
      obtain ⟨ho, hc, rfl⟩ := hbv.slice
      have hm0 := HS.out t (List.mem_of_getElem? ht)
      obtain ⟨m, HM⟩ : ∃ m, Hid (t.tasks.length = m) := ⟨_, rfl⟩
      rw [HM.out] at hav hbv a5 b5 hm0
      have H1 : Hid (∀ x : Wd wr, Calls Try.prog 53 #[.agg #[.string t.name, .string t.cron, .int .i64 t.fr, .int .i64 t.up, .bool t.cu, .slice fo m fc, .bool t.paused, .int .i64 t.cursor, .int .i64 t.floor], .agg #[.string t.name, .string t.cron, .int .i64 t.fr, .int .i64 t.up, .bool t.cu, .slice ho m hc, .bool t.paused, .int .i64 t.cursor, .int .i64 t.floor]] x.at' fun e w' => e = .returned (.bool true) ∧ Below x.at'.heap.size x.at' w') := fun x => eqPlan_any _ _ _ _ _ t.name t.cron t.fr t.up t.cu t.tasks t.paused t.cursor t.floor x.at' (hav.below x.ok) (hbv.below x.ok) hm0.1 hm0.2
      clear ht hav hbv
      have q0 := Wd.cell a0
      have q1 := Wd.cell a1
      have q2 := Wd.cell a2
      have q3 := Wd.cell a3
      have q4 := Wd.cell a4
      have q5 := Wd.cell a5
      have q6 := Wd.cell a6
      have q7 := Wd.cell a7
      have q8 := Wd.cell a8
      have r0 := Wd.cell b0
      have r1 := Wd.cell b1
      have r2 := Wd.cell b2
      have r3 := Wd.cell b3
      have r4 := Wd.cell b4
      have r5 := Wd.cell b5
      have r6 := Wd.cell b6
      have r7 := Wd.cell b7
      have r8 := Wd.cell b8
      go_wp2
      refine wp_region_wd (by kernel_rfl) (by kernel_rfl) ?_
      repeat (go_big_quiet_step ((go_at_call 53; refine calls_wd (v := .bool true) ?_; with_reducible exact H1.out _)))
      refine wpQuiet_nil ?_
      rintro _ ⟨x, rfl⟩
      have BX := Below.on hbel x.ok
      clear q0 r0 a0 b0 q1 r1 a1 b1 q2 r2 a2 b2 q3 r3 a3 b3 q4 r4 a4 b4 q5 r5 a5 b5 q6 r6 a6 b6 q7 r7 a7 b7 q8 r8 a8 b8 H1
      go_wp2
      go_roundw
      case rel => exact ⟨k + 1, by omega, by go_num, BX⟩
      case measure => simp [intOf]; omega
    · go_wp2
      go_ret
      exact ⟨rfl, hbel⟩
end Go.Proofs.Ytkfhmeiiicidaaa
