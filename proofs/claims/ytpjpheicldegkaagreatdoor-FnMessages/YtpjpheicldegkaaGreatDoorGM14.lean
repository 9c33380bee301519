/- Draw2,Ll,Dtx -/
import Derived.Test.YtpjpheicldegkaaGreatDoorGM9
import Derived.Test.YtpjpheicldegkaaGreatDoorLk
import Derived.Test.YtpjpheicldegkaaGreatDoorGM13
namespace Go.Proofs.YtpjpheicldegkaaGreatDoor
open Go.RowKit

set_option maxHeartbeats 400000 in
theorem qxa (g : Nat) (n : Int) (w : World) (hd : Drw w g) (h0 : 0 < n) (h1 : n ≤ 9223372036854775807) :
    Calls Tryz.prog 69 #[.pointer (some ⟨g, 0, none⟩), .int .i64 n] w fun e w' => ∃ b : Bool, e = .returned (.bool b) ∧ Drw w' g ∧ Save g w w' := by
  go_enter Tryz.func69, Tryz.ntmps69
  go_wp2_with (go_at_call 41; refine (qga g n _ hd h0 h1).mono ?_; rintro e w1 ⟨x, rfl, hx0, hx1, hd1, hs1⟩)
  go_ret
  exact ⟨_, rfl, hd1, hs1⟩

def IntsAt (w : World) (g r n : Nat) : Prop := r ≠ g ∧ ∀ j, j < n → ∃ z : Int, -9223372036854775808 ≤ z ∧ z ≤ 9223372036854775807 ∧ w.cell? ⟨r, j, none⟩ = some (.int .i64 z)
set_option maxHeartbeats 400000 in
theorem pickInt_any (g r n cap : Nat) (w : World) (hd : Drw w g) (h0 : 0 < n) (h1 : n ≤ 1000000) (hr : IntsAt w g r n) (hlt : r < w.heap.size) :
    Calls Tryz.prog 42 #[.pointer (some ⟨g, 0, none⟩), .slice (some ⟨r, 0, none⟩) n cap] w fun e w' => ∃ z : Int, e = .returned (.int .i64 z) ∧ -9223372036854775808 ≤ z ∧ z ≤ 9223372036854775807 ∧ Drw w' g ∧ Save g w w' := by
  go_enter Tryz.func42, Tryz.ntmps42
  go_wp2_with (go_at_call 41; refine (qga g n _ hd (by omega) (by omega)).mono ?_; rintro e w1 ⟨x, rfl, hx0, hx1, hd1, hs1⟩; obtain ⟨k, rfl⟩ := Int.eq_ofNat_of_zero_le hx0; obtain ⟨z, hz0, hz1, hz⟩ := hr.2 k (by omega); have hz2 : w1.cell? ⟨r, k, none⟩ = some (.int .i64 z) := (by rw [cell_block (w := w) (hs1.block r hlt hr.1)]; exact hz))
  go_ret
  exact ⟨z, rfl, hz0, hz1, hd1, hs1⟩

theorem qnb (g : Nat) (zs : List Int) (w0 w : World) (hd : Drw w g) (hs : Save g w0 w) (h0 : 0 < zs.length) (h1 : zs.length ≤ 1000000) (hz : ∀ z ∈ zs, -9223372036854775808 ≤ z ∧ z ≤ 9223372036854775807) (cs : Array Value) (hcs : cs = (zs.map (Value.int .i64)).toArray) (n : Nat) (hn : n = zs.length) :
    Calls Tryz.prog 42 #[.pointer (some ⟨g, 0, none⟩), .slice (some ⟨w.heap.size, 0, none⟩) n n] (w.alloc (.cells cs 3)) fun e w' => ∃ z : Int, e = .returned (.int .i64 z) ∧ -9223372036854775808 ≤ z ∧ z ≤ 9223372036854775807 ∧ Drw w' g ∧ Save g w0 w' := by
  have hg := hd.lt
  subst hn hcs
  refine (pickInt_any g w.heap.size zs.length zs.length _ (hd.keep ((Below.refl _ _).alloc (by omega) _)) h0 h1 ⟨by omega, fun j hj => ?_⟩ (by simp)).mono fun _ _ ⟨x, h1, h2, h3, h4, h5⟩ => ⟨x, h1, h2, h3, h4, (hs.alloc _).trans h5⟩
  have := hz zs[j] (List.getElem_mem hj)
  exact ⟨zs[j], this.1, this.2, by simp [hj]⟩

theorem ownsB.slice {w : World} {B : Nat} {e : TypeId} {r n cap : Nat} {l : List Int} (h : ownsB w B e (.slice (some ⟨r, 0, none⟩) n cap) l) : n = l.length := by
  obtain ⟨_, h2⟩ := h
  rcases h2 with ⟨h, _⟩ | ⟨r', cap', cur, hv, _⟩
  · simp at h
  · simp only [Value.slice.injEq] at hv
    exact hv.2.1
set_option maxHeartbeats 1000000 in
theorem long_any (n : Nat) (x : Int) (w : World) (hn : n ≤ 1000000) (h0 : 0 < n) :
    Calls Tryz.prog 44 #[.int .i64 n, .int .u8 x] w fun e w' => ∃ t : ByteArray, e = .returned (.string t) ∧ t.size = n ∧ Below w.heap.size w w' := by
  obtain ⟨i0, hi0, hz0, hz1, hz2⟩ := info_parts info5
  go_enter Tryz.func44, Tryz.ntmps44
  go_wp2_with (at_make; refine wpList_make_full _ rfl _ _ 22 rfl w.heap.size 5 i0 (.int .u8 0) 1 Tryz.underlying22 hi0 hz0 hz1 _ _ _ _ n rfl rfl rfl rfl ?m1 ?m2 ?m3 ?_)
  case m1 => rw [hz2]; omega
  case m2 => unfold maxLen; omega
  case m3 => omega
  intro w1 hown0 hgr0
  have hown1 : ownsB w1 w.heap.size 5 (.slice (some ⟨w.heap.size, 0, none⟩) n n) (List.replicate n 0) := by
    unfold ownsB
    rw [List.length_replicate, List.map_replicate]
    have h2 : w1.ownsRow w.heap.size 5 1 (.slice (some ⟨w.heap.size, 0, none⟩) n n) n (madeCells #[Value.int IntKind.u8 0] n).toList := hown0
    rw [toList_madeCells_one] at h2
    exact h2
  have hbel0 : Below w.heap.size w w1 := (Below.refl _ _).grown hgr0 (Nat.le_refl _) (fun k hk => by cases hk)
  clear hown0 hgr0 hi0 hz0 hz1 hz2
  go_wp2
  go_loopw [6] (fun i wr => ∃ (k : Nat) (l : List Int), k ≤ n ∧ i = .int .i64 k ∧ l.length = n ∧ ownsB wr w.heap.size 5 (.slice (some ⟨w.heap.size, 0, none⟩) n n) l ∧ Below w.heap.size w wr) (fun i _ => n - (intOf i).toNat)
  case atStart => exact ⟨0, _, Nat.zero_le _, rfl, List.length_replicate, hown1, hbel0⟩
  case round =>
    obtain ⟨k, l, hk, rfl, hl, hown, hbel⟩ := hrel
    clear hown1 hbel0
    by_cases hlt : k < n
    · have ho : wr.ownsRow w.heap.size 5 1 (.slice (some ⟨w.heap.size, 0, none⟩) n n) n (l.map (Value.int .u8)) := by have h := hown; unfold ownsB at h; rw [hl] at h; exact h
      have hck : wr.cell? ⟨w.heap.size, k, none⟩ = some (.int .u8 (l[k]'(by omega))) := by
        rw [World.ownsRow.cellAt ho k (by omega)]
        simp [hl, hlt]
      have hfk := World.ownsRow.frozenAt ho k
      have hst := (World.ownsRow.stored ho k (.int .u8 x)).1
      rw [← List.map_set] at hst
      clear hown ho
      go_wp2
      go_roundw
      case rel => exact ⟨k + 1, l.set k x, by omega, by go_num, by simp [hl], (by unfold ownsB; rw [List.length_set, hl]; exact hst), hbel.setCell (Nat.le_refl _) _⟩
      case measure => simp [intOf]; omega
    · have hcv := qdb (P := Tryz.prog) 22 9 hown Tryz.underlying22 Tryz.underlying5 Tryz.underlying9
      clear hown
      go_wp2
      go_ret
      exact ⟨_, rfl, by rw [show (bstr l).size = l.length by simp [bstr, ByteArray.size]]; exact hl, hbel⟩

end Go.Proofs.YtpjpheicldegkaaGreatDoor

namespace Go.Proofs.YtpjpheicldegkaaGreatDoor
open Go Go.RowKit

def lastI (s : Int) (l : List En) : Int := if l.length = 0 then s else wrap64 (s + l.length)
def lastT (t : Int) (l : List En) : Int := (l.getLast?.map En.term).getD t
theorem lastT_at {t : Int} {l : List En} {k : Nat} {f : En} (h : l.length = k + 1) (hf : l[k]? = some f) : lastT t l = f.term := by
  unfold lastT
  rw [List.getLast?_eq_getElem?, h, Nat.add_sub_cancel, hf]
  rfl

set_option maxRecDepth 10000 in
set_option maxHeartbeats 1000000 in
theorem logLast_try (s t : Int) (ao : Option Addr) (n c : Nat) (l : List En) (w : World) (hr : Reads w (.slice ao n c) l) (hn : n ≤ 1048577) :
    Calls Tryz.prog 155 #[.agg #[.int .i64 s, .int .i64 t, .slice ao n c]] w fun e w' => e = .returned (.tuple #[.int .i64 (lastI s l), .int .i64 (lastT t l)]) ∧ Below w.heap.size w w' := by
  have hN := hr.len
  have HR : Hid (Reads w (.slice ao n c) l) := hr
  clear hr
  cases n with
  | zero =>
    have hl : l = [] := List.eq_nil_of_length_eq_zero hN.symm
    subst hl
    clear hN
    show Calls Tryz.prog 155 _ w fun e w' => e = .returned (.tuple #[.int .i64 s, .int .i64 t]) ∧ Below w.heap.size w w'
    go_enter Tryz.func155, Tryz.ntmps155
    go_wp2
    go_quiet (fail)
    go_wp2
    go_ret2
    exact ⟨rfl, bdrewN (ba (Below.refl _ _) _) _⟩
  | succ k =>
    obtain ⟨f, hf⟩ : ∃ f, l[k]? = some f := ⟨_, List.getElem?_eq_getElem (by omega)⟩
    have HI : Hid (lastI s l = wrap64 (s + (k + 1 : Nat))) := by show lastI s l = _; unfold lastI; rw [if_neg (by omega), ← hN]
    have HT : Hid (lastT t l = f.term) := lastT_at hN.symm hf
    rw [HI.out, HT.out]
    obtain ⟨b, o, rfl, hb, c0, c1, c2⟩ := en_at HR.out hf
    clear hf hN c1 c2
    have d0 : (w.alloc (.cells #[.int .i64 s, .int .i64 t, .slice (some ⟨b, o, none⟩) (k + 1) c] 67)).cell? ⟨b, o + k * 3, none⟩ = some (.int .i64 f.term) := qia (ba (Below.refl _ _) _) c0
    have e1 : ((k + 1 : Nat) : Int) - 1 = (k : Int) := by omega
    go_enter Tryz.func155, Tryz.ntmps155
    go_wp2
    go_quiet (fail)
    go_wp2
    go_ret2
    exact ⟨rfl, bdrewN (ba (Below.refl _ _) _) _⟩
theorem logLast_any {s t : Int} {w : World} {v : Value} {l : List En} (hr : Reads w v l) (hn : l.length ≤ 1048577) :
    Calls Tryz.prog 155 #[.agg #[.int .i64 s, .int .i64 t, v]] w fun e w' => e = .returned (.tuple #[.int .i64 (lastI s l), .int .i64 (lastT t l)]) ∧ Below w.heap.size w w' := by
  obtain ⟨ao, c, rfl, _⟩ := id hr
  exact logLast_try s t ao _ c l w hr hn
def hasL (s : Int) (n : Nat) (i : Int) : Bool := decide (s ≤ i) && decide (i ≤ s + n)
end Go.Proofs.YtpjpheicldegkaaGreatDoor

namespace Go.Proofs.YtpjpheicldegkaaGreatDoor
open Go Go.RowKit

def joinP (l : List ByteArray) : Nat → ByteArray
  | 0 => ⟨#[]⟩
  | k + 1 => (if k = 0 then joinP l k else joinP l k ++ ⟨#[44]⟩) ++ (l[k]?).getD ⟨#[]⟩
def joinS (l : List ByteArray) : ByteArray := joinP l l.length
theorem joinP_size {l : List ByteArray} (h : ∀ s ∈ l, s.size ≤ 8) : ∀ k, k ≤ l.length → (joinP l k).size ≤ 9 * k
  | 0, _ => by show 0 ≤ _; omega
  | k + 1, hk => by
    have ih := joinP_size h k (by omega)
    have hx := h _ (List.getElem_mem (show k < l.length by omega))
    unfold joinP
    rw [List.getElem?_eq_getElem (by omega), ByteArray.size_append]
    show _ + (l[k]).size ≤ _
    split
    · omega
    · rw [ByteArray.size_append]
      have : (ByteArray.mk #[44]).size = 1 := rfl
      omega
set_option maxHeartbeats 1000000 in
theorem l12Join_any {w : World} {v : Value} {l : List ByteArray} (hr : Reads w v l) (hn : l.length ≤ 1048576) (hs : ∀ s ∈ l, s.size ≤ 8) :
    Calls Tryz.prog 128 #[v] w fun e w' => e = .returned (.string (joinS l)) ∧ w' = w := by
  obtain ⟨ao, cap, rfl, -⟩ := id hr
  have HR : Hid (Reads w (.slice ao l.length cap) l) := hr
  have HS : Hid (∀ s ∈ l, s.size ≤ 8) := hs
  have HJ : Hid (joinS l = joinP l l.length) := rfl
  clear hr hs
  obtain ⟨n, HN⟩ : ∃ n, Hid (l.length = n) := ⟨_, rfl⟩
  rw [HN.out] at hn HR HJ ⊢
  go_enter Tryz.func128, Tryz.ntmps128
  go_wp2
  go_loopw [3, 4] (fun t i wr => ∃ (k : Nat) (y : ByteArray), k ≤ n ∧ i = .int .i64 k ∧ t = .string y ∧ Hid (joinP l k = y) ∧ y.size ≤ 9 * k ∧ wr = w) (fun _ i _ => n - (intOf i).toNat)
  case atStart => exact ⟨0, ⟨#[]⟩, Nat.zero_le _, rfl, rfl, rfl, Nat.zero_le _, rfl⟩
  case round =>
    obtain ⟨k, y, hk, rfl, rfl, HY, hy9, rfl⟩ := hrel
    by_cases hlt : k < n
    · obtain ⟨x, hx⟩ : ∃ x, l[k]? = some x := ⟨_, List.getElem?_eq_getElem (by rw [HN.out]; exact hlt)⟩
      have hx8 := HS.out x (List.mem_of_getElem? hx)
      have HX : Hid (joinP l (k + 1) = (if k = 0 then y else y ++ ⟨#[44]⟩) ++ x) := by show joinP l (k + 1) = _; rw [joinP, hx, HY.out]; rfl
      have HZ : Hid ((joinP l (k + 1)).size ≤ 9 * (k + 1)) := joinP_size HS.out (k + 1) (by rw [HN.out]; omega)
      obtain ⟨b, o, rfl, hb, c0⟩ := qka HR.out hx
      clear hx
      rcases Nat.eq_zero_or_pos k with hk0 | hk0
      · have HX2 : Hid (joinP l (k + 1) = y ++ x) := HX.out.trans (by rw [if_pos hk0])
        have HZ2 : Hid ((y ++ x).size ≤ 9 * (k + 1)) := by show _ ≤ _; rw [← HX2.out]; exact HZ.out
        subst hk0
        rw [Nat.add_zero] at c0
        go_wp2
        go_roundw
        case rel => exact ⟨0 + 1, y ++ x, by omega, by go_num, rfl, HX2, HZ2.out, trivial⟩
        case measure => simp [intOf]; omega
      · have HX2 : Hid (joinP l (k + 1) = y ++ ⟨#[44]⟩ ++ x) := HX.out.trans (by rw [if_neg (by omega)])
        have HZ2 : Hid ((y ++ ⟨#[44]⟩ ++ x).size ≤ 9 * (k + 1)) := by show _ ≤ _; rw [← HX2.out]; exact HZ.out
        have z1 : (y ++ ⟨#[44]⟩).size = y.size + 1 := by rw [ByteArray.size_append]; rfl
        go_wp2
        go_roundw
        case rel => exact ⟨k + 1, y ++ ⟨#[44]⟩ ++ x, by omega, by go_num, rfl, HX2, HZ2.out, trivial⟩
        case measure => simp [intOf]; omega
    · have hkn : k = n := by omega
      have HF : Hid (joinS l = y) := by show joinS l = y; rw [HJ.out, ← hkn]; exact HY.out
      go_wp2
      go_ret
      exact ⟨by rw [HF.out]; rfl, rfl⟩

def headS (d : Dg) : ByteArray := (⟨#[100, 97, 103, 32]⟩ ++ d.name ++ ⟨#[10, 99, 114, 111, 110, 32]⟩ ++ d.cron ++ ⟨#[10, 102, 114, 111, 109, 32]⟩ ++ bstr (decI d.fr.toNat) ++ ⟨#[10, 116, 111, 32]⟩ ++ bstr (decI d.up.toNat) ++ ⟨#[10]⟩) ++ (if d.cu then ⟨#[99, 97, 116, 99, 104, 117, 112, 10]⟩ else ⟨#[108, 97, 116, 101, 115, 116, 10]⟩)
def baseL (s : ByteArray) (t : Ta) : ByteArray := s ++ ⟨#[116, 97, 115, 107, 32]⟩ ++ t.name ++ ⟨#[32]⟩ ++ t.pool ++ ⟨#[32]⟩ ++ bstr (decI t.ret.toNat) ++ (if t.past then ⟨#[32, 112, 97, 115, 116]⟩ else ⟨#[32, 102, 114, 101, 101]⟩)
def lineS (s : ByteArray) (t : Ta) : ByteArray := (if 0 < t.after.length then baseL s t ++ ⟨#[32]⟩ ++ joinS t.after else baseL s t) ++ ⟨#[10]⟩
def dagP (d : Dg) : List Ta → ByteArray → ByteArray
  | [], s => s
  | t :: r, s => dagP d r (lineS s t)
def dagS (d : Dg) : ByteArray := dagP d d.tasks (headS d)
def dagX (d : Dg) : ByteArray := if dagB d then dagS d else ⟨#[]⟩
theorem dagP_at {d : Dg} {s : ByteArray} {ts : List Ta} {i : Nat} {t : Ta} (h : ts[i]? = some t) : dagP d (ts.drop i) s = dagP d (ts.drop (i + 1)) (lineS s t) := by
  obtain ⟨hk, rfl⟩ := List.getElem?_eq_some_iff.1 h
  rw [List.drop_eq_getElem_cons hk]
  rfl
theorem tasksB_mem {ts : List Ta} : ∀ (r : List Ta) (i : Nat), qje ts i r = true → ∀ t ∈ r, ∃ k, taskB ts k t = true
  | [], _, _, t, ht => by cases ht
  | x :: r, i, h, t, ht => by
    unfold qje at h
    rw [Bool.and_eq_true] at h
    rcases List.mem_cons.1 ht with rfl | ht
    · exact ⟨i, h.1⟩
    · exact tasksB_mem r (i + 1) h.2 t ht
theorem atG_some {s : ByteArray} : ∀ (l : List Ta) (k : Nat), 0 ≤ atG s k l → ∃ t ∈ l, t.name = s
  | [], _, h => by simp [atG] at h
  | t :: r, k, h => by
    unfold atG at h
    split at h
    · rename_i e; exact ⟨t, List.mem_cons_self .., e⟩
    · obtain ⟨x, hx, e⟩ := atG_some r (k + 1) h
      exact ⟨x, List.mem_cons_of_mem _ hx, e⟩
theorem afterB_mem {ts : List Ta} {nm : ByteArray} : ∀ (l : List ByteArray) (p : Option ByteArray), qvd ts nm p l = true → ∀ s ∈ l, 0 ≤ atN ts s
  | [], _, _, s, hs => by cases hs
  | x :: r, p, h, s, hs => by
    unfold qvd at h
    simp only [Bool.and_eq_true, decide_eq_true_eq] at h
    rcases List.mem_cons.1 hs with rfl | hs
    · exact h.1.1
    · exact afterB_mem r (some x) h.2 s hs
theorem nameB_size {s : ByteArray} (h : nameB s = true) : s.size ≤ 8 := by
  unfold nameB at h
  simp only [Bool.and_eq_true, decide_eq_true_eq] at h
  exact h.1.2
theorem pool_size {s : ByteArray} (h : poolN s ≠ 0) : s.size ≤ 4 := by
  unfold poolN at h
  split at h
  · subst s; decide
  · split at h
    · subst s; decide
    · split at h
      · subst s; decide
      · exact absurd rfl h
structure FineT (t : Ta) : Prop where
  name : t.name.size ≤ 8
  pool : t.pool.size ≤ 4
  r0 : 0 ≤ t.ret
  r1 : t.ret ≤ 3
  after : ∀ s ∈ t.after, s.size ≤ 8
theorem dag_fine {d : Dg} (h : dagB d = true) : d.name.size ≤ 8 ∧ 0 ≤ d.fr ∧ d.fr ≤ 68374079 ∧ 0 ≤ d.up ∧ d.up ≤ 68374079 ∧ d.tasks.length ≤ 4 ∧ ∀ t ∈ d.tasks, FineT t := by
  unfold dagB at h
  simp only [Bool.and_eq_true, decide_eq_true_eq] at h
  obtain ⟨h1, _, _, h4, h5, h6, h7, _⟩ := h
  have key : ∀ t ∈ d.tasks, nameB t.name = true ∧ poolN t.pool ≠ 0 ∧ (0 ≤ t.ret ∧ t.ret ≤ 3) ∧ qvd d.tasks t.name none t.after = true := by
    intro t ht
    obtain ⟨k, hk⟩ := tasksB_mem d.tasks 0 h7 t ht
    unfold taskB at hk
    simp only [Bool.and_eq_true, decide_eq_true_eq, Bool.not_eq_true', decide_eq_false_iff_not] at hk
    exact ⟨hk.1, hk.2.2.1, hk.2.2.2.1, hk.2.2.2.2⟩
  refine ⟨nameB_size h1, h5.1, by omega, h4.1, h4.2, by omega, fun t ht => ?_⟩
  obtain ⟨k1, k2, k3, k4⟩ := key t ht
  refine ⟨nameB_size k1, pool_size k2, k3.1, k3.2, fun s hs => ?_⟩
  obtain ⟨x, hx, rfl⟩ := atG_some d.tasks 0 (afterB_mem _ _ k4 s hs)
  exact nameB_size (key x hx).1
theorem dec_size {n : Int} (h : n ≤ 1000000000) : (bstr (decI n.toNat)).size ≤ 10 := by rw [qra]; exact decI_len 9 _ (by omega)
end Go.Proofs.YtpjpheicldegkaaGreatDoor
