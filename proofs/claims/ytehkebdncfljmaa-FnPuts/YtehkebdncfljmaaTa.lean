/-
  Tasks of a plan as they lie there, and where a name stands among them: the walk.
-/
import Derived.Test.YtehkebdncfljmaaNam
import Derived.Test.YtehkebdncfljmaaRb
import Derived.Test.YtehkebdncfljmaaNl
namespace Go.Proofs.Ytehkebdncfljmaa
open Go Go.RowKit

instance : Rec ByteArray := ⟨1, fun s => [.string s], fun _ => rfl, by decide⟩
theorem text_at {w : World} {ao : Option Addr} {n cap : Nat} {l : List ByteArray} (h : Reads w (.slice ao n cap) l) {k : Nat} {x : ByteArray} (hk : l[k]? = some x) :
    ∃ b o, ao = some ⟨b, o, none⟩ ∧ b < w.heap.size ∧ w.cell? ⟨b, o + k, none⟩ = some (.string x) := by
  obtain ⟨b, o, rfl, hlt, hc⟩ := h.at hk
  have := hc 0 _ rfl
  rw [show o + k * Rec.width ByteArray + 0 = o + k by show o + k * 1 + 0 = _; omega] at this
  exact ⟨b, o, rfl, hlt, this⟩
/-- A task as it lies there. -/
structure Tk where
  name : ByteArray
  pool : ByteArray
  ret : Int
  past : Bool
  after : Value
instance : Rec Tk := ⟨5, fun t => [.string t.name, .string t.pool, .int .i64 t.ret, .bool t.past, t.after], fun _ => rfl, by decide⟩
theorem tk_at {w : World} {ao : Option Addr} {n cap : Nat} {l : List Tk} (h : Reads w (.slice ao n cap) l) {k : Nat} {x : Tk} (hk : l[k]? = some x) :
    ∃ b o, ao = some ⟨b, o, none⟩ ∧ b < w.heap.size ∧ w.cell? ⟨b, o + k * 5, none⟩ = some (.string x.name) ∧ w.cell? ⟨b, o + k * 5 + 1, none⟩ = some (.string x.pool) ∧ w.cell? ⟨b, o + k * 5 + 2, none⟩ = some (.int .i64 x.ret) ∧ w.cell? ⟨b, o + k * 5 + 3, none⟩ = some (.bool x.past) ∧ w.cell? ⟨b, o + k * 5 + 4, none⟩ = some x.after := by
  obtain ⟨b, o, rfl, hlt, hc⟩ := h.at hk
  exact ⟨b, o, rfl, hlt, hc 0 _ rfl, hc 1 _ rfl, hc 2 _ rfl, hc 3 _ rfl, hc 4 _ rfl⟩
/-- A task, plain. -/
structure Ta where
  name : ByteArray
  pool : ByteArray
  ret : Int
  past : Bool
  after : List ByteArray
/-- One task reads as a plain one. -/
structure OneT (w : World) (k : Tk) (t : Ta) : Prop where
  name : k.name = t.name
  pool : k.pool = t.pool
  ret : k.ret = t.ret
  past : k.past = t.past
  after : Reads w k.after t.after
/-- A row of tasks reads as plain ones. -/
def Tasks (w : World) (v : Value) (l : List Ta) : Prop := ∃ ks : List Tk, Reads w v ks ∧ ks.length = l.length ∧ ∀ (i : Nat) (t : Ta), l[i]? = some t → ∃ k : Tk, ks[i]? = some k ∧ OneT w k t
theorem Tasks.below {w w' : World} {v : Value} {l : List Ta} (h : Tasks w v l) (hb : Below w.heap.size w w') : Tasks w' v l := by
  obtain ⟨ks, h1, h2, h3⟩ := h
  refine ⟨ks, h1.below hb, h2, fun i t ht => ?_⟩
  obtain ⟨k, hk, ho⟩ := h3 i t ht
  exact ⟨k, hk, ho.name, ho.pool, ho.ret, ho.past, ho.after.below hb⟩
theorem Tasks.slice {w : World} {v : Value} {l : List Ta} (h : Tasks w v l) : ∃ ao cap, v = .slice ao l.length cap := by
  obtain ⟨ks, h1, h2, _⟩ := h
  obtain ⟨ao, cap, rfl, _⟩ := id h1
  exact ⟨ao, cap, by rw [h2]⟩
theorem Tasks.at {w : World} {ao : Option Addr} {n cap : Nat} {l : List Ta} (h : Tasks w (.slice ao n cap) l) {k : Nat} {t : Ta} (ht : l[k]? = some t) :
    ∃ b o av, ao = some ⟨b, o, none⟩ ∧ b < w.heap.size ∧ w.cell? ⟨b, o + k * 5, none⟩ = some (.string t.name) ∧ w.cell? ⟨b, o + k * 5 + 1, none⟩ = some (.string t.pool) ∧ w.cell? ⟨b, o + k * 5 + 2, none⟩ = some (.int .i64 t.ret) ∧ w.cell? ⟨b, o + k * 5 + 3, none⟩ = some (.bool t.past) ∧ w.cell? ⟨b, o + k * 5 + 4, none⟩ = some av ∧ Reads w av t.after := by
  obtain ⟨ks, h1, h2, h3⟩ := h
  obtain ⟨x, hx, ho⟩ := h3 k t ht
  obtain ⟨b, o, rfl, hlt, c0, c1, c2, c3, c4⟩ := tk_at h1 hx
  rw [ho.name] at c0
  rw [ho.pool] at c1
  rw [ho.ret] at c2
  rw [ho.past] at c3
  exact ⟨b, o, x.after, rfl, hlt, c0, c1, c2, c3, c4, ho.after⟩
/-- Where a name stands. -/
def atG (s : ByteArray) : Nat → List Ta → Int
  | _, [] => -1
  | k, t :: r => if t.name = s then (k : Int) else atG s (k + 1) r
def atN (l : List Ta) (s : ByteArray) : Int := atG s 0 l
theorem atG_at {s : ByteArray} {l : List Ta} {k : Nat} {t : Ta} (h : l[k]? = some t) : atG s k (l.drop k) = if t.name = s then (k : Int) else atG s (k + 1) (l.drop (k + 1)) := by
  obtain ⟨hk, rfl⟩ := List.getElem?_eq_some_iff.1 h
  rw [List.drop_eq_getElem_cons hk]
  rfl
theorem atG_end {s : ByteArray} {l : List Ta} {k : Nat} (h : k = l.length) : atG s k (l.drop k) = -1 := by
  subst h
  rw [List.drop_length]
  rfl
theorem atG_bd (s : ByteArray) : ∀ (l : List Ta) (k : Nat), -1 ≤ atG s k l ∧ atG s k l < k + l.length + 1
  | [], k => by simp [atG]; omega
  | t :: r, k => by
    have := atG_bd s r (k + 1)
    unfold atG
    simp only [List.length_cons]
    split <;> omega
set_option maxHeartbeats 1000000 in
theorem l12At_any {w : World} {v : Value} {l : List Ta} (s : ByteArray) (hr : Tasks w v l) (hn : l.length ≤ 1048577) :
    Calls Try.prog 100 #[v, .string s] w fun e w' => e = .returned (.int .i64 (atN l s)) ∧ w' = w := by
  obtain ⟨ao, cap, rfl⟩ := hr.slice
  have HR : Hid (Tasks w (.slice ao l.length cap) l) := hr
  clear hr
  obtain ⟨n, HN⟩ : ∃ n, Hid (l.length = n) := ⟨_, rfl⟩
  rw [HN.out] at hn
  rw [HN.out] at HR ⊢
  go_enter Try.func100, Try.ntmps100
  go_wp2
  go_loopw [5] (fun i wr => ∃ k : Nat, k ≤ n ∧ i = .int .i64 k ∧ Hid (atN l s = atG s k (l.drop k)) ∧ wr = w) (fun i _ => n - (intOf i).toNat)
  case atStart => exact ⟨0, Nat.zero_le _, rfl, (by show atN l s = atG s 0 (l.drop 0); rw [List.drop_zero]; rfl), rfl⟩
  case round =>
    obtain ⟨k, hk, rfl, HE, rfl⟩ := hrel
    by_cases hlt : k < n
    · obtain ⟨t, ht⟩ : ∃ t, l[k]? = some t := ⟨_, List.getElem?_eq_getElem (by rw [HN.out]; exact hlt)⟩
      obtain ⟨b, o, av, rfl, hb, c0, _, _, _, _, _⟩ := HR.out.at ht
      by_cases hq : t.name = s
      · have HF : Hid (atN l s = k) := HE.out.trans (by rw [atG_at ht, if_pos hq])
        have hq2 := eq_list hq
        clear ht
        go_wp2
        go_ret
        exact ⟨by rw [HF.out]; rfl, rfl⟩
      · have HF : Hid (atN l s = atG s (k + 1) (l.drop (k + 1))) := HE.out.trans (by rw [atG_at ht, if_neg hq])
        have hq2 := ne_list hq
        clear ht
        go_wp2
        go_roundw
        case rel => exact ⟨k + 1, by omega, by go_num, HF, trivial⟩
        case measure => simp [intOf]; omega
    · have HF : Hid (atN l s = -1) := HE.out.trans (atG_end (by rw [HN.out]; omega))
      go_wp2
      go_ret
      exact ⟨by rw [HF.out]; rfl, rfl⟩
end Go.Proofs.Ytehkebdncfljmaa
