/-
  Small facts of my own, over any program: texts as lists of numbers; a row of bytes that a call owns; its text.
-/
import Derived.WalkKit
import Derived.Laws.IdiomStrings
namespace Go.Proofs.Ytehkebdncfljmaa
open Go Go.RowKit

/-- The text whose bytes are these numbers. -/
def bstr (l : List Int) : ByteArray := ⟨(l.map fun n => UInt8.ofNat n.toNat).toArray⟩

theorem foldl_push_bstr : ∀ (l : List Int) (r : ByteArray), l.foldl (fun r n => r.push (UInt8.ofNat n.toNat)) r = ⟨r.data ++ (l.map fun n => UInt8.ofNat n.toNat).toArray⟩
  | [], r => by simp
  | n :: l, r => by
    simp only [List.foldl_cons]
    rw [foldl_push_bstr l]
    simp [ByteArray.push]

/-- A row of bytes that the call owns. -/
def ownsB (w : World) (B : Nat) (e : TypeId) (v : Value) (l : List Int) : Prop := w.ownsRow B e 1 v l.length (l.map (Value.int .u8))

theorem run_own_string {P : Program} {w : World} {B : Nat} {e : TypeId} {v : Value} {l : List Int} (src dst : TypeId) (h : ownsB w B e v l)
    (hs : P.underlying src = some (.slice e)) (he : P.underlying e = some (.int .u8)) (hd : P.underlying dst = some .string) :
    (convert src dst v).run P w = .ok (.string (bstr l)) w := by
  obtain ⟨h1, h2⟩ := h
  rcases h2 with ⟨rfl, hn⟩ | ⟨g, cap, cur, rfl, hb, hg, hc1, hc2, hc3, hc4⟩
  · have : l = [] := by simpa using hn
    subst this
    rw [run_convert_bytes_string w src dst e none 0 0 hs he hd]
    rfl
  · rw [run_convert_bytes_string w src dst e _ _ _ hs he hd]
    have hl := run_loadCells_list (P := P) w ⟨g, 0, none⟩ (l.map (Value.int .u8)) (fun j u hj => by
      rw [← hc4] at hj
      have hj' : j < l.length := by
        have := (List.getElem?_eq_some_iff.1 hj).1
        simp at this
        omega
      rw [List.getElem?_take_of_lt (by omega)] at hj
      have hj2 : cur[j]? = some u := by simpa using hj
      by_cases h0 : j = 0
      · subst h0; simp [World.cell?, Addr.add, hg, hj2]
      · simp [World.cell?, Addr.add, h0, hg, hj2])
    simp only [List.length_map] at hl
    rw [run_bytesToString w ⟨g, 0, none⟩ l.length cap l hl, foldl_push_bstr]
    have he0 : ByteArray.empty.data = #[] := rfl
    rw [he0]
    simp [bstr]

theorem ownsB_made (w : World) (B cap : Nat) (e : TypeId) (cur : Array Value) (hb : B ≤ w.heap.size) (hm : cap ≤ maxLen) (hs : cur.size = cap) :
    ownsB (w.alloc (.cells cur e)) B e (.slice (some ⟨w.heap.size, 0, none⟩) 0 cap) [] :=
  World.ownsRow_made w cur cap hb hm (by omega)

theorem ownsB.alloc {w : World} {B : Nat} {e : TypeId} {v : Value} {l : List Int} (h : ownsB w B e v l) (o : Obj) : ownsB (w.alloc o) B e v l := World.ownsRow.alloc h o

/-- One byte more behind a row of bytes that the call owns. -/
theorem wpList_append_byte {P : Program} (w w0 : World) {ops : Array Oper} {rest : List Oper} {o : Oper} {a : Act} {Q : Exit → Act → World → Prop} (hgd : o.guard = none) (s x : Operand) (t : TypeId)
    (ho : o.op = .call { callee := .builtin .append, args := #[s, x], argTypes := #[t, t] })
    (B : Nat) (e : TypeId) (ht : P.underlying t = some (.slice e)) (hi : (P.info? e).map (fun i => (i.zero, i.size, i.bytes)) = some (some (.int .u8 0), 1, 1))
    (v : Value) (l : List Int) (hs : a.eval s = v) (hown : ownsB w B e v l) (hbel : Below B w0 w)
    (ad : Addr) (c : Nat) (n : Int) (hx : a.eval x = .slice (some ad) 1 c) (hc : w.cell? ad = some (.int .u8 n))
    (hlen : l.length < 140737488355328) (hB : B ≤ w.heap.size)
    (h : ∀ v' w', ownsB w' B e v' (l ++ [n]) → Below B w0 w' → wpList P ops Q rest (a.put o.dst v') w') : wpList P ops Q (o :: rest) a w := by
  obtain ⟨i0, hi0, hz0, hz1, hz2⟩ := info_parts hi
  refine wpList_append_own w hgd s x t ho B e i0 (.int .u8 0) 1 1 ht hi0 hz0 hz1 hz2 rfl (by decide) v l.length _ hs hown ad 1 c [.int .u8 n] hx rfl ?_ ?_ (by unfold maxLen; omega) (by omega) hB ?_
  · intro j u hj
    match j, hj with
    | 0, hj => simp at hj; subst hj; simpa [Addr.add] using hc
  · intro u hu; simp at hu; subst hu; rfl
  · intro v' w' h1 h2 _
    refine h v' w' (by simpa [ownsB] using h1) (hbel.grown h2 hB fun k hk => (hown.lt k hk).1)

/-- The bytes of a number, seven bits a byte, the lowest first. -/
def varF : Nat → Nat → List Int
  | 0, n => [(n : Int)]
  | f + 1, n => if 127 < n then ((n : Int) % 128 + 128) :: varF f (n / 128) else [(n : Int)]
def varI (n : Nat) : List Int := varF n n

theorem varF_enough : ∀ (f g n : Nat), n ≤ f → n ≤ g → varF f n = varF g n
  | 0, 0, n, _, _ => rfl
  | 0, g + 1, n, h, _ => by have : n = 0 := by omega
                            subst this; simp [varF]
  | f + 1, 0, n, _, h => by have : n = 0 := by omega
                            subst this; simp [varF]
  | f + 1, g + 1, n, h1, h2 => by
    unfold varF
    by_cases h : 127 < n
    · rw [if_pos h, if_pos h, varF_enough f g (n / 128) (by omega) (by omega)]
    · rw [if_neg h, if_neg h]

theorem varI_more {n : Nat} (h : 127 < n) : varI n = ((n : Int) % 128 + 128) :: varI (n / 128) := by
  unfold varI
  match n, h with
  | k + 1, h =>
    rw [varF, if_pos h, varF_enough k ((k + 1) / 128) _ (by omega) (by omega)]
theorem varI_last {n : Nat} (h : ¬ 127 < n) : varI n = [(n : Int)] := by
  unfold varI
  match n, h with
  | 0, _ => rfl
  | k + 1, h => rw [varF, if_neg h]

end Go.Proofs.Ytehkebdncfljmaa
