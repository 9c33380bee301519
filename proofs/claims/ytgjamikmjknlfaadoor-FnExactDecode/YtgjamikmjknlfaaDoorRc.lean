/-
  A conf read from its text: the walks.
-/
import Derived.Test.YtgjamikmjknlfaaDoorCt
namespace Go.Proofs.YtgjamikmjknlfaaDoor
open Go Go.RowKit

/-- The bytes of a text as numbers. -/
def bytesI (s : ByteArray) : List Int := s.toList.map fun b => (b.toNat : Int)
theorem bytesI_length (s : ByteArray) : (bytesI s).length = s.size := by
  unfold bytesI
  rw [List.length_map, ByteArray.toList_eq]
  exact Array.length_toList
theorem bytesI_at {s : ByteArray} {k : Nat} (h : k < s.size) : (bytesI s)[k]? = some (s[k].toNat : Int) := by
  unfold bytesI
  rw [ByteArray.toList_eq, List.getElem?_map, Array.getElem?_toList]
  have h' : k < s.data.size := h
  rw [Array.getElem?_eq_getElem h']
  rfl
/-- The conf that is read, and whether there is one. -/
def okT (s : ByteArray) : Bool := okC (bytesI s)
def confT (s : ByteArray) : List Int := if okT s then bytesI s else []
theorem okT_long {s : ByteArray} (h : 4 < s.size) : okT s = false := okC_long (by rw [bytesI_length]; exact h)
theorem confT_no {s : ByteArray} (h : okT s = false) : confT s = [] := by simp [confT, h]
theorem confT_yes {s : ByteArray} (h : okT s = true) : confT s = bytesI s := by simp [confT, h]
theorem confT_len (s : ByteArray) : (confT s).length ≤ 4 := by
  cases h : okT s with
  | false => rw [confT_no h]; simp
  | true => rw [confT_yes h]; exact okC_len h

/-- One number more behind a row that the call owns. -/
theorem cells_int {b : Nat} {x : Int} {w : World} (h : w.cell? ⟨b, 0, none⟩ = some (.int .i64 x)) : ∀ j u, (Rec.cells x)[j]? = some u → w.cell? ⟨b, j, none⟩ = some u ∧ u.oneCell' = true := by
  intro j u hj
  match j, hj with
  | 0, hj =>
    have : Value.int .i64 x = u := by simpa [Rec.cells] using hj
    subst this
    exact ⟨h, rfl⟩
theorem ownsN_made (w : World) (B cap : Nat) (cur : Array Value) (hb : B ≤ w.heap.size) (hm : cap ≤ maxLen) (hs : cur.size = cap) :
    ownsR (w.alloc (.cells cur 3)) B 3 (.slice (some ⟨w.heap.size, 0, none⟩) 0 cap) ([] : List Int) :=
  World.ownsRow_made w cur cap hb hm (by simp [Rec.width]; omega)

set_option maxHeartbeats 1000000 in
theorem readConf_any (s : ByteArray) (w : World) (hs : s.size ≤ maxLen) :
    Calls Tryd.prog 84 #[.string s] w fun e w' => ∃ v, e = .returned (.tuple #[v, .bool (okT s)]) ∧ ownsR w' w.heap.size 3 v (confT s) ∧ Below w.heap.size w w' := by
  unfold maxLen at hs
  have hmk : ∀ w, (Instr.makeSlice 23 (.int .i64 0) (.int .i64 4)).run Tryd.prog w = .ok (.slice (some ⟨w.heap.size, 0, none⟩) 0 4) (w.alloc (.cells #[.int .i64 0, .int .i64 0, .int .i64 0, .int .i64 0] 3)) := fun _ => by kernel_rfl
  by_cases h4 : (4 : Int) < (s.size : Int)
  · have HF : Hid (okT s = false) := okT_long (by omega)
    go_enter Tryd.func84, Tryd.ntmps84
    go_wp2
    go_ret2
    rw [HF.out, confT_no HF.out]
    exact ⟨_, rfl, ownsN_made _ _ _ _ (Nat.le_refl _) (by decide) rfl, (Below.refl _ _).alloc (Nat.le_refl _) _⟩
  · obtain ⟨l, HB⟩ : ∃ l, Hid (bytesI s = l) := ⟨_, rfl⟩
    have HL : Hid (l.length = s.size) := by show l.length = s.size; rw [← HB.out]; exact bytesI_length s
    go_enter Tryd.func84, Tryd.ntmps84
    go_wp2
    go_loopw [4, 5] (fun out i wr => ∃ k : Nat, k ≤ s.size ∧ i = .int .i64 k ∧ ownsR wr w.heap.size 3 out (l.take k) ∧ Below w.heap.size w wr) (fun _ i _ => s.size - (intOf i).toNat)
    case atStart => exact ⟨0, Nat.zero_le _, rfl, ownsN_made _ _ _ _ (Nat.le_refl _) (by decide) rfl, (Below.refl _ _).alloc (Nat.le_refl _) _⟩
    case round =>
      obtain ⟨k, hk, rfl, hown, hbel⟩ := hrel
      have hsz := hbel.size
      by_cases hlt : k < s.size
      · have HT : Hid (l.take (k + 1) = l.take k ++ [(s[k].toNat : Int)]) := take_snoc (by rw [← HB.out]; exact bytesI_at hlt)
        have hlen : (l.take k).length ≤ 4 := by simp; omega
        have hb8 : s[k].toNat < 256 := s[k].toNat_lt
        go_wp2_with (at_builtin; refine wpList_append_rec _ w rfl (.tmp 17) (.tmp 22) 23 rfl w.heap.size 3 _ 8 Tryd.underlying23 info3 rfl _ (l.take k) rfl (hown.alloc _) (hbel.alloc hsz _) wr.heap.size 1 (s[k].toNat : Int) rfl ?c1 ?c2 ?c3 ?c4 ?_)
        case c1 => exact cells_int (by simp)
        case c2 => omega
        case c3 => omega
        case c4 => simp; omega
        intro v' w2 hown2 hbel2 _
        clear hown hbel
        rw [← HT.out] at hown2
        go_wp2
        go_roundw
        case rel => exact ⟨k + 1, by omega, by go_num, hown2, hbel2⟩
        case measure => simp [intOf]; omega
      · have hkn : k = l.length := by rw [HL.out]; omega
        have hown2 := hown
        rw [hkn, List.take_length] at hown2
        have HO : Hid (ownsR wr w.heap.size 3 _ l) := hown2
        clear hown hown2 hkn
        have hC := confOk_any HO.out.reads (by rw [HL.out]; omega)
        cases hq : okC l with
        | true =>
          have HQ : Hid (okT s = true) := by show okC (bytesI s) = true; rw [HB.out]; exact hq
          rw [hq] at hC
          go_wp2_with (go_at_call 59; refine hC.mono ?_; rintro e w3 ⟨rfl, hb3⟩)
          go_ret2
          rw [HQ.out, confT_yes HQ.out, HB.out]
          exact ⟨_, rfl, HO.out.all hb3, hbel.trans (hb3.mono hsz)⟩
        | false =>
          have HQ : Hid (okT s = false) := by show okC (bytesI s) = false; rw [HB.out]; exact hq
          rw [hq] at hC
          go_wp2_with (go_at_call 59; refine hC.mono ?_; rintro e w3 ⟨rfl, hb3⟩)
          go_ret2
          rw [HQ.out, confT_no HQ.out]
          have hb4 := hbel.trans (hb3.mono hsz)
          exact ⟨_, rfl, ownsN_made _ _ _ _ hb4.size (by decide) rfl, hb4.alloc hb4.size _⟩
end Go.Proofs.YtgjamikmjknlfaaDoor
