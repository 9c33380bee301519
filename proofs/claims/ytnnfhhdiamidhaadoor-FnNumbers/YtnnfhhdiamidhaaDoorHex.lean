/-
  Figures of sixteen: the walks of what writes them.
-/
import Derived.Test.YtnnfhhdiamidhaaDoorRvs
import Derived.Deep.RegionHeldLaw

namespace Go.Proofs.YtnnfhhdiamidhaaDoor
open Go.RowKit

theorem ownsB.drew {w : World} {B : Nat} {e : TypeId} {v : Value} {l : List Int} (h : ownsB w B e v l) : ownsB w.drew B e v l := World.ownsRow.drew h

/-- Bytes more behind a row of bytes that the call owns, as one step of a region that draws its order. -/
theorem step_append_bytes {P : Program} {ops : Array Oper} {o : Oper} {a : Act} {w : World} {K : Act → World → Prop} {Q : Exit → Act → World → Prop} {E : Prop}
    (hg : o.guard = none) (s x : Operand) (t : TypeId) (hop : o.op = Op.call { callee := Callee.builtin Builtin.append, args := #[s, x], argTypes := #[t, t] })
    (B : Nat) (e : TypeId) (ht : P.underlying t = some (.slice e)) (hi : (P.info? e).map (fun i => (i.zero, i.size, i.bytes)) = some (some (.int .u8 0), 1, 1))
    (v : Value) (l : List Int) (hs : a.eval s = v) (w0 : World) (ad : Addr) (m c : Nat) (ns : List Int) (hm : ns.length = m) (hx : a.eval x = .slice (some ad) m c)
    (hown : ownsB w B e v l) (hbel : Below B w0 w) (hc : ∀ j u, (ns.map (Value.int .u8))[j]? = some u → w.cell? (ad.add j) = some u)
    (hlen : l.length + m ≤ 140737488355328) (hB : B ≤ w.heap.size)
    (hK : ∀ v' w', ownsB w' B e v' (l ++ ns) → Below B w0 w' → K (a.put o.dst v') w') :
    if Region.wanted o (yielded ops a.tmps) = true then Oper.wp P o a w K Q else E := by
  have hw : Region.wanted o (yielded ops a.tmps) = true := by simp [Region.wanted, hg]
  rw [if_pos hw]
  subst hm
  obtain ⟨i0, hi0, hz0, hz1, hz2⟩ := info_parts hi
  obtain ⟨v', w', hrun, r1, r2, _⟩ := run_append_own (P := P) w B t o.type e i0 (.int .u8 0) 1 1 ht hi0 hz0 hz1 hz2 rfl (by decide) v l.length _ hown ad ns.length c (ns.map (Value.int .u8)) (by simp) hc
    (fun u hu => by simp at hu; obtain ⟨n, _, rfl⟩ := hu; rfl) (by unfold maxLen; omega) (by omega) hB
  unfold Oper.wp
  simp [execOp, hop, resolve, invoke, builtin, hs, hx, hrun, Result.andThen]
  exact hK v' w' (by simpa [ownsB] using r1) (hbel.grown r2 hB fun k hk => (hown.lt k hk).1)

/-- The figure of a number below sixteen. -/
def fig (x : Int) : Int := if x < 10 then 48 + x else 87 + x

/-- The figures of the first k bytes. -/
def hexTo (s : ByteArray) : Nat → List Int
  | 0 => []
  | k + 1 => hexTo s k ++ [fig (((s.data.toList.getD k 0).toNat : Int) / 16), fig (((s.data.toList.getD k 0).toNat : Int) % 16)]
theorem hexTo_length (s : ByteArray) : ∀ k, (hexTo s k).length = 2 * k
  | 0 => rfl
  | k + 1 => by simp [hexTo, hexTo_length s k]; omega
theorem byteAt (s : ByteArray) (k : Nat) (h : k < s.size) : s.data.toList.getD k 0 = s[k] := by
  have h2 : k < s.data.toList.length := by simpa using h
  rw [List.getD_eq_getElem?_getD, List.getElem?_eq_getElem h2]
  rfl

theorem index_fig (q : Int) (h0 : 0 ≤ q) (h1 : q < 16) (wx : World) :
    (Instr.index 9 (.string { data := #[48, 49, 50, 51, 52, 53, 54, 55, 56, 57, 97, 98, 99, 100, 101, 102] }) (.int .u8 q)).run Tryd.prog wx = .ok (.int .u8 (fig q)) wx := by
  obtain ⟨n, rfl⟩ := Int.eq_ofNat_of_zero_le h0
  have hn : n < 16 := by omega
  clear h0 h1
  rcases (show n = 0 ∨ n = 1 ∨ n = 2 ∨ n = 3 ∨ n = 4 ∨ n = 5 ∨ n = 6 ∨ n = 7 ∨ n = 8 ∨ n = 9 ∨ n = 10 ∨ n = 11 ∨ n = 12 ∨ n = 13 ∨ n = 14 ∨ n = 15 by omega) with h | h | h | h | h | h | h | h | h | h | h | h | h | h | h | h <;> subst h <;> rfl

theorem two_cells (w : World) (x y : Int) (e : TypeId) : ∀ (j : Nat) (u : Value), ([x, y].map (Value.int .u8))[j]? = some u →
    ((w.alloc (.cells #[.int .u8 x, .int .u8 y] e)).drew).cell? (Addr.add ⟨w.heap.size, 0, none⟩ j) = some u := by
  intro j u hj
  match j, hj with
  | 0, hj => simp at hj; subst hj; simp [Addr.add]
  | 1, hj => simp at hj; subst hj; simp [Addr.add]

set_option maxHeartbeats 1000000 in
set_option maxRecDepth 100000 in
theorem hex_ok (s : ByteArray) (w : World) (hs : s.size ≤ 20000) :
    Calls Tryd.prog 13 #[.string s] w fun e w' => e = .returned (.tuple #[.string (bstr (hexTo s s.size)), .bool true]) ∧ Below w.heap.size w w' := by
  obtain ⟨i0, hi0, hz0, hz1, hz2⟩ := info_parts info5
  go_enter Tryd.func13, Tryd.ntmps13
  go_wp2_with (at_make; refine wpList_make_own _ rfl _ _ 22 rfl w.heap.size 5 i0 (.int .u8 0) 1 Tryd.underlying22 hi0 hz0 hz1 _ _ _ (2 * s.size) rfl rfl (by omega) ?m1 ?m2 ?m3 ?_)
  case m1 => rw [hz2]; omega
  case m2 => unfold maxLen; omega
  case m3 => omega
  intro w1 hown0 hgr0
  have hown1 : ownsB w1 w.heap.size 5 (.slice (some ⟨w.heap.size, 0, none⟩) 0 (2 * s.size)) [] := hown0
  have hbel0 : Below w.heap.size w w1 := (Below.refl _ _).grown hgr0 (Nat.le_refl _) (fun k hk => by cases hk)
  clear hown0 hgr0 hi0 hz0 hz1 hz2
  go_wp2
  go_loopw [4, 5] (fun out i wr => ∃ k : Nat, k ≤ s.size ∧ i = .int .i64 k ∧ ownsB wr w.heap.size 5 out (hexTo s k) ∧ Below w.heap.size w wr) (fun _ i _ => s.size - (intOf i).toNat)
  case atStart => exact ⟨0, Nat.zero_le _, rfl, hown1, hbel0⟩
  case round =>
    obtain ⟨k, hk, rfl, hown, hbel⟩ := hrel
    clear hown1 hbel0
    have hsz := hbel.size
    have hl := hexTo_length s k
    have HL : Hid ((hexTo s k).length = 2 * k) := hl
    clear hl
    by_cases hlt : k < s.size
    · have h256 := s[k].toNat_lt
      have hi1 := index_fig ((s[k].toNat : Int) / 16) (by omega) (by omega)
      have hi2 := index_fig ((s[k].toNat : Int) % 16) (by omega) (by omega)
      have hw1 : IntKind.u8.wrap ((s[k].toNat : Int) / 16) = (s[k].toNat : Int) / 16 := by go_arith
      have hw2 : (s[k].toNat : Int).tmod 16 = (s[k].toNat : Int) % 16 := Int.tmod_eq_emod_of_nonneg (by omega)
      go_wp2
      go_region_held_law (fun _ => True) (trivial) ((refine step_append_bytes rfl (.tmp 23) (.tmp 30) 22 rfl w.heap.size 5 Tryd.underlying22 info5 _ (hexTo s k) rfl w ⟨wr.heap.size, 0, none⟩ 2 2 [fig ((s[k].toNat : Int) / 16), fig ((s[k].toNat : Int) % 16)] rfl rfl (hown.alloc _).drew (hbel.alloc hsz _).drew (two_cells wr _ _ 5) (by have := HL.out; omega) (by simp; omega) ?_; intro v2 w2 hown2 hbel2))
      all_goals
        clear hown hbel hi1 hi2 hw1 hw2
        go_wp2
        go_roundw
        case rel => exact ⟨k + 1, by omega, by go_num, by rw [hexTo, byteAt s k hlt]; exact hown2, hbel2⟩
        case measure => simp [intOf]; omega
    · have hks : k = s.size := by omega
      subst hks
      have hcv := run_own_string (P := Tryd.prog) 22 9 hown Tryd.underlying22 Tryd.underlying5 Tryd.underlying9
      clear hown
      go_wp2
      go_ret2
      exact ⟨rfl, hbel⟩

set_option maxHeartbeats 400000 in
theorem hex_bad (s : ByteArray) (w : World) (hs0 : s.size ≤ 9223372036854775807) (hs : 20000 < s.size) :
    Calls Tryd.prog 13 #[.string s] w fun e w' => e = .returned (.tuple #[.string ByteArray.empty, .bool false]) ∧ Below w.heap.size w w' := by
  go_enter Tryd.func13, Tryd.ntmps13
  go_wp2
  go_ret2
  exact ⟨rfl, Below.refl _ _⟩

end Go.Proofs.YtnnfhhdiamidhaaDoor
