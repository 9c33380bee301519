/-
  Figures of sixteen: the walks of what writes them.
-/
import Derived.Test.YtehkebdncfljmaaRvs
import Derived.Deep.RegionHeldLaw

namespace Go.Proofs.Ytehkebdncfljmaa
open Go.RowKit

theorem ownsB.drew {w : World} {B : Nat} {e : TypeId} {v : Value} {l : List Int} (h : ownsB w B e v l) : ownsB w.drew B e v l := World.ownsRow.drew h

/-- Bytes more behind a row of bytes that the call owns, as one step of a region that draws its order. -/
theorem step_append_bytes {P : Program} {ops : Array Oper} {o : Oper} {a : Act} {w : World} {K : Act → World → Prop} {Q : Exit → Act → World → Prop} {E : Prop}
    (hg : o.guard = none) (s x : Operand) (t : TypeId) (hop : o.op = Op.call { callee := Callee.builtin Builtin.append, args := #[s, x], argTypes := #[t, t] })
    (B : Nat) (e : TypeId) (ht : P.underlying t = some (.slice e)) (hi : (P.info? e).map (fun i => (i.zero, i.size, i.bytes)) = some (some (.int .u8 0), 1, 1))
    (v : Value) (l : List Int) (hs : a.eval s = v) (w0 : World) (ad : Addr) (m c : Nat) (ns : List Int) (hm : ns.length = m) (hx : a.eval x = .slice (some ad) m c)
    (hown : ownsB w B e v l) (hbel : Below B w0 w) (hc : ∀ j u, (ns.map (Value.int .u8))[j]? = some u → w.cell? (ad.add j) = some u)
    (hlen : l.length + m ≤ 140737488355328) (hB : B ≤ w.heap.size)
    (hK : ∀ v' w', ownsB w' B e v' (l ++ ns) → Below B w0 w' → K (a.put o.dst v') w') :
    if Region.wanted o (yielded ops a.tmps) = true then Oper.wp P o a w K Q else E := by
  have hw : Region.wanted o (yielded ops a.tmps) = true := by simp [Region.wanted, hg]
  rw [if_pos hw]
  subst hm
  obtain ⟨i0, hi0, hz0, hz1, hz2⟩ := info_parts hi
  obtain ⟨v', w', hrun, r1, r2, _⟩ := run_append_own (P := P) w B t o.type e i0 (.int .u8 0) 1 1 ht hi0 hz0 hz1 hz2 rfl (by decide) v l.length _ hown ad ns.length c (ns.map (Value.int .u8)) (by simp) hc
    (fun u hu => by simp at hu; obtain ⟨n, _, rfl⟩ := hu; rfl) (by unfold maxLen; omega) (by omega) hB
  unfold Oper.wp
  simp [execOp, hop, resolve, invoke, builtin, hs, hx, hrun, Result.andThen]
  exact hK v' w' (by simpa [ownsB] using r1) (hbel.grown r2 hB fun k hk => (hown.lt k hk).1)

/-- The figure of a number below sixteen. -/
def fig (x : Int) : Int := if x < 10 then 48 + x else 87 + x

/-- The figures of the first k bytes. -/
def hexTo (s : ByteArray) : Nat → List Int
  | 0 => []
  | k + 1 => hexTo s k ++ [fig (((s.data.toList.getD k 0).toNat : Int) / 16), fig (((s.data.toList.getD k 0).toNat : Int) % 16)]
theorem hexTo_length (s : ByteArray) : ∀ k, (hexTo s k).length = 2 * k
  | 0 => rfl
  | k + 1 => by simp [hexTo, hexTo_length s k]; omega
theorem byteAt (s : ByteArray) (k : Nat) (h : k < s.size) : s.data.toList.getD k 0 = s[k] := by
  have h2 : k < s.data.toList.length := by simpa using h
  rw [List.getD_eq_getElem?_getD, List.getElem?_eq_getElem h2]
  rfl

set_option maxHeartbeats 400000 in
theorem l01Figure_any (x : Int) (w : World) (h0 : 0 ≤ x) (h1 : x < 16) :
    Calls Try.prog 92 #[.int .i64 x] w fun e w' => e = .returned (.int .u8 (fig x)) ∧ w' = w := by
  by_cases h : x < 10
  · go_enter Try.func92, Try.ntmps92
    go_wp2
    go_ret
    exact ⟨by simp [fig, h], rfl⟩
  · go_enter Try.func92, Try.ntmps92
    go_wp2
    go_ret
    exact ⟨by simp [fig]; omega, rfl⟩

set_option maxRecDepth 10000 in
theorem index_fig (q : Int) (h0 : 0 ≤ q) (h1 : q < 16) (wx : World) :
    (Instr.index 9 (.string { data := #[48, 49, 50, 51, 52, 53, 54, 55, 56, 57, 97, 98, 99, 100, 101, 102] }) (.int .u8 q)).run Try.prog wx = .ok (.int .u8 (fig q)) wx := by
  obtain ⟨n, rfl⟩ := Int.eq_ofNat_of_zero_le h0
  have hn : n < 16 := by omega
  clear h0 h1
  rcases (show n = 0 ∨ n = 1 ∨ n = 2 ∨ n = 3 ∨ n = 4 ∨ n = 5 ∨ n = 6 ∨ n = 7 ∨ n = 8 ∨ n = 9 ∨ n = 10 ∨ n = 11 ∨ n = 12 ∨ n = 13 ∨ n = 14 ∨ n = 15 by omega) with h | h | h | h | h | h | h | h | h | h | h | h | h | h | h | h <;> subst h <;> rfl

theorem two_cells (w : World) (x y : Int) (e : TypeId) : ∀ (j : Nat) (u : Value), ([x, y].map (Value.int .u8))[j]? = some u →
    ((w.alloc (.cells #[.int .u8 x, .int .u8 y] e)).drew).cell? (Addr.add ⟨w.heap.size, 0, none⟩ j) = some u := by
  intro j u hj
  match j, hj with
  | 0, hj => simp at hj; subst hj; simp [Addr.add]
  | 1, hj => simp at hj; subst hj; simp [Addr.add]

end Go.Proofs.Ytehkebdncfljmaa
