/-
  What the two readers of numbers answer: the walks. What the model's reader of numbers answers: the walk. Figures of sixteen: the walks of what writes them.
-/
import Derived.Test.YteefacjjdalncaaGreatDoorA5
import Derived.Deep.QuietTactic
import Derived.BigQuiet
import Derived.Deep.RegionWith
import Derived.Deep.RegionHeld
import Derived.Deep.RegionHeldLaw
namespace Go.Proofs.YteefacjjdalncaaGreatDoor
open Go.RowKit

theorem pow_le {k : Nat} (h : k ≤ 4) : 1 ≤ 128 ^ k ∧ 128 ^ k ≤ 268435456 := by
  match k, h with
  | 0, _ | 1, _ | 2, _ | 3, _ | 4, _ => decide
theorem mul_bd (b q : Nat) (h2 : q ≤ 268435456) : 0 ≤ (b : Int) % 128 * (q : Int) ∧ (b : Int) % 128 * (q : Int) ≤ 34091302912 ∧ ((b % 128 * q : Nat) : Int) = (b : Int) % 128 * (q : Int) := by
  have e : ((b % 128 * q : Nat) : Int) = (b : Int) % 128 * (q : Int) := by simp
  have h3 : b % 128 * q ≤ 127 * 268435456 := Nat.mul_le_mul (by omega) h2
  rw [← e]
  omega

section
variable {s : ByteArray} {a i k N q : Nat} {R : Int × Int × Bool}
theorem rv_end (HR : Hid (R = rvGo s (5 - k) i k N)) (HK : Hid (a + k = i)) (hk : k ≤ 5) (h : ¬ (i < s.size ∧ i < a + 5)) : Ending.returned (rvV (0, 0, false)) = .returned (rvV R) := by
  rw [HR.out]
  have := HK.out
  by_cases h1 : i < s.size
  · have : k = 5 := by omega
    subst this
    rfl
  · rw [rvGo_end h1]
theorem rv_bad (HR : Hid (R = rvGo s (5 - k) i k N)) (HQ : Hid (128 ^ k = q)) (HK : Hid (a + k = i)) {h : i < s.size} (HM : Hid (((s[i].toNat % 128 * q : Nat) : Int) = (s[i].toNat : Int) % 128 * (q : Int)))
    (hk : k ≤ 4) (hlt : i < s.size) (hb : ¬ 127 < s[i].toNat) (hx : 1000000000 < (N : Int) + (s[i].toNat : Int) % 128 * (q : Int) ∨ (s[i].toNat = 0 ∧ a < i)) :
    Ending.returned (rvV (0, 0, false)) = .returned (rvV R) := by
  rw [HR.out, show 5 - k = (4 - k) + 1 by omega, rvGo_bad hlt (by omega)]
  have e1 := HK.out
  have e2 := HM.out
  rw [HQ.out]
  rcases hx with hx | hx
  · left; omega
  · right; omega
theorem rv_ok (HR : Hid (R = rvGo s (5 - k) i k N)) (HQ : Hid (128 ^ k = q)) (HK : Hid (a + k = i)) {h : i < s.size} (HM : Hid (((s[i].toNat % 128 * q : Nat) : Int) = (s[i].toNat : Int) % 128 * (q : Int)))
    (hk : k ≤ 4) (hlt : i < s.size) (hb : ¬ 127 < s[i].toNat) (hx : (N : Int) + (s[i].toNat : Int) % 128 * (q : Int) ≤ 1000000000) (hz : ¬ s[i].toNat = 0 ∨ ¬ a < i) :
    Ending.returned (rvV ((N : Int) + (s[i].toNat : Int) % 128 * (q : Int), (i : Int) + 1, true)) = .returned (rvV R) := by
  have e1 := HK.out
  have e2 := HM.out
  rw [HR.out, show 5 - k = (4 - k) + 1 by omega, rvGo_ok hlt (by omega) (by rw [HQ.out]; omega), HQ.out]
  congr 2
theorem rv_ok0 (HR : Hid (R = rvGo s (5 - k) i k N)) (HQ : Hid (128 ^ k = q)) (HK : Hid (a + k = i)) {h : i < s.size} (HM : Hid (((s[i].toNat % 128 * q : Nat) : Int) = (s[i].toNat : Int) % 128 * (q : Int)))
    (hk : k ≤ 4) (hlt : i < s.size) (hb : ¬ 127 < s[i].toNat) (hx : (N : Int) + (s[i].toNat : Int) % 128 * (q : Int) ≤ 1000000000) (h0 : s[i].toNat = 0) (hz : ¬ a < i) :
    Ending.returned (rvV ((N : Int), (i : Int) + 1, true)) = .returned (rvV R) := by
  rw [← rv_ok HR HQ HK HM hk hlt hb hx (Or.inr hz), h0]
  simp
theorem rv_more (HR : Hid (R = rvGo s (5 - k) i k N)) (HQ : Hid (128 ^ k = q)) (HK : Hid (a + k = i)) {h : i < s.size} (HM : Hid (((s[i].toNat % 128 * q : Nat) : Int) = (s[i].toNat : Int) % 128 * (q : Int)))
    (hk : k ≤ 4) (hlt : i < s.size) (hb : 127 < s[i].toNat) (hN : N < q) :
    ∃ i' k' N' q' : Nat, k' ≤ 5 ∧ i' ≤ s.size ∧ a + k' = i' ∧ 128 ^ k' = q' ∧ N' < q' ∧ Value.int .i64 ((N : Int) + (s[i].toNat : Int) % 128 * (q : Int)) = .int .i64 N' ∧ Value.int .i64 ((q : Int) * 128) = .int .i64 q' ∧ Value.int .i64 ((i : Int) + 1) = .int .i64 i' ∧ R = rvGo s (5 - k') i' k' N' := by
  have e1 := HK.out
  have e2 := HM.out
  have e3 : s[i].toNat % 128 * q ≤ 127 * q := Nat.mul_le_mul (by omega) (Nat.le_refl _)
  refine ⟨i + 1, k + 1, N + s[i].toNat % 128 * q, q * 128, by omega, by omega, by omega, ?_, by omega, ?_, ?_, ?_, ?_⟩
  · rw [Nat.pow_succ, HQ.out]
  · congr 1
  · congr 1
  · congr 1
  · rw [HR.out, show 5 - k = (4 - k) + 1 by omega, rvGo_more hlt (by omega), HQ.out]
    congr 1
    omega
end

end Go.Proofs.YteefacjjdalncaaGreatDoor

namespace Go.Proofs.YteefacjjdalncaaGreatDoor
open Go.RowKit

theorem slice_at (s : ByteArray) (a i : Nat) (wx : World) (h1 : a ≤ i) (h2 : i < s.size) :
    (Instr.slice 9 (.string s) (some (.int .i64 (a : Int))) (some (.int .i64 ((i : Int) + 1))) none).run Tryz.prog wx = .ok (.string (s.extract a (i + 1))) wx := by
  have := run_slice_string (P := Tryz.prog) wx 9 s .i64 .i64 (a : Int) ((i : Int) + 1) Tryz.underlying9 (by omega) (by omega) (by omega)
  simpa using this
theorem slice_at_w (s : ByteArray) (a i : Nat) (wx : World) (h1 : a ≤ i) (h2 : i < s.size) (h3 : s.size ≤ 1048576) :
    (Instr.slice 9 (.string s) (some (.int .i64 (a : Int))) (some (.int .i64 (IntKind.i64.wrap ((i : Int) + 1)))) none).run Tryz.prog wx = .ok (.string (s.extract a (i + 1))) wx := by
  have e : IntKind.i64.wrap ((i : Int) + 1) = (i : Int) + 1 := by go_arith
  rw [e]
  exact slice_at s a i wx h1 h2

theorem rvs_more {s : ByteArray} {a i k N q : Nat} {R : Int × Int × Bool} {p : List Nat} (HR : Hid (R = rvGo s (5 - k) i k N)) (HQ : Hid (128 ^ k = q)) (HK : Hid (a + k = i)) {h : i < s.size} (HM : Hid (((s[i].toNat % 128 * q : Nat) : Int) = (s[i].toNat : Int) % 128 * (q : Int)))
    (HP : Hid (bytesAt s a p ∧ p.length = k ∧ (∀ b ∈ p, 128 ≤ b ∧ b < 256) ∧ N = valN p))
    (hk : k ≤ 4) (hlt : i < s.size) (hb : 127 < s[i].toNat) (hN : N < q) :
    ∃ (i' k' N' q' : Nat) (p' : List Nat), k' ≤ 5 ∧ i' ≤ s.size ∧ a + k' = i' ∧ 128 ^ k' = q' ∧ N' < q' ∧ Value.int .i64 ((N : Int) + (s[i].toNat : Int) % 128 * (q : Int)) = .int .i64 N' ∧ Value.int .i64 ((q : Int) * 128) = .int .i64 q' ∧ Value.int .i64 ((i : Int) + 1) = .int .i64 i' ∧ R = rvGo s (5 - k') i' k' N' ∧
      (bytesAt s a p' ∧ p'.length = k' ∧ (∀ b ∈ p', 128 ≤ b ∧ b < 256) ∧ N' = valN p') := by
  have e1 := HK.out
  have e2 := HM.out
  obtain ⟨p1, p2, p3, p4⟩ := HP.out
  subst p2
  subst e1
  have e3 : s[a + p.length].toNat % 128 * q ≤ 127 * q := Nat.mul_le_mul (by omega) (Nat.le_refl _)
  have h256 := s[a + p.length].toNat_lt
  refine ⟨a + p.length + 1, p.length + 1, N + s[a + p.length].toNat % 128 * q, q * 128, p ++ [s[a + p.length].toNat], by omega, by omega, by omega, ?_, by omega, ?_, ?_, ?_, ?_, bytesAt_snoc p1 hlt, by simp, ?_, ?_⟩
  · rw [Nat.pow_succ, HQ.out]
  · congr 1
  · congr 1
  · congr 1
  · rw [HR.out, show 5 - p.length = (4 - p.length) + 1 by omega, rvGo_more hlt (by omega), HQ.out]
    congr 1
    omega
  · intro b hb'
    rcases List.mem_append.1 hb' with h | h
    · exact p3 b h
    · simp at h; omega
  · rw [valN_snoc, HQ.out, ← p4]

theorem rvs_bad {s : ByteArray} {a i k N q : Nat} {R : Int × Int × Bool} {p : List Nat} (HR : Hid (R = rvGo s (5 - k) i k N)) (HQ : Hid (128 ^ k = q)) (HK : Hid (a + k = i)) {h : i < s.size} (HM : Hid (((s[i].toNat % 128 * q : Nat) : Int) = (s[i].toNat : Int) % 128 * (q : Int)))
    (HP : Hid (bytesAt s a p ∧ p.length = k ∧ (∀ b ∈ p, 128 ≤ b ∧ b < 256) ∧ N = valN p)) (hk : k ≤ 4) (hlt : i < s.size) (hb : ¬ 127 < s[i].toNat)
    (hne : (!(bstr (varI ((N : Int) + (s[i].toNat : Int) % 128 * (q : Int)).toNat)).toList == (s.extract a (i + 1)).toList) = true) : Ending.returned (rvV (0, 0, false)) = .returned (rvV R) := by
  obtain ⟨p1, p2, p3, p4⟩ := HP.out
  subst p2
  have e2 := HM.out
  rw [show ((N : Int) + (s[i].toNat : Int) % 128 * (q : Int)).toNat = N + s[i].toNat % 128 * q by omega, same_bytes p1 HK.out HQ.out p3 p4 hlt (by omega)] at hne
  exact rv_bad HR HQ HK HM hk hlt hb (Or.inr (by simpa using hne))
theorem rvs_ok {s : ByteArray} {a i k N q : Nat} {R : Int × Int × Bool} {p : List Nat} (HR : Hid (R = rvGo s (5 - k) i k N)) (HQ : Hid (128 ^ k = q)) (HK : Hid (a + k = i)) {h : i < s.size} (HM : Hid (((s[i].toNat % 128 * q : Nat) : Int) = (s[i].toNat : Int) % 128 * (q : Int)))
    (HP : Hid (bytesAt s a p ∧ p.length = k ∧ (∀ b ∈ p, 128 ≤ b ∧ b < 256) ∧ N = valN p)) (hk : k ≤ 4) (hlt : i < s.size) (hb : ¬ 127 < s[i].toNat) (hx : (N : Int) + (s[i].toNat : Int) % 128 * (q : Int) ≤ 1000000000)
    (hne : (!(bstr (varI ((N : Int) + (s[i].toNat : Int) % 128 * (q : Int)).toNat)).toList == (s.extract a (i + 1)).toList) = false) :
    Ending.returned (rvV ((N : Int) + (s[i].toNat : Int) % 128 * (q : Int), (i : Int) + 1, true)) = .returned (rvV R) := by
  obtain ⟨p1, p2, p3, p4⟩ := HP.out
  subst p2
  have e2 := HM.out
  rw [show ((N : Int) + (s[i].toNat : Int) % 128 * (q : Int)).toNat = N + s[i].toNat % 128 * q by omega, same_bytes p1 HK.out HQ.out p3 p4 hlt (by omega)] at hne
  have hz : ¬ (s[i].toNat = 0 ∧ a < i) := by simpa using hne
  refine rv_ok HR HQ HK HM hk hlt hb hx ?_
  by_cases h0 : s[i].toNat = 0
  · exact Or.inr fun h => hz ⟨h0, h⟩
  · exact Or.inl h0

theorem rv_bad_eq {s : ByteArray} {at' : Int} (h : at' < 0 ∨ (s.size : Int) < at') : rv s at' = (0, 0, false) := by
  unfold rv; rw [if_neg (by omega)]
theorem rv_in_eq {s : ByteArray} {a : Nat} (h : a ≤ s.size) : rv s (a : Int) = rvGo s 5 a 0 0 := by
  unfold rv; rw [if_pos (by omega)]; simp

end Go.Proofs.YteefacjjdalncaaGreatDoor

namespace Go.Proofs.YteefacjjdalncaaGreatDoor
open Go.RowKit

theorem ownsB.drew {w : World} {B : Nat} {e : TypeId} {v : Value} {l : List Int} (h : ownsB w B e v l) : ownsB w.drew B e v l := World.ownsRow.drew h

/-- Bytes more behind a row of bytes that the call owns, as one step of a region that draws its order. -/
theorem step_append_bytes {P : Program} {ops : Array Oper} {o : Oper} {a : Act} {w : World} {K : Act → World → Prop} {Q : Exit → Act → World → Prop} {E : Prop}
    (hg : o.guard = none) (s x : Operand) (t : TypeId) (hop : o.op = Op.call { callee := Callee.builtin Builtin.append, args := #[s, x], argTypes := #[t, t] })
    (B : Nat) (e : TypeId) (ht : P.underlying t = some (.slice e)) (hi : (P.info? e).map (fun i => (i.zero, i.size, i.bytes)) = some (some (.int .u8 0), 1, 1))
    (v : Value) (l : List Int) (hs : a.eval s = v) (w0 : World) (ad : Addr) (m c : Nat) (ns : List Int) (hm : ns.length = m) (hx : a.eval x = .slice (some ad) m c)
    (hown : ownsB w B e v l) (hbel : Below B w0 w) (hc : ∀ j u, (ns.map (Value.int .u8))[j]? = some u → w.cell? (ad.add j) = some u)
    (hlen : l.length + m ≤ 140737488355328) (hB : B ≤ w.heap.size)
    (hK : ∀ v' w', ownsB w' B e v' (l ++ ns) → Below B w0 w' → K (a.put o.dst v') w') :
    if Region.wanted o (yielded ops a.tmps) = true then Oper.wp P o a w K Q else E := by
  have hw : Region.wanted o (yielded ops a.tmps) = true := by simp [Region.wanted, hg]
  rw [if_pos hw]
  subst hm
  obtain ⟨i0, hi0, hz0, hz1, hz2⟩ := info_parts hi
  obtain ⟨v', w', hrun, r1, r2, _⟩ := run_append_own (P := P) w B t o.type e i0 (.int .u8 0) 1 1 ht hi0 hz0 hz1 hz2 rfl (by decide) v l.length _ hown ad ns.length c (ns.map (Value.int .u8)) (by simp) hc
    (fun u hu => by simp at hu; obtain ⟨n, _, rfl⟩ := hu; rfl) (by unfold maxLen; omega) (by omega) hB
  unfold Oper.wp
  simp [execOp, hop, resolve, invoke, builtin, hs, hx, hrun, Result.andThen]
  exact hK v' w' (by simpa [ownsB] using r1) (hbel.grown r2 hB fun k hk => (hown.lt k hk).1)

/-- The figure of a number below sixteen. -/
def fig (x : Int) : Int := if x < 10 then 48 + x else 87 + x

/-- The figures of the first k bytes. -/
def hexTo (s : ByteArray) : Nat → List Int
  | 0 => []
  | k + 1 => hexTo s k ++ [fig (((s.data.toList.getD k 0).toNat : Int) / 16), fig (((s.data.toList.getD k 0).toNat : Int) % 16)]
theorem hexTo_length (s : ByteArray) : ∀ k, (hexTo s k).length = 2 * k
  | 0 => rfl
  | k + 1 => by simp [hexTo, hexTo_length s k]; omega
theorem byteAt (s : ByteArray) (k : Nat) (h : k < s.size) : s.data.toList.getD k 0 = s[k] := by
  have h2 : k < s.data.toList.length := by simpa using h
  rw [List.getD_eq_getElem?_getD, List.getElem?_eq_getElem h2]
  rfl

set_option maxHeartbeats 400000 in
theorem l01Figure_any (x : Int) (w : World) (h0 : 0 ≤ x) (h1 : x < 16) :
    Calls Tryz.prog 182 #[.int .i64 x] w fun e w' => e = .returned (.int .u8 (fig x)) ∧ w' = w := by
  by_cases h : x < 10
  · go_enter Tryz.func182, Tryz.ntmps182
    go_wp2
    go_ret
    exact ⟨by simp [fig, h], rfl⟩
  · go_enter Tryz.func182, Tryz.ntmps182
    go_wp2
    go_ret
    exact ⟨by simp [fig]; omega, rfl⟩

set_option maxRecDepth 10000 in
theorem index_fig (q : Int) (h0 : 0 ≤ q) (h1 : q < 16) (wx : World) :
    (Instr.index 9 (.string { data := #[48, 49, 50, 51, 52, 53, 54, 55, 56, 57, 97, 98, 99, 100, 101, 102] }) (.int .u8 q)).run Tryz.prog wx = .ok (.int .u8 (fig q)) wx := by
  obtain ⟨n, rfl⟩ := Int.eq_ofNat_of_zero_le h0
  have hn : n < 16 := by omega
  clear h0 h1
  rcases (show n = 0 ∨ n = 1 ∨ n = 2 ∨ n = 3 ∨ n = 4 ∨ n = 5 ∨ n = 6 ∨ n = 7 ∨ n = 8 ∨ n = 9 ∨ n = 10 ∨ n = 11 ∨ n = 12 ∨ n = 13 ∨ n = 14 ∨ n = 15 by omega) with h | h | h | h | h | h | h | h | h | h | h | h | h | h | h | h <;> subst h <;> rfl

theorem two_cells (w : World) (x y : Int) (e : TypeId) : ∀ (j : Nat) (u : Value), ([x, y].map (Value.int .u8))[j]? = some u →
    ((w.alloc (.cells #[.int .u8 x, .int .u8 y] e)).drew).cell? (Addr.add ⟨w.heap.size, 0, none⟩ j) = some u := by
  intro j u hj
  match j, hj with
  | 0, hj => simp at hj; subst hj; simp [Addr.add]
  | 1, hj => simp at hj; subst hj; simp [Addr.add]

end Go.Proofs.YteefacjjdalncaaGreatDoor
