/-
  Contracts of the library, proved once there, laid at this program by the kit (its plain words). A rule comes back from its text, whole: plain facts. A piece of a field, as the program reads it: plain facts and the walk.
-/
import Derived.Shelf.Strings.Builder1
import Derived.Shelf.Strings.Builder2
import Derived.Shelf.Strings.OnBuilder
import Derived.Shelf.Small.Wraps
import Derived.Shelf.Utf8.RuneCount
import Derived.Shelf.Strconv.Itoa0
import Derived.Shelf.Strconv.Itoa1
import Derived.Shelf.LaysM
import Derived.Shelf.Strconv.Itoa2
import Derived.Shelf.Strconv.Itoa3
import Derived.Shelf.Strconv.Clone
import Derived.Shelf.Strings.Search1
import Derived.Shelf.Strings.Search2
import Derived.Shelf.Strings.Search3
import Derived.Shelf.Strings.Cut
import Derived.Shelf.Strings.Count
import Derived.Shelf.Strings.Shaped
import Derived.Shelf.Strings.Prefix
import Derived.Shelf.Strings.Split
import Derived.Shelf.Strings.Fields
import Derived.Shelf.Strings.SplitShaped
import Derived.Shelf.Unicode.Latin
import Derived.Shelf.Unicode.Decode
import Derived.Shelf.Strings.RuneCount
import Derived.Shelf.Strings.Explode
import Derived.Shelf.Unicode.DecodeSlow
import Derived.Shelf.Unicode.DecodeAny
import Derived.Shelf.Unicode.Is16White
import Derived.Shelf.Unicode.IsSpaceAny
import Derived.Shelf.Unicode.Is16Any
import Derived.Shelf.Unicode.Is32Any
import Derived.Shelf.Unicode.ExclAny
import Derived.Test.YteefacjjdalncaaGreatDoorProg
import Derived.Test.YteefacjjdalncaaGreatDoorA11
import Derived.Test.YteefacjjdalncaaGreatDoorA8
namespace Go.Proofs
open Go.Shelf
def Tryz.lays156_ren : Go.Shelf.Ren := ⟨fun | 156 => 89 | 165 => 134 | 166 => 135 | 169 => 136 | 240 => 175 | 241 => 176 | 276 => 194 | 277 => 195 | n => n, fun | 31 => 43 | 9 => 9 | 3 => 3 | 4 => 4 | 0 => 0 | 20 => 20 | 72 => 142 | 76 => 146 | 70 => 140 | 37 => 22 | 75 => 145 | 127 => 188 | 164 => 210 | 5 => 5 | 80 => 61 | n => n, fun | n => n⟩
theorem Tryz.lays156 : Go.Proofs.Lays.n156 Tryz.prog Tryz.lays156_ren := {
  mixed := by kernel_rfl
  f156 := Tryz.func89.trans (congrArg some (by kernel_rfl))
  f165 := Tryz.func134.trans (congrArg some (by kernel_rfl))
  f166 := Tryz.func135.trans (congrArg some (by kernel_rfl))
  f169 := Tryz.func136.trans (congrArg some (by kernel_rfl))
  f240 := Tryz.func175.trans (congrArg some (by kernel_rfl))
  f241 := Tryz.func176.trans (congrArg some (by kernel_rfl))
  f276 := Tryz.func194.trans (congrArg some (by kernel_rfl))
  f277 := Tryz.func195.trans (congrArg some (by kernel_rfl))
  t0 := Tryz.underlying0
  a0 := Tryz.isAgg0
  z0 := Tryz.sizeOf0
  v0 := Tryz.zeroValue0
  t3 := Tryz.underlying3
  a3 := Tryz.isAgg3
  z3 := Tryz.sizeOf3
  v3 := Tryz.zeroValue3
  t4 := Tryz.underlying4
  a4 := Tryz.isAgg4
  z4 := Tryz.sizeOf4
  v4 := Tryz.zeroValue4
  t9 := Tryz.underlying9
  a9 := Tryz.isAgg9
  z9 := Tryz.sizeOf9
  v9 := Tryz.zeroValue9
  t20 := Tryz.underlying20
  a20 := Tryz.isAgg20
  z20 := Tryz.sizeOf20
  v20 := Tryz.zeroValue20
  t31 := Tryz.underlying43
  a31 := Tryz.isAgg43
  z31 := Tryz.sizeOf43
  v31 := Tryz.zeroValue43
  t37 := Tryz.underlying22
  a37 := Tryz.isAgg22
  z37 := Tryz.sizeOf22
  v37 := Tryz.zeroValue22
  t70 := Tryz.underlying140
  a70 := Tryz.isAgg140
  z70 := Tryz.sizeOf140
  v70 := Tryz.zeroValue140
  t72 := Tryz.underlying142
  a72 := Tryz.isAgg142
  z72 := Tryz.sizeOf142
  v72 := Tryz.zeroValue142
  t75 := Tryz.underlying145
  a75 := Tryz.isAgg145
  z75 := Tryz.sizeOf145
  v75 := Tryz.zeroValue145
  t76 := Tryz.underlying146
  a76 := Tryz.isAgg146
  z76 := Tryz.sizeOf146
  v76 := Tryz.zeroValue146
  t127 := Tryz.underlying188
  a127 := Tryz.isAgg188
  z127 := Tryz.sizeOf188
  v127 := Tryz.zeroValue188
  t164 := Tryz.underlying210
  a164 := Tryz.isAgg210
  z164 := Tryz.sizeOf210
  v164 := Tryz.zeroValue210 }
theorem Tryz.Builder_Extra_156 : Builder.Extra Tryz.prog Tryz.lays156_ren := {
  sizeBuilder := by kernel_rfl
  liesBuilder := by kernel_rfl
  t5 := Tryz.underlying5
  a5 := Tryz.isAgg5
  z5 := Tryz.sizeOf5
  v5 := Tryz.zeroValue5
  infoByte := by kernel_rfl
  cellsByte := by kernel_rfl
  sizeByte := by kernel_rfl
  neB5 := by decide }
open Go.RowKit in
theorem Tryz.strings_Join_none (a : Option Addr) (c : Nat) (sep : ByteArray) (w : World) :
    Calls Tryz.prog 89 #[.slice a 0 c, .string sep] w fun e w' => e = .returned (.string ⟨#[]⟩) ∧ w' = w := Any.strings_Join_none Tryz.lays156 Tryz.Builder_Extra_156 a c sep w
open Go.RowKit in
theorem Tryz.strings_Join (bk o c : Nat) (xs : List ByteArray) (sep : ByteArray) (w : World) (hcells : ∀ (j : Nat) x, xs[j]? = some x → w.cell? ⟨bk, o + j, none⟩ = some (.string x)) (hbk : bk < w.heap.size) (hN : xs.length ≤ 140737488355328) (hcap : xs.length ≤ c) (hlen : (Lib.join (xs.map (·.data.toList)) sep.data.toList).length ≤ 140737488355328) :
    Calls Tryz.prog 89 #[.slice (some ⟨bk, o, none⟩) xs.length c, .string sep] w fun e w' => e = .returned (.string ⟨(Lib.join (xs.map (·.data.toList)) sep.data.toList).toArray⟩) ∧ Below w.heap.size w w' := Any.strings_Join Tryz.lays156 Tryz.Builder_Extra_156 bk o c xs sep w hcells hbk hN hcap hlen
def Tryz.lays103_ren : Go.Shelf.Ren := ⟨fun | 103 => 214 | 210 => 231 | 206 => 147 | n => n, fun | 9 => 9 | 4 => 4 | 24 => 28 | 3 => 3 | n => n, fun | n => n⟩
theorem Tryz.lays103 : Go.Proofs.Lays.n103 Tryz.prog Tryz.lays103_ren := {
  mixed := by kernel_rfl
  f103 := Tryz.func214.trans (congrArg some (by kernel_rfl))
  f206 := Tryz.func147.trans (congrArg some (by kernel_rfl))
  f210 := Tryz.func231.trans (congrArg some (by kernel_rfl))
  t3 := Tryz.underlying3
  a3 := Tryz.isAgg3
  z3 := Tryz.sizeOf3
  v3 := Tryz.zeroValue3
  t4 := Tryz.underlying4
  a4 := Tryz.isAgg4
  z4 := Tryz.sizeOf4
  v4 := Tryz.zeroValue4
  t9 := Tryz.underlying9
  a9 := Tryz.isAgg9
  z9 := Tryz.sizeOf9
  v9 := Tryz.zeroValue9
  t24 := Tryz.underlying28
  a24 := Tryz.isAgg28
  z24 := Tryz.sizeOf28
  v24 := Tryz.zeroValue28 }
open Go.RowKit in
theorem Tryz.strings_CutPrefix (s p : ByteArray) (w : World) :
    Calls Tryz.prog 214 #[.string s, .string p] w fun e w' => e = .returned (.tuple #[.string ⟨(Lib.trimPrefix s.data.toList p.data.toList).toArray⟩, .bool (Lib.hasPrefix s.data.toList p.data.toList)]) ∧ w' = w := Any.strings_CutPrefix Tryz.lays103 s p w
def Tryz.lays145_ren : Go.Shelf.Ren := ⟨fun | 145 => 216 | 220 => 232 | 219 => 226 | 217 => 236 | 225 => 237 | 224 => 238 | 267 => 239 | 266 => 241 | 314 => 242 | n => n, fun | 9 => 9 | 4 => 4 | 59 => 236 | 3 => 3 | 5 => 5 | 46 => 133 | 146 => 259 | 51 => 184 | n => n, fun | 1 => 3 | n => n⟩
theorem Tryz.lays145 : Go.Proofs.Lays.n145 Tryz.prog Tryz.lays145_ren := {
  mixed := by kernel_rfl
  f145 := Tryz.func216.trans (congrArg some (by kernel_rfl))
  f217 := Tryz.func236.trans (congrArg some (by kernel_rfl))
  f219 := Tryz.func226.trans (congrArg some (by kernel_rfl))
  f220 := Tryz.func232.trans (congrArg some (by kernel_rfl))
  f224 := Tryz.func238.trans (congrArg some (by kernel_rfl))
  f225 := Tryz.func237.trans (congrArg some (by kernel_rfl))
  f266 := Tryz.func241.trans (congrArg some (by kernel_rfl))
  f267 := Tryz.func239.trans (congrArg some (by kernel_rfl))
  f314 := Tryz.func242.trans (congrArg some (by kernel_rfl))
  t3 := Tryz.underlying3
  a3 := Tryz.isAgg3
  z3 := Tryz.sizeOf3
  v3 := Tryz.zeroValue3
  t4 := Tryz.underlying4
  a4 := Tryz.isAgg4
  z4 := Tryz.sizeOf4
  v4 := Tryz.zeroValue4
  t5 := Tryz.underlying5
  a5 := Tryz.isAgg5
  z5 := Tryz.sizeOf5
  v5 := Tryz.zeroValue5
  t9 := Tryz.underlying9
  a9 := Tryz.isAgg9
  z9 := Tryz.sizeOf9
  v9 := Tryz.zeroValue9
  t46 := Tryz.underlying133
  a46 := Tryz.isAgg133
  z46 := Tryz.sizeOf133
  v46 := Tryz.zeroValue133
  t51 := Tryz.underlying184
  a51 := Tryz.isAgg184
  z51 := Tryz.sizeOf184
  v51 := Tryz.zeroValue184
  t59 := Tryz.underlying236
  a59 := Tryz.isAgg236
  z59 := Tryz.sizeOf236
  v59 := Tryz.zeroValue236
  t146 := Tryz.underlying259
  a146 := Tryz.isAgg259
  z146 := Tryz.sizeOf259
  v146 := Tryz.zeroValue259
  g1 := by kernel_rfl }
open Go.RowKit Go.Lib in
theorem Tryz.strings_Cut (s sep : ByteArray) (m : Int) (w : World) (hs : s.size < 4294967281) (hm : w.cell? ⟨3, 0, none⟩ = some (.int .i64 m)) :
    Calls Tryz.prog 216 #[.string s, .string sep] w fun e w' => e = .returned (.tuple #[.string ⟨(Lib.cut s.data.toList sep.data.toList).1.toArray⟩, .string ⟨(Lib.cut s.data.toList sep.data.toList).2.1.toArray⟩, .bool (Lib.cut s.data.toList sep.data.toList).2.2]) ∧ ∃ n, w' = w.drewN n := Any.strings_Cut Tryz.lays145 s sep m w hs hm
def Tryz.lays146_ren : Go.Shelf.Ren := ⟨fun | 146 => 140 | 221 => 178 | 268 => 200 | 138 => 201 | 143 => 202 | 195 => 223 | 197 => 224 | 218 => 225 | 219 => 226 | 260 => 235 | 217 => 236 | 225 => 237 | 224 => 238 | 267 => 239 | 266 => 241 | 314 => 242 | n => n, fun | 9 => 9 | 31 => 43 | 3 => 3 | 4 => 4 | 0 => 0 | 105 => 246 | 21 => 21 | 5 => 5 | 46 => 133 | 119 => 152 | 139 => 258 | 138 => 257 | 146 => 259 | 51 => 184 | n => n, fun | 1 => 3 | 3 => 7 | 4 => 8 | n => n⟩
theorem Tryz.lays146 : Go.Proofs.Lays.n146 Tryz.prog Tryz.lays146_ren := {
  mixed := by kernel_rfl
  f138 := Tryz.func201.trans (congrArg some (by kernel_rfl))
  f143 := Tryz.func202.trans (congrArg some (by kernel_rfl))
  f146 := Tryz.func140.trans (congrArg some (by kernel_rfl))
  f195 := Tryz.func223.trans (congrArg some (by kernel_rfl))
  f197 := Tryz.func224.trans (congrArg some (by kernel_rfl))
  f217 := Tryz.func236.trans (congrArg some (by kernel_rfl))
  f218 := Tryz.func225.trans (congrArg some (by kernel_rfl))
  f219 := Tryz.func226.trans (congrArg some (by kernel_rfl))
  f221 := Tryz.func178.trans (congrArg some (by kernel_rfl))
  f224 := Tryz.func238.trans (congrArg some (by kernel_rfl))
  f225 := Tryz.func237.trans (congrArg some (by kernel_rfl))
  f260 := Tryz.func235.trans (congrArg some (by kernel_rfl))
  f266 := Tryz.func241.trans (congrArg some (by kernel_rfl))
  f267 := Tryz.func239.trans (congrArg some (by kernel_rfl))
  f268 := Tryz.func200.trans (congrArg some (by kernel_rfl))
  f314 := Tryz.func242.trans (congrArg some (by kernel_rfl))
  t0 := Tryz.underlying0
  a0 := Tryz.isAgg0
  z0 := Tryz.sizeOf0
  v0 := Tryz.zeroValue0
  t3 := Tryz.underlying3
  a3 := Tryz.isAgg3
  z3 := Tryz.sizeOf3
  v3 := Tryz.zeroValue3
  t4 := Tryz.underlying4
  a4 := Tryz.isAgg4
  z4 := Tryz.sizeOf4
  v4 := Tryz.zeroValue4
  t5 := Tryz.underlying5
  a5 := Tryz.isAgg5
  z5 := Tryz.sizeOf5
  v5 := Tryz.zeroValue5
  t9 := Tryz.underlying9
  a9 := Tryz.isAgg9
  z9 := Tryz.sizeOf9
  v9 := Tryz.zeroValue9
  t21 := Tryz.underlying21
  a21 := Tryz.isAgg21
  z21 := Tryz.sizeOf21
  v21 := Tryz.zeroValue21
  t31 := Tryz.underlying43
  a31 := Tryz.isAgg43
  z31 := Tryz.sizeOf43
  v31 := Tryz.zeroValue43
  t46 := Tryz.underlying133
  a46 := Tryz.isAgg133
  z46 := Tryz.sizeOf133
  v46 := Tryz.zeroValue133
  t51 := Tryz.underlying184
  a51 := Tryz.isAgg184
  z51 := Tryz.sizeOf184
  v51 := Tryz.zeroValue184
  t105 := Tryz.underlying246
  a105 := Tryz.isAgg246
  z105 := Tryz.sizeOf246
  v105 := Tryz.zeroValue246
  t119 := Tryz.underlying152
  a119 := Tryz.isAgg152
  z119 := Tryz.sizeOf152
  t138 := Tryz.underlying257
  a138 := Tryz.isAgg257
  z138 := Tryz.sizeOf257
  v138 := Tryz.zeroValue257
  t139 := Tryz.underlying258
  a139 := Tryz.isAgg258
  z139 := Tryz.sizeOf258
  v139 := Tryz.zeroValue258
  t146 := Tryz.underlying259
  a146 := Tryz.isAgg259
  z146 := Tryz.sizeOf259
  v146 := Tryz.zeroValue259
  g1 := by kernel_rfl
  g3 := by kernel_rfl
  g4 := by kernel_rfl }
open Go.RowKit Go.Lib in
theorem Tryz.strings_Split (s sep : ByteArray) (m : Int) (w : World) (hs : s.size < 4294967281) (hm : w.cell? ⟨3, 0, none⟩ = some (.int .i64 m)) (h1 : 1 ≤ sep.size) :
    Calls Tryz.prog 140 #[.string s, .string sep] w fun e w' =>
      e = .returned (.slice (some ⟨w.heap.size, 0, none⟩) (Lib.countB s sep + 1) (Lib.countB s sep + 1)) ∧ w' = w.alloc (.cells ((Lib.splitB sep 0 (Lib.countB s sep) s).map Value.string).toArray 9) := Any.strings_Split Tryz.lays146 (by kernel_rfl) s sep m w hs hm h1
end Go.Proofs

namespace Go.Proofs.YteefacjjdalncaaGreatDoor
open Go Go.RowKit

theorem getD_set (H : List Bool) (i j : Nat) (hi : i < H.length) : (H.set i true).getD j false = (decide (i = j) || H.getD j false) := by
  rw [List.getD_eq_getElem?_getD, List.getElem?_set, List.getD_eq_getElem?_getD]
  by_cases h : i = j
  · subst h; simp [hi]
  · simp [h]
theorem stamp_getD (H : List Bool) (a x : Nat) : ∀ j, a + j ≤ H.length → (stamp H a 1 j).getD x false = (decide (a ≤ x ∧ x < a + j) || H.getD x false)
  | 0, _ => by rw [stamp, decide_eq_false (by omega)]; rfl
  | j + 1, h => by
    rw [stamp, getD_set _ _ _ (by rw [stamp_length]; omega), stamp_getD H a x j (by omega), ← Bool.or_assoc, ← Bool.decide_or]
    congr 1
    exact decide_eq_decide.2 (by omega)
/-- The flags of a list. -/
def marks (H : List Bool) : List Int → List Bool
  | [] => H
  | x :: r => marks (H.set x.toNat true) r
theorem marks_length : ∀ (l : List Int) (H : List Bool), (marks H l).length = H.length
  | [], _ => rfl
  | x :: r, H => by rw [marks, marks_length r, List.length_set]
theorem marks_getD (x : Nat) : ∀ (l : List Int) (H : List Bool), (∀ y ∈ l, 0 ≤ y ∧ y.toNat < H.length) → (marks H l).getD x false = (decide ((x : Int) ∈ l) || H.getD x false)
  | [], H, _ => by simp [marks]
  | y :: r, H, h => by
    have hy := h y (List.mem_cons_self ..)
    rw [marks, marks_getD x r _ (fun z hz => by rw [List.length_set]; exact h z (List.mem_cons_of_mem _ hz)), getD_set _ _ _ hy.2, ← Bool.or_assoc, ← Bool.decide_or]
    congr 1
    refine decide_eq_decide.2 ?_
    rw [List.mem_cons]
    constructor
    · rintro (e | e)
      · exact .inr e
      · left; omega
    · rintro (e | e)
      · right; omega
      · exact .inl e
theorem fieldGo_nums {lo hi : Int} : ∀ (l : List Int) (H : List Bool), (∀ x ∈ l, lo ≤ x ∧ x ≤ hi ∧ 0 ≤ x ∧ x < 60) → fieldGo lo hi (l.map numS) H = some (marks H l)
  | [], _, _ => rfl
  | x :: r, H, h => by
    have hx := h x (List.mem_cons_self ..)
    rw [List.map_cons, fieldGo, piece_num hx.2.2.1 hx.2.2.2 hx.1 hx.2.1, if_pos rfl, fieldGo_nums r _ (fun y hy => h y (List.mem_cons_of_mem _ hy)), marks]
    congr 2
    show stamp H x.toNat (1 : Int).toNat ((x - x).toNat / (1 : Int).toNat + 1) = _
    rw [Int.sub_self]
    show stamp H x.toNat 1 1 = _
    rw [stamp, stamp]
    congr 1
/-- A list comes back from its words. -/
theorem field_back {lo hi z : Int} {l : List Int} (h0 : 0 ≤ lo) (hh : hi ≤ 59) (hlh : lo ≤ hi) (hz : z = hi - lo + 1) (hB : listB lo hi l = true) : ∃ H, fieldO (showS l z) lo hi = some H ∧ picks H lo (hi - lo + 1).toNat = l := by
  obtain ⟨hl, hr, hn⟩ := listB_up hB
  have h60 : ∀ x ∈ l, 0 ≤ x ∧ x < 60 := fun x hx => by have := hl x hx; omega
  have hrep : ∀ j : Nat, (List.replicate (hi + 1).toNat false).getD j false = false := fun j => by
    rw [List.getD_eq_getElem?_getD, List.getElem?_replicate]; split <;> rfl
  unfold fieldO showS
  by_cases hf : (l.length : Int) = z
  · rw [if_pos hf, split_free (by intro b hb; simp at hb; subst hb; decide), fieldGo]
    have hp : piece ⟨#[42]⟩ lo hi = (lo, hi, 1, true) := by unfold piece; rw [if_pos rfl]
    rw [hp, if_pos rfl, fieldGo]
    refine ⟨_, rfl, picks_list (by omega) hl hr fun x hx0 hx1 => ?_⟩
    show (stamp _ lo.toNat (1 : Int).toNat ((hi - lo).toNat / (1 : Int).toNat + 1)).getD x.toNat false = true ↔ _
    rw [show (1 : Int).toNat = 1 from rfl, Nat.div_one, stamp_getD _ _ _ _ (by rw [List.length_replicate]; omega), hrep, Bool.or_false, decide_eq_true_eq]
    exact ⟨fun _ => full_list hl hr (by omega) hx0 hx1, fun _ => by omega⟩
  · rw [if_neg hf]
    have hs := split_show h60 (l.length - 1) (by omega)
    rw [show l.length - 1 + 1 = l.length by omega, List.take_length] at hs
    rw [hs, fieldGo_nums l _ (fun x hx => ⟨(hl x hx).1, (hl x hx).2, h60 x hx⟩)]
    refine ⟨_, rfl, picks_list (by omega) hl hr fun x hx0 hx1 => ?_⟩
    rw [marks_getD _ l _ (fun y hy => by rw [List.length_replicate]; have := hl y hy; omega), hrep, Bool.or_false, decide_eq_true_eq, Int.toNat_of_nonneg (by omega)]

theorem go_word : ∀ (w cur r : List UInt8), (∀ b ∈ w, Lib.isSp b = false) → cur ++ w ≠ [] → Lib.fieldsGo cur (w ++ 32 :: r) = (cur ++ w) :: Lib.fieldsGo [] r
  | [], cur, r, _, h => by
    rw [List.append_nil] at h
    have : cur.isEmpty = false := by cases cur; exact absurd rfl h; rfl
    simp [Lib.fieldsGo, this, show Lib.isSp 32 = true from by decide]
  | b :: w, cur, r, hw, h => by
    rw [List.cons_append, Lib.fieldsGo, hw b (List.mem_cons_self ..)]
    rw [if_neg (by decide), go_word w (cur ++ [b]) r (fun x hx => hw x (List.mem_cons_of_mem _ hx)) (by simp)]
    simp
theorem go_last : ∀ (w cur : List UInt8), (∀ b ∈ w, Lib.isSp b = false) → cur ++ w ≠ [] → Lib.fieldsGo cur w = [cur ++ w]
  | [], cur, _, h => by
    rw [List.append_nil] at h ⊢
    have : cur.isEmpty = false := by cases cur; exact absurd rfl h; rfl
    simp [Lib.fieldsGo, this]
  | b :: w, cur, hw, h => by
    rw [Lib.fieldsGo, hw b (List.mem_cons_self ..), if_neg (by decide), go_last w (cur ++ [b]) (fun x hx => hw x (List.mem_cons_of_mem _ hx)) (by simp)]
    simp
/-- What a list in words is made of. -/
theorem show_word {lo hi z : Int} {l : List Int} (h0 : 0 ≤ lo) (hh : hi ≤ 59) (hB : listB lo hi l = true) : (∀ b ∈ (showS l z).data.toList, 42 ≤ b.toNat ∧ b.toNat ≤ 57) ∧ (showS l z).data.toList ≠ [] ∧ (showS l z).size ≤ 3 * l.length + 1 := by
  obtain ⟨hl, hr, hn⟩ := listB_up hB
  have h60 : ∀ x ∈ l, 0 ≤ x ∧ x < 60 := fun x hx => by have := hl x hx; omega
  unfold showS
  split
  · refine ⟨fun b hb => by simp at hb; subst hb; decide, by simp, by show 1 ≤ _; omega⟩
  · refine ⟨fun b hb => by have := show_bytes h60 _ (Nat.le_refl _) b hb; omega, ?_, ?_⟩
    · have := show_some h60 (k := l.length - 1) (by omega)
      rwa [show l.length - 1 + 1 = l.length by omega] at this
    · have := showP_size (l := l) (fun x hx => by have := h60 x hx; omega) l.length (Nat.le_refl _)
      omega
theorem back_text (s : ByteArray) : (⟨s.data.toList.toArray⟩ : ByteArray) = s := by cases s; rfl
/-- A right rule comes back from its text. -/
theorem rule_back {a b c d e : List Int} (h : cronB a b c d e = true) : pcO (cronS a b c d e) = some [a, b, c, d, e] := by
  unfold cronB at h
  simp only [Bool.and_eq_true] at h
  obtain ⟨h1, h2, h3, h4, h5⟩ := h
  obtain ⟨b1, s1, z1⟩ := show_word (z := 60) (by decide) (by decide) h1
  obtain ⟨b2, s2, z2⟩ := show_word (z := 24) (by decide) (by decide) h2
  obtain ⟨b3, s3, z3⟩ := show_word (z := 31) (by decide) (by decide) h3
  obtain ⟨b4, s4, z4⟩ := show_word (z := 12) (by decide) (by decide) h4
  obtain ⟨b5, s5, z5⟩ := show_word (z := 7) (by decide) (by decide) h5
  have n1 := list_len h1
  have n2 := list_len h2
  have n3 := list_len h3
  have n4 := list_len h4
  have n5 := list_len h5
  have one : (ByteArray.mk #[32]).size = 1 := rfl
  have hsz : (cronS a b c d e).size ≤ 600 := by
    unfold cronS
    simp only [ByteArray.size_append, one]
    omega
  have hbytes : (cronS a b c d e).data.toList = (showS a 60).data.toList ++ 32 :: ((showS b 24).data.toList ++ 32 :: ((showS c 31).data.toList ++ 32 :: ((showS d 12).data.toList ++ 32 :: (showS e 7).data.toList))) := by
    unfold cronS
    simp [ByteArray.data_append]
  have sp : ∀ {x : ByteArray}, (∀ b ∈ x.data.toList, 42 ≤ b.toNat ∧ b.toNat ≤ 57) → ∀ b ∈ x.data.toList, Lib.isSp b = false := fun hx b hb => by
    have := hx b hb
    rw [isSp_plain (by omega)]
    exact decide_eq_false (by omega)
  have hf : Lib.fields (cronS a b c d e).data.toList = [(showS a 60).data.toList, (showS b 24).data.toList, (showS c 31).data.toList, (showS d 12).data.toList, (showS e 7).data.toList] := by
    rw [hbytes]
    unfold Lib.fields
    rw [go_word _ [] _ (sp b1) (by simpa using s1), go_word _ [] _ (sp b2) (by simpa using s2), go_word _ [] _ (sp b3) (by simpa using s3), go_word _ [] _ (sp b4) (by simpa using s4), go_last _ [] (sp b5) (by simpa using s5)]
    rfl
  have hpl : ∀ x ∈ (cronS a b c d e).data.toList, 32 ≤ x.toNat ∧ x.toNat ≤ 126 := by
    intro x hx
    rw [hbytes] at hx
    simp only [List.mem_append, List.mem_cons] at hx
    rcases hx with h | h | h | h | h | h | h | h | h
    · have := b1 x h; omega
    · subst h; decide
    · have := b2 x h; omega
    · subst h; decide
    · have := b3 x h; omega
    · subst h; decide
    · have := b4 x h; omega
    · subst h; decide
    · have := b5 x h; omega
  have hparts : partsR (cronS a b c d e) = (Lib.fields (cronS a b c d e).data.toList, true) := by
    unfold partsR
    rw [if_neg (by omega), if_pos hpl, if_neg (by rw [hf]; simp)]
  unfold pcO
  rw [hparts, if_pos rfl, hf]
  show pcT [⟨_⟩, ⟨_⟩, ⟨_⟩, ⟨_⟩, ⟨_⟩] = _
  rw [back_text, back_text, back_text, back_text, back_text]
  obtain ⟨H1, e1, p1⟩ := field_back (z := 60) (by decide) (by decide) (by decide) (by decide) h1
  obtain ⟨H2, e2, p2⟩ := field_back (z := 24) (by decide) (by decide) (by decide) (by decide) h2
  obtain ⟨H3, e3, p3⟩ := field_back (z := 31) (by decide) (by decide) (by decide) (by decide) h3
  obtain ⟨H4, e4, p4⟩ := field_back (z := 12) (by decide) (by decide) (by decide) (by decide) h4
  obtain ⟨H5, e5, p5⟩ := field_back (z := 7) (by decide) (by decide) (by decide) (by decide) h5
  unfold pcT fieldL
  simp only []
  rw [e1, e2, e3, e4, e5]
  show some [picks H1 0 _, picks H2 0 _, picks H3 1 _, picks H4 1 _, picks H5 0 _] = _
  rw [p1, p2, p3, p4, p5]
end Go.Proofs.YteefacjjdalncaaGreatDoor

namespace Go.Proofs.YteefacjjdalncaaGreatDoor
open Go Go.RowKit
set_option linter.unusedVariables false

/-- A number within a reach. -/
def numOk (s : ByteArray) (lo hi : Int) : Bool := (rd s).2 && decide (lo ≤ (rd s).1) && decide ((rd s).1 ≤ hi)
/-- Two numbers. -/
def twoOk (x y : ByteArray) (lo hi : Int) : Bool := numOk x lo hi && (numOk y lo hi && decide ((rd x).1 ≤ (rd y).1))
theorem rd_not_free {s : ByteArray} (h : ¬ free s 45) : rd s = (0, false) := by
  have h2 : ∃ b ∈ s.data.toList, b.toNat = 45 := by
    apply Classical.byContradiction
    intro hn
    exact h fun b hb e => hn ⟨b, hb, e⟩
  obtain ⟨b, hb, e⟩ := h2
  obtain ⟨k, hk⟩ := List.getElem?_of_mem hb
  rw [Array.getElem?_toList] at hk
  obtain ⟨hlt, he⟩ := Array.getElem?_eq_some_iff.1 hk
  have hlt2 : k < s.size := hlt
  refine rd_none (j := k) hlt2 (.inl ?_)
  have : s[k] = b := he
  rw [this, e]
  decide
theorem piece_one {s : ByteArray} {lo hi : Int} (h1 : s ≠ ⟨#[42]⟩) (h2 : ¬ (2 < s.size ∧ s.extract 0 2 = ⟨#[42, 47]⟩)) (hf : free s 45) : (piece s lo hi).2.2.2 = twoOk s s lo hi ∧ (piece s lo hi).1 = (rd s).1 ∧ (piece s lo hi).2.1 = (rd s).1 ∧ (piece s lo hi).2.2.1 = 1 := by
  unfold piece
  rw [if_neg h1, if_neg h2, split_free hf]
  refine ⟨?_, rfl, rfl, rfl⟩
  show ((rd s).2 && true && decide (1 ≤ 2) && decide (lo ≤ (rd s).1) && decide ((rd s).1 ≤ (rd s).1) && decide ((rd s).1 ≤ hi)) = _
  unfold twoOk numOk
  cases (rd s).2 <;> simp
theorem split_len {s : ByteArray} {c : UInt8} (h : ¬ free s c.toNat) : 2 ≤ (splitB s c.toNat).length := by
  rcases first_of s c with ⟨_, hf⟩ | ⟨i, _, _, hf, he⟩
  · exact absurd hf h
  · rw [he, split_first hf, List.length_cons]
    have := cutsN_some (s.extract (i + 1) s.size) c.toNat
    omega
theorem piece_two {s x y : ByteArray} {lo hi : Int} (h1 : s ≠ ⟨#[42]⟩) (h2 : ¬ (2 < s.size ∧ s.extract 0 2 = ⟨#[42, 47]⟩)) (hf : free x 45) (he : s = x ++ ⟨#[45]⟩ ++ y) : (piece s lo hi).2.2.2 = twoOk x y lo hi ∧ (twoOk x y lo hi = true → (piece s lo hi).1 = (rd x).1 ∧ (piece s lo hi).2.1 = (rd y).1 ∧ (piece s lo hi).2.2.1 = 1) := by
  have hs : splitB s 45 = x :: splitB y 45 := by rw [he]; exact split_first (c := 45) hf
  unfold piece
  rw [if_neg h1, if_neg h2, hs]
  by_cases hy : free y 45
  · rw [split_free hy]
    refine ⟨?_, fun _ => ⟨rfl, rfl, rfl⟩⟩
    show ((rd x).2 && (rd y).2 && decide (2 ≤ 2) && decide (lo ≤ (rd x).1) && decide ((rd x).1 ≤ (rd y).1) && decide ((rd y).1 ≤ hi)) = _
    unfold twoOk numOk
    cases (rd x).2 <;> cases (rd y).2 <;> simp
    rw [Bool.eq_iff_iff]
    simp
    omega
  · have h3 := split_len (c := 45) hy
    have h3' : 2 ≤ (splitB y 45).length := h3
    have hz : twoOk x y lo hi = false := by
      unfold twoOk numOk
      rw [rd_not_free hy]
      simp
    refine ⟨?_, fun h => by rw [hz] at h; cases h⟩
    rw [hz]
    unfold pieceP
    have hl : ¬ (x :: splitB y 45).length ≤ 2 := by rw [List.length_cons]; omega
    simp only [decide_eq_false hl, Bool.and_false, Bool.false_and]
theorem pre_not {s : ByteArray} (h : Lib.hasPrefix s.data.toList [42, 47] = false) : ¬ (2 < s.size ∧ s.extract 0 2 = ⟨#[42, 47]⟩) := by
  rintro ⟨h1, h2⟩
  have h3 : (s.extract 0 2).data.toList = [42, 47] := by rw [h2]
  rw [ByteArray.data_extract, Array.toList_extract] at h3
  simp at h3
  have h4 : Lib.hasPrefix s.data.toList [42, 47] = true := by
    unfold Lib.hasPrefix
    rw [List.isPrefixOf_iff_prefix]
    exact ⟨s.data.toList.drop 2, by rw [← h3, List.take_append_drop]⟩
  rw [h] at h4
  cases h4
theorem pre_steps {s : ByteArray} (h : Lib.hasPrefix s.data.toList [42, 47] = true) : ∃ r : List UInt8, s = ⟨(42 :: 47 :: r).toArray⟩ ∧ Lib.trimPrefix s.data.toList [42, 47] = r := by
  unfold Lib.hasPrefix at h
  obtain ⟨r, hr⟩ := List.isPrefixOf_iff_prefix.1 h
  refine ⟨r, ?_, ?_⟩
  · apply ByteArray.ext
    apply Array.toList_inj.1
    rw [← hr]
    simp
  · unfold Lib.trimPrefix Lib.hasPrefix
    rw [if_pos h, ← hr]
    rfl
theorem piece_steps {r : List UInt8} {lo hi : Int} : (piece ⟨(42 :: 47 :: r).toArray⟩ lo hi).2.2.2 = ((rd ⟨r.toArray⟩).2 && decide (1 ≤ (rd ⟨r.toArray⟩).1)) ∧ (((rd ⟨r.toArray⟩).2 && decide (1 ≤ (rd ⟨r.toArray⟩).1)) = true → (piece ⟨(42 :: 47 :: r).toArray⟩ lo hi).1 = lo ∧ (piece ⟨(42 :: 47 :: r).toArray⟩ lo hi).2.1 = hi ∧ (piece ⟨(42 :: 47 :: r).toArray⟩ lo hi).2.2.1 = (rd ⟨r.toArray⟩).1) := by
  have h1 : (⟨(42 :: 47 :: r).toArray⟩ : ByteArray) ≠ ⟨#[42]⟩ := by
    intro e
    have := congrArg ByteArray.size e
    simp [ByteArray.size] at this
  cases r with
  | nil =>
    have hz : rd ⟨([] : List UInt8).toArray⟩ = (0, false) := rd_out (.inl rfl)
    have hp := piece_one (s := ⟨(42 :: 47 :: ([] : List UInt8)).toArray⟩) (lo := lo) (hi := hi) h1 (by intro h; exact absurd h.1 (by show ¬ 2 < 2; decide)) (by intro b hb; simp at hb; rcases hb with rfl | rfl <;> decide)
    have hr : rd ⟨(42 :: 47 :: ([] : List UInt8)).toArray⟩ = (0, false) := rd_none (j := 0) (by show 0 < 2; decide) (.inl (by show (42 : UInt8).toNat < 48; decide))
    rw [hz, hp.1]
    refine ⟨?_, fun h => by cases h⟩
    unfold twoOk numOk
    rw [hr]
    rfl
  | cons b r =>
    have h2 : 2 < (⟨(42 :: 47 :: b :: r).toArray⟩ : ByteArray).size ∧ (⟨(42 :: 47 :: b :: r).toArray⟩ : ByteArray).extract 0 2 = ⟨#[42, 47]⟩ := by
      refine ⟨by simp [ByteArray.size], ?_⟩
      apply ByteArray.ext
      simp
    have h3 : (⟨(42 :: 47 :: b :: r).toArray⟩ : ByteArray).extract 2 (⟨(42 :: 47 :: b :: r).toArray⟩ : ByteArray).size = ⟨(b :: r).toArray⟩ := by
      apply ByteArray.ext
      simp [ByteArray.size]
    unfold piece
    rw [if_neg h1, if_pos h2, h3]
    exact ⟨rfl, fun _ => ⟨rfl, rfl, rfl⟩⟩
/-- What readPiece answers. -/
def pieceF (s : ByteArray) (lo hi : Int) : Nat → Bool := orNone (piece s lo hi).2.2.2 (eachP (piece s lo hi).1.toNat (piece s lo hi).2.1 (piece s lo hi).2.2.1.toNat)
/-- The library's word of the greatest length is some number. -/
def MaxIs (w : World) : Prop := ∃ m, w.cell? ⟨3, 0, none⟩ = some (.int .i64 m)
theorem MaxIs.up {w w' : World} (h : MaxIs w) (hb : Below w.heap.size w w') : MaxIs w' := by
  obtain ⟨m, hm⟩ := h
  exact ⟨m, cell_up hb hm⟩
theorem cut_is (s : ByteArray) : (free s 45 ∧ Lib.cut s.data.toList [45] = (s.data.toList, [], false)) ∨ ∃ x y : ByteArray, free x 45 ∧ s = x ++ ⟨#[45]⟩ ++ y ∧ Lib.cut s.data.toList [45] = (x.data.toList, y.data.toList, true) := by
  rcases first_of s 45 with ⟨h, hf⟩ | ⟨i, h, hi, hf, he⟩
  · left
    refine ⟨hf, ?_⟩
    have h' : Lib.index s.data.toList [45] = -1 := h
    unfold Lib.cut
    rw [if_neg (by rw [h']; decide)]
  · right
    refine ⟨s.extract 0 i, s.extract (i + 1) s.size, hf, he, ?_⟩
    have h' : Lib.index s.data.toList [45] = (i : Int) := h
    have hsz : s.data.toList.length = s.size := by simp
    unfold Lib.cut
    rw [if_pos (by rw [h']; omega), h', Int.toNat_natCast, ByteArray.data_extract, ByteArray.data_extract]
    refine Prod.ext ?_ (Prod.ext ?_ rfl)
    · simp
    · show List.drop (i + 1) s.data.toList = _
      rw [Array.toList_extract]
      simp
      rw [List.take_of_length_le (by simp)]

def B2c (W : World) (b : Nat) (lo hi : Int) : Prop := W.cell? ⟨b, 0, none⟩ = some (.int .i64 lo) ∧ W.cell? ⟨b, 1, none⟩ = some (.int .i64 hi)
theorem B2c.up {W W' : World} {b : Nat} {lo hi : Int} (h : B2c W b lo hi) (hb : Below W.heap.size W W') : B2c W' b lo hi := ⟨cell_up hb h.1, cell_up hb h.2⟩
set_option maxRecDepth 10000 in
set_option maxHeartbeats 4000000 in
theorem readPiece_any (s : ByteArray) (lo : Nat) (hi : Int) (w : World) (hs : s.size ≤ 1048576) (hlo : lo ≤ 60) (h9 : hi ≤ 59) (hm : MaxIs w) :
    Calls Tryz.prog 183 #[.string s, .agg #[.int .i64 (lo : Int), .int .i64 hi]] w fun e w' => e = .returned (.tuple #[.agg (fldA (pieceF s lo hi)), .bool (piece s lo hi).2.2.2]) ∧ Below w.heap.size w w' := by
  have HM : Hid (∀ W, Below w.heap.size w W → MaxIs W) := fun W hb => hm.up hb
  clear hm
  by_cases h1 : s = ⟨#[42]⟩
  · have HP : Hid (piece s lo hi = ((lo : Int), hi, 1, true)) := by show piece s lo hi = _; unfold piece; rw [if_pos h1]
    have HF : Hid (fldA (pieceF s lo hi) = fldA (eachP lo hi 1)) := by show _ = _; unfold pieceF; rw [HP.out]; rfl
    rw [HF.out, HP.out]
    have HE : Hid (∀ W, Calls Tryz.prog 186 #[.agg #[.int .i64 (lo : Int), .int .i64 hi], .int .i64 1] W fun e w' => e = .returned (.agg (fldA (eachP lo hi 1))) ∧ Below W.heap.size W w') := fun W => eachOf_nat lo 1 hi W hlo h9 (by decide) (by decide)
    clear HP HF
    subst h1
    go_enter Tryz.func183, Tryz.ntmps183
    obtain ⟨V, HV⟩ : ∃ V, Hid ((w.alloc (.cells #[.int .i64 (lo : Int), .int .i64 hi] 166)).alloc (.cells (fldA fun _ => false) 160) = V) := ⟨_, rfl⟩
    have HZ : Hid (Fb 160 V (w.heap.size + 1) (fun _ => false)) := by show Fb _ _ _ _; rw [← HV.out]; exact Fb.new 160 _ _ (by simp)
    have c0 : V.cell? ⟨w.heap.size, 0, none⟩ = some (.int .i64 (lo : Int)) := by rw [← HV.out]; simp [go_sem]
    have c1 : V.cell? ⟨w.heap.size, 1, none⟩ = some (.int .i64 hi) := by rw [← HV.out]; simp [go_sem]
    have BV : Below w.heap.size w V := by rw [← HV.out]; exact ba (ba (Below.refl _ _) _) _
    go_wp2_with (refine wpl_alloc rfl rfl ?_; rw [HV.out])
    refine (HE.out _).mono ?_
    rintro e w1 ⟨rfl, hb1⟩
    have HZ1 : Hid (Fb 160 w1 (w.heap.size + 1) (fun _ => false)) := HZ.out.up hb1
    have B1 := Below.on BV hb1
    clear hb1 c0 c1
    go_wp2_with (refine wpl_store HZ1.out (eachP lo hi 1) (.tmp 4) (.tmp 18) rfl rfl rfl rfl ?_)
    refine bodyPost_ret (ret_f2 rfl rfl rfl (HZ1.out.row _)) rfl ?_
    exact ⟨rfl, below_setRow B1 (by omega) _⟩
  have hq : (s.toList == [42]) = false := by rw [← star_list]; exact ne_list h1
  cases hpre : Lib.hasPrefix s.data.toList [42, 47] with
  | true =>
    obtain ⟨r, hsr, htr⟩ := pre_steps hpre
    have hps := piece_steps (r := r) (lo := lo) (hi := hi)
    rw [← hsr] at hps
    obtain ⟨X, hX⟩ : ∃ X : ByteArray, (⟨r.toArray⟩ : ByteArray) = X := ⟨_, rfl⟩
    rw [hX] at hps
    have hXs : X.size ≤ 9223372036854775807 := by
      rw [← hX]
      have h7 : s.data.size = r.length + 2 := by rw [hsr]; simp
      have h8 : s.data.size = s.size := rfl
      show r.toArray.size ≤ _
      rw [List.size_toArray]
      omega
    have HCP : Hid (∀ W, Calls Tryz.prog 214 #[.string s, .string ⟨#[42, 47]⟩] W fun e w' => e = .returned (.tuple #[.string X, .bool true]) ∧ w' = W) := fun W => by
      have := Tryz.strings_CutPrefix s ⟨#[42, 47]⟩ W
      have e1 : (⟨#[42, 47]⟩ : ByteArray).data.toList = [42, 47] := rfl
      rw [e1, hpre, htr, hX] at this
      exact this
    have HST : Hid (∀ W, Calls Tryz.prog 215 #[.string X, .agg #[.int .i64 (lo : Int), .int .i64 hi]] W fun e w' => e = .returned (.tuple #[.agg (fldA (pieceF s lo hi)), .bool (piece s lo hi).2.2.2]) ∧ Below W.heap.size W w') := fun W => by
      have := readSteps_any X lo hi W hXs hlo h9
      rw [← hps.1] at this
      have e2 : fldA (orNone (piece s lo hi).2.2.2 (eachP lo hi (rd X).1.toNat)) = fldA (pieceF s lo hi) := by
        unfold pieceF
        cases hk : (piece s lo hi).2.2.2 with
        | false => rfl
        | true =>
          obtain ⟨g1, g2, g3⟩ := hps.2 (hps.1.symm.trans hk)
          rw [g1, g2, g3]
          rfl
      rw [e2] at this
      exact this
    obtain ⟨PF, HPF⟩ : ∃ PF, Hid (pieceF s lo hi = PF) := ⟨_, rfl⟩
    obtain ⟨OK, HOK⟩ : ∃ OK, Hid ((piece s lo hi).2.2.2 = OK) := ⟨_, rfl⟩
    rw [HPF.out, HOK.out] at HST
    rw [HPF.out, HOK.out]
    clear HPF HOK hps hsr htr hX hpre h1
    go_enter Tryz.func183, Tryz.ntmps183
    obtain ⟨V, HV⟩ : ∃ V, Hid ((w.alloc (.cells #[.int .i64 (lo : Int), .int .i64 hi] 166)).alloc (.cells (fldA fun _ => false) 160) = V) := ⟨_, rfl⟩
    have HZ : Hid (Fb 160 V (w.heap.size + 1) (fun _ => false)) := by show Fb _ _ _ _; rw [← HV.out]; exact Fb.new 160 _ _ (by simp)
    have c0 : V.cell? ⟨w.heap.size, 0, none⟩ = some (.int .i64 (lo : Int)) := by rw [← HV.out]; simp [go_sem]
    have c1 : V.cell? ⟨w.heap.size, 1, none⟩ = some (.int .i64 hi) := by rw [← HV.out]; simp [go_sem]
    have BV : Below w.heap.size w V := by rw [← HV.out]; exact ba (ba (Below.refl _ _) _) _
    go_wp2_with (first | (refine wpl_alloc rfl rfl ?_; rw [HV.out]) | (go_at_call 214; refine (HCP.out _).mono ?_; rintro e w2 ⟨rfl, hw⟩; have hw2 := hw.symm; subst hw2))
    refine (HST.out _).mono ?_
    rintro e w1 ⟨rfl, hb1⟩
    have HZ1 : Hid (Fb 160 w1 (w.heap.size + 1) (fun _ => false)) := HZ.out.up hb1
    have B1 := Below.on BV hb1
    clear hb1 c0 c1
    go_wp2_with (refine wpl_store HZ1.out PF (.tmp 4) (.tmp 28) rfl rfl rfl rfl ?_)
    refine bodyPost_ret (ret_f2 rfl rfl rfl (HZ1.out.row _)) rfl ?_
    exact ⟨rfl, below_setRow B1 (by omega) _⟩
  | false =>
    have h2 := pre_not hpre
    have HCP : Hid (∀ W, ∃ z, Calls Tryz.prog 214 #[.string s, .string ⟨#[42, 47]⟩] W fun e w' => e = .returned (.tuple #[.string z, .bool false]) ∧ w' = W) := fun W => by
      have := Tryz.strings_CutPrefix s ⟨#[42, 47]⟩ W
      have e1 : (⟨#[42, 47]⟩ : ByteArray).data.toList = [42, 47] := rfl
      rw [e1, hpre] at this
      exact ⟨_, this⟩
    obtain ⟨X, Y, f, HXY⟩ : ∃ (X Y : ByteArray) (f : Bool), Hid (X.size ≤ 9223372036854775807 ∧ Y.size ≤ 9223372036854775807 ∧ (f = false → Y = X) ∧ (∀ W, MaxIs W → ∃ Z, (f = true → Z = Y) ∧ Calls Tryz.prog 216 #[.string s, .string ⟨#[45]⟩] W fun e w' => e = .returned (.tuple #[.string X, .string Z, .bool f]) ∧ Below W.heap.size W w') ∧ (piece s lo hi).2.2.2 = twoOk X Y lo hi ∧ (twoOk X Y lo hi = true → (piece s lo hi).1 = (rd X).1 ∧ (piece s lo hi).2.1 = (rd Y).1 ∧ (piece s lo hi).2.2.1 = 1)) := by
      have hcut : ∀ W, MaxIs W → Calls Tryz.prog 216 #[.string s, .string ⟨#[45]⟩] W fun e w' => e = .returned (.tuple #[.string ⟨(Lib.cut s.data.toList [45]).1.toArray⟩, .string ⟨(Lib.cut s.data.toList [45]).2.1.toArray⟩, .bool (Lib.cut s.data.toList [45]).2.2]) ∧ Below W.heap.size W w' := fun W hW => by
        obtain ⟨m, hm⟩ := hW
        refine (Tryz.strings_Cut s ⟨#[45]⟩ m W (by omega) hm).mono ?_
        rintro e w' ⟨he, n, hw⟩
        exact ⟨he, by rw [hw]; exact bdrewN (Below.refl _ _) n⟩
      rcases cut_is s with ⟨hf, hc⟩ | ⟨x, y, hf, he, hc⟩
      · have hp := piece_one (lo := lo) (hi := hi) h1 h2 hf
        refine ⟨s, s, false, by omega, by omega, fun _ => rfl, fun W hW => ⟨⟨([] : List UInt8).toArray⟩, fun h => (by cases h), ?_⟩, hp.1, fun _ => hp.2⟩
        have := hcut W hW
        rw [hc, back_text] at this
        exact this
      · have hp := piece_two (lo := lo) (hi := hi) h1 h2 hf he
        have hsz := congrArg ByteArray.size he
        rw [ByteArray.size_append, ByteArray.size_append] at hsz
        refine ⟨x, y, true, by omega, by omega, fun h => (by cases h), fun W hW => ⟨y, fun _ => rfl, ?_⟩, hp.1, hp.2⟩
        have := hcut W hW
        rw [hc, back_text, back_text] at this
        exact this
    have HNX : Hid (∀ W, Calls Tryz.prog 217 #[.string X, .agg #[.int .i64 (lo : Int), .int .i64 hi]] W fun e w' => e = .returned (.tuple #[.int .i64 (rd X).1, .bool (numOk X lo hi)]) ∧ Below W.heap.size W w') := fun W => readNumber_any X lo hi W HXY.out.1
    have HNY : Hid (∀ W, Calls Tryz.prog 217 #[.string Y, .agg #[.int .i64 (lo : Int), .int .i64 hi]] W fun e w' => e = .returned (.tuple #[.int .i64 (rd Y).1, .bool (numOk Y lo hi)]) ∧ Below W.heap.size W w') := fun W => readNumber_any Y lo hi W HXY.out.2.1
    have hbx := rd_bd X
    have hby := rd_bd Y
    obtain ⟨x, hx⟩ : ∃ x : Nat, (rd X).1 = x := ⟨(rd X).1.toNat, by omega⟩
    obtain ⟨y, hy⟩ : ∃ y : Nat, (rd Y).1 = y := ⟨(rd Y).1.toNat, by omega⟩
    obtain ⟨qx, hqx⟩ : ∃ q, numOk X lo hi = q := ⟨_, rfl⟩
    obtain ⟨qy, hqy⟩ : ∃ q, numOk Y lo hi = q := ⟨_, rfl⟩
    have HBX : Hid (qx = true → (lo : Int) ≤ x ∧ (x : Int) ≤ hi) := fun h => by
      rw [← hqx] at h
      unfold numOk at h
      rw [hx] at h
      simp only [Bool.and_eq_true, decide_eq_true_eq] at h
      exact ⟨h.1.2, h.2⟩
    have HBY : Hid (qy = true → (lo : Int) ≤ y ∧ (y : Int) ≤ hi) := fun h => by
      rw [← hqy] at h
      unfold numOk at h
      rw [hy] at h
      simp only [Bool.and_eq_true, decide_eq_true_eq] at h
      exact ⟨h.1.2, h.2⟩
    have HTO : Hid (twoOk X Y lo hi = (qx && (qy && decide ((x : Int) ≤ (y : Int))))) := by show _ = _; unfold twoOk; rw [hqx, hqy, hx, hy]
    have HPOK : Hid ((piece s lo hi).2.2.2 = (qx && (qy && decide ((x : Int) ≤ (y : Int))))) := HXY.out.2.2.2.2.1.trans HTO.out
    have HPFN : Hid ((qx && (qy && decide ((x : Int) ≤ (y : Int)))) = false → fldA (pieceF s lo hi) = fldA (fun _ => false)) := fun h => by
      unfold pieceF
      rw [HPOK.out, h]
      rfl
    have HPFY : Hid ((qx && (qy && decide ((x : Int) ≤ (y : Int)))) = true → fldA (pieceF s lo hi) = fldA (eachP x y 1)) := fun h => by
      obtain ⟨g1, g2, g3⟩ := HXY.out.2.2.2.2.2 (HTO.out.trans h)
      unfold pieceF
      rw [HPOK.out, h, g1, g2, g3, hx, hy, Int.toNat_natCast]
      rfl
    rw [hx, hqx] at HNX
    rw [hy, hqy] at HNY
    rw [hx] at hbx
    rw [hy] at hby
    have HC : Hid (∀ W, Below w.heap.size w W → ∃ Z, (f = true → Z = Y) ∧ Calls Tryz.prog 216 #[.string s, .string ⟨#[45]⟩] W fun e w' => e = .returned (.tuple #[.string X, .string Z, .bool f]) ∧ Below W.heap.size W w') := fun W hb => HXY.out.2.2.2.1 W (HM.out W hb)
    have HYX : Hid (f = false → Y = X) := HXY.out.2.2.1
    obtain ⟨PF, HPF⟩ : ∃ PF, Hid (pieceF s lo hi = PF) := ⟨_, rfl⟩
    rw [HPF.out] at HPFN HPFY
    rw [HPF.out, HPOK.out]
    clear HPF HPOK HTO HXY hx hy hqx hqy hpre h1 h2 HM
    go_enter Tryz.func183, Tryz.ntmps183
    obtain ⟨V, HV⟩ : ∃ V, Hid ((w.alloc (.cells #[.int .i64 (lo : Int), .int .i64 hi] 166)).alloc (.cells (fldA fun _ => false) 160) = V) := ⟨_, rfl⟩
    have HZ : Hid (Fb 160 V (w.heap.size + 1) (fun _ => false)) := by show Fb _ _ _ _; rw [← HV.out]; exact Fb.new 160 _ _ (by simp)
    have HZC : Hid (B2c V w.heap.size lo hi) := by show B2c _ _ _ _; rw [← HV.out]; exact ⟨by simp [go_sem], by simp [go_sem]⟩
    have BV : Below w.heap.size w V := by rw [← HV.out]; exact ba (ba (Below.refl _ _) _) _
    obtain ⟨z, hcp⟩ := HCP.out V
    obtain ⟨Z, hZ, hct⟩ := HC.out V BV
    have HCT : Hid (Calls Tryz.prog 216 #[.string s, .string ⟨#[45]⟩] V fun e w' => e = .returned (.tuple #[.string X, .string Z, .bool f]) ∧ Below V.heap.size V w') := hct
    have HCPV : Hid (Calls Tryz.prog 214 #[.string s, .string ⟨#[42, 47]⟩] V fun e w' => e = .returned (.tuple #[.string z, .bool false]) ∧ w' = V) := hcp
    have HZE : Hid (f = true → Z = Y) := hZ
    clear hcp hct hZ HCP HC
    go_wp2_with (first | (refine wpl_alloc rfl rfl ?_; rw [HV.out]) | (go_at_call 214; refine HCPV.out.mono ?_; rintro e w2 ⟨rfl, hw⟩; have hw2 := hw.symm; subst hw2))
    refine HCT.out.mono ?_
    rintro e w1 ⟨rfl, hb1⟩
    have HZ1 : Hid (Fb 160 w1 (w.heap.size + 1) (fun _ => false)) := HZ.out.up hb1
    have HC1 : Hid (B2c w1 w.heap.size lo hi) := HZC.out.up hb1
    have B1 := Below.on BV hb1
    clear hb1 HV HZ HZC BV HCT HCPV
    have c0 := HC1.out.1
    have c1 := HC1.out.2
    cases f with
    | false =>
      have hyx := HYX.out rfl
      subst hyx
      go_wp2_with fail
      refine (HNX.out _).mono ?_
      rintro e w3 ⟨rfl, hb3⟩
      have HZ3 : Hid (Fb 160 w3 (w.heap.size + 1) (fun _ => false)) := HZ1.out.up hb3
      have HC3 : Hid (B2c w3 w.heap.size lo hi) := HC1.out.up hb3
      have B3 := Below.on B1 hb3
      clear hb3 c0 c1
      have c0 := HC3.out.1
      have c1 := HC3.out.2
      go_wp2_with fail
      refine (HNY.out _).mono ?_
      rintro e w4 ⟨rfl, hb4⟩
      have HZ4 : Hid (Fb 160 w4 (w.heap.size + 1) (fun _ => false)) := HZ3.out.up hb4
      have B4 := Below.on B3 hb4
      clear hb4 c0 c1 HC3 HC1 HZ1 HZ3 B3 B1 HNX HNY
      cases qx with
      | false =>
        have HF := HPFN.out rfl
        go_wp2_with (first | (refine wpl_build rfl rfl ?_) | (refine wpl_store HZ4.out (fun _ => false) (.tmp 4) (.tmp 62) rfl rfl rfl rfl ?_))
        refine bodyPost_ret (ret_f2 rfl rfl rfl (HZ4.out.row _)) rfl ?_
        exact ⟨by rw [HF]; rfl, below_setRow B4 (by omega) _⟩
      | true =>
        cases qy with
        | false =>
          have HF := HPFN.out rfl
          go_wp2_with (first | (refine wpl_build rfl rfl ?_) | (refine wpl_store HZ4.out (fun _ => false) (.tmp 4) (.tmp 62) rfl rfl rfl rfl ?_))
          refine bodyPost_ret (ret_f2 rfl rfl rfl (HZ4.out.row _)) rfl ?_
          exact ⟨by rw [HF]; rfl, below_setRow B4 (by omega) _⟩
        | true =>
          obtain ⟨x0, x1⟩ := HBX.out rfl
          obtain ⟨y0, y1⟩ := HBY.out rfl
          by_cases hxy : (x : Int) ≤ (y : Int)
          · have hd : decide ((x : Int) ≤ (y : Int)) = true := decide_eq_true hxy
            have HF : Hid (fldA PF = fldA (eachP x y 1)) := HPFY.out (by rw [hd]; rfl)
            have g1 : decide ((y : Int) < (x : Int)) = false := decide_eq_false (by omega)
            have HE : Hid (∀ W, Calls Tryz.prog 186 #[.agg #[.int .i64 (x : Int), .int .i64 (y : Int)], .int .i64 1] W fun e w' => e = .returned (.agg (fldA (eachP x y 1))) ∧ Below W.heap.size W w') := fun W => eachOf_nat x 1 y W (by omega) (by omega) (by decide) (by decide)
            have HD : Hid (decide ((x : Int) ≤ (y : Int)) = true) := hd
            clear hd
            go_wp2_with fail
            refine (HE.out _).mono ?_
            rintro e w5 ⟨rfl, hb5⟩
            have HZ5 : Hid (Fb 160 w5 (w.heap.size + 1) (fun _ => false)) := HZ4.out.up hb5
            have B5' := Below.on B4 hb5
            clear hb5
            go_wp2_with (refine wpl_store HZ5.out (eachP x y 1) (.tmp 4) (.tmp 66) rfl rfl rfl rfl ?_)
            refine bodyPost_ret (ret_f2 rfl rfl rfl (HZ5.out.row _)) rfl ?_
            exact ⟨by rw [HF.out, HD.out]; rfl, below_setRow B5' (by omega) _⟩
          · have hd : decide ((x : Int) ≤ (y : Int)) = false := decide_eq_false hxy
            have HF : Hid (fldA PF = fldA (fun _ => false)) := HPFN.out (by rw [hd]; rfl)
            have HD : Hid (decide ((x : Int) ≤ (y : Int)) = false) := hd
            have g1 : decide ((y : Int) < (x : Int)) = true := decide_eq_true (by omega)
            clear hd
            go_wp2_with (first | (refine wpl_build rfl rfl ?_) | (refine wpl_store HZ4.out (fun _ => false) (.tmp 4) (.tmp 62) rfl rfl rfl rfl ?_))
            refine bodyPost_ret (ret_f2 rfl rfl rfl (HZ4.out.row _)) rfl ?_
            exact ⟨by rw [HF.out, HD.out]; rfl, below_setRow B4 (by omega) _⟩
    | true =>
      have hzy := HZE.out rfl
      subst hzy
      go_wp2_with fail
      refine (HNX.out _).mono ?_
      rintro e w3 ⟨rfl, hb3⟩
      have HZ3 : Hid (Fb 160 w3 (w.heap.size + 1) (fun _ => false)) := HZ1.out.up hb3
      have HC3 : Hid (B2c w3 w.heap.size lo hi) := HC1.out.up hb3
      have B3 := Below.on B1 hb3
      clear hb3 c0 c1
      have c0 := HC3.out.1
      have c1 := HC3.out.2
      go_wp2_with fail
      refine (HNY.out _).mono ?_
      rintro e w4 ⟨rfl, hb4⟩
      have HZ4 : Hid (Fb 160 w4 (w.heap.size + 1) (fun _ => false)) := HZ3.out.up hb4
      have B4 := Below.on B3 hb4
      clear hb4 c0 c1 HC3 HC1 HZ1 HZ3 B3 B1 HNX HNY
      cases qx with
      | false =>
        have HF := HPFN.out rfl
        go_wp2_with (first | (refine wpl_build rfl rfl ?_) | (refine wpl_store HZ4.out (fun _ => false) (.tmp 4) (.tmp 62) rfl rfl rfl rfl ?_))
        refine bodyPost_ret (ret_f2 rfl rfl rfl (HZ4.out.row _)) rfl ?_
        exact ⟨by rw [HF]; rfl, below_setRow B4 (by omega) _⟩
      | true =>
        cases qy with
        | false =>
          have HF := HPFN.out rfl
          go_wp2_with (first | (refine wpl_build rfl rfl ?_) | (refine wpl_store HZ4.out (fun _ => false) (.tmp 4) (.tmp 62) rfl rfl rfl rfl ?_))
          refine bodyPost_ret (ret_f2 rfl rfl rfl (HZ4.out.row _)) rfl ?_
          exact ⟨by rw [HF]; rfl, below_setRow B4 (by omega) _⟩
        | true =>
          obtain ⟨x0, x1⟩ := HBX.out rfl
          obtain ⟨y0, y1⟩ := HBY.out rfl
          by_cases hxy : (x : Int) ≤ (y : Int)
          · have hd : decide ((x : Int) ≤ (y : Int)) = true := decide_eq_true hxy
            have HF : Hid (fldA PF = fldA (eachP x y 1)) := HPFY.out (by rw [hd]; rfl)
            have g1 : decide ((y : Int) < (x : Int)) = false := decide_eq_false (by omega)
            have HE : Hid (∀ W, Calls Tryz.prog 186 #[.agg #[.int .i64 (x : Int), .int .i64 (y : Int)], .int .i64 1] W fun e w' => e = .returned (.agg (fldA (eachP x y 1))) ∧ Below W.heap.size W w') := fun W => eachOf_nat x 1 y W (by omega) (by omega) (by decide) (by decide)
            have HD : Hid (decide ((x : Int) ≤ (y : Int)) = true) := hd
            clear hd
            go_wp2_with fail
            refine (HE.out _).mono ?_
            rintro e w5 ⟨rfl, hb5⟩
            have HZ5 : Hid (Fb 160 w5 (w.heap.size + 1) (fun _ => false)) := HZ4.out.up hb5
            have B5' := Below.on B4 hb5
            clear hb5
            go_wp2_with (refine wpl_store HZ5.out (eachP x y 1) (.tmp 4) (.tmp 66) rfl rfl rfl rfl ?_)
            refine bodyPost_ret (ret_f2 rfl rfl rfl (HZ5.out.row _)) rfl ?_
            exact ⟨by rw [HF.out, HD.out]; rfl, below_setRow B5' (by omega) _⟩
          · have hd : decide ((x : Int) ≤ (y : Int)) = false := decide_eq_false hxy
            have HF : Hid (fldA PF = fldA (fun _ => false)) := HPFN.out (by rw [hd]; rfl)
            have HD : Hid (decide ((x : Int) ≤ (y : Int)) = false) := hd
            have g1 : decide ((y : Int) < (x : Int)) = true := decide_eq_true (by omega)
            clear hd
            go_wp2_with (first | (refine wpl_build rfl rfl ?_) | (refine wpl_store HZ4.out (fun _ => false) (.tmp 4) (.tmp 62) rfl rfl rfl rfl ?_))
            refine bodyPost_ret (ret_f2 rfl rfl rfl (HZ4.out.row _)) rfl ?_
            exact ⟨by rw [HF.out, HD.out]; rfl, below_setRow B4 (by omega) _⟩
end Go.Proofs.YteefacjjdalncaaGreatDoor
