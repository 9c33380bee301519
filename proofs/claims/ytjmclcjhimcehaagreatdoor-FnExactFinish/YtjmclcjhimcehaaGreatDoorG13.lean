/-
  Contracts of the library, proved once there, laid at this program by the kit (its plain words). Decimal figures told: the walks. A field's text, as the program tells it: the walk. A field's numbers that are all of its reach: plain facts.
-/
import Derived.Shelf.Strconv.Itoa0
import Derived.Shelf.Strconv.Itoa1
import Derived.Shelf.LaysM
import Derived.Shelf.Strconv.Itoa2
import Derived.Shelf.Strconv.Itoa3
import Derived.Shelf.Strconv.Clone
import Derived.Shelf.Strings.Fields
import Derived.Shelf.Strings.SplitShaped
import Derived.Shelf.Unicode.Latin
import Derived.Shelf.Unicode.Is16White
import Derived.Shelf.Unicode.IsSpaceAny
import Derived.Shelf.Unicode.Is16Any
import Derived.Shelf.Unicode.Is32Any
import Derived.Shelf.Unicode.ExclAny
import Derived.Test.YtjmclcjhimcehaaGreatDoorProg
import Derived.Test.YtjmclcjhimcehaaGreatDoorRows
import Derived.Test.YtjmclcjhimcehaaGreatDoorAid
import Derived.Test.YtjmclcjhimcehaaGreatDoorG6
import Derived.Test.YtjmclcjhimcehaaGreatDoorMt
import Derived.WalkKit
import Derived.WalkSpells
import Derived.WalkLawsBesides
import Derived.Handy
import Derived.Test.YtjmclcjhimcehaaGreatDoorG4
import Derived.Test.YtjmclcjhimcehaaGreatDoorG9
import Derived.Test.YtjmclcjhimcehaaGreatDoorG10
import Derived.Test.YtjmclcjhimcehaaGreatDoorG3
import Derived.Test.YtjmclcjhimcehaaGreatDoorG5
namespace Go.Proofs
open Go.Shelf
def Tryz.laysM171_ren : Go.Shelf.Ren := ⟨fun | 171 => 216 | 243 => 227 | 246 => 237 | 283 => 243 | 284 => 244 | 285 => 245 | 286 => 246 | 129 => 182 | 317 => 249 | 318 => 250 | 319 => 251 | 320 => 252 | 337 => 253 | 338 => 254 | n => n, fun | 3 => 3 | 9 => 9 | 2 => 2 | 4 => 4 | 171 => 299 | 0 => 0 | 53 => 226 | 37 => 177 | 5 => 5 | 173 => 301 | 212 => 309 | 51 => 224 | 20 => 20 | 213 => 310 | 46 => 182 | 232 => 311 | 233 => 312 | n => n, fun | 17 => 6 | 18 => 7 | 19 => 8 | n => n⟩
theorem Tryz.laysM171 : Go.Proofs.LaysM.n171 Tryz.prog Tryz.laysM171_ren := {
  mixed := by kernel_rfl
  f129 := Tryz.func182.trans (congrArg some (by kernel_rfl))
  f171 := Tryz.func216.trans (congrArg some (by kernel_rfl))
  f243 := Tryz.func227.trans (congrArg some (by kernel_rfl))
  f246 := Tryz.func237.trans (congrArg some (by kernel_rfl))
  f283 := Tryz.func243.trans (congrArg some (by kernel_rfl))
  f284 := Tryz.func244.trans (congrArg some (by kernel_rfl))
  f285 := Tryz.func245.trans (congrArg some (by kernel_rfl))
  f286 := Tryz.func246.trans (congrArg some (by kernel_rfl))
  f317 := Tryz.func249.trans (congrArg some (by kernel_rfl))
  f318 := Tryz.func250.trans (congrArg some (by kernel_rfl))
  f319 := Tryz.func251.trans (congrArg some (by kernel_rfl))
  f320 := Tryz.func252.trans (congrArg some (by kernel_rfl))
  f337 := Tryz.func253.trans (congrArg some (by kernel_rfl))
  f338 := Tryz.func254.trans (congrArg some (by kernel_rfl))
  t0 := Tryz.underlying0
  a0 := Tryz.isAgg0
  z0 := Tryz.sizeOf0
  v0 := Tryz.zeroValue0
  t2 := Tryz.underlying2
  a2 := Tryz.isAgg2
  z2 := Tryz.sizeOf2
  v2 := Tryz.zeroValue2
  t3 := Tryz.underlying3
  a3 := Tryz.isAgg3
  z3 := Tryz.sizeOf3
  v3 := Tryz.zeroValue3
  t4 := Tryz.underlying4
  a4 := Tryz.isAgg4
  z4 := Tryz.sizeOf4
  v4 := Tryz.zeroValue4
  t5 := Tryz.underlying5
  a5 := Tryz.isAgg5
  z5 := Tryz.sizeOf5
  v5 := Tryz.zeroValue5
  t9 := Tryz.underlying9
  a9 := Tryz.isAgg9
  z9 := Tryz.sizeOf9
  v9 := Tryz.zeroValue9
  t20 := Tryz.underlying20
  a20 := Tryz.isAgg20
  z20 := Tryz.sizeOf20
  v20 := Tryz.zeroValue20
  t37 := Tryz.underlying177
  a37 := Tryz.isAgg177
  z37 := Tryz.sizeOf177
  v37 := Tryz.zeroValue177
  t46 := Tryz.underlying182
  a46 := Tryz.isAgg182
  z46 := Tryz.sizeOf182
  v46 := Tryz.zeroValue182
  t51 := Tryz.underlying224
  a51 := Tryz.isAgg224
  z51 := Tryz.sizeOf224
  v51 := Tryz.zeroValue224
  t53 := Tryz.underlying226
  a53 := Tryz.isAgg226
  z53 := Tryz.sizeOf226
  v53 := Tryz.zeroValue226
  t171 := Tryz.underlying299
  a171 := Tryz.isAgg299
  z171 := Tryz.sizeOf299
  v171 := Tryz.zeroValue299
  t173 := Tryz.underlying301
  a173 := Tryz.isAgg301
  z173 := Tryz.sizeOf301
  v173 := Tryz.zeroValue301
  t212 := Tryz.underlying309
  a212 := Tryz.isAgg309
  z212 := Tryz.sizeOf309
  v212 := Tryz.zeroValue309
  t213 := Tryz.underlying310
  a213 := Tryz.isAgg310
  z213 := Tryz.sizeOf310
  t232 := Tryz.underlying311
  a232 := Tryz.isAgg311
  z232 := Tryz.sizeOf311
  v232 := Tryz.zeroValue311
  t233 := Tryz.underlying312
  a233 := Tryz.isAgg312
  z233 := Tryz.sizeOf312
  v233 := Tryz.zeroValue312
  g17 := by kernel_rfl
  g18 := by kernel_rfl
  g19 := by kernel_rfl
  i0 := by kernel_rfl
  i2 := by kernel_rfl
  i3 := by kernel_rfl
  i4 := by kernel_rfl
  i5 := by kernel_rfl
  i9 := by kernel_rfl
  i20 := by kernel_rfl
  i37 := by kernel_rfl
  i46 := by kernel_rfl
  i51 := by kernel_rfl
  i53 := by kernel_rfl
  i171 := by kernel_rfl
  i173 := by kernel_rfl
  i212 := by kernel_rfl
  i232 := by kernel_rfl
  i233 := by kernel_rfl
  m17 := by kernel_rfl
  m18 := by kernel_rfl
  m19 := by kernel_rfl }
open Go.RowKit Go.Sort Go.Lib in
theorem Tryz.strconv_Itoa (n : Int) (h0 : -9223372036854775808 ≤ n) (h1 : n ≤ 9223372036854775807) (w : World) (htab : Lib.TabIs Tryz.prog w "internal/strconv.uint64pow10" .u64 Lib.pow10Tab) :
    Calls Tryz.prog 216 #[.int .i64 n] w fun e w' => e = .returned (.string ⟨(Lib.itoa n).toArray⟩) ∧ ∃ k os, w' = grow (w.drewN k) os := Any.strconv_Itoa Tryz.laysM171 n h0 h1 w htab
end Go.Proofs

namespace Go.Proofs.YtjmclcjhimcehaaGreatDoor
open Go.RowKit

set_option maxRecDepth 10000 in
set_option maxHeartbeats 400000 in
theorem specDec_zero (w : World) :
    Calls Tryz.prog 160 #[.int .i64 0] w fun e w' => e = .returned (.string (bstr (decI 0))) ∧ Below w.heap.size w w' := by
  go_enter Tryz.func160, Tryz.ntmps160
  go_wp2
  go_ret
  exact ⟨rfl, Below.refl _ _⟩

set_option maxRecDepth 10000 in
set_option maxHeartbeats 400000 in
theorem specDec_pos (n : Nat) (w : World) (h0 : 0 < n) (hn : n ≤ 9223372036854775807) :
    Calls Tryz.prog 160 #[.int .i64 n] w fun e w' => e = .returned (.string (bstr (decI n))) ∧ Below w.heap.size w w' := by
  have hz : ((n : Int) == 0) = false := by simp; omega
  have hneg : decide ((n : Int) < 0) = false := by simp
  go_enter Tryz.func160, Tryz.ntmps160
  go_wp2
  go_loopw [0, 4] (fun c st wr => ∃ (m : Nat) (t : List Int), c = .int .i64 m ∧ st = .string (bstr t) ∧ t.length + m ≤ n ∧ Hid (decI n = decPre m ++ t) ∧ Below w.heap.size w wr) (fun c _ _ => (intOf c).toNat)
  case atStart => exact ⟨n, [], rfl, rfl, by simp, (by show decI n = decPre n ++ []; unfold decPre; rw [if_neg (by omega)]; simp), Below.refl _ _⟩
  case round =>
    obtain ⟨m, t, rfl, rfl, hle, HE, hbel⟩ := hrel
    have hsz := hbel.size
    by_cases hm : m = 0
    · subst hm
      go_wp2
      go_ret
      exact ⟨by rw [HE.out]; rfl, hbel⟩
    · have hm2 : ((m : Int) != 0) = true := by rw [bne_iff_ne]; omega
      have hcv := run_one_string wr (fig ((m : Int) % 10))
      have hadd : ∀ wx, (Op.stringOp .add (bstr [fig ((m : Int) % 10)]) (bstr t)).run Tryz.prog wx = .ok (.string (bstr (fig ((m : Int) % 10) :: t))) wx := fun wx => by
        rw [run_string_add_sum wx _ _ (by rw [bstr_size', bstr_size']; simp; omega), bstr_cons]
      go_wp2_with (go_at_call 189; refine (l01Figure_any _ _ (by omega) (by omega)).mono ?_; rintro e w' ⟨rfl, hw⟩; have hw2 := hw.symm; subst hw2)
      go_roundw
      case rel => exact ⟨m / 10, fig ((m : Int) % 10) :: t, by go_num, rfl, by simp; omega, (by show decI n = _; rw [HE.out, decPre_step hm, show fig ((m : Int) % 10) = 48 + (m : Int) % 10 by unfold fig; rw [if_pos (by omega)]]), hbel.alloc hsz _⟩
      case measure => simp [intOf]; omega

theorem told_step {n m : Nat} {t : List Int} (HE : Hid (decI n = decPre m ++ t)) (hm : m ≠ 0) : Hid (decI n = decPre (m / 10) ++ (fig ((m : Int) % 10) :: t)) := by
  show decI n = _
  rw [HE.out, decPre_step hm, show fig ((m : Int) % 10) = 48 + (m : Int) % 10 by unfold fig; rw [if_pos (by omega)]]

set_option maxRecDepth 10000 in
set_option maxHeartbeats 400000 in
theorem specDec_neg (n : Nat) (w : World) (h0 : 0 < n) (hn : n ≤ 9223372036854775808) :
    Calls Tryz.prog 160 #[.int .i64 (-(n : Int))] w fun e w' => e = .returned (.string (bstr (45 :: decI n))) ∧ Below w.heap.size w w' := by
  have hz : ((-(n : Int)) == 0) = false := beq_eq_false_iff_ne.2 (by omega)
  have hneg : decide ((-(n : Int)) < 0) = true := decide_eq_true (by omega)
  go_enter Tryz.func160, Tryz.ntmps160
  go_wp2
  go_loopw [0, 4, 5] (fun c st _ wr => ∃ (m : Nat) (t : List Int), c = .int .i64 (-(m : Int)) ∧ st = .string (bstr t) ∧ m ≤ n ∧ Hid (decI n = decPre m ++ t) ∧ Below w.heap.size w wr) (fun c _ _ _ => (-(intOf c)).toNat)
  case atStart => exact ⟨n, [], rfl, rfl, by simp, (by show decI n = decPre n ++ []; unfold decPre; rw [if_neg (by omega)]; simp), Below.refl _ _⟩
  case round =>
    obtain ⟨m, t, rfl, rfl, hle, HE, hbel⟩ := hrel
    have hsz := hbel.size
    have htl := told_len hn HE
    by_cases hm : m = 0
    · subst hm
      have hadd : ∀ wx, (Op.stringOp .add { data := #[45] } (bstr t)).run Tryz.prog wx = .ok (.string (bstr (45 :: t))) wx := run_add_one 45 t htl
      go_wp2
      go_ret
      exact ⟨by rw [HE.out]; rfl, hbel⟩
    · have hm2 : ((-(m : Int)) != 0) = true := by rw [bne_iff_ne]; omega
      have ht : (-(m : Int)).tmod 10 = -((m : Int) % 10) := by rw [Int.neg_tmod, Int.tmod_eq_emod_of_nonneg (by omega)]
      have hq : (-(m : Int)).tdiv 10 = -((m : Int) / 10) := by rw [Int.neg_tdiv, Int.tdiv_eq_ediv_of_nonneg (by omega)]
      have HS := told_step HE hm
      by_cases hd : m % 10 = 0
      · have hd2 : (m : Int) % 10 = 0 := by omega
        rw [hd2] at HS
        have hcv := run_one_string wr (fig 0)
        have hadd := run_add_one (fig 0) t htl
        go_wp2_with (go_at_call 189; refine (l01Figure_any _ _ (by omega) (by omega)).mono ?_; rintro e w' ⟨rfl, hw⟩; have hw2 := hw.symm; subst hw2)
        go_roundw
        case rel => exact ⟨m / 10, fig 0 :: t, by go_num, rfl, by omega, HS, hbel.alloc hsz _⟩
        case measure => simp [intOf]; omega
      · have hd1 : (0 : Int) < (m : Int) % 10 := by omega
        have hd2 : (m : Int) % 10 < 10 := by omega
        have hcv := run_one_string wr (fig ((m : Int) % 10))
        have hadd := run_add_one (fig ((m : Int) % 10)) t htl
        go_wp2_with (go_at_call 189; refine (l01Figure_any _ _ (by omega) (by omega)).mono ?_; rintro e w' ⟨rfl, hw⟩; have hw2 := hw.symm; subst hw2)
        go_roundw
        case rel => exact ⟨m / 10, fig ((m : Int) % 10) :: t, by go_num, rfl, by omega, HS, hbel.alloc hsz _⟩
        case measure => simp [intOf]; omega

theorem decI_lib : ∀ (f n : Nat), n ≤ f → (decI n).map (fun x => UInt8.ofNat x.toNat) = Lib.decDigits n
  | 0, n, h => by
    rw [decI_one (by omega), Lib.decDigits_one (by omega), List.map_cons, List.map_nil, show (48 + (n : Int)).toNat = 48 + n by omega]
  | f + 1, n, h => by
    by_cases hn : n < 10
    · rw [decI_one hn, Lib.decDigits_one hn, List.map_cons, List.map_nil, show (48 + (n : Int)).toNat = 48 + n by omega]
    · rw [decI_more hn, Lib.decDigits, dif_neg hn, List.map_append, decI_lib f (n / 10) (by omega), List.map_cons, List.map_nil, show (48 + (n : Int) % 10).toNat = 48 + n % 10 by omega]

/-- The figures of every number. -/
def decS (n : Int) : ByteArray := ⟨(Lib.itoa n).toArray⟩
theorem decS_pos (n : Nat) : bstr (decI n) = decS n := by
  unfold decS bstr
  rw [decI_lib _ _ (Nat.le_refl _)]
  simp [Lib.itoa]
theorem decS_neg (n : Nat) (h : 0 < n) : bstr (45 :: decI n) = decS (-(n : Int)) := by
  unfold decS bstr
  rw [List.map_cons, decI_lib _ _ (Nat.le_refl _)]
  simp [Lib.itoa, h]

theorem specDec_any (n : Int) (w : World) (h0 : -9223372036854775808 ≤ n) (h1 : n ≤ 9223372036854775807) :
    Calls Tryz.prog 160 #[.int .i64 n] w fun e w' => e = .returned (.string (decS n)) ∧ Below w.heap.size w w' := by
  by_cases hn : 0 ≤ n
  · obtain ⟨k, rfl⟩ := Int.eq_ofNat_of_zero_le hn
    rw [← decS_pos]
    by_cases hk : k = 0
    · subst hk; exact specDec_zero w
    · exact specDec_pos k w (by omega) (by omega)
  · obtain ⟨k, hk⟩ : ∃ k : Nat, n = -(k : Int) := ⟨n.natAbs, by omega⟩
    subst hk
    rw [← decS_neg k (by omega)]
    exact specDec_neg k w (by omega) (by omega)

/-- The table that the library's figures are reckoned by lies as it should. -/
def PowIs (w : World) : Prop := Lib.TabIs Tryz.prog w "internal/strconv.uint64pow10" .u64 Lib.pow10Tab
theorem gPow : Tryz.prog.globalNamed "internal/strconv.uint64pow10" = some 6 := by kernel_rfl
theorem below_grow_drewN (w : World) (k : Nat) (os : Array Obj) : Below w.heap.size w (Go.Sort.grow (w.drewN k) os) :=
  ⟨rfl, rfl, rfl, by simp [Go.Sort.grow, World.drewN], fun j hj => by
    show ((w.drewN k).heap ++ os)[j]? = _
    exact Array.getElem?_append_left hj⟩
theorem PowIs.below {w w1 : World} (h : PowIs w) (hb : Below w.heap.size w w1) : PowIs w1 := by
  have hc := Lib.TabIs.cell h gPow 0 (by decide)
  exact var?_below hb gPow (World.block_lt_of_cell? w _ hc) h

set_option maxRecDepth 10000 in
set_option maxHeartbeats 400000 in
theorem decimal_any (n : Int) (w : World) (h0 : -9223372036854775808 ≤ n) (h1 : n ≤ 9223372036854775807) (hp : PowIs w) :
    Calls Tryz.prog 197 #[.int .i64 n] w fun e w' => e = .returned (.string (decS n)) ∧ Below w.heap.size w w' := by
  go_enter Tryz.func197, Tryz.ntmps197
  go_wp2_with (go_at_call 216; refine (Tryz.strconv_Itoa n h0 h1 _ hp).mono ?_; rintro e w1 ⟨rfl, k, os, hw⟩)
  go_ret
  exact ⟨rfl, by subst hw; exact below_grow_drewN _ _ _⟩

end Go.Proofs.YtjmclcjhimcehaaGreatDoor

namespace Go.Proofs.YtjmclcjhimcehaaGreatDoor
open Go Go.RowKit
set_option linter.unusedVariables false

/-- One text more behind a row of texts: what else lies there is as it was. -/
theorem wpList_append_text_g {P : Program} (w w0 : World) {ops : Array Oper} {rest : List Oper} {o : Oper} {a : Act} {Q : Exit → Act → World → Prop} (hgd : o.guard = none) (s x : Operand) (t : TypeId)
    (ho : o.op = .call { callee := .builtin .append, args := #[s, x], argTypes := #[t, t] })
    (B : Nat) (e : TypeId) (ht : P.underlying t = some (.slice e)) (hi : (P.info? e).map (fun i => (i.zero, i.size, i.bytes)) = some (some (.string ByteArray.empty), 1, 16))
    (v : Value) (l : List ByteArray) (hs : a.eval s = v) (hown : ownsS w B e v l) (hbel : Below B w0 w)
    (ad : Addr) (c : Nat) (n : ByteArray) (hx : a.eval x = .slice (some ad) 1 c) (hc : w.cell? ad = some (.string n))
    (hlen : l.length < 8796093022207) (hB : B ≤ w.heap.size)
    (h : ∀ v' w', ownsS w' B e v' (l ++ [n]) → Below B w0 w' → w.grownBy w' v.ownBlock → wpList P ops Q rest (a.put o.dst v') w') : wpList P ops Q (o :: rest) a w := by
  obtain ⟨i0, hi0, hz0, hz1, hz2⟩ := info_parts hi
  refine wpList_append_own w hgd s x t ho B e i0 (.string ByteArray.empty) 1 16 ht hi0 hz0 hz1 hz2 rfl (by decide) v l.length _ hs hown ad 1 c [.string n] hx rfl ?_ ?_ (by unfold maxLen; omega) (by omega) hB ?_
  · intro j u hj
    match j, hj with
    | 0, hj => simp at hj; subst hj; simpa [Addr.add] using hc
  · intro u hu; simp at hu; subst hu; rfl
  · intro v' w' h1 h2 _
    exact h v' w' (by simpa [ownsS] using h1) (hbel.grown h2 hB fun k hk => (hown.lt k hk).1) h2
/-- A row of numbers is no row of texts. -/
theorem ints_grown {w w' : World} {B B' : Nat} {u v : Value} {l : List Int} {T : List ByteArray} (h : ownsR w B 3 u l) (ht : ownsS w B' 9 v T) (hg : w.grownBy w' v.ownBlock) : ownsR w' B 3 u l := by
  refine ⟨h.1, ?_⟩
  rcases h.2 with hn | ⟨g, cap, cur, rfl, hb, hgg, rest⟩
  · exact .inl hn
  · refine .inr ⟨g, cap, cur, rfl, hb, ?_, rest⟩
    have hne : some g ≠ v.ownBlock := by
      intro e
      rcases ht.2 with ⟨rfl, _⟩ | ⟨g', cap', cur', rfl, _, hg', _⟩
      · cases e
      · have : g = g' := Option.some.inj e
        subst this
        rw [hgg] at hg'
        simp at hg'
    exact (hg.block g (h.lt g rfl).2 hne).trans hgg
theorem join_snoc (x : List UInt8) (r : List (List UInt8)) (y sep : List UInt8) : Lib.join ((x :: r) ++ [y]) sep = Lib.join (x :: r) sep ++ sep ++ y := by
  rw [List.cons_append, Lib.join_cons, Lib.join_cons]
  simp [Lib.joinTail]
/-- The numbers' words. -/
def wordsT (l : List Int) : List ByteArray := l.map decS
theorem join_show {l : List Int} (h : ∀ x ∈ l, 0 ≤ x) : ∀ k, k < l.length → Lib.join ((wordsT (l.take (k + 1))).map (·.data.toList)) [44] = (showP l (k + 1)).data.toList
  | 0, hk => by
    obtain ⟨x, hx⟩ : ∃ x, l[0]? = some x := ⟨_, List.getElem?_eq_getElem hk⟩
    have h0 := h x (List.mem_of_getElem? hx)
    have e := decS_pos x.toNat
    rw [Int.toNat_of_nonneg h0] at e
    rw [List.take_add_one, hx]
    simp [wordsT, showP, hx, Lib.join_one, e]
  | k + 1, hk => by
    obtain ⟨x, hx⟩ : ∃ x, l[k + 1]? = some x := ⟨_, List.getElem?_eq_getElem hk⟩
    have h0 := h x (List.mem_of_getElem? hx)
    have e := decS_pos x.toNat
    rw [Int.toNat_of_nonneg h0] at e
    have ih := join_show h k (by omega)
    have hne : (wordsT (l.take (k + 1))).map (·.data.toList) ≠ [] := by
      intro e
      have := congrArg List.length e
      rw [List.length_map, wordsT, List.length_map, List.length_take, List.length_nil] at this
      omega
    obtain ⟨y, r, hyr⟩ := List.exists_cons_of_ne_nil hne
    rw [List.take_add_one, hx]
    have e2 : (wordsT (l.take (k + 1) ++ (some x).toList)).map (·.data.toList) = (y :: r) ++ [(decS x).data.toList] := by
      rw [← hyr]
      simp [wordsT]
    have e3 : showP l (k + 1 + 1) = (if k + 1 = 0 then showP l (k + 1) else showP l (k + 1) ++ ⟨#[44]⟩) ++ bstr (decI ((l[k + 1]?).getD 0).toNat) := rfl
    rw [e2, join_snoc, ← hyr, ih, e3, if_neg (by omega), hx]
    simp [e]
theorem join_all {l : List Int} (h : ∀ x ∈ l, 0 ≤ x) (hl : 0 < l.length) : (⟨(Lib.join ((wordsT l).map (·.data.toList)) [44]).toArray⟩ : ByteArray) = showP l l.length := by
  have := join_show h (l.length - 1) (by omega)
  rw [show l.length - 1 + 1 = l.length by omega, List.take_length] at this
  rw [this]

set_option maxRecDepth 10000 in
set_option maxHeartbeats 2000000 in
theorem text_try (p : Nat → Bool) (l : List Int) (lo : Nat) (hi : Int) (q : Bool) (w : World) (hq : fldE p (eachP lo hi 1) = q) (hlo : lo ≤ 60) (h9 : hi ≤ 59) (hl0 : 0 < l.length) (hl1 : l.length ≤ 60) (hl2 : ∀ x ∈ l, 0 ≤ x ∧ x < 100) (hnum : numsTo p 60 = l) (hp : PowIs w) :
    Calls Tryz.prog 165 #[.agg (fldA p), .agg #[.int .i64 (lo : Int), .int .i64 hi]] w fun x w' => x = .returned (.string (if q then ⟨#[42]⟩ else showP l l.length)) ∧ Below w.heap.size w w' := by
  have HNUM : Hid (∀ W, Calls Tryz.prog 163 #[.agg (fldA p)] W fun x w' => ∃ v, x = .returned v ∧ ownsR w' W.heap.size 3 v l ∧ Below W.heap.size W w') := fun W => by rw [← hnum]; exact numbers_any p W
  have HE : Hid (∀ W, Calls Tryz.prog 196 #[.agg #[.int .i64 (lo : Int), .int .i64 hi], .int .i64 1] W fun e w' => e = .returned (.agg (fldA (eachP lo hi 1))) ∧ Below W.heap.size W w') := fun W => eachOf_nat lo 1 hi W hlo h9 (by decide) (by decide)
  have HP : Hid (∀ W, Below w.heap.size w W → PowIs W) := fun W hb => hp.below hb
  have HQ : Hid (fldE p (eachP lo hi 1) = q) := hq
  have HL2 : Hid (∀ x ∈ l, 0 ≤ x ∧ x < 100) := hl2
  have HJ : Hid ((⟨(Lib.join ((wordsT l).map (·.data.toList)) [44]).toArray⟩ : ByteArray) = showP l l.length ∧ (Lib.join ((wordsT l).map (·.data.toList)) [44]).length ≤ 140737488355328) := by
    have e := join_all (fun x hx => (hl2 x hx).1) hl0
    refine ⟨e, ?_⟩
    have h3 := showP_size hl2 l.length (Nat.le_refl _)
    have h4 : (⟨(Lib.join ((wordsT l).map (·.data.toList)) [44]).toArray⟩ : ByteArray).size ≤ 3 * l.length := by rw [e]; exact h3
    have h5 : (⟨(Lib.join ((wordsT l).map (·.data.toList)) [44]).toArray⟩ : ByteArray).size = (Lib.join ((wordsT l).map (·.data.toList)) [44]).length := by simp [ByteArray.size]
    omega
  clear hp hnum hl2 hq
  obtain ⟨S, HS⟩ : ∃ S, Hid (showP l l.length = S) := ⟨_, rfl⟩
  rw [HS.out]
  rw [HS.out] at HJ
  clear HS
  go_enter Tryz.func165, Tryz.ntmps165
  go_wp2
  obtain ⟨W, hW⟩ : ∃ W, (w.alloc (.cells (fldA p) 200)).alloc (.cells #[.int .i64 (lo : Int), .int .i64 hi] 206) = W := ⟨_, rfl⟩
  have Z : Fb 200 W w.heap.size p := by rw [← hW]; exact (Fb.new 200 w p rfl).alloc _
  have c0 : W.cell? ⟨w.heap.size + 1, 0, none⟩ = some (.int .i64 (lo : Int)) := by rw [← hW]; simp [go_sem]
  have c1 : W.cell? ⟨w.heap.size + 1, 1, none⟩ = some (.int .i64 hi) := by rw [← hW]; simp [go_sem]
  have hb : Below w.heap.size w W := by rw [← hW]; exact ba (ba (Below.refl _ _) _) _
  rw [hW]
  clear hW
  have HZ : Hid (∀ x : Wd W, Fb 200 x.at' w.heap.size p) := fun x => Z.up x.ok
  have HB : Hid (∀ x : Wd W, Below w.heap.size w x.at') := fun x => Below.on hb x.ok
  have q0 := Wd.cell c0
  have q1 := Wd.cell c1
  clear Z c0 c1 hb
  refine wp_region_wd (by kernel_rfl) (by kernel_rfl) ?_
  refine wpq_load (fun _ ⟨x, hx⟩ => by rw [hx]; exact HZ.out x) (.tmp 2) rfl rfl rfl ?_
  simp only [Act.put, List.setIfInBounds_toArray, List.set_cons_succ, List.set_cons_zero]
  go_big_quiet_step (fail)
  go_big_quiet_step ((go_at_call 196; refine calls_wd (v := .agg (fldA (eachP lo hi 1))) ?_; with_reducible exact HE.out _))
  refine wpq_eql (.tmp 8) (.tmp 10) rfl rfl rfl rfl ?_
  rw [HQ.out]
  simp only [Act.put, List.setIfInBounds_toArray, List.set_cons_succ, List.set_cons_zero]
  refine wpQuiet_nil ?_
  rintro _ ⟨y, rfl⟩
  have HBY : Hid (Below w.heap.size w y.at') := HB.out y
  have HZY : Hid (Fb 200 y.at' w.heap.size p) := HZ.out y
  clear HZ HB q0 q1 HE
  cases q with
  | true =>
    go_wp2
    go_ret
    exact ⟨rfl, HBY.out⟩
  | false =>
    obtain ⟨V, HV⟩ : ∃ V, Hid (y.at'.alloc (.cells #[] 9) = V) := ⟨_, rfl⟩
    have HZV : Hid (Fb 200 V w.heap.size p) := by show Fb _ _ _ _; rw [← HV.out]; exact HZY.out.alloc _
    have HBV : Hid (Below w.heap.size w V) := by show Below _ _ _; rw [← HV.out]; exact ba HBY.out _
    have HOV : Hid (ownsS V w.heap.size 9 (.slice (some ⟨y.at'.heap.size, 0, none⟩) 0 0) []) := by
      show ownsS _ _ _ _ _
      rw [← HV.out]
      exact ownsS_made y.at' w.heap.size 0 9 #[] HBY.out.size (by decide) rfl
    go_wp2_with (first | (rw [HV.out]) | (refine wpl_load HZV.out (.tmp 2) rfl rfl rfl ?_))
    refine (HNUM.out _).mono ?_
    rintro x w2 ⟨u, rfl, hu, hb2⟩
    obtain ⟨ua, uc, rfl⟩ := hu.slice
    have HB2 : Hid (Below w.heap.size w w2) := Below.on HBV.out hb2
    have HO2 : Hid (ownsS w2 w.heap.size 9 (.slice (some ⟨y.at'.heap.size, 0, none⟩) 0 0) []) := HOV.out.all hb2
    have HU2 : Hid (ownsR w2 w.heap.size 3 (.slice ua l.length uc) l) := hu.mono HBV.out.size
    clear hu hb2 HOV HBV HZV HV HZY HBY HNUM
    obtain ⟨ll, hll⟩ : ∃ ll, l.length = ll := ⟨_, rfl⟩
    have HLL : Hid (l.length = ll) := hll
    rw [hll] at hl0 hl1 HU2
    rw [hll]
    clear hll
    generalize hB : w.heap.size = B at *
    generalize fldA p = F at *
    generalize fldA (eachP lo hi 1) = F2 at *
    go_wp2
    go_loopw [5, 16] (fun out i wr => ∃ (k : Nat) (T : List ByteArray), k ≤ ll ∧ i = .int .i64 k ∧ T.length = k ∧ Hid (T = wordsT (l.take k)) ∧ ownsS wr B 9 out T ∧ Hid (ownsR wr B 3 (.slice ua ll uc) l) ∧ Below B w wr) (fun _ i _ => ll - (intOf i).toNat)
    case atStart => exact ⟨0, [], Nat.zero_le _, rfl, rfl, rfl, HO2.out, HU2, HB2.out⟩
    case round =>
      obtain ⟨k, T, hk, rfl, hT, HT, hown, HU, hbel⟩ := hrel
      clear HO2 HU2 HB2
      by_cases hlt : k < ll
      · obtain ⟨x, hx⟩ : ∃ x, l[k]? = some x := ⟨_, List.getElem?_eq_getElem (by rw [HLL.out]; exact hlt)⟩
        have HTN : Hid (T ++ [decS x] = wordsT (l.take (k + 1))) := by
          show _ = _
          rw [HT.out, List.take_add_one, hx]
          simp [wordsT]
        obtain ⟨x0, x1⟩ := HL2.out x (List.mem_of_getElem? hx)
        obtain ⟨b, o, rfl, hbl, d0⟩ := int_at HU.out.reads hx
        clear hx
        go_wp2_with fail
        refine (decimal_any x _ (by omega) (by omega) (HP.out _ hbel)).mono ?_
        rintro z w4 ⟨rfl, hb4⟩
        have hown4 := hown.all hb4
        have HU4 : Hid (ownsR w4 B 3 (.slice (some ⟨b, o, none⟩) ll uc) l) := HU.out.all hb4
        have hbel4 : Below B w w4 := hbel.trans (hb4.mono (by have := hbel.size; omega))
        have hB4 : B ≤ w4.heap.size := by have := hbel4.size; omega
        clear hb4 hown hbel HU d0
        obtain ⟨xs, HXS⟩ : ∃ xs, Hid (decS x = xs) := ⟨_, rfl⟩
        rw [HXS.out] at HTN
        rw [HXS.out]
        clear HXS
        have HU5 : Hid (ownsR (w4.alloc (.cells #[.string xs] 9)) B 3 (.slice (some ⟨b, o, none⟩) ll uc) l) := HU4.out.alloc _
        have hown5 : ownsS (w4.alloc (.cells #[.string xs] 9)) B 9 _ T := hown4.alloc _
        go_wp2_with (at_builtin; refine wpList_append_text_g _ w rfl (.tmp 20) (.tmp 23) 86 rfl B 9 Tryz.underlying86 info9 _ T rfl hown5 (hbel4.alloc hB4 _) ⟨w4.heap.size, 0, none⟩ 1 xs rfl ?c1 ?c2 ?c3 ?_)
        case c1 => simp
        case c2 => omega
        case c3 => simp; omega
        intro v' w6 hown6 hbel6 hg6
        have HU6 : Hid (ownsR w6 B 3 (.slice (some ⟨b, o, none⟩) ll uc) l) := ints_grown HU5.out hown5 hg6
        clear hown4 hown5 hbel4 HU4 HU5 hg6
        go_wp2
        go_roundw
        case rel => exact ⟨k + 1, _, by omega, by go_num, by simp; omega, HTN, hown6, HU6, hbel6⟩
        case measure => simp [intOf]; omega
      · have hkn : k = ll := by omega
        have HTL : Hid (T = wordsT l) := by show _ = _; rw [HT.out, hkn, ← HLL.out, List.take_length]
        obtain ⟨g, cap, rfl, hgB, hgl, hcap, hcells, _⟩ := ownsS_form hown (by rintro rfl; simp at hT; omega)
        have HJN : Hid (Calls Tryz.prog 166 #[.slice (some ⟨g, 0, none⟩) T.length cap, .string ⟨#[44]⟩] wr fun e w' => e = .returned (.string S) ∧ Below wr.heap.size wr w') := by
          have hj := HJ.out
          rw [← HTL.out] at hj
          have := Tryz.strings_Join g 0 cap T ⟨#[44]⟩ wr (fun j x hx => by
            obtain ⟨h1, rfl⟩ := List.getElem?_eq_some_iff.1 hx
            rw [Nat.zero_add]
            exact hcells j h1) hgl (by omega) hcap (by simpa using hj.2)
          refine this.mono ?_
          rintro e w' ⟨rfl, hb⟩
          exact ⟨by rw [← hj.1], hb⟩
        clear hcells hown HU HTL HT hkn
        rw [hT] at HJN ⊢
        go_wp2_with fail
        refine HJN.out.mono ?_
        rintro z w7 ⟨rfl, hb7⟩
        have B7 : Below B w w7 := hbel.trans (hb7.mono (by have := hbel.size; omega))
        go_wp2
        go_ret
        subst hB
        exact ⟨rfl, B7⟩
end Go.Proofs.YtjmclcjhimcehaaGreatDoor

namespace Go.Proofs.YtjmclcjhimcehaaGreatDoor
open Go Go.RowKit

theorem full_rise (lo : Int) (n : Nat) : ((List.range n).map fun i : Nat => lo + (i : Int)).Pairwise (· < ·) := by
  rw [List.pairwise_map]
  exact List.Pairwise.imp (fun {a b} h => by show lo + (a : Int) < lo + (b : Int); omega) (List.pairwise_lt_range (n := n))
theorem all_iff {lo : Nat} {hi : Int} {l : List Int} (h9 : hi ≤ 59) (hlh : lo ≤ hi) (hB : listB lo hi l = true) : fldE (memP l) (eachP lo hi 1) = decide ((l.length : Int) = hi - lo + 1) := by
  obtain ⟨h1, h2, h3⟩ := listB_up hB
  by_cases h : (l.length : Int) = hi - lo + 1
  · rw [decide_eq_true h, fldE_iff]
    intro i hi6
    unfold memP eachP
    congr 1
    apply propext
    constructor
    · intro hm
      have := h1 _ hm
      exact ⟨by omega, this.2, Nat.mod_one _⟩
    · rintro ⟨g1, g2, _⟩
      exact full_list h1 h2 h (by omega) g2
  · rw [decide_eq_false h]
    cases he : fldE (memP l) (eachP lo hi 1) with
    | false => rfl
    | true =>
      exfalso
      apply h
      have hr := fldE_iff.1 he
      have e : l = (List.range (hi - lo + 1).toNat).map fun i : Nat => (lo : Int) + (i : Int) := by
        refine rise_ext _ _ h2 (full_rise _ _) fun x => ⟨fun hx => ?_, fun hx => ?_⟩
        · have := h1 x hx
          exact List.mem_map.2 ⟨(x - lo).toNat, List.mem_range.2 (by omega), by omega⟩
        · obtain ⟨i, hi2, rfl⟩ := List.mem_map.1 hx
          have hi3 := List.mem_range.1 hi2
          have := hr (lo + i) (by omega)
          unfold memP eachP at this
          rw [decide_eq_true (show lo ≤ lo + i ∧ ((lo + i : Nat) : Int) ≤ hi ∧ (lo + i - lo) % 1 = 0 from ⟨by omega, by omega, Nat.mod_one _⟩)] at this
          have := of_decide_eq_true this
          rw [show ((lo + i : Nat) : Int) = (lo : Int) + (i : Int) by omega] at this
          exact this
      have := congrArg List.length e
      rw [List.length_map, List.length_range] at this
      omega
end Go.Proofs.YtjmclcjhimcehaaGreatDoor
