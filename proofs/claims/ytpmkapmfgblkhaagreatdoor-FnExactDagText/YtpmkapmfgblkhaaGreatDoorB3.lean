/-
  A drawn region, whatever its order: by what holds between its operations. Over any program. A line of parts with blanks between, as the program makes it: the walk of lineOf; what the library's Join comes to. The line of a task, as the program writes it: the walk.
-/
import Derived.Test.YtpmkapmfgblkhaaGreatDoorRp
import Derived.Test.YtpmkapmfgblkhaaGreatDoorA22
import Derived.Test.YtpmkapmfgblkhaaGreatDoorA15
import Derived.Test.YtpmkapmfgblkhaaGreatDoorA21
import Derived.Test.YtpmkapmfgblkhaaGreatDoorA20
namespace Go.Proofs.YtpmkapmfgblkhaaGreatDoor
open Go Go.RowKit

section
variable {P : Program} {Q : Exit → Act → World → Prop}
/-- How many operations are not listed yet. -/
def leftN (n : Nat) (d : Nat → Bool) : Nat := ((List.range n).filter fun i => !d i).length
theorem leftN_set {n i : Nat} {d : Nat → Bool} (hi : i < n) (hd : d i = false) : leftN n (fun j => if j = i then true else d j) + 1 = leftN n d := by
  unfold leftN
  induction n with
  | zero => omega
  | succ n ih =>
    rw [List.range_succ, List.filter_append, List.filter_append, List.length_append, List.length_append]
    by_cases e : i = n
    · subst e
      have h1 : (List.range i).filter (fun j => !(if j = i then true else d j)) = (List.range i).filter fun j => !d j := by
        apply List.filter_congr
        intro x hx
        have := List.mem_range.1 hx
        rw [if_neg (by omega)]
      rw [h1]
      simp [hd]
    · have h2 := ih (by omega)
      have h3 : ((if n = i then true else d n)) = d n := if_neg (fun h => e h.symm)
      have h4 : [n].filter (fun j => !(if j = i then true else d j)) = [n].filter fun j => !d j := by simp only [List.filter_cons, h3]; rfl
      rw [h4]
      omega
theorem leftN_zero {n : Nat} {d : Nat → Bool} (h : leftN n d = 0) (i : Nat) (hi : i < n) : d i = true := by
  unfold leftN at h
  rw [List.length_eq_zero_iff, List.filter_eq_nil_iff] at h
  have := h i (List.mem_range.2 hi)
  simpa using this
/-- Each operation waits for earlier ones alone, and none is guarded. -/
def ordB (l : List Oper) : Bool := (List.range l.length).all fun i => match l[i]? with
  | some o => o.guard.isNone && o.after.all fun e => !Region.binds .any e || decide (e.on < i)
  | none => true
theorem wpAny_inv {l : List Oper} (J : (Nat → Bool) → Act → World → Prop) (hB : ordB l = true)
    (hstep : ∀ d a w i o, l[i]? = some o → d i = false → (∀ e ∈ o.after, Region.binds .any e = true → d e.on = true) → J d a w → ∀ K : Act → World → Prop, Hid (∀ a' w', J (fun j => if j = i then true else d j) a' w' → K a' w') → wpList P l.toArray (Exit.then K Q) [o] a w)
    (hend : ∀ d a w, (∀ i, i < l.length → d i = true) → J d a w → Q .normal a w) :
    ∀ (fuel : Nat) (listed : Array Bool) (a : Act) (w : World), listed.size = l.length → leftN l.length (fun i => listed.getD i false) ≤ fuel → J (fun i => listed.getD i false) a w → wpAny P .any l.toArray Q fuel listed a w := by
  have hall : ∀ (listed : Array Bool) (a : Act) (w : World), listed.size = l.length → J (fun i => listed.getD i false) a w → Region.ready .any l.toArray listed = [] → Q .normal a w := by
    intro listed a w hs hJ hr
    refine hend _ a w (fun i hi => ?_) hJ
    -- by strong induction each one is listed
    induction i using Nat.strongRecOn with
    | ind i ih =>
      cases hd : listed.getD i false with
      | true => rfl
      | false =>
        exfalso
        have ho : l[i]? = some l[i] := List.getElem?_eq_getElem hi
        have hm : i ∈ Region.ready .any l.toArray listed := by
          unfold Region.ready
          rw [List.mem_filter]
          refine ⟨List.mem_range.2 (by simpa using hi), ?_⟩
          have h1 : listed.getD i true = false := by
            have hil : i < listed.size := by omega
            simp only [Array.getD, hil, dif_pos] at hd ⊢
            exact hd
          have h2 : l.toArray[i]? = some l[i] := by simp [ho]
          rw [h1, h2]
          simp only [Bool.not_false, Bool.true_and, Option.map_some, Option.getD_some, Array.all_eq_true']
          intro e he
          unfold ordB at hB
          rw [List.all_eq_true] at hB
          have h3 := hB i (List.mem_range.2 hi)
          rw [ho] at h3
          simp only [Bool.and_eq_true, Array.all_eq_true'] at h3
          have h4 := h3.2 e he
          cases hb : Region.binds .any e with
          | false => rfl
          | true =>
            rw [hb] at h4
            have h5 : e.on < i := of_decide_eq_true (by simpa using h4)
            rw [ih e.on h5 (by omega)]
            rfl
        rw [hr] at hm
        cases hm
  intro fuel
  induction fuel with
  | zero =>
    intro listed a w hs hl hJ
    have hr : Region.ready .any l.toArray listed = [] := by
      unfold Region.ready
      rw [List.filter_eq_nil_iff]
      intro i hi
      have hi' : i < l.length := by simpa using List.mem_range.1 hi
      have := leftN_zero (by omega : leftN l.length (fun i => listed.getD i false) = 0) i hi'
      have h1 : listed.getD i true = true := by
        have hil : i < listed.size := by omega
        simp only [Array.getD, hil, dif_pos] at this ⊢
        exact this
      rw [h1]
      simp
    exact ⟨hr, hall listed a w hs hJ hr⟩
  | succ fuel ih =>
    intro listed a w hs hl hJ
    refine ⟨fun hr => hall listed a w hs hJ hr, fun i hi => ?_⟩
    have hmem := hi
    unfold Region.ready at hi
    rw [List.mem_filter] at hi
    obtain ⟨h1, h2⟩ := hi
    have hil : i < l.length := by simpa using List.mem_range.1 h1
    have ho : l[i]? = some l[i] := List.getElem?_eq_getElem hil
    have ho2 : l.toArray[i]? = some l[i] := by simp [ho]
    rw [ho2] at h2
    simp only [Option.map_some, Option.getD_some, Bool.and_eq_true, Bool.not_eq_true', Array.all_eq_true'] at h2
    obtain ⟨h3, h4⟩ := h2
    have hls : i < listed.size := by omega
    have hd : listed.getD i false = false := by
      simp only [Array.getD, hls, dif_pos] at h3 ⊢
      exact h3
    have hg : l[i].guard = none := by
      unfold ordB at hB
      rw [List.all_eq_true] at hB
      have h5 := hB i (List.mem_range.2 hil)
      rw [ho] at h5
      simp only [Bool.and_eq_true] at h5
      exact Option.isNone_iff_eq_none.1 h5.1
    have hset : (fun j => (listed.setIfInBounds i true).getD j false) = fun j => if j = i then true else listed.getD j false := by
      funext j
      by_cases e : j = i
      · subst e
        rw [if_pos rfl]
        simp [Array.getD, hls]
      · rw [if_neg e]
        simp only [Array.getD_eq_getD_getElem?]
        rw [Array.getElem?_setIfInBounds_ne (fun h => e h.symm)]
    have h6 := hstep (fun i => listed.getD i false) a w i l[i] ho hd (fun e he hb => by
      have := h4 e he
      rw [hb] at this
      simpa using this) hJ (wpAny P .any l.toArray Q fuel (listed.setIfInBounds i true)) (fun a' w' hJ' => by
        refine ih _ a' w' (by simpa using hs) ?_ (by rw [hset]; exact hJ')
        rw [hset]
        have := leftN_set (n := l.length) (d := fun i => listed.getD i false) hil hd
        omega)
    have hw : Region.wanted l[i] (yielded l.toArray a.tmps) = true := by simp [Region.wanted, hg]
    unfold wpOp
    simp only [ho2]
    unfold wpList at h6
    rw [if_pos hw] at h6 ⊢
    exact h6
theorem wp_region_inv {id : Nat} {a : Act} {w : World} {l : List Oper} (J : (Nat → Bool) → Act → World → Prop) (hm : P.follows .mixedOrders = true) (hB : ordB l = true) (h0 : J (fun _ => false) a w.drew)
    (hstep : ∀ d a w i o, l[i]? = some o → d i = false → (∀ e ∈ o.after, Region.binds .any e = true → d e.on = true) → J d a w → ∀ K : Act → World → Prop, Hid (∀ a' w', J (fun j => if j = i then true else d j) a' w' → K a' w') → wpList P l.toArray (Exit.then K Q) [o] a w)
    (hend : ∀ d a w, (∀ i, i < l.length → d i = true) → J d a w → Q .normal a w) : (Code.region id l.toArray true).wp P Q a w := by
  refine wp_region_any hm ?_
  refine wpAny_inv J hB hstep hend _ _ a _ (by simp) ?_ ?_
  · unfold leftN
    refine Nat.le_trans (List.length_filter_le _ _) ?_
    simp
  · have e : (fun i => (Array.replicate l.toArray.size false).getD i false) = fun _ => false := by
      funext i
      simp only [Array.getD_eq_getD_getElem?, Array.getElem?_replicate]
      split <;> rfl
    rw [e]
    exact h0
end
end Go.Proofs.YtpmkapmfgblkhaaGreatDoor

namespace Go.Proofs.YtpmkapmfgblkhaaGreatDoor
open Go Go.RowKit

/-- Texts with one between. -/
def joinB (l : List ByteArray) (sep : ByteArray) : ByteArray := ⟨(Lib.join (l.map (·.data.toList)) sep.data.toList).toArray⟩
theorem joinB_list (l : List ByteArray) (sep : ByteArray) : (joinB l sep).data.toList = Lib.join (l.map (·.data.toList)) sep.data.toList := by simp [joinB]
theorem joinB_one (x sep : ByteArray) : joinB [x] sep = x := by
  apply ByteArray.ext
  apply Array.toList_inj.1
  rw [joinB_list]
  simp [Lib.join_cons, Lib.joinTail]
theorem joinB_two (x y : ByteArray) : joinB [x, y] ⟨#[32]⟩ = x ++ ⟨#[32]⟩ ++ y := by
  apply ByteArray.ext
  apply Array.toList_inj.1
  rw [joinB_list]
  simp [Lib.join_cons, Lib.joinTail]
theorem joinB_five (x0 x1 x2 x3 x4 : ByteArray) : joinB [x0, x1, x2, x3, x4] ⟨#[32]⟩ = x0 ++ ⟨#[32]⟩ ++ x1 ++ ⟨#[32]⟩ ++ x2 ++ ⟨#[32]⟩ ++ x3 ++ ⟨#[32]⟩ ++ x4 := by
  apply ByteArray.ext
  apply Array.toList_inj.1
  rw [joinB_list]
  simp [Lib.join_cons, Lib.joinTail]
theorem joinB_six (x0 x1 x2 x3 x4 x5 : ByteArray) : joinB [x0, x1, x2, x3, x4, x5] ⟨#[32]⟩ = x0 ++ ⟨#[32]⟩ ++ x1 ++ ⟨#[32]⟩ ++ x2 ++ ⟨#[32]⟩ ++ x3 ++ ⟨#[32]⟩ ++ x4 ++ ⟨#[32]⟩ ++ x5 := by
  apply ByteArray.ext
  apply Array.toList_inj.1
  rw [joinB_list]
  simp [Lib.join_cons, Lib.joinTail]
theorem joinT_snoc (xs : List (List UInt8)) (h : xs ≠ []) (y sep : List UInt8) : Lib.join (xs ++ [y]) sep = Lib.join xs sep ++ sep ++ y := by
  match xs, h with
  | x :: r, _ =>
    rw [List.cons_append, Lib.join_cons, Lib.join_cons]
    simp [Lib.joinTail]
theorem joinP_list (l : List ByteArray) : ∀ k, k ≤ l.length → (joinP l k).data.toList = Lib.join ((l.take k).map (·.data.toList)) [44]
  | 0, _ => by simp [joinP, Lib.join]
  | k + 1, hk => by
    have hk' : k < l.length := by omega
    have ih := joinP_list l k (by omega)
    unfold joinP
    rw [List.getElem?_eq_getElem hk', Option.getD_some, List.take_succ_eq_append_getElem hk', List.map_append]
    by_cases h0 : k = 0
    · subst h0
      simp [joinP, Lib.join]
    · rw [if_neg h0]
      have e : ∀ x y : ByteArray, (x ++ y).data.toList = x.data.toList ++ y.data.toList := fun x y => by simp
      rw [e, e, ih]
      have hne : (l.take k).map (·.data.toList) ≠ [] := by
        intro e
        have := congrArg List.length e
        rw [List.length_map, List.length_take, List.length_nil] at this
        omega
      exact (joinT_snoc _ hne _ _).symm
theorem joinS_is (l : List ByteArray) : joinB l ⟨#[44]⟩ = joinS l := by
  apply ByteArray.ext
  apply Array.toList_inj.1
  rw [joinB_list]
  unfold joinS
  rw [joinP_list l _ (Nat.le_refl _), List.take_length]
theorem join_reads {w : World} {bo : Option Addr} {n c : Nat} {l : List ByteArray} (sep : ByteArray) (hr : Reads w (.slice bo n c) l) (hc : n ≤ c) (hne : l ≠ []) (hn : n ≤ 1048577) (hl : (joinB l sep).size ≤ 140737488355328) :
    Calls Tryz.prog 65 #[.slice bo n c, .string sep] w fun e w' => e = .returned (.string (joinB l sep)) ∧ Below w.heap.size w w' := by
  have hnl := hr.len
  obtain ⟨ao, cap, e, h⟩ := id hr
  injection e with e1 e2 e3
  subst e1 e3
  obtain ⟨b, o, rfl, hlt, hcells⟩ := h hne
  rw [hnl]
  have hs : (joinB l sep).size = (Lib.join (l.map (·.data.toList)) sep.data.toList).length := by
    have : (joinB l sep).size = (joinB l sep).data.toList.length := by simp
    rw [this, joinB_list]
  exact Tryz.strings_Join b o c l sep w (fun j x hx => by
    have := hcells j x hx 0 (.string x) rfl
    rw [show o + j * Rec.width ByteArray + 0 = o + j by show o + j * 1 + 0 = _; omega] at this
    exact this) hlt (by omega) (by omega) (by rw [← hs]; exact hl)
set_option maxRecDepth 10000 in
set_option maxHeartbeats 1000000 in
theorem lineOf_any {w : World} {bo : Option Addr} {n c : Nat} {l : List ByteArray} (hr : Reads w (.slice bo n c) l) (hc : n ≤ c) (hne : l ≠ []) (hn : n ≤ 1048577) (hl : (joinB l ⟨#[32]⟩).size ≤ 100000000) :
    Calls Tryz.prog 32 #[.slice bo n c] w fun e w' => e = .returned (.string (joinB l ⟨#[32]⟩ ++ ⟨#[10]⟩)) ∧ Below w.heap.size w w' := by
  have HJ : Hid (Calls Tryz.prog 65 #[.slice bo n c, .string ⟨#[32]⟩] w fun e w' => e = .returned (.string (joinB l ⟨#[32]⟩)) ∧ Below w.heap.size w w') := join_reads ⟨#[32]⟩ hr hc hne hn (by omega)
  clear hr
  obtain ⟨T, HT⟩ : ∃ T, Hid (joinB l ⟨#[32]⟩ = T) := ⟨_, rfl⟩
  rw [HT.out] at HJ hl
  rw [HT.out]
  have h10 : (⟨#[10]⟩ : ByteArray).size = 1 := rfl
  have hsz : T.size + (⟨#[10]⟩ : ByteArray).size ≤ 9223372036854775807 := by rw [h10]; omega
  go_enter Tryz.func32, Tryz.ntmps32
  go_wp2_with (go_at_call 65; refine HJ.out.mono ?_; rintro e w1 ⟨rfl, hb1⟩)
  go_ret
  exact ⟨rfl, hb1⟩
end Go.Proofs.YtpmkapmfgblkhaaGreatDoor

namespace Go.Proofs.YtpmkapmfgblkhaaGreatDoor
open Go Go.RowKit

/-- A task's line. -/
def lineL (t : Ta) : ByteArray := lineS ⟨#[]⟩ t
theorem bapp (x y z : ByteArray) : x ++ y ++ z = x ++ (y ++ z) := ByteArray.append_assoc
theorem lineS_is (s : ByteArray) (t : Ta) : lineS s t = s ++ lineL t := by
  unfold lineL lineS baseL
  apply ByteArray.ext
  apply Array.toList_inj.1
  split <;> split <;> simp
def partsT (t : Ta) : List ByteArray := [⟨#[116, 97, 115, 107]⟩, t.name, t.pool, decS t.ret, if t.past then ⟨#[112, 97, 115, 116]⟩ else ⟨#[102, 114, 101, 101]⟩]
theorem line_none {t : Ta} (h0 : 0 ≤ t.ret) (h : t.after = []) : joinB (partsT t) ⟨#[32]⟩ ++ ⟨#[10]⟩ = lineL t := by
  have hd : bstr (decI t.ret.toNat) = decS t.ret := by rw [decS_pos]; congr 1; omega
  unfold partsT lineL lineS baseL
  rw [joinB_five, h, hd]
  apply ByteArray.ext
  apply Array.toList_inj.1
  cases t.past <;> simp
theorem line_some {t : Ta} (h0 : 0 ≤ t.ret) (h : t.after ≠ []) : joinB (partsT t ++ [joinS t.after]) ⟨#[32]⟩ ++ ⟨#[10]⟩ = lineL t := by
  have hd : bstr (decI t.ret.toNat) = decS t.ret := by rw [decS_pos]; congr 1; omega
  have hl : 0 < t.after.length := List.length_pos_iff.2 h
  unfold partsT lineL lineS baseL
  rw [List.cons_append, List.cons_append, List.cons_append, List.cons_append, List.cons_append, List.nil_append, joinB_six, if_pos hl, hd]
  apply ByteArray.ext
  apply Array.toList_inj.1
  cases t.past <;> simp
theorem past_size (b : Bool) : (if b then (⟨#[112, 97, 115, 116]⟩ : ByteArray) else ⟨#[102, 114, 101, 101]⟩).size = 4 := by cases b <;> rfl
theorem joinS_size {l : List ByteArray} (h : ∀ s ∈ l, s.size ≤ 8) : (joinS l).size ≤ 9 * l.length := joinP_size h _ (Nat.le_refl _)
theorem decS_small {n : Int} (h0 : 0 ≤ n) (h1 : n ≤ 1000000000) : (decS n).size ≤ 10 := by
  have := dec_size h1
  rw [decS_pos, show ((n.toNat : Nat) : Int) = n by omega] at this
  exact this
theorem parts_size {t : Ta} (h : FineT t) : (joinB (partsT t) ⟨#[32]⟩).size ≤ 100 := by
  unfold partsT
  rw [joinB_five]
  have h1 := h.name
  have h2 := h.pool
  have h3 := decS_small h.r0 (by have := h.r1; omega)
  have h4 := past_size t.past
  have k1 : (⟨#[116, 97, 115, 107]⟩ : ByteArray).size = 4 := rfl
  have k2 : (⟨#[32]⟩ : ByteArray).size = 1 := rfl
  simp only [ByteArray.size_append, k1, k2, h4]
  omega
theorem parts_size6 {t : Ta} (h : FineT t) (hl : t.after.length ≤ 1048576) : (joinB (partsT t ++ [joinS t.after]) ⟨#[32]⟩).size ≤ 10000000 := by
  unfold partsT
  rw [List.cons_append, List.cons_append, List.cons_append, List.cons_append, List.cons_append, List.nil_append, joinB_six]
  have h1 := h.name
  have h2 := h.pool
  have h3 := decS_small h.r0 (by have := h.r1; omega)
  have h4 := past_size t.past
  have h5 := joinS_size h.after
  have k1 : (⟨#[116, 97, 115, 107]⟩ : ByteArray).size = 4 := rfl
  have k2 : (⟨#[32]⟩ : ByteArray).size = 1 := rfl
  simp only [ByteArray.size_append, k1, k2, h4]
  omega
theorem lineL_size {t : Ta} (h : FineT t) (hl : t.after.length ≤ 1048576) : (lineL t).size ≤ 10000010 := by
  have k1 : (⟨#[10]⟩ : ByteArray).size = 1 := rfl
  by_cases hn : t.after = []
  · rw [← line_none h.r0 hn, ByteArray.size_append, k1]
    have := parts_size h
    omega
  · rw [← line_some h.r0 hn, ByteArray.size_append, k1]
    have := parts_size6 h hl
    omega
theorem reads_five {w : World} {b c : Nat} {x0 x1 x2 x3 x4 : ByteArray} (hb : b < w.heap.size) (h0 : w.cell? ⟨b, 0, none⟩ = some (.string x0)) (h1 : w.cell? ⟨b, 1, none⟩ = some (.string x1)) (h2 : w.cell? ⟨b, 2, none⟩ = some (.string x2)) (h3 : w.cell? ⟨b, 3, none⟩ = some (.string x3)) (h4 : w.cell? ⟨b, 4, none⟩ = some (.string x4)) :
    Reads w (.slice (some ⟨b, 0, none⟩) 5 c) [x0, x1, x2, x3, x4] := by
  refine ⟨_, c, rfl, fun _ => ⟨b, 0, rfl, hb, fun i x hx j u hu => ?_⟩⟩
  have hj : j = 0 ∧ u = .string x := by
    match j, hu with
    | 0, hu => exact ⟨rfl, (Option.some.inj hu).symm⟩
    | j + 1, hu => simp [Rec.cells] at hu
  obtain ⟨rfl, rfl⟩ := hj
  match i, hx with
  | 0, hx => obtain rfl := Option.some.inj hx; exact h0
  | 1, hx => obtain rfl := Option.some.inj hx; exact h1
  | 2, hx => obtain rfl := Option.some.inj hx; exact h2
  | 3, hx => obtain rfl := Option.some.inj hx; exact h3
  | 4, hx => obtain rfl := Option.some.inj hx; exact h4
  | i + 5, hx => simp at hx
theorem owns_new (w : World) (L : List ByteArray) (hL : L.length ≤ 1048577) : ownsS (w.alloc (.cells (L.map Value.string).toArray 9)) w.heap.size 9 (.slice (some ⟨w.heap.size, 0, none⟩) L.length L.length) L := by
  have h := ownsS_fields w (L.map (·.data.toList)) (by rw [List.length_map]; exact hL)
  have e1 : (L.map (·.data.toList)).map (fun l => Value.string ⟨l.toArray⟩) = L.map Value.string := by
    rw [List.map_map]
    apply List.map_congr_left
    intro x _
    simp
  have e2 : texts (L.map (·.data.toList)) = L := by
    unfold texts
    rw [List.map_map]
    have : (fun l : List UInt8 => (⟨l.toArray⟩ : ByteArray)) ∘ (fun x : ByteArray => x.data.toList) = id := by funext x; simp
    first | (rw [this, List.map_id]) | simp
  rw [e1, e2, List.length_map] at h
  exact h
theorem owns_room {w : World} {B : Nat} {a : Option Addr} {n c : Nat} {l : List ByteArray} (h : ownsS w B 9 (.slice a n c) l) : n ≤ c := by
  have hn := (ownsS_reads h).len
  rcases h.2 with ⟨h', _⟩ | ⟨g', cap', cur', h', rest⟩
  · injection h' with _ e2 e3
    omega
  · injection h' with e1 e2 e3
    obtain ⟨_, _, h4, h5, _⟩ := rest
    omega
set_option maxRecDepth 10000 in
set_option maxHeartbeats 4000000 in
theorem taskLine_any (nm po : ByteArray) (rt : Int) (pa : Bool) (fo : Option Addr) (m fc : Nat) (af : List ByteArray) (w : World) (hr : Reads w (.slice fo m fc) af) (hc : m ≤ fc) (hf : FineT ⟨nm, po, rt, pa, af⟩) (hl : m ≤ 1048576) (hp : PowIs w) :
    Calls Tryz.prog 34 #[.agg #[.string nm, .string po, .int .i64 rt, .bool pa, .slice fo m fc]] w fun e w' => e = .returned (.string (lineL ⟨nm, po, rt, pa, af⟩)) ∧ Below w.heap.size w w' := by
  have HN : Hid (m = af.length) := hr.len
  have r0 : 0 ≤ rt := hf.r0
  have r1 : rt ≤ 3 := hf.r1
  have HR : Hid (∀ W, Below w.heap.size w W → Reads W (.slice fo m fc) af) := fun W hb => hr.below hb
  have HD : Hid (∀ W, Below w.heap.size w W → Calls Tryz.prog 33 #[.int .i64 rt] W fun e w' => e = .returned (.string (decS rt)) ∧ Below W.heap.size W w') := fun W hb => decimal_any rt W (by omega) (by omega) (hp.below hb)
  have HF : Hid (FineT ⟨nm, po, rt, pa, af⟩) := hf
  clear hr hf hp
  obtain ⟨D, HDD⟩ : ∃ D, Hid (decS rt = D) := ⟨_, rfl⟩
  rw [HDD.out] at HD
  obtain ⟨W0, hW0⟩ : ∃ W0, w.alloc (.cells #[.string nm, .string po, .int .i64 rt, .bool pa, .slice fo m fc] 51) = W0 := ⟨_, rfl⟩
  have Z0 : B5 51 W0 w.heap.size (.string nm) (.string po) (.int .i64 rt) (.bool pa) (.slice fo m fc) := by rw [← hW0]; exact B5.new _ _ _ _ _ _ _
  have B0 : Below w.heap.size w W0 := by rw [← hW0]; exact ba (Below.refl _ _) _
  have c3 := Z0.c3
  have q0 := Wd.cell Z0.c0
  have q1 := Wd.cell Z0.c1
  have q2 := Wd.cell Z0.c2
  obtain ⟨pt, HPT⟩ : ∃ pt, Hid ((if pa then (⟨#[112, 97, 115, 116]⟩ : ByteArray) else ⟨#[102, 114, 101, 101]⟩) = pt) := ⟨_, rfl⟩
  have HPP : Hid (partsT ⟨nm, po, rt, pa, af⟩ = [⟨#[116, 97, 115, 107]⟩, nm, po, D, pt]) := by show partsT _ = _; unfold partsT; dsimp only; rw [HDD.out, HPT.out]
  go_enter Tryz.func34, Tryz.ntmps34
  cases pa with
  | true =>
    have hpt : pt = ⟨#[112, 97, 115, 116]⟩ := HPT.out.symm
    subst hpt
    go_wp2
    have BD : Below W0.heap.size W0 W0.drew := (Below.refl _ _).drew
    refine wp_region_pick (fun w' => ∃ x : Wd W0, w' = x.at') [0, 1, 2, 3, 4, 5, 7] 9 2 (by kernel_rfl) (by decide) (by decide) (by kernel_rfl) (fun _ _ d _ _ h => by cases d <;> exact h) ⟨⟨W0.drew, BD⟩, rfl⟩ ?_
    repeat (refine wpTakes_l rfl (by first | (intro x h; cases h; done) | (intro x h; cases h; exact ⟨_, rfl⟩)) ?_; go_big_quiet_step (fail); refine wpQuiet_nil ?_)
    refine takes_nil ?_
    clear q0 q1 q2 c3
    refine any_one (fuel := 1) (i := 6) (by kernel_rfl) rfl rfl ?_
    intro K hK
    go_wp2_with (go_at_call 33; refine (HD.out _ (Below.on B0 BD)).mono ?_; rintro e V1 ⟨rfl, hb1⟩)
    have BV : Below W0.heap.size W0 V1 := Below.on BD hb1
    refine hK.out _ _ ⟨⟨V1, BV⟩, rfl⟩ ?_
    clear hK K hb1 BD
    refine any_one (fuel := 0) (i := 8) (by kernel_rfl) rfl rfl ?_
    intro K hK
    go_wp2
    refine hK.out _ _ ⟨⟨_, ba BV _⟩, rfl⟩ ?_
    clear hK K
    refine any_done (by kernel_rfl) ?_
    have HO : Hid (ownsS (V1.alloc (.cells #[.string ⟨#[116, 97, 115, 107]⟩, .string nm, .string po, .string D, .string ⟨#[112, 97, 115, 116]⟩] 9)) V1.heap.size 9 (.slice (some ⟨V1.heap.size, 0, none⟩) 5 5) [⟨#[116, 97, 115, 107]⟩, nm, po, D, ⟨#[112, 97, 115, 116]⟩]) := owns_new V1 [⟨#[116, 97, 115, 107]⟩, nm, po, D, ⟨#[112, 97, 115, 116]⟩] (by simp)
    obtain ⟨V2, hV2⟩ : ∃ V2, V1.alloc (.cells #[.string ⟨#[116, 97, 115, 107]⟩, .string nm, .string po, .string D, .string ⟨#[112, 97, 115, 116]⟩] 9) = V2 := ⟨_, rfl⟩
    have BV2 : Below W0.heap.size W0 V2 := by rw [← hV2]; exact ba BV _
    have hsz : V1.heap.size < V2.heap.size := by rw [← hV2]; simp
    rw [hV2] at HO
    rw [hV2]
    clear hV2
    have hV1 : w.heap.size ≤ V1.heap.size := (Below.on B0 BV).size
    obtain ⟨g, HG⟩ : ∃ g, Hid (V1.heap.size = g) := ⟨_, rfl⟩
    rw [HG.out] at HO hsz hV1
    rw [HG.out]
    have B2 : Below w.heap.size w V2 := Below.on B0 BV2
    have Z2 := Z0.up BV2
    have d4 := Z2.c4
    clear BV BV2 Z0 B0
    by_cases hm : 0 < m
    · have hne : af ≠ [] := fun e => by have := HN.out; rw [e] at this; simp at this; omega
      have HJ : Hid (Calls Tryz.prog 65 #[.slice fo m fc, .string ⟨#[44]⟩] V2 fun e w' => e = .returned (.string (joinS af)) ∧ Below V2.heap.size V2 w') := by
        have := join_reads ⟨#[44]⟩ (HR.out V2 B2) hc hne (by omega) (by have h1 := joinS_size HF.out.after; have h2 := HN.out; dsimp only at h1; rw [joinS_is]; omega)
        rw [joinS_is] at this
        exact this
      have HL : Hid (∀ (bo : Option Addr) (n c : Nat) (W : World), Below w.heap.size w W → n ≤ c → n = 6 → Reads W (.slice bo n c) ([⟨#[116, 97, 115, 107]⟩, nm, po, D, ⟨#[112, 97, 115, 116]⟩] ++ [joinS af]) → Calls Tryz.prog 32 #[.slice bo n c] W fun e w' => e = .returned (.string (lineL ⟨nm, po, rt, true, af⟩)) ∧ Below W.heap.size W w') := fun bo n c W hb h1 h2 hrd => by
        have h3 := parts_size6 HF.out (by have := HN.out; show af.length ≤ _; omega)
        rw [HPP.out] at h3
        have h4 := lineOf_any hrd h1 (by simp) (by omega) (Nat.le_trans h3 (by decide))
        have h5 := line_some (t := ⟨nm, po, rt, true, af⟩) r0 hne
        rw [HPP.out] at h5
        rw [← h5]
        exact h4
      obtain ⟨J, HJJ⟩ : ∃ J, Hid (joinS af = J) := ⟨_, rfl⟩
      rw [HJJ.out] at HJ HL
      go_wp2_with (first | (go_at_call 65; refine HJ.out.mono ?_; rintro e V3 ⟨rfl, hb3⟩) | (at_builtin; refine wpList_append_text _ w rfl (.tmp 20) (.tmp 24) 49 rfl w.heap.size 9 Tryz.underlying49 info9 _ [⟨#[116, 97, 115, 107]⟩, nm, po, D, ⟨#[112, 97, 115, 116]⟩] rfl (((HO.out.all hb3).mono hV1).alloc _) (ba (Below.on B2 hb3) _) ⟨V3.heap.size, 0, none⟩ 1 J rfl ?c1 ?c2 ?c3 ?_))
      case c1 => simp
      case c2 => simp
      case c3 => have := (Below.on B2 hb3).size; simp; omega
      intro v' V4 ho4 hb4
      obtain ⟨bo, nn, cc, rfl⟩ : ∃ bo nn cc, v' = .slice bo nn cc := by obtain ⟨x, y, rfl⟩ := ownsS_slice ho4; exact ⟨_, _, _, rfl⟩
      have hroom := owns_room ho4
      have hrd := ownsS_reads ho4
      have hlen : nn = 6 := hrd.len
      have HLL : Hid (Calls Tryz.prog 32 #[.slice bo nn cc] V4 fun e w' => e = .returned (.string (lineL ⟨nm, po, rt, true, af⟩)) ∧ Below V4.heap.size V4 w') := HL.out bo nn cc V4 hb4 hroom hlen hrd
      clear ho4 hrd hlen hroom HL HJ HO d4 Z2
      go_wp2_with (go_at_call 32; refine HLL.out.mono ?_; rintro e V5 ⟨rfl, hb5⟩)
      go_ret
      exact ⟨rfl, Below.on hb4 hb5⟩
    · have hm0 : m = 0 := by omega
      have hne : af = [] := List.length_eq_zero_iff.1 (by have := HN.out; omega)
      have HLL : Hid (Calls Tryz.prog 32 #[.slice (some ⟨g, 0, none⟩) 5 5] V2 fun e w' => e = .returned (.string (lineL ⟨nm, po, rt, true, af⟩)) ∧ Below V2.heap.size V2 w') := by
        have h3 := parts_size HF.out
        rw [HPP.out] at h3
        have h4 := lineOf_any (ownsS_reads HO.out) (Nat.le_refl _) (by simp) (by omega) (by omega)
        have h5 := line_none (t := ⟨nm, po, rt, true, af⟩) r0 hne
        rw [HPP.out] at h5
        rw [← h5]
        exact h4
      clear HO Z2 HR hne
      subst hm0
      go_wp2_with (go_at_call 32; refine HLL.out.mono ?_; rintro e V5 ⟨rfl, hb5⟩)
      go_ret
      exact ⟨rfl, Below.on B2 hb5⟩
  | false =>
    have hpt : pt = ⟨#[102, 114, 101, 101]⟩ := HPT.out.symm
    subst hpt
    go_wp2
    have BD : Below W0.heap.size W0 W0.drew := (Below.refl _ _).drew
    refine wp_region_pick (fun w' => ∃ x : Wd W0, w' = x.at') [0, 1, 2, 3, 4, 5, 7] 9 2 (by kernel_rfl) (by decide) (by decide) (by kernel_rfl) (fun _ _ d _ _ h => by cases d <;> exact h) ⟨⟨W0.drew, BD⟩, rfl⟩ ?_
    repeat (refine wpTakes_l rfl (by first | (intro x h; cases h; done) | (intro x h; cases h; exact ⟨_, rfl⟩)) ?_; go_big_quiet_step (fail); refine wpQuiet_nil ?_)
    refine takes_nil ?_
    clear q0 q1 q2 c3
    refine any_one (fuel := 1) (i := 6) (by kernel_rfl) rfl rfl ?_
    intro K hK
    go_wp2_with (go_at_call 33; refine (HD.out _ (Below.on B0 BD)).mono ?_; rintro e V1 ⟨rfl, hb1⟩)
    have BV : Below W0.heap.size W0 V1 := Below.on BD hb1
    refine hK.out _ _ ⟨⟨V1, BV⟩, rfl⟩ ?_
    clear hK K hb1 BD
    refine any_one (fuel := 0) (i := 8) (by kernel_rfl) rfl rfl ?_
    intro K hK
    go_wp2
    refine hK.out _ _ ⟨⟨_, ba BV _⟩, rfl⟩ ?_
    clear hK K
    refine any_done (by kernel_rfl) ?_
    have HO : Hid (ownsS (V1.alloc (.cells #[.string ⟨#[116, 97, 115, 107]⟩, .string nm, .string po, .string D, .string ⟨#[102, 114, 101, 101]⟩] 9)) V1.heap.size 9 (.slice (some ⟨V1.heap.size, 0, none⟩) 5 5) [⟨#[116, 97, 115, 107]⟩, nm, po, D, ⟨#[102, 114, 101, 101]⟩]) := owns_new V1 [⟨#[116, 97, 115, 107]⟩, nm, po, D, ⟨#[102, 114, 101, 101]⟩] (by simp)
    obtain ⟨V2, hV2⟩ : ∃ V2, V1.alloc (.cells #[.string ⟨#[116, 97, 115, 107]⟩, .string nm, .string po, .string D, .string ⟨#[102, 114, 101, 101]⟩] 9) = V2 := ⟨_, rfl⟩
    have BV2 : Below W0.heap.size W0 V2 := by rw [← hV2]; exact ba BV _
    have hsz : V1.heap.size < V2.heap.size := by rw [← hV2]; simp
    rw [hV2] at HO
    rw [hV2]
    clear hV2
    have hV1 : w.heap.size ≤ V1.heap.size := (Below.on B0 BV).size
    obtain ⟨g, HG⟩ : ∃ g, Hid (V1.heap.size = g) := ⟨_, rfl⟩
    rw [HG.out] at HO hsz hV1
    rw [HG.out]
    have B2 : Below w.heap.size w V2 := Below.on B0 BV2
    have Z2 := Z0.up BV2
    have d4 := Z2.c4
    clear BV BV2 Z0 B0
    by_cases hm : 0 < m
    · have hne : af ≠ [] := fun e => by have := HN.out; rw [e] at this; simp at this; omega
      have HJ : Hid (Calls Tryz.prog 65 #[.slice fo m fc, .string ⟨#[44]⟩] V2 fun e w' => e = .returned (.string (joinS af)) ∧ Below V2.heap.size V2 w') := by
        have := join_reads ⟨#[44]⟩ (HR.out V2 B2) hc hne (by omega) (by have h1 := joinS_size HF.out.after; have h2 := HN.out; dsimp only at h1; rw [joinS_is]; omega)
        rw [joinS_is] at this
        exact this
      have HL : Hid (∀ (bo : Option Addr) (n c : Nat) (W : World), Below w.heap.size w W → n ≤ c → n = 6 → Reads W (.slice bo n c) ([⟨#[116, 97, 115, 107]⟩, nm, po, D, ⟨#[102, 114, 101, 101]⟩] ++ [joinS af]) → Calls Tryz.prog 32 #[.slice bo n c] W fun e w' => e = .returned (.string (lineL ⟨nm, po, rt, false, af⟩)) ∧ Below W.heap.size W w') := fun bo n c W hb h1 h2 hrd => by
        have h3 := parts_size6 HF.out (by have := HN.out; show af.length ≤ _; omega)
        rw [HPP.out] at h3
        have h4 := lineOf_any hrd h1 (by simp) (by omega) (Nat.le_trans h3 (by decide))
        have h5 := line_some (t := ⟨nm, po, rt, false, af⟩) r0 hne
        rw [HPP.out] at h5
        rw [← h5]
        exact h4
      obtain ⟨J, HJJ⟩ : ∃ J, Hid (joinS af = J) := ⟨_, rfl⟩
      rw [HJJ.out] at HJ HL
      go_wp2_with (first | (go_at_call 65; refine HJ.out.mono ?_; rintro e V3 ⟨rfl, hb3⟩) | (at_builtin; refine wpList_append_text _ w rfl (.tmp 20) (.tmp 24) 49 rfl w.heap.size 9 Tryz.underlying49 info9 _ [⟨#[116, 97, 115, 107]⟩, nm, po, D, ⟨#[102, 114, 101, 101]⟩] rfl (((HO.out.all hb3).mono hV1).alloc _) (ba (Below.on B2 hb3) _) ⟨V3.heap.size, 0, none⟩ 1 J rfl ?c1 ?c2 ?c3 ?_))
      case c1 => simp
      case c2 => simp
      case c3 => have := (Below.on B2 hb3).size; simp; omega
      intro v' V4 ho4 hb4
      obtain ⟨bo, nn, cc, rfl⟩ : ∃ bo nn cc, v' = .slice bo nn cc := by obtain ⟨x, y, rfl⟩ := ownsS_slice ho4; exact ⟨_, _, _, rfl⟩
      have hroom := owns_room ho4
      have hrd := ownsS_reads ho4
      have hlen : nn = 6 := hrd.len
      have HLL : Hid (Calls Tryz.prog 32 #[.slice bo nn cc] V4 fun e w' => e = .returned (.string (lineL ⟨nm, po, rt, false, af⟩)) ∧ Below V4.heap.size V4 w') := HL.out bo nn cc V4 hb4 hroom hlen hrd
      clear ho4 hrd hlen hroom HL HJ HO d4 Z2
      go_wp2_with (go_at_call 32; refine HLL.out.mono ?_; rintro e V5 ⟨rfl, hb5⟩)
      go_ret
      exact ⟨rfl, Below.on hb4 hb5⟩
    · have hm0 : m = 0 := by omega
      have hne : af = [] := List.length_eq_zero_iff.1 (by have := HN.out; omega)
      have HLL : Hid (Calls Tryz.prog 32 #[.slice (some ⟨g, 0, none⟩) 5 5] V2 fun e w' => e = .returned (.string (lineL ⟨nm, po, rt, false, af⟩)) ∧ Below V2.heap.size V2 w') := by
        have h3 := parts_size HF.out
        rw [HPP.out] at h3
        have h4 := lineOf_any (ownsS_reads HO.out) (Nat.le_refl _) (by simp) (by omega) (by omega)
        have h5 := line_none (t := ⟨nm, po, rt, false, af⟩) r0 hne
        rw [HPP.out] at h5
        rw [← h5]
        exact h4
      clear HO Z2 HR hne
      subst hm0
      go_wp2_with (go_at_call 32; refine HLL.out.mono ?_; rintro e V5 ⟨rfl, hb5⟩)
      go_ret
      exact ⟨rfl, Below.on B2 hb5⟩
end Go.Proofs.YtpmkapmfgblkhaaGreatDoor
