/-
  Where a plan stands on a board: PlanAt of the specification and of the program: the walks. What runs on a board: plain facts. How much runs, as the specification counts it: the walks. What runs with a token, plain, and as the specification looks for it: the walk.
-/
import Derived.Test.YtkfhmeiiicidaaaX1
import Derived.Test.YtkfhmeiiicidaaaX4
namespace Go.Proofs.Ytkfhmeiiicidaaa
open Go Go.RowKit
set_option linter.unusedVariables false

/-- The first place from k on that is so, -1 without one. -/
def idxG {α : Type} (q : α → Bool) : Nat → List α → Int
  | _, [] => -1
  | k, t :: r => if q t then (k : Int) else idxG q (k + 1) r
theorem idxG_at {α : Type} {q : α → Bool} {l : List α} {k : Nat} {t : α} (h : l[k]? = some t) : idxG q k (l.drop k) = if q t then (k : Int) else idxG q (k + 1) (l.drop (k + 1)) := by
  obtain ⟨hk, rfl⟩ := List.getElem?_eq_some_iff.1 h
  rw [List.drop_eq_getElem_cons hk]
  rfl
theorem idxG_end {α : Type} {q : α → Bool} {l : List α} {k : Nat} (h : k = l.length) : idxG q k (l.drop k) = -1 := by
  subst h
  rw [List.drop_length]
  rfl
def planIx (l : List Po) (s : ByteArray) : Int := idxG (fun x : Po => decide (x.name = s)) 0 l
end Go.Proofs.Ytkfhmeiiicidaaa

namespace Go.Proofs.Ytkfhmeiiicidaaa
open Go Go.RowKit
set_option linter.unusedVariables false

def stAt (rs : List Rr) (k : Nat) : List Sa := ((rs[k]?).map (·.st)).getD []
def nmAt (rs : List Rr) (k : Nat) : ByteArray := ((rs[k]?).map (·.nm)).getD ⟨#[]⟩
theorem stAt_at {rs : List Rr} {k : Nat} {r : Rr} (h : rs[k]? = some r) : stAt rs k = r.st := by unfold stAt; rw [h]; rfl
theorem nmAt_at {rs : List Rr} {k : Nat} {r : Rr} (h : rs[k]? = some r) : nmAt rs k = r.nm := by unfold nmAt; rw [h]; rfl
theorem stAt_le {rs : List Rr} {M : Nat} (h : ∀ r ∈ rs, r.st.length ≤ M) (k : Nat) : (stAt rs k).length ≤ M := by
  unfold stAt
  cases hk : rs[k]? with
  | none => exact Nat.zero_le _
  | some r => exact h r (List.mem_of_getElem? hk)
/-- The places below one that run. -/
def runI (st : List Sa) (j : Nat) : List Nat := (List.range j).filter fun i => isN st (i : Int) 1
theorem runI_succ (st : List Sa) (j : Nat) : runI st (j + 1) = runI st j ++ if isN st (j : Int) 1 then [j] else [] := by
  unfold runI
  rw [List.range_succ, List.filter_append]
  congr 1
  cases h : isN st (j : Int) 1 <;> simp [h]
theorem runI_len (st : List Sa) (j : Nat) : (runI st j).length ≤ j := by
  have := List.length_filter_le (fun i : Nat => isN st (i : Int) 1) (List.range j)
  rw [List.length_range] at this
  exact this
/-- The places of all that runs, of the runs ahead of k and of run k below j. -/
def rpA (rs : List Rr) (k : Nat) : List (Nat × Nat) := (List.range k).flatMap fun m => (runI (stAt rs m) (stAt rs m).length).map fun i => (m, i)
def rpTo (rs : List Rr) (k j : Nat) : List (Nat × Nat) := rpA rs k ++ (runI (stAt rs k) j).map fun i => (k, i)
def rp (rs : List Rr) : List (Nat × Nat) := rpA rs rs.length
theorem rpTo_zero (rs : List Rr) (k : Nat) : rpTo rs k 0 = rpA rs k := by unfold rpTo runI; simp
theorem rpTo_on {rs : List Rr} {k j : Nat} (h : isN (stAt rs k) (j : Int) 1 = true) : rpTo rs k (j + 1) = rpTo rs k j ++ [(k, j)] := by
  unfold rpTo
  rw [runI_succ, h, if_pos rfl, List.map_append, ← List.append_assoc]
  rfl
theorem rpTo_off {rs : List Rr} {k j : Nat} (h : isN (stAt rs k) (j : Int) 1 = false) : rpTo rs k (j + 1) = rpTo rs k j := by
  unfold rpTo
  rw [runI_succ, h, if_neg (by decide), List.append_nil]
theorem rpTo_row {rs : List Rr} {k j : Nat} (h : (stAt rs k).length = j) : rpTo rs (k + 1) 0 = rpTo rs k j := by
  rw [rpTo_zero]
  unfold rpA rpTo
  rw [List.range_succ, List.flatMap_append, ← h]
  unfold rpA
  simp
theorem rpA_len {rs : List Rr} {M : Nat} (h : ∀ m, (stAt rs m).length ≤ M) : ∀ k, (rpA rs k).length ≤ k * M
  | 0 => by simp [rpA]
  | k + 1 => by
    have ih := rpA_len h k
    have e : rpA rs (k + 1) = rpTo rs k (stAt rs k).length := by rw [← rpTo_row rfl, rpTo_zero]
    rw [e]
    unfold rpTo
    rw [List.length_append, List.length_map]
    have h1 := runI_len (stAt rs k) (stAt rs k).length
    have h2 := h k
    rw [Nat.add_mul]
    omega
theorem rpTo_len {rs : List Rr} {M : Nat} (h : ∀ m, (stAt rs m).length ≤ M) (k j : Nat) : (rpTo rs k j).length ≤ k * M + j := by
  unfold rpTo
  rw [List.length_append, List.length_map]
  have h1 := runI_len (stAt rs k) j
  have h2 := rpA_len h k
  omega
/-- How many are so. -/
def cnt {α : Type} (q : α → Bool) (l : List α) : Nat := (l.filter q).length
theorem cnt_le {α : Type} (q : α → Bool) (l : List α) : cnt q l ≤ l.length := List.length_filter_le _ _
theorem cnt_snoc {α : Type} (q : α → Bool) (l : List α) (x : α) : cnt q (l ++ [x]) = cnt q l + if q x then 1 else 0 := by
  unfold cnt
  rw [List.filter_append, List.length_append]
  cases h : q x <;> simp [h]
def actQ (rs : List Rr) (s : ByteArray) : Nat × Nat → Bool := fun p => decide (nmAt rs p.1 = s)
def actN (rs : List Rr) (s : ByteArray) : Int := cnt (actQ rs s) (rp rs)
/-- The pool of a task of the plan of a name. -/
def poolOf (ps : List Po) (nm : ByteArray) (i : Nat) : Option ByteArray := (ps.find? fun p => decide (p.name = nm)).bind fun p => (p.tasks[i]?).map (·.pool)
def useQ (ps : List Po) (rs : List Rr) (s : ByteArray) : Nat × Nat → Bool := fun p => decide (poolOf ps (nmAt rs p.1) p.2 = some s)
def useN (ps : List Po) (rs : List Rr) (s : ByteArray) : Int := cnt (useQ ps rs s) (rp rs)
theorem idxG_find {α : Type} (q : α → Bool) : ∀ (l : List α) (k : Nat), (l.find? q = none ∧ idxG q k l = -1) ∨ ∃ (j : Nat) (x : α), l[j]? = some x ∧ l.find? q = some x ∧ idxG q k l = ((k + j : Nat) : Int)
  | [], k => .inl ⟨rfl, rfl⟩
  | x :: r, k => by
    cases h : q x with
    | true => exact .inr ⟨0, x, rfl, by simp [h], by unfold idxG; rw [h]; simp⟩
    | false =>
      rcases idxG_find q r (k + 1) with ⟨h1, h2⟩ | ⟨j, y, h1, h2, h3⟩
      · exact .inl ⟨by simp [h, h1], by unfold idxG; rw [h]; simpa using h2⟩
      · exact .inr ⟨j + 1, y, by simpa using h1, by simp [h, h2], by unfold idxG; rw [h]; simp only [Bool.false_eq_true, if_false]; rw [h3]; congr 1; omega⟩
theorem plan_find (ps : List Po) (s : ByteArray) : (ps.find? (fun p => decide (p.name = s)) = none ∧ planIx ps s = -1) ∨ ∃ (j : Nat) (x : Po), ps[j]? = some x ∧ ps.find? (fun p => decide (p.name = s)) = some x ∧ planIx ps s = (j : Int) := by
  rcases idxG_find (fun p : Po => decide (p.name = s)) ps 0 with h | ⟨j, x, h1, h2, h3⟩
  · exact .inl h
  · exact .inr ⟨j, x, h1, h2, by unfold planIx; rw [h3]; simp⟩
end Go.Proofs.Ytkfhmeiiicidaaa

namespace Go.Proofs.Ytkfhmeiiicidaaa
open Go Go.RowKit
set_option linter.unusedVariables false

end Go.Proofs.Ytkfhmeiiicidaaa

namespace Go.Proofs.Ytkfhmeiiicidaaa
open Go Go.RowKit
set_option linter.unusedVariables false

def tokQ (rs : List Rr) (tok : Int) : Nat × Nat → Bool := fun p => decide ((sAt (stAt rs p.1) p.2).tok = tok)
/-- The place of what runs with a token. -/
def tokF (rs : List Rr) (tok : Int) : Option (Nat × Nat) := (rp rs).find? (tokQ rs tok)
def tokV : Option (Nat × Nat) → Value
  | none => .tuple #[.int .i64 0, .int .i64 0, .bool false]
  | some (k, i) => .tuple #[.int .i64 k, .int .i64 i, .bool true]
theorem runI_preT (st : List Sa) (j : Nat) : ∀ d, runI st j <+: runI st (j + d)
  | 0 => List.prefix_refl _
  | d + 1 => by
    have h := runI_preT st j d
    rw [← Nat.add_assoc, runI_succ]
    exact h.trans (List.prefix_append _ _)
theorem rpA_preT (rs : List Rr) (k : Nat) : ∀ d, rpA rs k <+: rpA rs (k + d)
  | 0 => List.prefix_refl _
  | d + 1 => by
    have h := rpA_preT rs k d
    have e : rpA rs (k + (d + 1)) = rpTo rs (k + d) (stAt rs (k + d)).length := by rw [← rpTo_row rfl, rpTo_zero]; rfl
    rw [e]
    unfold rpTo
    exact h.trans (List.prefix_append _ _)
theorem rpTo_preT {rs : List Rr} {k j : Nat} (hk : k < rs.length) (hj : j ≤ (stAt rs k).length) : rpTo rs k j <+: rp rs := by
  have h1 : rpTo rs k j <+: rpTo rs k (stAt rs k).length := by
    unfold rpTo
    obtain ⟨d, hd⟩ : ∃ d, (stAt rs k).length = j + d := ⟨_, (Nat.add_sub_cancel' hj).symm⟩
    obtain ⟨t, ht⟩ := runI_preT (stAt rs k) j d
    rw [hd, ← ht, List.map_append, ← List.append_assoc]
    exact List.prefix_append _ _
  have h2 : rpTo rs k (stAt rs k).length = rpA rs (k + 1) := by rw [← rpTo_row rfl, rpTo_zero]
  rw [h2] at h1
  obtain ⟨d, hd⟩ : ∃ d, rs.length = k + 1 + d := ⟨rs.length - (k + 1), by omega⟩
  unfold rp
  rw [hd]
  exact h1.trans (rpA_preT rs (k + 1) d)
theorem tokF_at {rs : List Rr} {tok : Int} {k j : Nat} (hk : k < rs.length) (hj : j < (stAt rs k).length) (hr : isN (stAt rs k) (j : Int) 1 = true) (hq : tokQ rs tok (k, j) = true) (hno : (rpTo rs k j).find? (tokQ rs tok) = none) : tokF rs tok = some (k, j) := by
  obtain ⟨t, ht⟩ := rpTo_preT hk (Nat.succ_le_of_lt hj)
  rw [rpTo_on hr] at ht
  unfold tokF
  rw [← ht, List.append_assoc, List.find?_append, hno]
  simp [hq]
set_option maxRecDepth 10000 in
set_option maxHeartbeats 4000000 in
theorem specToken_any (so po ro : Option Addr) (sn sc pn pc rn rc : Nat) (ck tk : Int) (rs : List Rr) (tok : Int) (w : World) (hr : DRow OneRk w (.slice ro rn rc) rs) (hn : rn ≤ 1048577) (hz : ∀ r ∈ rs, r.st.length ≤ 1048576) :
    Calls Try.prog 18 #[bdV (.slice so sn sc) (.slice po pn pc) (.slice ro rn rc) ck tk, .int .i64 tok] w fun e w' => e = .returned (tokV (tokF rs tok)) ∧ Below w.heap.size w w' := by
  have HN : Hid (rs.length = rn) := hr.len
  have HR : Hid (∀ W, Below w.heap.size w W → DRow OneRk W (.slice ro rn rc) rs) := fun W hb => hr.below oneRk_below hb
  have HZ : Hid (∀ r ∈ rs, r.st.length ≤ 1048576) := hz
  clear hr hz
  go_enter Try.func18, Try.ntmps18
  go_wp2
  go_loopw [7] (fun kv wr => ∃ k : Nat, k ≤ rn ∧ kv = .int .i64 k ∧ Hid ((rpTo rs k 0).find? (tokQ rs tok) = none) ∧ B5 32 wr w.heap.size (.slice so sn sc) (.slice po pn pc) (.slice ro rn rc) (.int .i64 ck) (.int .i64 tk) ∧ Below w.heap.size w wr) (fun kv _ => rn - (intOf kv).toNat)
  case atStart => exact ⟨0, Nat.zero_le _, rfl, (by show _ = _; rw [rpTo_zero]; rfl), B5.new _ _ _ _ _ _ _, ba (Below.refl _ _) _⟩
  case round =>
    obtain ⟨k, hk, rfl, HC, K, hbel⟩ := hrel
    have kb := K.c2
    by_cases hlt : k < rn
    · obtain ⟨x, ht⟩ : ∃ x, rs[k]? = some x := ⟨_, List.getElem?_eq_getElem (by rw [HN.out]; exact hlt)⟩
      have HT : Hid (rs[k]? = some x) := ht
      have HXL : Hid (x.st.length ≤ 1048576) := HZ.out x (List.mem_of_getElem? ht)
      obtain ⟨m, HM⟩ : ∃ m, Hid (x.st.length = m) := ⟨_, rfl⟩
      have hm : m ≤ 1048576 := by rw [← HM.out]; exact HXL.out
      clear ht HXL
      go_wp2
      go_loopw [8] (fun jv wx => ∃ j : Nat, j ≤ m ∧ jv = .int .i64 j ∧ Hid ((rpTo rs k j).find? (tokQ rs tok) = none) ∧ B5 32 wx w.heap.size (.slice so sn sc) (.slice po pn pc) (.slice ro rn rc) (.int .i64 ck) (.int .i64 tk) ∧ Below w.heap.size w wx) (fun jv _ => m - (intOf jv).toNat)
      case atStart => exact ⟨0, Nat.zero_le _, rfl, HC, K, hbel⟩
      case round =>
        clear K hbel kb HC
        obtain ⟨j, hj, rfl, HD, K, hbel⟩ := hrel
        have kb := K.c2
        obtain ⟨b', o, av, e', hb, c0, c1, c2, c3, c4, hav⟩ := rk_at (C := 0) (HR.out wr hbel) HT.out
        subst e'
        obtain ⟨fo, fc, ev⟩ := reads_slice hav
        subst ev
        rw [HM.out] at hav c4
        by_cases hlj : j < m
        · obtain ⟨y, hy⟩ : ∃ y, x.st[j]? = some y := ⟨_, List.getElem?_eq_getElem (by rw [HM.out]; exact hlj)⟩
          obtain ⟨bs, os, es, hbs, s0, -, s2, -⟩ := sa_at hav hy
          subst es
          have HIS : Hid (isN (stAt rs k) (j : Int) 1 = decide (y.is = 1)) := by show isN _ _ _ = _; rw [stAt_at HT.out]; exact isN_in hy 1
          have HTQ : Hid (tokQ rs tok (k, j) = decide (y.tok = tok)) := by show tokQ rs tok (k, j) = _; unfold tokQ; rw [stAt_at HT.out, sAt_at hy]
          clear hy hav
          by_cases hi : y.is = 1
          · have hi2 : (y.is == 1) = true := beq_iff_eq.2 hi
            by_cases hq : y.tok = tok
            · have hq2 : (y.tok == tok) = true := beq_iff_eq.2 hq
              have HF : Hid (tokF rs tok = some (k, j)) := tokF_at (by rw [HN.out]; exact hlt) (by rw [stAt_at HT.out, HM.out]; exact hlj) (HIS.out.trans (decide_eq_true hi)) (HTQ.out.trans (decide_eq_true hq)) HD.out
              clear HD hq hi
              go_wp2
              go_ret3
              exact ⟨by rw [HF.out]; rfl, hbel⟩
            · have hq2 : (y.tok == tok) = false := beq_eq_false_iff_ne.2 hq
              have HD2 : Hid ((rpTo rs k (j + 1)).find? (tokQ rs tok) = none) := by
                show _ = _
                rw [rpTo_on (HIS.out.trans (decide_eq_true hi)), List.find?_append, HD.out]
                simp [HTQ.out, hq]
              clear HD hq hi
              go_wp2
              go_roundw
              case rel => exact ⟨j + 1, by omega, by go_num, HD2, K, hbel⟩
              case measure => simp [intOf]; omega
          · have hi2 : (y.is == 1) = false := beq_eq_false_iff_ne.2 hi
            have HD2 : Hid ((rpTo rs k (j + 1)).find? (tokQ rs tok) = none) := by
              show _ = _
              rw [rpTo_off (HIS.out.trans (decide_eq_false hi)), HD.out]
            clear HD hi
            go_wp2
            go_roundw
            case rel => exact ⟨j + 1, by omega, by go_num, HD2, K, hbel⟩
            case measure => simp [intOf]; omega
        · have ej : j = m := by omega
          have HD2 : Hid ((rpTo rs (k + 1) 0).find? (tokQ rs tok) = none) := by
            show _ = _
            rw [rpTo_row (j := j) (by rw [stAt_at HT.out, HM.out, ej]), HD.out]
          clear HD
          go_wp2
          go_roundw
          case rel => exact ⟨k + 1, by omega, by go_num, HD2, K, hbel⟩
          case measure => simp [intOf]; omega
    · have ek : k = rn := by omega
      have HF : Hid (tokF rs tok = none) := by
        show tokF rs tok = _
        unfold tokF rp
        rw [← HC.out, rpTo_zero, ek, HN.out]
      go_wp2
      go_ret3
      exact ⟨by rw [HF.out]; rfl, hbel⟩
end Go.Proofs.Ytkfhmeiiicidaaa
