/-
  Plans by their names: a map of pointers into a row of plans: the walks.
-/
import Derived.Test.YtjmclcjhimcehaaAcp
import Derived.Maps.OwnSet
import Derived.Maps.Views
import Derived.StringKeys
namespace Go.Proofs.Ytjmclcjhimcehaa
open Go Go.RowKit Go.Maps
set_option linter.unusedVariables false

/-- How a pointer into a row reads: its offset there. -/
def ptrE (b : Nat) : Value → Option (DataW Unit × List MemPlace)
  | .pointer none => some (.lit (.int .i64 (-1)), [])
  | .pointer (some ⟨b', o, none⟩) => if b' = b then some (.lit (.int .i64 (o : Int)), []) else none
  | _ => none
theorem ptrE_at (b o : Nat) : ptrE b (.pointer (some ⟨b, o, none⟩)) = some (.lit (.int .i64 (o : Int)), []) := by simp [ptrE]
theorem ptrE_inv {b : Nat} {v : Value} {x : Int} {ps : List MemPlace} (h : ptrE b v = some (.lit (.int .i64 x), ps)) : (x = -1 ∧ v = .pointer none) ∨ ∃ o : Nat, x = (o : Int) ∧ v = .pointer (some ⟨b, o, none⟩) := by
  unfold ptrE at h
  split at h
  · simp at h; exact .inl ⟨h.1.symm, rfl⟩
  · split at h
    · rename_i e; subst e; simp at h; exact .inr ⟨_, h.1.symm, rfl⟩
    · cases h
  · cases h
def keyN (p : Po) : List UInt8 := p.name.data.toList
def fIx (l : List Po) (s : List UInt8) : Option Nat := l.findIdx? fun p => keyN p == s
theorem fIx_snoc (l : List Po) (p : Po) (s : List UInt8) : fIx (l ++ [p]) s = match fIx l s with
    | some i => some i
    | none => if keyN p = s then some l.length else none := by
  unfold fIx
  rw [List.findIdx?_append]
  cases h : l.findIdx? fun p => keyN p == s with
  | some i => simp
  | none => by_cases e : keyN p = s <;> simp [e]
def offL (o : Nat) : Option Nat → DataW Unit
  | none => .lit (.int .i64 (-1))
  | some k => .lit (.int .i64 ((o + k * 9 : Nat) : Int))
def ptrO (b o : Nat) : Option Nat → Value
  | none => .pointer none
  | some k => .pointer (some ⟨b, o + k * 9, none⟩)
/-- In w the map M leads by names to the first plan of each. -/
def PMap (w : World) (M b o : Nat) (l : List Po) : Prop := ∃ n D, w.ownsMap Try.prog 9 (ptrE b) M n D ∧ n ≤ l.length ∧ ∀ s, D.atKey (.string s) (.lit (.int .i64 (-1))) = offL o (fIx l s)
theorem PMap.kept {w w' : World} {M b o : Nat} {l : List Po} {row : Option Nat} (h : PMap w M b o l) (hg : w.grownBy w' row) (hne : some M ≠ row) : PMap w' M b o l := by
  obtain ⟨n, D, h1, h2, h3⟩ := h
  exact ⟨n, D, h1.kept hg hne, h2, h3⟩
theorem PMap.below {w w' : World} {M b o : Nat} {l : List Po} (h : PMap w M b o l) (hb : Below w.heap.size w w') : PMap w' M b o l := h.kept (grown_of_below hb none) (by simp)
theorem PMap.lt {w : World} {M b o : Nat} {l : List Po} (h : PMap w M b o l) : M < w.heap.size := by
  obtain ⟨n, D, h1, _⟩ := h
  exact h1.lt
theorem mk_map {w : World} {n : Nat} (hn : n ≤ 1048577) : (Instr.makeMap 102 (some (.int .i64 (n : Int)))).run Try.prog w = .ok (.map (some w.heap.size)) (w.alloc (.map #[] 0)) := by
  simp [Instr.makeMap, go_sem]
theorem lit_neK {s t : List UInt8} (h : s ≠ t) : (Lit.string s) ≠ .string t := fun e => h (by injection e)
theorem litK (s : List UInt8) : WideAt.IsKeyLit (.string s) := trivial
theorem keyedS : Keyed Try.prog 9 := string_keyed Try.underlying9
theorem underPM : Try.prog.underlying 102 = some (.map 9 119) := by kernel_rfl
theorem zeroPM (w : World) : (zeroValue 119).run Try.prog w = .ok (.pointer none) w := by kernel_rfl
theorem keyS {s : ByteArray} (hs : s.size ≤ 1048577) : keyOf Try.prog 9 (.string s) = some (.string s.data.toList) := Go.WideMaps.keyOf_string_mk Try.underlying9 (Nat.le_trans hs (by decide))
theorem pm_look {w : World} {M b o : Nat} {l : List Po} {s : ByteArray} (h : PMap w M b o l) (hs : s.size ≤ 1048577) :
    (Instr.lookup 102 (.map (some M)) (.string s) false).run Try.prog w = .ok (ptrO b o (fIx l s.data.toList)) w := by
  obtain ⟨n, D, hown, hn, hat⟩ := h
  obtain ⟨v, ps, hrun, hv⟩ := hown.lookup keyedS underPM (zeroPM w) (show ptrE b (.pointer none) = some (.lit (.int .i64 (-1)), []) from rfl) (keyS hs)
  rw [hrun]
  refine congrArg (fun x => Result.ok x w) ?_
  rw [hat] at hv
  cases hf : fIx l s.data.toList with
  | none =>
    rw [hf] at hv
    rcases ptrE_inv hv with ⟨_, e⟩ | ⟨x, e, _⟩
    · exact e
    · omega
  | some k =>
    rw [hf] at hv
    rcases ptrE_inv hv with ⟨e, _⟩ | ⟨x, e, e2⟩
    · omega
    · have : x = o + k * 9 := by omega
      rw [e2, this]
      rfl
theorem pm_put {w : World} {M b o : Nat} {l : List Po} {p : Po} (h : PMap w M b o l) (hs : p.name.size ≤ 1048577) (hl : l.length ≤ 1048577) (hno : fIx l (keyN p) = none) :
    ∃ w', (Instr.mapUpdate 102 (.map (some M)) (.string p.name) (.pointer (some ⟨b, o + l.length * 9, none⟩))).run Try.prog w = .ok () w' ∧ PMap w' M b o (l ++ [p]) ∧ w.grownBy w' (some M) := by
  obtain ⟨n, D, hown, hn, hat⟩ := h
  obtain ⟨w', hrun, h1, h2⟩ := hown.update keyedS underPM (by unfold maxLen; omega) (keyS hs) (ptrE_at b (o + l.length * 9))
  refine ⟨w', hrun, ⟨n + 1, _, h1, by simp; omega, fun s => ?_⟩, h2⟩
  rw [fIx_snoc]
  by_cases e : keyN p = s
  · subst e
    rw [hno, if_pos rfl]
    exact atKey_put_same (k := Lit.string (keyN p)) hown.isMap (litK _) _ _
  · refine (atKey_put_other (k := Lit.string (keyN p)) (k' := Lit.string s) (lit_neK fun h => e h.symm) _ _).trans ?_
    rw [hat s]
    cases hf : fIx l s with
    | some i => rfl
    | none => rw [if_neg e]
theorem pm_skip {w : World} {M b o i : Nat} {l : List Po} {p : Po} (h : PMap w M b o l) (hsome : fIx l (keyN p) = some i) : PMap w M b o (l ++ [p]) := by
  obtain ⟨n, D, hown, hn, hat⟩ := h
  refine ⟨n, D, hown, by simp; omega, fun s => ?_⟩
  rw [hat s, fIx_snoc]
  cases hf : fIx l s with
  | some j => rfl
  | none =>
    rw [if_neg]
    intro e
    subst e
    rw [hsome] at hf
    cases hf
theorem pm_none (w : World) (b o : Nat) : PMap (w.alloc (.map #[] 0)) w.heap.size b o [] := ⟨0, _, World.ownsMap_made w Try.prog 9 (ptrE b), Nat.le_refl _, fun s => rfl⟩
set_option maxRecDepth 10000 in
set_option maxHeartbeats 2000000 in
theorem plansOf_any (ao : Option Addr) (n cap : Nat) (ps : List Po) (w : World) (hr : DRow OnePl w (.slice ao n cap) ps) (hn : n ≤ 1048577) (hz : ∀ p ∈ ps, p.name.size ≤ 1048577) :
    Calls Try.prog 57 #[.slice ao n cap] w fun e w' => ∃ b o, (ps ≠ [] → ao = some ⟨b, o, none⟩) ∧ e = .returned (.map (some w.heap.size)) ∧ PMap w' w.heap.size b o ps ∧ Below w.heap.size w w' := by
  have HN : Hid (ps.length = n) := hr.len
  obtain ⟨b, o, HBO⟩ : ∃ b o, Hid (∀ (k : Nat) (p : Po), ps[k]? = some p → ao = some ⟨b, o, none⟩) := by
    cases hps : ps with
    | nil => exact ⟨0, 0, fun k p h => by simp at h⟩
    | cons p r =>
      obtain ⟨b, o, tv, e, _⟩ := pl_at (C := 0) hr (k := 0) (x := p) (by rw [hps]; rfl)
      exact ⟨b, o, fun _ _ _ => e⟩
  have HR : Hid (∀ W, Below w.heap.size w W → DRow OnePl W (.slice ao n cap) ps) := fun W hb => hr.below onePl_below hb
  have HZ : Hid (∀ p ∈ ps, p.name.size ≤ 1048577) := hz
  have hmm := mk_map (w := w) (n := n) hn
  clear hr hz
  go_enter Try.func57, Try.ntmps57
  go_wp2
  go_loopw [11] (fun iv wr => ∃ k : Nat, k ≤ n ∧ iv = .int .i64 k ∧ Hid (PMap wr w.heap.size b o (ps.take k)) ∧ Below w.heap.size w wr) (fun iv _ => n - (intOf iv).toNat)
  case atStart => exact ⟨0, Nat.zero_le _, rfl, pm_none w b o, ba (Below.refl _ _) _⟩
  case round =>
    obtain ⟨k, hk, rfl, HM, hbel⟩ := hrel
    by_cases hlt : k < n
    · obtain ⟨x, ht⟩ : ∃ x, ps[k]? = some x := ⟨_, List.getElem?_eq_getElem (by rw [HN.out]; exact hlt)⟩
      obtain ⟨b', o', tv, e', hb, c0, -, -, -, -, -, -, -, -, -⟩ := pl_at (C := 0) (HR.out wr hbel) ht
      have e2 := HBO.out k x ht
      rw [e'] at e2
      injection e2 with e2
      injection e2 with e2 e3 _
      subst e2 e3 e'
      have hxz := HZ.out x (List.mem_of_getElem? ht)
      have HTK : Hid (ps.take (k + 1) = ps.take k ++ [x] ∧ (ps.take k).length = k) := ⟨by rw [List.take_add_one, ht]; rfl, by rw [List.length_take, HN.out]; omega⟩
      have hl := pm_look HM.out hxz
      clear ht
      cases hf : fIx (ps.take k) (keyN x) with
      | none =>
        have hl2 : (Instr.lookup 102 (.map (some w.heap.size)) (.string x.name) false).run Try.prog wr = .ok (.pointer none) wr := by
          rw [hl, show x.name.data.toList = keyN x from rfl, hf]; rfl
        obtain ⟨w', hrun, hM', hg'⟩ := pm_put HM.out hxz (by rw [HTK.out.2]; omega) hf
        rw [HTK.out.2] at hrun
        rw [← HTK.out.1] at hM'
        have HM2 : Hid (PMap w' w.heap.size b' o' (ps.take (k + 1))) := hM'
        have HB2 : Hid (Below w.heap.size w w') := hbel.grown hg' hbel.size (fun j hj => by cases hj; exact Nat.le_refl _)
        clear hl hf hM' hg' HM hbel
        go_wp2
        go_roundw
        case rel => exact ⟨k + 1, by omega, by go_num, HM2, HB2.out⟩
        case measure => simp [intOf]; omega
      | some i =>
        have hl2 : (Instr.lookup 102 (.map (some w.heap.size)) (.string x.name) false).run Try.prog wr = .ok (.pointer (some ⟨b', o' + i * 9, none⟩)) wr := by
          rw [hl, show x.name.data.toList = keyN x from rfl, hf]; rfl
        have HM2 : Hid (PMap wr w.heap.size b' o' (ps.take (k + 1))) := by
          show PMap _ _ _ _ _
          rw [HTK.out.1]
          exact pm_skip HM.out hf
        clear hl hf HM
        go_wp2
        go_roundw
        case rel => exact ⟨k + 1, by omega, by go_num, HM2, hbel⟩
        case measure => simp [intOf]; omega
    · have ek : k = n := by omega
      have HM2 : Hid (PMap wr w.heap.size b o ps) := by
        have h := HM.out
        rw [List.take_of_length_le (by rw [HN.out, ek]; exact Nat.le_refl _)] at h
        exact h
      have HB1 : Hid (ps ≠ [] → ao = some ⟨b, o, none⟩) := fun hne => by
        cases hps : ps with
        | nil => exact absurd hps hne
        | cons p r => exact HBO.out 0 p (by rw [hps]; rfl)
      clear HM
      go_wp2
      go_ret
      exact ⟨b, o, HB1.out, rfl, HM2.out, hbel⟩
end Go.Proofs.Ytjmclcjhimcehaa
