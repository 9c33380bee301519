/-
  What an act leaves, in plain words: what is added stands behind, what is dropped is gone; acts one by one. What lies there while the acts are done one by one. The drawn law on acts: the walk.
-/
import Derived.Test.YtekflgecfcjjiaaK1
import Derived.Test.YtekflgecfcjjiaaK2
import Derived.Test.YtekflgecfcjjiaaK3
namespace Go.Proofs.Ytekflgecfcjjiaa
open Go Go.RowKit

theorem findF_put {l : List Fl} {x : Fl} {s : ByteArray} (hs : x.name = s) : findF (putL l x) s = some x := by
  have hx : x ∈ putL l x := mem_put.2 (.inl rfl)
  subst hs
  cases h : findF (putL l x) x.name with
  | none =>
    have h1 := findF_no h
    have h2 := any_of_mem hx
    rw [show x.key = x.name.data.toList from rfl, h1] at h2
    cases h2
  | some g =>
    obtain ⟨h1, h2⟩ := findF_some h
    rcases mem_put.1 h1 with h3 | ⟨_, h3⟩
    · rw [h3]
    · exact absurd (show g.key = x.key by show g.name.data.toList = x.name.data.toList; rw [h2]) h3
theorem findF_del {l : List Fl} {s : ByteArray} : findF (delL l s.data.toList) s = none := by
  cases h : findF (delL l s.data.toList) s with
  | none => rfl
  | some g =>
    obtain ⟨h1, h2⟩ := findF_some h
    exact absurd (show g.key = s.data.toList by show g.name.data.toList = s.data.toList; rw [h2]) (mem_del.1 h1).2

theorem actL_made {l o : List Fl} {a : Ac} (h : actL l a = some o) : actOut l a = some o := by
  unfold actL at h
  split at h
  · cases h
  · obtain ⟨o', h1, h2⟩ := Option.bind_eq_some_iff.1 h
    split at h2
    · cases h2; exact h1
    · cases h2
theorem act_add {l o : List Fl} {a : Ac} (h : actL l a = some o) (hk : a.kind = 1) : fileR o a.name = ((fileR l a.name).1 ++ a.text, true) := by
  have h1 := actL_made h
  unfold actOut at h1
  rw [if_pos hk] at h1
  simp only [Option.some.injEq] at h1
  subst h1
  cases hf : findF l a.name with
  | none =>
    simp only [Option.getD_none]
    unfold fileR
    rw [findF_put rfl, hf]
  | some f =>
    simp only [Option.getD_some]
    unfold fileR
    rw [findF_put (x := ⟨f.name, f.text ++ a.text, f.kept⟩) (findF_some hf).2, hf]
theorem act_drop {l o : List Fl} {a : Ac} (h : actL l a = some o) (hk : a.kind = 4) : (fileR o a.name).2 = false := by
  have h1 := actL_made h
  unfold actOut at h1
  rw [if_neg (by omega)] at h1
  cases hf : findF l a.name with
  | none => rw [hf] at h1; cases h1
  | some f =>
    rw [hf] at h1
    dsimp only at h1
    rw [if_neg (by omega), if_neg (by omega), if_pos hk] at h1
    simp only [Option.some.injEq] at h1
    subst h1
    unfold fileR
    rw [findF_del]

/-- The acts one by one. -/
theorem fold_step {l o : List Fl} {acts : List Ac} {n i : Nat} {a : Ac} {oi : List Fl} (h : (acts.take n).foldlM actL l = some o) (hi : i < n) (ha : acts[i]? = some a) (hoi : (acts.take i).foldlM actL l = some oi) :
    ∃ o', actL oi a = some o' ∧ (acts.take (i + 1)).foldlM actL l = some o' := by
  have e1 : acts.take (i + 1) = acts.take i ++ [a] := by
    rw [List.take_add_one, ha]
    rfl
  have e2 : acts.take n = acts.take (i + 1) ++ (acts.take n).drop (i + 1) := by
    conv => lhs; rw [← List.take_append_drop (i + 1) (acts.take n)]
    rw [List.take_take, Nat.min_eq_left (by omega)]
  have e3 : (acts.take (i + 1)).foldlM actL l = actL oi a := by
    rw [e1, List.foldlM_append, hoi]
    simp [List.foldlM]
  rw [e2, List.foldlM_append, e3] at h
  cases h4 : actL oi a with
  | none => rw [h4] at h; simp at h
  | some o' => exact ⟨o', rfl, e3.trans h4⟩
end Go.Proofs.Ytekflgecfcjjiaa

namespace Go.Proofs.Ytekflgecfcjjiaa
open Go Go.RowKit

structure Lx (w wr : World) (D3 D7 D11 : Nat) (vd va vl v2 one : Value) (L : List Fl) (acts : List Ac) (left : List Int) (oN oi : List Fl) : Prop where
  c3 : wr.cell? ⟨D3, 0, none⟩ = some vd
  c7 : wr.cell? ⟨D7, 0, none⟩ = some v2
  c11 : wr.cell? ⟨D11, 0, none⟩ = some one
  f11 : wr.frozen? ⟨D11, 0, none⟩ = false
  rd : ownsR wr w.heap.size 36 vd L
  ra : ownsR wr w.heap.size 45 va acts
  rl : ownsR wr w.heap.size 3 vl left
  r2 : ownsR wr w.heap.size 36 v2 oN
  ro : ownsR wr w.heap.size 36 one oi
  ad : vd.ownBlock ≠ some D11
  aa : va.ownBlock ≠ some D11
  al : vl.ownBlock ≠ some D11
  a2 : v2.ownBlock ≠ some D11
  ao : one.ownBlock ≠ some D11
  ne3 : D3 ≠ D11
  ne7 : D7 ≠ D11
  lo : w.heap.size ≤ D11
  bel : Below w.heap.size w wr
section
variable {w wr w' : World} {D3 D7 D11 : Nat} {vd va vl v2 one nx : Value} {L oN oi o' : List Fl} {acts : List Ac} {left : List Int}
theorem Lx.lt (h : Lx w wr D3 D7 D11 vd va vl v2 one L acts left oN oi) : D11 < wr.heap.size := World.block_lt_of_cell? wr _ h.c11
theorem Lx.up (h : Lx w wr D3 D7 D11 vd va vl v2 one L acts left oN oi) (hb : Below wr.heap.size wr w') : Lx w w' D3 D7 D11 vd va vl v2 one L acts left oN oi :=
  ⟨cell_up hb h.c3, cell_up hb h.c7, cell_up hb h.c11, frozen_up hb h.c11 h.f11, h.rd.all hb, h.ra.all hb, h.rl.all hb, h.r2.all hb, h.ro.all hb, h.ad, h.aa, h.al, h.a2, h.ao, h.ne3, h.ne7, h.lo, h.bel.trans (hb.mono h.bel.size)⟩
theorem Lx.put (h : Lx w wr D3 D7 D11 vd va vl v2 one L acts left oN oi) (hn : ownsR wr w.heap.size 36 nx o') (hne : nx.ownBlock ≠ some D11) : Lx w (wr.setCell ⟨D11, 0, none⟩ nx) D3 D7 D11 vd va vl v2 nx L acts left oN o' := by
  have g := grown_set wr D11 0 nx
  exact ⟨cell_other h.c3 g (by simpa using h.ne3), cell_other h.c7 g (by simpa using h.ne7), World.cell?_setCell_same' _ _ _ (by rw [h.c11]; rfl), by simpa [go_sem] using h.f11, h.rd.other g (.inr h.ad), h.ra.other g (.inr h.aa), h.rl.other g (.inr h.al), h.r2.other g (.inr h.a2), hn.other g (.inr hne), h.ad, h.aa, h.al, h.a2, hne, h.ne3, h.ne7, h.lo, h.bel.setCell (p := ⟨D11, 0, none⟩) h.lo _⟩
end

theorem SmD.of {o : List Fl} (h : diskR o = true) : SmD o := by
  obtain ⟨h1, h2, _⟩ := diskR_iff.1 h
  refine ⟨by omega, fun f hf => ?_⟩
  have := h2 f hf
  simp only [Fl.right, nameR, Bool.and_eq_true, decide_eq_true_eq] at this
  omega
theorem SmD.texts {o : List Fl} (h : SmD o) : TextsL o := fun f hf => (h.2 f hf).2
theorem fileR_size {o : List Fl} (h : SmD o) (s : ByteArray) : (fileR o s).1.size ≤ 1048576 := by
  unfold fileR
  cases hf : findF o s with
  | none => simp
  | some f => exact (h.2 f (findF_some hf).1).2

theorem doAct_yes {w : World} {v : Value} {l o : List Fl} {kind : Int} {nm tx to : ByteArray} (hr : Reads w v l) (hs : SmD l) (ha : SmA ⟨kind, nm, tx, to⟩) (h : actL l ⟨kind, nm, tx, to⟩ = some o) :
    Calls Try.prog 24 #[.agg #[v], .agg #[.int .i64 kind, .string nm, .string tx, .string to]] w fun e w' => ∃ v', e = .returned (.tuple #[.agg #[v'], .bool true]) ∧ ownsR w' w.heap.size 36 v' o ∧ Below w.heap.size w w' := by
  obtain ⟨ao, c, rfl, _⟩ := id hr
  obtain ⟨h1, h2, h3⟩ := ha
  have := doAct_try ao _ c l kind nm tx to w hr (by have := hs.1; omega) hs.2 (by dsimp only at h1; omega) (by dsimp only at h2; omega) (by dsimp only at h3; omega)
  rw [h] at this
  exact this
theorem fileAt_yes {w : World} {v : Value} {l : List Fl} {s x : ByteArray} {b : Bool} (hr : Reads w v l) (hs : SmD l) (h : fileR l s = (x, b)) :
    Calls Try.prog 25 #[.agg #[v], .string s] w fun e w' => e = .returned (.tuple #[.string x, .bool b]) ∧ Below w.heap.size w w' := by
  have := fileAt_any s hr (by have := hs.1; omega) hs.texts
  rw [h] at this
  exact this
end Go.Proofs.Ytekflgecfcjjiaa

namespace Go.Proofs.Ytekflgecfcjjiaa
open Go Go.RowKit

theorem slice_n {α : Type} [Rec α] {w : World} {B : Nat} {e : TypeId} {v : Value} {l : List α} (h : ownsR w B e v l) : ∃ a c, v = .slice a l.length c := h.slice
theorem apart_lt {α : Type} [Rec α] {w : World} {B : Nat} {e : TypeId} {v : Value} {l : List α} (h : ownsR w B e v l) {D : Nat} (hD : w.heap.size ≤ D) : v.ownBlock ≠ some D := fun k => by
  have := (h.lt D k).2
  omega

set_option maxRecDepth 10000 in
set_option maxHeartbeats 4000000 in
theorem law_Acts (HD : Hid DiskDrawn) (v : Value) (n : Nat) (w : World) (hn : n ≤ 9223372036854775807) (hc : CodeAt w w.heap.size v n) :
    Calls Try.prog 4 #[v] w fun e w' => e = .returned (.bool true) ∧ Below w.heap.size w w' := by
  obtain ⟨a, cap, rfl, _⟩ := id hc
  by_cases hb : 1048576 < n
  · have hbb : decide (1048576 < n) = true := decide_eq_true hb
    go_enter Try.func4, Try.ntmps4
    go_wp2_with (go_at_call 12; refine (big_any a n cap _ hn).mono ?_; rintro e w' ⟨rfl, hw⟩; have hw2 := hw.symm; subst hw2)
    go_ret
    exact ⟨rfl, Below.refl _ _⟩
  · have hbb : decide (1048576 < n) = false := decide_eq_false hb
    have hn2 : n ≤ 1048576 := by omega
    have HC : Hid (CodeAt w w.heap.size (.slice a n cap) n) := hc
    clear hc
    go_enter Try.func4, Try.ntmps4
    go_wp2_with fail
    refine (big_any a n cap _ hn).mono ?_
    rintro e w' ⟨rfl, hw⟩
    have hw2 := hw.symm
    subst hw2
    go_wp2_with fail
    refine (drawCut_any HD _ n _ hn2 HC.out).mono ?_
    rintro e w1 ⟨vd, va, vl, L, acts, wh, left, rfl, hod, hsd, hoa, hsa, hal, hol, hb1⟩
    have hol := hol.toR
    obtain ⟨da, dc, rfl⟩ := slice_n hod
    obtain ⟨ca, cc, rfl⟩ := slice_n hoa
    obtain ⟨la, lc, rfl⟩ := slice_n hol
    have HSD : Hid (SmD L) := hsd
    have HSA : Hid (∀ a ∈ acts, SmA a) := hsa
    have HSZ : Hid (SizedA acts) := fun a ha => by have := hsa a ha; unfold SmA at this; omega
    have HZ1 : Hid ((acts.take (endsOf L acts).1).foldlM actL L = some (endsOf L acts).2) := (endsOf_ends acts L).1
    have hzl : (endsOf L acts).1 ≤ acts.length := endsOf_le L acts
    have HNL : Hid ((endsOf L acts).2.length ≤ 1048576) := endsOf_len L acts (by have := hsd.1; omega)
    have CD : Hid (∀ (w : World) (v vi : Value), Reads w v L → Reads w vi acts → Calls Try.prog 22 #[.agg #[v], vi] w fun e w' => ∃ v', e = .returned (.tuple #[.agg #[v'], .int .i64 (((endsOf L acts).1 : Nat) : Int)]) ∧ ownsR w' w.heap.size 36 v' (endsOf L acts).2 ∧ Below w.heap.size w w') := fun w v vi h1 h2 => doActs_is L acts w v vi h1 h2 (by have := hsd.1; omega) (by omega) hsd.2 HSZ.out
    have CS : Hid (∀ (w : World) (v vi : Value), Reads w v L → Reads w vi acts → Calls Try.prog 23 #[.agg #[v], vi] w fun e w' => ∃ v', e = .returned (.tuple #[.agg #[v'], .int .i64 (((endsOf L acts).1 : Nat) : Int)]) ∧ ownsR w' w.heap.size 36 v' (endsOf L acts).2 ∧ Below w.heap.size w w') := fun w v vi h1 h2 => specActs_is L acts w v vi h1 h2 (by have := hsd.1; omega) (by omega) HSZ.out
    clear hsd hsa
    generalize (endsOf L acts).2 = N at *
    generalize (endsOf L acts).1 = z at *
    go_wp2_with fail
    obtain ⟨W1, hW1⟩ : ∃ W, w1.alloc (.cells #[.slice da L.length dc] 26) = W := ⟨_, rfl⟩
    have B1 : Below w.heap.size w W1 := by rw [← hW1]; exact ba hb1 _
    have c3 : W1.cell? ⟨w1.heap.size, 0, none⟩ = some (.slice da L.length dc) := by rw [← hW1]; simp [go_sem]
    have OD : Hid (ownsR W1 w.heap.size 36 (.slice da L.length dc) L) := by rw [← hW1]; exact hod.alloc _
    have OA : Hid (ownsR W1 w.heap.size 45 (.slice ca acts.length cc) acts) := by rw [← hW1]; exact hoa.alloc _
    have OL : Hid (ownsR W1 w.heap.size 3 (.slice la left.length lc) left) := by rw [← hW1]; exact hol.alloc _
    rw [hW1]
    clear hW1 hb1 hod hoa hol
    generalize w1.heap.size = D3 at *
    refine (CD.out _ _ _ OD.out.reads OA.out.reads).mono ?_
    rintro e w2 ⟨v2, rfl, ho2, hb2⟩
    obtain ⟨ea, ec, rfl⟩ := slice_n ho2
    have B2 := Below.on B1 hb2
    have c3b := cell_up hb2 c3
    have OD2 : Hid (ownsR w2 w.heap.size 36 (.slice da L.length dc) L) := OD.out.all hb2
    have OA2 : Hid (ownsR w2 w.heap.size 45 (.slice ca acts.length cc) acts) := OA.out.all hb2
    have OL2 : Hid (ownsR w2 w.heap.size 3 (.slice la left.length lc) left) := OL.out.all hb2
    have ON2 : Hid (ownsR w2 w.heap.size 36 (.slice ea N.length ec) N) := ho2.mono B1.size
    clear hb2 ho2 OD OA OL B1 c3
    have s3 : D3 < w2.heap.size := World.block_lt_of_cell? _ _ c3b
    go_wp2_with fail
    clear s3
    obtain ⟨W2, hW2⟩ : ∃ W, w2.alloc (.cells #[.slice ea N.length ec] 26) = W := ⟨_, rfl⟩
    have BA : Below w2.heap.size w2 W2 := by rw [← hW2]; exact ba (Below.refl _ _) _
    have c7 : W2.cell? ⟨w2.heap.size, 0, none⟩ = some (.slice ea N.length ec) := by rw [← hW2]; simp [go_sem]
    rw [hW2]
    clear hW2
    have c3 := cell_up BA c3b
    have OD : Hid (ownsR W2 w.heap.size 36 (.slice da L.length dc) L) := OD2.out.all BA
    have OA : Hid (ownsR W2 w.heap.size 45 (.slice ca acts.length cc) acts) := OA2.out.all BA
    have OL : Hid (ownsR W2 w.heap.size 3 (.slice la left.length lc) left) := OL2.out.all BA
    have ON : Hid (ownsR W2 w.heap.size 36 (.slice ea N.length ec) N) := ON2.out.all BA
    have B1 := Below.on B2 BA
    clear BA OD2 OA2 OL2 ON2 B2 c3b
    generalize w2.heap.size = D7 at *
    refine (CS.out _ _ _ OD.out.reads OA.out.reads).mono ?_
    rintro e w3 ⟨v3, rfl, ho3, hb3⟩
    obtain ⟨fa, fc, rfl⟩ := slice_n ho3
    have B2 := Below.on B1 hb3
    have c3b := cell_up hb3 c3
    have c7b := cell_up hb3 c7
    have OD2 : Hid (ownsR w3 w.heap.size 36 (.slice da L.length dc) L) := OD.out.all hb3
    have OA2 : Hid (ownsR w3 w.heap.size 45 (.slice ca acts.length cc) acts) := OA.out.all hb3
    have OL2 : Hid (ownsR w3 w.heap.size 3 (.slice la left.length lc) left) := OL.out.all hb3
    have ON2 : Hid (ownsR w3 w.heap.size 36 (.slice ea N.length ec) N) := ON.out.all hb3
    have OS2 : Hid (Reads w3 (.slice fa N.length fc) N) := ho3.reads
    clear hb3 ho3 OD OA OL ON B1 c3 c7
    have s3 : D3 < w3.heap.size := World.block_lt_of_cell? _ _ c3b
    have s7 : D7 < w3.heap.size := World.block_lt_of_cell? _ _ c7b
    go_wp2_with fail
    clear s3 s7
    obtain ⟨W3, hW3⟩ : ∃ W, w3.alloc (.cells #[.slice fa N.length fc] 26) = W := ⟨_, rfl⟩
    have BA : Below w3.heap.size w3 W3 := by rw [← hW3]; exact ba (Below.refl _ _) _
    rw [hW3]
    clear hW3
    refine (same_any _ _ N _ (ON2.out.reads.below BA) (OS2.out.below BA) (by have := HNL.out; omega)).mono ?_
    rintro e w4 ⟨rfl, hb4⟩
    have BB := Below.on BA hb4
    have c3 := cell_up BB c3b
    have c7 := cell_up BB c7b
    have OD : Hid (ownsR w4 w.heap.size 36 (.slice da L.length dc) L) := OD2.out.all BB
    have OA : Hid (ownsR w4 w.heap.size 45 (.slice ca acts.length cc) acts) := OA2.out.all BB
    have OL : Hid (ownsR w4 w.heap.size 3 (.slice la left.length lc) left) := OL2.out.all BB
    have ON : Hid (ownsR w4 w.heap.size 36 (.slice ea N.length ec) N) := ON2.out.all BB
    have B1 := Below.on B2 BB
    clear BA BB hb4 OD2 OA2 OL2 ON2 OS2 B2 c3b c7b
    have s3 : D3 < w4.heap.size := World.block_lt_of_cell? _ _ c3
    have s7 : D7 < w4.heap.size := World.block_lt_of_cell? _ _ c7
    go_wp2_with fail
    have X0 : Lx w (w4.alloc (.cells #[.slice da L.length dc] 26)) D3 D7 w4.heap.size (.slice da L.length dc) (.slice ca acts.length cc) (.slice la left.length lc) (.slice ea N.length ec) (.slice da L.length dc) L acts left N L :=
      ⟨cell_up (ba (Below.refl _ _) _) c3, cell_up (ba (Below.refl _ _) _) c7, by simp [go_sem], by simp [go_sem], OD.out.alloc _, OA.out.alloc _, OL.out.alloc _, ON.out.alloc _, OD.out.alloc _, apart_lt OD.out (Nat.le_refl _), apart_lt OA.out (Nat.le_refl _), apart_lt OL.out (Nat.le_refl _), apart_lt ON.out (Nat.le_refl _), apart_lt OD.out (Nat.le_refl _), by omega, by omega, B1.size, ba B1 _⟩
    generalize w4.alloc (.cells #[.slice da L.length dc] 26) = W4 at *
    generalize w4.heap.size = D11 at *
    clear OD OA OL ON B1 c3 c7 s3 s7
    go_loopw [12] (fun i wr => ∃ (k : Nat) (oi : List Fl) (oa : Option Addr) (oc : Nat), k ≤ z ∧ i = .int .i64 k ∧ Hid ((acts.take k).foldlM actL L = some oi) ∧ Hid (SmD oi) ∧ Hid (Lx w wr D3 D7 D11 (.slice da L.length dc) (.slice ca acts.length cc) (.slice la left.length lc) (.slice ea N.length ec) (.slice oa oi.length oc) L acts left N oi)) (fun i _ => z - (intOf i).toNat)
    case atStart => exact ⟨0, L, da, dc, Nat.zero_le _, rfl, rfl, HSD, X0⟩
    case round =>
      obtain ⟨k, oi, oa, oc, hk, rfl, HFO, HSO, HX⟩ := hrel
      clear X0
      by_cases hlt : k < z
      · obtain ⟨⟨kind, nm, tx, to⟩, ha⟩ : ∃ a, acts[k]? = some a := ⟨_, List.getElem?_eq_getElem (by omega)⟩
        have HSM : Hid (SmA ⟨kind, nm, tx, to⟩) := HSA.out _ (List.mem_of_getElem? ha)
        obtain ⟨o', ho', hf'⟩ := fold_step HZ1.out hlt ha HFO.out
        have HAC : Hid (actL oi ⟨kind, nm, tx, to⟩ = some o') := ho'
        have HFN : Hid ((acts.take (k + 1)).foldlM actL L = some o') := hf'
        have HSN : Hid (SmD o') := SmD.of (actL_diskR ho')
        obtain ⟨b, o, rfl, hbb2, c0, c1, c2, c3⟩ := ac_at HX.out.ra.reads ha
        dsimp only at c0 c1 c2 c3
        have CA : Hid (∀ (w : World) (v : Value), Reads w v oi → Calls Try.prog 24 #[.agg #[v], .agg #[.int .i64 kind, .string nm, .string tx, .string to]] w fun e w' => ∃ v', e = .returned (.tuple #[.agg #[v'], .bool true]) ∧ ownsR w' w.heap.size 36 v' o' ∧ Below w.heap.size w w') := fun w v hr => doAct_yes hr HSO.out HSM.out HAC.out
        clear ha ho' hf'
        have c11 := HX.out.c11
        have hkl : k < acts.length := by omega
        have hki : (k : Int) < (acts.length : Int) := by omega
        go_wp2
        have e0 := Below.cellOf (B := wr.heap.size) hbb2 c0
        have e1 := Below.cellOf (B := wr.heap.size) hbb2 c1
        have e2 := Below.cellOf (B := wr.heap.size) hbb2 c2
        have e3 := Below.cellOf (B := wr.heap.size) hbb2 c3
        have e4 := Below.cellOf (B := wr.heap.size) HX.out.lt c11
        refine wp_puts (α := Nat × Option Addr × Nat) (fun x => [(60, .agg #[.slice oa oi.length oc]), (61, .slice (some ⟨b, o, none⟩) acts.length cc), (62, .int .i64 (k : Int)), (63, .pointer (some ⟨b, o + k * 4, none⟩)), (64, .agg #[.int .i64 kind, .string nm, .string tx, .string to]), (65, .tuple #[.agg #[.slice x.2.1 o'.length x.2.2], .bool true]), (59, .tuple #[.agg #[.slice x.2.1 o'.length x.2.2], .bool true]), (66, .agg #[.slice x.2.1 o'.length x.2.2]), (67, .bool true), (13, .pointer (some ⟨x.1, 0, none⟩)), (14, .bool true)]) (fun x w' => NewRow wr w' 36 x.1 (.slice x.2.1 o'.length x.2.2) o') ?_ ?_
        · go_region_held3 (fun w' => Below wr.heap.size wr w') ((first | exact (Below.refl _ _).drew | exact (keep_on hb3 (by assumption) (Nat.le_refl _)) | exact (Below.alloc (by assumption) (Below.size (by assumption)) _) | exact (Below.alloc hS3 hS3.size _) | exact (Below.setCell hS3 (Nat.le_refl _) _))) ((go_at_call 24; refine (CA.out _ _ (HX.out.ro.reads.below (by assumption))).mono ?_; rintro e w3' ⟨v3', rfl, ho3, hb3⟩; have hS3 := keep_on (B := wr.heap.size) (W := wr) hb3 (by assumption) (Nat.le_refl _); obtain ⟨a3', d3', rfl⟩ := slice_n ho3; first | (have hcx : w3'.cell? ⟨wr.heap.size, 0, none⟩ = some (.slice none 0 0) := cell_new (w := wr.drew) hb3; have hfx : w3'.frozen? ⟨wr.heap.size, 0, none⟩ = false := frozen_new (w := wr.drew) hb3) | skip))
          all_goals first | refine ⟨rfl, ⟨_, a3', d3'⟩, ?_, newRow_b (W := wr.drew) (Below.refl _ _).drew ho3 hb3⟩ | refine ⟨rfl, ⟨_, a3', d3'⟩, ?_, newRow_m (W := wr.drew) (Below.refl _ _).drew ho3 hb3⟩
          all_goals kernel_rfl
        clear e0 e1 e2 e3 e4
        rintro ⟨X2, a2, d2⟩ w2 hN
        simp only [putAll]
        dsimp only at hN
        have HX2 : Hid (Lx w w2 D3 D7 D11 (.slice da L.length dc) (.slice (some ⟨b, o, none⟩) acts.length cc) (.slice la left.length lc) (.slice ea N.length ec) (.slice oa oi.length oc) L acts left N oi) := HX.out.up hN.below
        have cX := hN.cellAt
        have HOX : Hid (ownsR w2 w.heap.size 36 (.slice a2 o'.length d2) o') := hN.own.mono HX.out.bel.size
        have HAX : Hid ((Value.slice a2 o'.length d2).ownBlock ≠ some D11) := fun e => by have := (hN.own.lt _ e).1; have := HX.out.lt; omega
        have hXD : X2 ≠ D11 := by have := hN.old; have := HX.out.lt; omega
        have d0 := cell_up hN.below c0
        have d1 := cell_up hN.below c1
        have d2' := cell_up hN.below c2
        have c11b := HX2.out.c11
        clear c0 c1 c2 c3 c11 hN HX hbb2 CA
        rcases hfx : fileR oi nm with ⟨x, bx⟩
        rcases hfy : fileR o' nm with ⟨y, by'⟩
        have HFX : Hid (fileR oi nm = (x, bx)) := hfx
        have HFY : Hid (fileR o' nm = (y, by')) := hfy
        have hxs : x.size ≤ 1048576 := by have := fileR_size HSO.out nm; rw [hfx] at this; exact this
        clear hfx hfy
        have q0 := Wd.cell c11b
        have q1 := Wd.cell d1
        go_wp2
        refine wp_region_wd (by kernel_rfl) (by kernel_rfl) ?_
        repeat (go_big_quiet_step ((go_at_call 25; refine calls_wd (v := .tuple #[.string x, .bool bx]) ?_; exact fileAt_yes (HX2.out.ro.reads.below (Wd.ok _)) HSO.out HFX.out)))
        refine wpQuiet_nil ?_
        rintro _ ⟨v5, rfl⟩
        have HX3 : Hid (Lx w v5.at' D3 D7 D11 (.slice da L.length dc) (.slice (some ⟨b, o, none⟩) acts.length cc) (.slice la left.length lc) (.slice ea N.length ec) (.slice oa oi.length oc) L acts left N oi) := HX2.out.up v5.ok
        have cX3 := cell_up v5.ok cX
        have HOX3 : Hid (ownsR v5.at' w.heap.size 36 (.slice a2 o'.length d2) o') := HOX.out.all v5.ok
        have d03 := cell_up v5.ok d0
        have d13 := cell_up v5.ok d1
        have d23 := cell_up v5.ok d2'
        clear q0 q1 HX2 cX HOX d0 d1 d2' c11b
        generalize v5.at' = w5 at *
        have q0 := Wd.cell cX3
        have q1 := Wd.cell d13
        go_wp2
        refine wp_region_wd (by kernel_rfl) (by kernel_rfl) ?_
        repeat (go_big_quiet_step ((go_at_call 25; refine calls_wd (v := .tuple #[.string y, .bool by']) ?_; exact fileAt_yes (HOX3.out.reads.below (Wd.ok _)) HSN.out HFY.out)))
        refine wpQuiet_nil ?_
        rintro _ ⟨v6, rfl⟩
        have HX4 : Hid (Lx w v6.at' D3 D7 D11 (.slice da L.length dc) (.slice (some ⟨b, o, none⟩) acts.length cc) (.slice la left.length lc) (.slice ea N.length ec) (.slice oa oi.length oc) L acts left N oi) := HX3.out.up v6.ok
        have cX4 := cell_up v6.ok cX3
        have HOX4 : Hid (ownsR v6.at' w.heap.size 36 (.slice a2 o'.length d2) o') := HOX3.out.all v6.ok
        have d04 := cell_up v6.ok d03
        have d24 := cell_up v6.ok d23
        clear q0 q1 HX3 cX3 HOX3 d03 d13 d23
        generalize v6.at' = w6 at *
        have f11 := HX4.out.f11
        have c11 := HX4.out.c11
        have htx : tx.size ≤ 6 := HSM.out.2.1
        have hadd : ∀ wx, (Op.stringOp .add x tx).run Try.prog wx = .ok (.string (x ++ tx)) wx := fun wx => run_string_add_sum wx _ _ (by omega)
        have sX : X2 < w6.heap.size := World.block_lt_of_cell? _ _ cX4
        by_cases hk1 : kind = 1
        · subst hk1
          have hy := HFY.out.symm.trans (act_add HAC.out rfl)
          rw [HFX.out] at hy
          simp only [Prod.mk.injEq] at hy
          obtain ⟨rfl, rfl⟩ := hy
          go_wp2
          go_roundw
          case rel => exact ⟨k + 1, o', a2, d2, by omega, by go_num, HFN, HSN, HX4.out.put HOX4.out HAX.out⟩
          case measure => simp [intOf]; omega
        · by_cases hk4 : kind = 4
          · subst hk4
            have hy := act_drop HAC.out rfl
            rw [show (fileR o' nm).2 = by' by rw [HFY.out]] at hy
            subst hy
            go_wp2
            go_roundw
            case rel => exact ⟨k + 1, o', a2, d2, by omega, by go_num, HFN, HSN, HX4.out.put HOX4.out HAX.out⟩
            case measure => simp [intOf]; omega
          · go_wp2
            go_roundw
            case rel => exact ⟨k + 1, o', a2, d2, by omega, by go_num, HFN, HSN, HX4.out.put HOX4.out HAX.out⟩
            case measure => simp [intOf]; omega
      · have hkz : k = z := by omega
        have hoN : oi = N := by
          have h1 := HFO.out
          rw [hkz, HZ1.out] at h1
          exact (Option.some.inj h1).symm
        subst hoN
        subst hkz
        have CC : Hid (∀ (w : World) (B : Nat) (v vi vl : Value), Reads w v L → ownsR w B 45 vi acts → Reads w vl left → Calls Try.prog 26 #[.agg #[v], vi, .int .i64 wh, vl] w fun e w' => ∃ v', e = .returned (.tuple #[.agg #[v'], .bool (cutB L acts wh)]) ∧ ownsR w' w.heap.size 36 v' (cutA L acts wh left) ∧ Below w.heap.size w w') := fun w B v vi vl h1 h2 h3 => cutActs_is L acts wh left w B v vi vl h1 h2 h3 (by have := HSD.out.1; omega) (by omega) HSD.out.2 HSZ.out
        have CT : Hid (∀ (w : World) (B : Nat) (v vi vl : Value), Reads w v L → ownsR w B 45 vi acts → Reads w vl left → Calls Try.prog 27 #[.agg #[v], vi, .int .i64 wh, vl] w fun e w' => ∃ v', e = .returned (.tuple #[.agg #[v'], .bool (cutB L acts wh)]) ∧ ownsR w' w.heap.size 36 v' (cutA L acts wh left) ∧ Below w.heap.size w w') := fun w B v vi vl h1 h2 h3 => specCut_is L acts wh left w B v vi vl h1 h2 h3 (by have := HSD.out.1; omega) (by omega) HSD.out.2 HSZ.out
        have HCL : Hid ((cutA L acts wh left).length ≤ 1048576) := cutA_len L acts wh left (by have := HSD.out.1; omega)
        generalize cutA L acts wh left = T at *
        generalize cutB L acts wh = tb at *
        have c3 := HX.out.c3
        go_wp2_with fail
        refine (CC.out _ _ _ _ _ HX.out.rd.reads HX.out.ra HX.out.rl.reads).mono ?_
        rintro e w7 ⟨v7, rfl, ho7, hb7⟩
        obtain ⟨ga, gc, rfl⟩ := slice_n ho7
        have HX7 : Hid _ := HX.out.up hb7
        have OT7 : Hid (Reads w7 (.slice ga T.length gc) T) := ho7.reads
        clear ho7 hb7 HX c3
        have c3 := HX7.out.c3
        have s3 : D3 < w7.heap.size := World.block_lt_of_cell? _ _ c3
        go_wp2_with fail
        clear s3
        obtain ⟨W7, hW7⟩ : ∃ W, w7.alloc (.cells #[.slice ga T.length gc] 26) = W := ⟨_, rfl⟩
        have BA : Below w7.heap.size w7 W7 := by rw [← hW7]; exact ba (Below.refl _ _) _
        have c19 : W7.cell? ⟨w7.heap.size, 0, none⟩ = some (.slice ga T.length gc) := by rw [← hW7]; simp [go_sem]
        rw [hW7]
        clear hW7 c3
        have HX8 : Hid _ := HX7.out.up BA
        have OT8 : Hid (Reads W7 (.slice ga T.length gc) T) := OT7.out.below BA
        clear BA HX7 OT7
        generalize w7.heap.size = D19 at *
        refine (CT.out _ _ _ _ _ HX8.out.rd.reads HX8.out.ra HX8.out.rl.reads).mono ?_
        rintro e w9 ⟨v9, rfl, ho9, hb9⟩
        obtain ⟨ja, jc, rfl⟩ := slice_n ho9
        have HX9 : Hid _ := HX8.out.up hb9
        have OT9 : Hid (Reads w9 (.slice ga T.length gc) T) := OT8.out.below hb9
        have OU9 : Hid (Reads w9 (.slice ja T.length jc) T) := ho9.reads
        have c19b := cell_up hb9 c19
        clear ho9 hb9 HX8 OT8 c19
        have c11 := HX9.out.c11
        have c7 := HX9.out.c7
        have s19 : D19 < w9.heap.size := World.block_lt_of_cell? _ _ c19b
        have s11 : D11 < w9.heap.size := World.block_lt_of_cell? _ _ c11
        have s7 : D7 < w9.heap.size := World.block_lt_of_cell? _ _ c7
        by_cases hk0 : (k : Int) = 0
        · go_wp2_with fail
          refine (same_any _ _ T _ (OT9.out.alloc _) (OU9.out.alloc _) (by have := HCL.out; omega)).mono ?_
          rintro e w10 ⟨rfl, hb10⟩
          go_wp2
          go_ret
          exact ⟨rfl, Below.on (ba HX9.out.bel _) hb10⟩
        · go_wp2_with fail
          refine (same_any _ _ T _ (OT9.out.alloc _) (OU9.out.alloc _) (by have := HCL.out; omega)).mono ?_
          rintro e w10 ⟨rfl, hb10⟩
          have BB := below_new hb10
          have HXA : Hid _ := HX9.out.up BB
          have c11b := HXA.out.c11
          have c7b := HXA.out.c7
          clear hb10 BB
          go_wp2_with fail
          refine (same_any _ _ oi _ HXA.out.ro.reads HXA.out.r2.reads (by have := HNL.out; omega)).mono ?_
          rintro e w11 ⟨rfl, hb11⟩
          go_wp2
          go_ret
          exact ⟨rfl, Below.on HXA.out.bel hb11⟩
end Go.Proofs.Ytekflgecfcjjiaa
