/-
  A field of a rule, as the specification reads it: what it comes to, and the walk.
-/
import Derived.Test.YtehkebdncfljmaaPi
import Derived.Test.YtehkebdncfljmaaRb
namespace Go.Proofs.Ytehkebdncfljmaa
open Go Go.RowKit

def stamp (H : List Bool) (a t : Nat) : Nat → List Bool
  | 0 => H
  | j + 1 => (stamp H a t j).set (a + j * t) true
theorem stamp_length (H : List Bool) (a t : Nat) : ∀ j, (stamp H a t j).length = H.length
  | 0 => rfl
  | j + 1 => by rw [stamp, List.length_set, stamp_length H a t j]
def stampP (H : List Bool) (q : Int × Int × Int × Bool) : List Bool := stamp H q.1.toNat q.2.2.1.toNat ((q.2.1 - q.1).toNat / q.2.2.1.toNat + 1)
def fieldGo (lo hi : Int) : List ByteArray → List Bool → Option (List Bool)
  | [], H => some H
  | p :: r, H => if (piece p lo hi).2.2.2 then fieldGo lo hi r (stampP H (piece p lo hi)) else none
def picks (H : List Bool) (lo : Int) : Nat → List Int
  | 0 => []
  | k + 1 => picks H lo k ++ (if H.getD (lo + k).toNat false then [lo + (k : Int)] else [])
theorem picks_length (H : List Bool) (lo : Int) : ∀ k, (picks H lo k).length ≤ k
  | 0 => Nat.le_refl _
  | k + 1 => by
    have := picks_length H lo k
    unfold picks
    split <;> simp <;> omega
/-- A field: what fits, and whether it is one. -/
def fieldO (s : ByteArray) (lo hi : Int) : Option (List Bool) := fieldGo lo hi (splitB s 44) (List.replicate (hi + 1).toNat false)
def picksO (lo hi : Int) : Option (List Bool) → List Int
  | none => []
  | some H => picks H lo (hi - lo + 1).toNat
def fieldL (s : ByteArray) (lo hi : Int) : List Int := picksO lo hi (fieldO s lo hi)
theorem fieldGo_at {lo hi : Int} {l : List ByteArray} {k : Nat} {t : ByteArray} {H : List Bool} (h : l[k]? = some t) : fieldGo lo hi (l.drop k) H = if (piece t lo hi).2.2.2 then fieldGo lo hi (l.drop (k + 1)) (stampP H (piece t lo hi)) else none := by
  obtain ⟨hk, rfl⟩ := List.getElem?_eq_some_iff.1 h
  rw [List.drop_eq_getElem_cons hk]
  rfl
theorem fieldGo_end {lo hi : Int} {l : List ByteArray} {k : Nat} {H : List Bool} (h : k = l.length) : fieldGo lo hi (l.drop k) H = some H := by
  subst h; rw [List.drop_length]; rfl
theorem piece_bd {s : ByteArray} {lo hi : Int} (hl : lo ≤ hi) (h : (piece s lo hi).2.2.2 = true) : lo ≤ (piece s lo hi).1 ∧ (piece s lo hi).1 ≤ (piece s lo hi).2.1 ∧ (piece s lo hi).2.1 ≤ hi ∧ 1 ≤ (piece s lo hi).2.2.1 ∧ (piece s lo hi).2.2.1 ≤ 1000000000 := by
  unfold piece at h ⊢
  split
  · exact ⟨Int.le_refl _, hl, Int.le_refl _, Int.le_refl _, (by decide : (1 : Int) ≤ 1000000000)⟩
  · split
    · rename_i h1 h2
      rw [if_neg h1, if_pos h2] at h
      simp only [Bool.and_eq_true, decide_eq_true_eq] at h
      exact ⟨Int.le_refl _, hl, Int.le_refl _, h.2, (rd_bd _).2⟩
    · rename_i h1 h2
      rw [if_neg h1, if_neg h2] at h
      unfold pieceP at h ⊢
      simp only [Bool.and_eq_true, decide_eq_true_eq] at h
      exact ⟨h.1.1.2, h.1.2, h.2, Int.le_refl _, (by decide : (1 : Int) ≤ 1000000000)⟩
theorem steps_at {a b t x : Int} {j : Nat} (ht : 1 ≤ t) (hab : a ≤ b) (hx : x = a + j * t) (hj : j = 0 ∨ x - t ≤ b) (hend : b < x) : (b - a).toNat / t.toNat + 1 = j := by
  rcases hj with rfl | hj
  · simp at hx; omega
  · obtain ⟨i, rfl⟩ : ∃ i, j = i + 1 := ⟨j - 1, by
      cases j with
      | zero => simp at hx; omega
      | succ j => rfl⟩
    obtain ⟨T, hT⟩ : ∃ T : Nat, t = T := ⟨t.toNat, by omega⟩
    obtain ⟨D, hD⟩ : ∃ D : Nat, b - a = D := ⟨(b - a).toNat, by omega⟩
    subst hT
    have e1 : ((i + 1 : Nat) : Int) * (T : Int) = ((i * T + T : Nat) : Int) := by rw [← Int.natCast_mul, Nat.succ_mul]
    rw [e1] at hx
    have h1 : i * T ≤ D := by omega
    have h2 : D < i * T + T := by omega
    rw [hD, Int.toNat_natCast, Int.toNat_natCast]
    have : D / T = i := Nat.div_eq_of_lt_le (by omega) (by rw [Nat.succ_mul]; omega)
    omega
theorem cell_num {w : World} {b : Nat} {n : Int} (h : w.cell? ⟨b, 0, none⟩ = some (.int .i64 n)) : ∀ j u, (Rec.cells n)[j]? = some u → w.cell? ⟨b, j, none⟩ = some u ∧ u.oneCell' = true := by
  intro j u hu
  have hu : [Value.int .i64 n][j]? = some u := hu
  cases j with
  | zero => simp at hu; subst hu; exact ⟨h, rfl⟩
  | succ j => simp at hu
theorem ownsS.setBelow {w : World} {B : Nat} {e : TypeId} {v : Value} {l : List ByteArray} (h : ownsS w B e v l) {a : Addr} (ha : a.block < B) (u : Value) : ownsS (w.setCell a u) B e v l := ownsRow_setCell_below h ha u

set_option maxRecDepth 10000 in
set_option maxHeartbeats 4000000 in
theorem l10Field_any (s : ByteArray) (lo hi : Int) (w : World) (hs : s.size ≤ 1048576) (h0 : 0 ≤ lo) (hlh : lo ≤ hi) (hhi : hi ≤ 59) :
    Calls Try.prog 106 #[.string s, .int .i64 lo, .int .i64 hi] w fun e w' => ∃ v, e = .returned (.tuple #[v, .bool (fieldO s lo hi).isSome]) ∧ ownsR w' w.heap.size 3 v (fieldL s lo hi) ∧ Below w.heap.size w w' := by
  obtain ⟨i0, hi0, hz0, hz1, hz2⟩ := info_parts infoB
  obtain ⟨m, hm⟩ : ∃ m : Nat, hi + 1 = m := ⟨(hi + 1).toNat, by omega⟩
  have hm60 : m ≤ 60 := by omega
  obtain ⟨p, HS⟩ : ∃ p, Hid (splitB s 44 = p) := ⟨_, rfl⟩
  have hp0 : 0 < p.length := by rw [← HS.out]; exact cutsN_some s 44
  have hpl : p.length ≤ 1048577 := by
    rw [← HS.out]; unfold splitB; have := (cutsN_bd s 44 (s.size + 1)).2; omega
  have HPZ : Hid (∀ t ∈ p, t.size ≤ 1048576) := fun t ht => by have := splitB_sz s 44 t (by rw [HS.out]; exact ht); omega
  obtain ⟨F, HF⟩ : ∃ F, Hid (fieldO s lo hi = F) := ⟨_, rfl⟩
  have HL : Hid (fieldL s lo hi = picksO lo hi F) := by show fieldL s lo hi = _; unfold fieldL; rw [HF.out]
  have HG : Hid (fieldGo lo hi p (List.replicate m false) = F) := by
    show _ = F; rw [← HF.out]; unfold fieldO; rw [HS.out, hm, Int.toNat_natCast]
  rw [HF.out, HL.out]
  clear HF HL
  go_enter Try.func106, Try.ntmps106
  go_wp2_with (at_make; refine wpList_make_full _ rfl _ _ 157 rfl w.heap.size 4 i0 _ 1 underB hi0 hz0 hz1 .i64 .i64 _ _ m rfl rfl rfl rfl (by rw [hz2]; omega) (by unfold maxLen; omega) (Nat.le_refl _) ?_; intro w1 ho hg)
  have HO1 : Hid (ownsR w1 w.heap.size 4 (.slice (some ⟨w.heap.size, 0, none⟩) m m) (List.replicate m false)) := by
    show ownsR _ _ _ _ _
    rw [made_bools] at ho
    unfold ownsR
    rw [List.length_replicate]
    exact ho
  have hb1 : Below w.heap.size w w1 := (Below.refl _ w).grown hg (Nat.le_refl _) (fun j hj => by cases hj)
  have hz1' : w.heap.size < w1.heap.size := (HO1.out.lt w.heap.size rfl).2
  clear ho hg
  refine (l10Split_any s 44 _ hs).mono ?_
  rintro e w2 ⟨v2, rfl, ho2, hb2⟩
  rw [HS.out] at ho2
  obtain ⟨gp, cp, rfl, hgp, -⟩ := ownsS_read ho2 hp0
  have HP2 : Hid (ownsS w2 w1.heap.size 9 (.slice (some ⟨gp, 0, none⟩) p.length cp) p) := ho2
  have HO2 : Hid (ownsR w2 w.heap.size 4 (.slice (some ⟨w.heap.size, 0, none⟩) m m) (List.replicate m false)) := HO1.out.all hb2
  have B2 : Below w.heap.size w w2 := Below.on hb1 hb2
  have hz2' : w1.heap.size ≤ w2.heap.size := hb2.size
  clear ho2 hb2 HO1 hb1
  generalize hB : w.heap.size = B at *
  go_wp2
  go_loopw [10] (fun i wr => ∃ (k : Nat) (H : List Bool), k ≤ p.length ∧ i = .int .i64 k ∧ H.length = m ∧ Hid (fieldGo lo hi (p.drop k) H = F) ∧ Hid (ownsR wr B 4 (.slice (some ⟨B, 0, none⟩) m m) H) ∧ Hid (ownsS wr w1.heap.size 9 (.slice (some ⟨gp, 0, none⟩) p.length cp) p) ∧ Below B w wr ∧ w1.heap.size ≤ wr.heap.size) (fun i _ => p.length - (intOf i).toNat)
  case atStart => exact ⟨0, _, Nat.zero_le _, rfl, List.length_replicate .., by simpa using HG, HO2, HP2, B2, hz2'⟩
  case round =>
    obtain ⟨k, H, hk, rfl, hHl, HE, HO, HPr, hbel, hzr⟩ := hrel
    clear HO2 HP2 B2 hz2'
    by_cases hlt : k < p.length
    · obtain ⟨t, ht, c0, -, -, -⟩ := ownsS_cell HPr.out hlt
      have HT : Hid (t.size ≤ 1048576) := HPZ.out t (List.mem_of_getElem? ht)
      obtain ⟨a, b, st, z, HQ⟩ : ∃ a b st z, Hid (piece t lo hi = (a, b, st, z)) := ⟨_, _, _, _, rfl⟩
      have HE2 : Hid (F = if z then fieldGo lo hi (p.drop (k + 1)) (stampP H (a, b, st, z)) else none) := by
        show F = _
        rw [← HE.out, fieldGo_at ht, HQ.out]
      clear ht
      cases z with
      | false =>
        have HFn : Hid (F = none) := HE2.out
        go_wp2_with (go_at_call 111; refine (l10Piece_any _ _ _ _ HT.out).mono ?_; rintro e w3 ⟨rfl, hb3⟩; rw [HQ.out])
        go_ret2
        subst hB
        refine ⟨_, by rw [HFn.out]; rfl, ?_, ba (Below.on hbel hb3) _⟩
        rw [HFn.out]
        exact World.ownsRow_made w3 #[] 0 (Nat.le_trans hbel.size hb3.size) (Nat.zero_le _) (by simp)
      | true =>
        have HFn : Hid (fieldGo lo hi (p.drop (k + 1)) (stampP H (a, b, st, true)) = F) := HE2.out.symm
        have hbd := piece_bd (s := t) (lo := lo) (hi := hi) hlh (by rw [HQ.out])
        rw [HQ.out] at hbd
        obtain ⟨d1, d2, d3, d4, d5⟩ := hbd
        dsimp only at d1 d2 d3 d4 d5
        go_wp2_with (go_at_call 111; refine (l10Piece_any _ _ _ _ HT.out).mono ?_; rintro e w3 ⟨rfl, hb3⟩; rw [HQ.out])
        have HO3 : Hid (ownsR w3 B 4 (.slice (some ⟨B, 0, none⟩) m m) H) := HO.out.all hb3
        have HP3 : Hid (ownsS w3 w1.heap.size 9 (.slice (some ⟨gp, 0, none⟩) p.length cp) p) := HPr.out.all hb3
        have B3 : Below B w w3 := hbel.trans (hb3.mono (by have := hbel.size; omega))
        have hz3 : w1.heap.size ≤ w3.heap.size := Nat.le_trans hzr hb3.size
        clear hb3 HO HPr hbel hzr c0
        go_loopw [15] (fun x' wq => ∃ (x : Int) (j : Nat), x' = .int .i64 x ∧ Hid (x = a + j * st ∧ (j = 0 ∨ x - st ≤ b)) ∧ a ≤ x ∧ x ≤ b + st ∧ Hid (ownsR wq B 4 (.slice (some ⟨B, 0, none⟩) m m) (stamp H a.toNat st.toNat j)) ∧ Hid (ownsS wq w1.heap.size 9 (.slice (some ⟨gp, 0, none⟩) p.length cp) p) ∧ Below B w wq ∧ w1.heap.size ≤ wq.heap.size) (fun x' _ => (b + 1 - intOf x').toNat)
        case atStart => exact ⟨a, 0, rfl, ⟨by simp, .inl rfl⟩, Int.le_refl _, by omega, HO3, HP3, B3, hz3⟩
        case round =>
          obtain ⟨x, j, rfl, HX, hx1, hx2, HO, HPr, hbel, hzr⟩ := hrel
          clear HO3 HP3 B3 hz3
          by_cases hxb : x ≤ b
          · obtain ⟨xn, hxn⟩ : ∃ xn : Nat, x = xn := ⟨x.toNat, by omega⟩
            subst hxn
            have hlen : (stamp H a.toNat st.toNat j).length = m := by rw [stamp_length, hHl]
            obtain ⟨y, hy⟩ : ∃ y, (stamp H a.toNat st.toNat j)[xn]? = some y := ⟨_, List.getElem?_eq_getElem (by rw [hlen]; omega)⟩
            obtain ⟨hgs, c0, f0⟩ := bool_own HO.out hy
            have hxm : xn < m := by omega
            have R := bool_put HO.out true hy
            have e9 : (stamp H a.toNat st.toNat j).set xn true = stamp H a.toNat st.toNat (j + 1) := by
              rw [stamp]
              congr 1
              have h9 := HX.out.1
              obtain ⟨T, hT⟩ : ∃ T : Nat, st = T := ⟨st.toNat, by omega⟩
              rw [hT] at h9 ⊢
              rw [← Int.natCast_mul] at h9
              rw [Int.toNat_natCast]
              omega
            rw [e9] at R
            have HR : Hid (ownsR (wr.setCell ⟨B, xn, none⟩ (.bool true)) B 4 (.slice (some ⟨B, 0, none⟩) m m) (stamp H a.toNat st.toNat (j + 1))) := R
            have HPS : Hid (ownsS (wr.setCell ⟨B, xn, none⟩ (.bool true)) w1.heap.size 9 (.slice (some ⟨gp, 0, none⟩) p.length cp) p) := HPr.out.setBelow (by simpa using hz1') _
            have BS : Below B w (wr.setCell ⟨B, xn, none⟩ (.bool true)) := Below.setCell hbel (Nat.le_refl _) _
            have HX2 : Hid ((xn : Int) + st = a + (j + 1 : Nat) * st ∧ (j + 1 = 0 ∨ (xn : Int) + st - st ≤ b)) := by
              refine ⟨?_, .inr (by omega)⟩
              rw [HX.out.1, Int.natCast_add, Int.add_mul]; simp; omega
            clear R hy e9 hlen HO HPr hbel
            go_wp2
            go_roundw
            case rel => exact ⟨(xn : Int) + st, j + 1, rfl, HX2, by omega, by omega, HR, HPS, BS, by simpa using hzr⟩
            case measure => simp [intOf]; omega
          · have HST : Hid (stampP H (a, b, st, true) = stamp H a.toNat st.toNat j) := by
              show stampP H (a, b, st, true) = _
              unfold stampP
              dsimp only
              rw [steps_at d4 d2 HX.out.1 HX.out.2 (by omega)]
            go_wp2
            go_roundw
            case rel => exact ⟨k + 1, stamp H a.toNat st.toNat j, by omega, by go_num, by rw [stamp_length, hHl], by rw [← HST.out]; exact HFn, HO, HPr, hbel, hzr⟩
            case measure => simp [intOf]; omega
    · have hkn : k = p.length := by omega
      have HFs : Hid (F = some H) := by show F = some H; rw [← HE.out]; exact fieldGo_end hkn
      obtain ⟨n, hn⟩ : ∃ n : Nat, hi - lo + 1 = n := ⟨(hi - lo + 1).toNat, by omega⟩
      have HPK : Hid (picksO lo hi F = picks H lo n) := by show picksO lo hi F = _; rw [HFs.out]; unfold picksO; rw [hn, Int.toNat_natCast]
      go_wp2
      obtain ⟨W3, hW3⟩ : ∃ W3, wr.alloc (.cells #[] 3) = W3 := ⟨_, rfl⟩
      have ho3 : ownsR W3 wr.heap.size 3 (.slice (some ⟨wr.heap.size, 0, none⟩) 0 0) ([] : List Int) := by
        rw [← hW3]; exact World.ownsRow_made wr #[] 0 (Nat.le_refl _) (Nat.zero_le _) (by simp)
      have HO3 : Hid (ownsR W3 B 4 (.slice (some ⟨B, 0, none⟩) m m) H) := by rw [← hW3]; exact HO.out.alloc _
      have B3 : Below B w W3 := by rw [← hW3]; exact Below.alloc hbel (by have := hbel.size; omega) _
      have hs3 : wr.heap.size < W3.heap.size := by rw [← hW3]; simp
      have hBr : B < wr.heap.size := by omega
      rw [hW3]
      clear hW3 HO HPr
      obtain ⟨G, hG⟩ : ∃ G, wr.heap.size = G := ⟨_, rfl⟩
      rw [hG] at ho3 hs3 hBr ⊢
      have hcl : ∀ wq, Below G W3 wq → ownsR wq B 4 (.slice (some ⟨B, 0, none⟩) m m) H := fun wq hq => HO3.out.below hq (fun j hj => by cases hj; exact hBr)
      have HCL : Hid (∀ wq, Below G W3 wq → ownsR wq B 4 (.slice (some ⟨B, 0, none⟩) m m) H) := hcl
      clear hcl HO3
      go_loopw [16, 17] (fun out x wq => ∃ j : Nat, j ≤ n ∧ x = .int .i64 (lo + j) ∧ ownsR wq G 3 out (picks H lo j) ∧ Below G W3 wq ∧ G < wq.heap.size) (fun _ x _ => (hi + 1 - intOf x).toNat)
      case atStart => exact ⟨0, Nat.zero_le _, by simp, ho3, Below.refl _ _, hs3⟩
      case round =>
        obtain ⟨j, hj, rfl, hown, hbq, hGq⟩ := hrel
        have hB3 := B3
        by_cases hjn : j < n
        · obtain ⟨xn, hxn⟩ : ∃ xn : Nat, lo + (j : Int) = xn := ⟨(lo + j).toNat, by omega⟩
          have hxm : xn < m := by omega
          obtain ⟨y, hy⟩ : ∃ y, H[xn]? = some y := ⟨_, List.getElem?_eq_getElem (by omega)⟩
          obtain ⟨hgs, c0, -⟩ := bool_own (HCL.out _ hbq) hy
          have HPN : Hid (picks H lo (j + 1) = picks H lo j ++ (if y then [(xn : Int)] else [])) := by
            show picks H lo (j + 1) = _
            rw [picks, hxn, Int.toNat_natCast, List.getD_eq_getElem?_getD, hy]
            rfl
          have hpl3 := picks_length H lo j
          have hxb : lo + (j : Int) ≤ hi := by omega
          clear hy
          cases y with
          | false =>
            have HP9 : Hid (picks H lo (j + 1) = picks H lo j) := by show _ = _; rw [HPN.out]; simp
            go_wp2
            go_roundw
            case rel => exact ⟨j + 1, by omega, by go_num, by rw [HP9.out]; exact hown, hbq, hGq⟩
            case measure => simp [intOf]; omega
          | true =>
            have HP9 : Hid (picks H lo (j + 1) = picks H lo j ++ [(xn : Int)]) := by show _ = _; rw [HPN.out]; simp
            have hsq := hbq.size
            have hlen4 : (picks H lo j).length ≤ 1048576 := by omega
            go_wp2_with (at_builtin; refine wpList_append_rec _ W3 rfl (.tmp 65) (.tmp 67) 32 rfl G 3 _ 8 underI info3 rfl _ (picks H lo j) rfl (hown.alloc _) (hbq.alloc (by omega) _) wr.heap.size 1 (xn : Int) rfl (cell_num (by simp [go_sem])) hlen4 (by decide) (by simp; omega) ?_; intro v' w4 hown4 hbel4 hs4)
            rw [← HP9.out] at hown4
            simp only [World.size_alloc] at hs4
            clear hown hbq
            go_wp2
            go_roundw
            case rel => exact ⟨j + 1, by omega, by omega, hown4, by omega⟩
            case measure => simp [intOf]; omega
        · have hjn2 : j = n := by omega
          have how := hown
          rw [hjn2] at how
          have hxb : ¬ lo + (j : Int) ≤ hi := by omega
          clear hown hjn hjn2
          have hsq := hbq.size
          go_wp2
          go_ret2
          subst hB
          refine ⟨_, by rw [HFs.out]; rfl, ?_, B3.trans (hbq.mono (by omega))⟩
          rw [HPK.out]
          exact how.mono (by omega)
end Go.Proofs.Ytehkebdncfljmaa
