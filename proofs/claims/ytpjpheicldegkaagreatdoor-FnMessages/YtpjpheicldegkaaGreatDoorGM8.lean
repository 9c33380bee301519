/- Fd,Ord -/
import Derived.Test.YtpjpheicldegkaaGreatDoorPi
import Derived.Test.YtpjpheicldegkaaGreatDoorGM5
import Derived.Test.YtpjpheicldegkaaGreatDoorGM6
namespace Go.Proofs.YtpjpheicldegkaaGreatDoor
open Go Go.RowKit

def stamp (H : List Bool) (a t : Nat) : Nat → List Bool
  | 0 => H
  | j + 1 => (stamp H a t j).set (a + j * t) true
theorem stamp_length (H : List Bool) (a t : Nat) : ∀ j, (stamp H a t j).length = H.length
  | 0 => rfl
  | j + 1 => by rw [stamp, List.length_set, stamp_length H a t j]
def stampP (H : List Bool) (q : Int × Int × Int × Bool) : List Bool := stamp H q.1.toNat q.2.2.1.toNat ((q.2.1 - q.1).toNat / q.2.2.1.toNat + 1)
def fieldGo (lo hi : Int) : List ByteArray → List Bool → Option (List Bool)
  | [], H => some H
  | p :: r, H => if (piece p lo hi).2.2.2 then fieldGo lo hi r (stampP H (piece p lo hi)) else none
def picks (H : List Bool) (lo : Int) : Nat → List Int
  | 0 => []
  | k + 1 => picks H lo k ++ (if H.getD (lo + k).toNat false then [lo + (k : Int)] else [])
theorem picks_length (H : List Bool) (lo : Int) : ∀ k, (picks H lo k).length ≤ k
  | 0 => Nat.le_refl _
  | k + 1 => by
    have := picks_length H lo k
    unfold picks
    split <;> simp <;> omega
def fieldO (s : ByteArray) (lo hi : Int) : Option (List Bool) := fieldGo lo hi (splitB s 44) (List.replicate (hi + 1).toNat false)
def picksO (lo hi : Int) : Option (List Bool) → List Int
  | none => []
  | some H => picks H lo (hi - lo + 1).toNat
def qce (s : ByteArray) (lo hi : Int) : List Int := picksO lo hi (fieldO s lo hi)
theorem fieldGo_at {lo hi : Int} {l : List ByteArray} {k : Nat} {t : ByteArray} {H : List Bool} (h : l[k]? = some t) : fieldGo lo hi (l.drop k) H = if (piece t lo hi).2.2.2 then fieldGo lo hi (l.drop (k + 1)) (stampP H (piece t lo hi)) else none := by
  obtain ⟨hk, rfl⟩ := List.getElem?_eq_some_iff.1 h
  rw [List.drop_eq_getElem_cons hk]
  rfl
theorem fieldGo_end {lo hi : Int} {l : List ByteArray} {k : Nat} {H : List Bool} (h : k = l.length) : fieldGo lo hi (l.drop k) H = some H := by
  subst h; rw [List.drop_length]; rfl
theorem piece_bd {s : ByteArray} {lo hi : Int} (hl : lo ≤ hi) (h : (piece s lo hi).2.2.2 = true) : lo ≤ (piece s lo hi).1 ∧ (piece s lo hi).1 ≤ (piece s lo hi).2.1 ∧ (piece s lo hi).2.1 ≤ hi ∧ 1 ≤ (piece s lo hi).2.2.1 ∧ (piece s lo hi).2.2.1 ≤ 1000000000 := by
  unfold piece at h ⊢
  split
  · exact ⟨Int.le_refl _, hl, Int.le_refl _, Int.le_refl _, (by decide : (1 : Int) ≤ 1000000000)⟩
  · split
    · rename_i h1 h2
      rw [if_neg h1, if_pos h2] at h
      simp only [Bool.and_eq_true, decide_eq_true_eq] at h
      exact ⟨Int.le_refl _, hl, Int.le_refl _, h.2, (rd_bd _).2⟩
    · rename_i h1 h2
      rw [if_neg h1, if_neg h2] at h
      unfold pieceP at h ⊢
      simp only [Bool.and_eq_true, decide_eq_true_eq] at h
      exact ⟨h.1.1.2, h.1.2, h.2, Int.le_refl _, (by decide : (1 : Int) ≤ 1000000000)⟩
theorem steps_at {a b t x : Int} {j : Nat} (ht : 1 ≤ t) (hab : a ≤ b) (hx : x = a + j * t) (hj : j = 0 ∨ x - t ≤ b) (hend : b < x) : (b - a).toNat / t.toNat + 1 = j := by
  rcases hj with rfl | hj
  · simp at hx; omega
  · obtain ⟨i, rfl⟩ : ∃ i, j = i + 1 := ⟨j - 1, by
      cases j with
      | zero => simp at hx; omega
      | succ j => rfl⟩
    obtain ⟨T, hT⟩ : ∃ T : Nat, t = T := ⟨t.toNat, by omega⟩
    obtain ⟨D, hD⟩ : ∃ D : Nat, b - a = D := ⟨(b - a).toNat, by omega⟩
    subst hT
    have e1 : ((i + 1 : Nat) : Int) * (T : Int) = ((i * T + T : Nat) : Int) := by rw [← Int.natCast_mul, Nat.succ_mul]
    rw [e1] at hx
    have h1 : i * T ≤ D := by omega
    have h2 : D < i * T + T := by omega
    rw [hD, Int.toNat_natCast, Int.toNat_natCast]
    have : D / T = i := Nat.div_eq_of_lt_le (by omega) (by rw [Nat.succ_mul]; omega)
    omega
theorem cell_num {w : World} {b : Nat} {n : Int} (h : w.cell? ⟨b, 0, none⟩ = some (.int .i64 n)) : ∀ j u, (Rec.cells n)[j]? = some u → w.cell? ⟨b, j, none⟩ = some u ∧ u.oneCell' = true := by
  intro j u hu
  have hu : [Value.int .i64 n][j]? = some u := hu
  cases j with
  | zero => simp at hu; subst hu; exact ⟨h, rfl⟩
  | succ j => simp at hu
theorem ownsS.qta {w : World} {B : Nat} {e : TypeId} {v : Value} {l : List ByteArray} (h : ownsS w B e v l) {a : Addr} (ha : a.block < B) (u : Value) : ownsS (w.setCell a u) B e v l := ownsRow_setCell_below h ha u

set_option maxRecDepth 10000 in
set_option maxHeartbeats 4000000 in
theorem qyd (s : ByteArray) (lo hi : Int) (w : World) (hs : s.size ≤ 1048576) (h0 : 0 ≤ lo) (hlh : lo ≤ hi) (hhi : hi ≤ 59) :
    Calls Tryz.prog 129 #[.string s, .int .i64 lo, .int .i64 hi] w fun e w' => ∃ v, e = .returned (.tuple #[v, .bool (fieldO s lo hi).isSome]) ∧ ownsR w' w.heap.size 3 v (qce s lo hi) ∧ Below w.heap.size w w' := by
  obtain ⟨i0, hi0, hz0, hz1, hz2⟩ := info_parts infoB
  obtain ⟨m, hm⟩ : ∃ m : Nat, hi + 1 = m := ⟨(hi + 1).toNat, by omega⟩
  have hm60 : m ≤ 60 := by omega
  obtain ⟨p, HS⟩ : ∃ p, Hid (splitB s 44 = p) := ⟨_, rfl⟩
  have hp0 : 0 < p.length := by rw [← HS.out]; exact cutsN_some s 44
  have hpl : p.length ≤ 1048577 := by
    rw [← HS.out]; unfold splitB; have := (cutsN_bd s 44 (s.size + 1)).2; omega
  have HPZ : Hid (∀ t ∈ p, t.size ≤ 1048576) := fun t ht => by have := splitB_sz s 44 t (by rw [HS.out]; exact ht); omega
  obtain ⟨F, HF⟩ : ∃ F, Hid (fieldO s lo hi = F) := ⟨_, rfl⟩
  have HL : Hid (qce s lo hi = picksO lo hi F) := by show qce s lo hi = _; unfold qce; rw [HF.out]
  have HG : Hid (fieldGo lo hi p (List.replicate m false) = F) := by
    show _ = F; rw [← HF.out]; unfold fieldO; rw [HS.out, hm, Int.toNat_natCast]
  rw [HF.out, HL.out]
  clear HF HL
  go_enter Tryz.func129, Tryz.ntmps129
  go_wp2_with (at_make; refine wpList_make_full _ rfl _ _ 204 rfl w.heap.size 4 i0 _ 1 underB hi0 hz0 hz1 .i64 .i64 _ _ m rfl rfl rfl rfl (by rw [hz2]; omega) (by unfold maxLen; omega) (Nat.le_refl _) ?_; intro w1 ho hg)
  have HO1 : Hid (ownsR w1 w.heap.size 4 (.slice (some ⟨w.heap.size, 0, none⟩) m m) (List.replicate m false)) := by
    show ownsR _ _ _ _ _
    rw [made_bools] at ho
    unfold ownsR
    rw [List.length_replicate]
    exact ho
  have hb1 : Below w.heap.size w w1 := (Below.refl _ w).grown hg (Nat.le_refl _) (fun j hj => by cases hj)
  have hz1' : w.heap.size < w1.heap.size := (HO1.out.lt w.heap.size rfl).2
  clear ho hg
  refine (qed s 44 _ hs).mono ?_
  rintro e w2 ⟨v2, rfl, ho2, hb2⟩
  rw [HS.out] at ho2
  obtain ⟨gp, cp, rfl, hgp, -⟩ := qge ho2 hp0
  have HP2 : Hid (ownsS w2 w1.heap.size 9 (.slice (some ⟨gp, 0, none⟩) p.length cp) p) := ho2
  have HO2 : Hid (ownsR w2 w.heap.size 4 (.slice (some ⟨w.heap.size, 0, none⟩) m m) (List.replicate m false)) := HO1.out.all hb2
  have B2 : Below w.heap.size w w2 := Below.on hb1 hb2
  have hz2' : w1.heap.size ≤ w2.heap.size := hb2.size
  clear ho2 hb2 HO1 hb1
  generalize hB : w.heap.size = B at *
  go_wp2
  go_loopw [10] (fun i wr => ∃ (k : Nat) (H : List Bool), k ≤ p.length ∧ i = .int .i64 k ∧ H.length = m ∧ Hid (fieldGo lo hi (p.drop k) H = F) ∧ Hid (ownsR wr B 4 (.slice (some ⟨B, 0, none⟩) m m) H) ∧ Hid (ownsS wr w1.heap.size 9 (.slice (some ⟨gp, 0, none⟩) p.length cp) p) ∧ Below B w wr ∧ w1.heap.size ≤ wr.heap.size) (fun i _ => p.length - (intOf i).toNat)
  case atStart => exact ⟨0, _, Nat.zero_le _, rfl, List.length_replicate .., by simpa using HG, HO2, HP2, B2, hz2'⟩
  case round =>
    obtain ⟨k, H, hk, rfl, hHl, HE, HO, HPr, hbel, hzr⟩ := hrel
    clear HO2 HP2 B2 hz2'
    by_cases hlt : k < p.length
    · obtain ⟨t, ht, c0, -, -, -⟩ := ownsS_cell HPr.out hlt
      have HT : Hid (t.size ≤ 1048576) := HPZ.out t (List.mem_of_getElem? ht)
      obtain ⟨a, b, st, z, HQ⟩ : ∃ a b st z, Hid (piece t lo hi = (a, b, st, z)) := ⟨_, _, _, _, rfl⟩
      have HE2 : Hid (F = if z then fieldGo lo hi (p.drop (k + 1)) (stampP H (a, b, st, z)) else none) := by
        show F = _
        rw [← HE.out, fieldGo_at ht, HQ.out]
      clear ht
      cases z with
      | false =>
        have HFn : Hid (F = none) := HE2.out
        go_wp2_with (go_at_call 134; refine (l10Piece_any _ _ _ _ HT.out).mono ?_; rintro e w3 ⟨rfl, hb3⟩; rw [HQ.out])
        go_ret2
        subst hB
        refine ⟨_, by rw [HFn.out]; rfl, ?_, ba (Below.on hbel hb3) _⟩
        rw [HFn.out]
        exact World.ownsRow_made w3 #[] 0 (Nat.le_trans hbel.size hb3.size) (Nat.zero_le _) (by simp)
      | true =>
        have HFn : Hid (fieldGo lo hi (p.drop (k + 1)) (stampP H (a, b, st, true)) = F) := HE2.out.symm
        have hbd := piece_bd (s := t) (lo := lo) (hi := hi) hlh (by rw [HQ.out])
        rw [HQ.out] at hbd
        obtain ⟨d1, d2, d3, d4, d5⟩ := hbd
        dsimp only at d1 d2 d3 d4 d5
        go_wp2_with (go_at_call 134; refine (l10Piece_any _ _ _ _ HT.out).mono ?_; rintro e w3 ⟨rfl, hb3⟩; rw [HQ.out])
        have HO3 : Hid (ownsR w3 B 4 (.slice (some ⟨B, 0, none⟩) m m) H) := HO.out.all hb3
        have HP3 : Hid (ownsS w3 w1.heap.size 9 (.slice (some ⟨gp, 0, none⟩) p.length cp) p) := HPr.out.all hb3
        have B3 : Below B w w3 := hbel.trans (hb3.mono (by have := hbel.size; omega))
        have hz3 : w1.heap.size ≤ w3.heap.size := Nat.le_trans hzr hb3.size
        clear hb3 HO HPr hbel hzr c0
        go_loopw [15] (fun x' wq => ∃ (x : Int) (j : Nat), x' = .int .i64 x ∧ Hid (x = a + j * st ∧ (j = 0 ∨ x - st ≤ b)) ∧ a ≤ x ∧ x ≤ b + st ∧ Hid (ownsR wq B 4 (.slice (some ⟨B, 0, none⟩) m m) (stamp H a.toNat st.toNat j)) ∧ Hid (ownsS wq w1.heap.size 9 (.slice (some ⟨gp, 0, none⟩) p.length cp) p) ∧ Below B w wq ∧ w1.heap.size ≤ wq.heap.size) (fun x' _ => (b + 1 - intOf x').toNat)
        case atStart => exact ⟨a, 0, rfl, ⟨by simp, .inl rfl⟩, Int.le_refl _, by omega, HO3, HP3, B3, hz3⟩
        case round =>
          obtain ⟨x, j, rfl, HX, hx1, hx2, HO, HPr, hbel, hzr⟩ := hrel
          clear HO3 HP3 B3 hz3
          by_cases hxb : x ≤ b
          · obtain ⟨xn, hxn⟩ : ∃ xn : Nat, x = xn := ⟨x.toNat, by omega⟩
            subst hxn
            have hlen : (stamp H a.toNat st.toNat j).length = m := by rw [stamp_length, hHl]
            obtain ⟨y, hy⟩ : ∃ y, (stamp H a.toNat st.toNat j)[xn]? = some y := ⟨_, List.getElem?_eq_getElem (by rw [hlen]; omega)⟩
            obtain ⟨hgs, c0, f0⟩ := bool_own HO.out hy
            have hxm : xn < m := by omega
            have R := bool_put HO.out true hy
            have e9 : (stamp H a.toNat st.toNat j).set xn true = stamp H a.toNat st.toNat (j + 1) := by
              rw [stamp]
              congr 1
              have h9 := HX.out.1
              obtain ⟨T, hT⟩ : ∃ T : Nat, st = T := ⟨st.toNat, by omega⟩
              rw [hT] at h9 ⊢
              rw [← Int.natCast_mul] at h9
              rw [Int.toNat_natCast]
              omega
            rw [e9] at R
            have HR : Hid (ownsR (wr.setCell ⟨B, xn, none⟩ (.bool true)) B 4 (.slice (some ⟨B, 0, none⟩) m m) (stamp H a.toNat st.toNat (j + 1))) := R
            have HPS : Hid (ownsS (wr.setCell ⟨B, xn, none⟩ (.bool true)) w1.heap.size 9 (.slice (some ⟨gp, 0, none⟩) p.length cp) p) := HPr.out.qta (by simpa using hz1') _
            have BS : Below B w (wr.setCell ⟨B, xn, none⟩ (.bool true)) := Below.setCell hbel (Nat.le_refl _) _
            have HX2 : Hid ((xn : Int) + st = a + (j + 1 : Nat) * st ∧ (j + 1 = 0 ∨ (xn : Int) + st - st ≤ b)) := by
              refine ⟨?_, .inr (by omega)⟩
              rw [HX.out.1, Int.natCast_add, Int.add_mul]; simp; omega
            clear R hy e9 hlen HO HPr hbel
            go_wp2
            go_roundw
            case rel => exact ⟨(xn : Int) + st, j + 1, rfl, HX2, by omega, by omega, HR, HPS, BS, by simpa using hzr⟩
            case measure => simp [intOf]; omega
          · have HST : Hid (stampP H (a, b, st, true) = stamp H a.toNat st.toNat j) := by
              show stampP H (a, b, st, true) = _
              unfold stampP
              dsimp only
              rw [steps_at d4 d2 HX.out.1 HX.out.2 (by omega)]
            go_wp2
            go_roundw
            case rel => exact ⟨k + 1, stamp H a.toNat st.toNat j, by omega, by go_num, by rw [stamp_length, hHl], by rw [← HST.out]; exact HFn, HO, HPr, hbel, hzr⟩
            case measure => simp [intOf]; omega
    · have hkn : k = p.length := by omega
      have HFs : Hid (F = some H) := by show F = some H; rw [← HE.out]; exact fieldGo_end hkn
      obtain ⟨n, hn⟩ : ∃ n : Nat, hi - lo + 1 = n := ⟨(hi - lo + 1).toNat, by omega⟩
      have HPK : Hid (picksO lo hi F = picks H lo n) := by show picksO lo hi F = _; rw [HFs.out]; unfold picksO; rw [hn, Int.toNat_natCast]
      go_wp2
      obtain ⟨W3, hW3⟩ : ∃ W3, wr.alloc (.cells #[] 3) = W3 := ⟨_, rfl⟩
      have ho3 : ownsR W3 wr.heap.size 3 (.slice (some ⟨wr.heap.size, 0, none⟩) 0 0) ([] : List Int) := by
        rw [← hW3]; exact World.ownsRow_made wr #[] 0 (Nat.le_refl _) (Nat.zero_le _) (by simp)
      have HO3 : Hid (ownsR W3 B 4 (.slice (some ⟨B, 0, none⟩) m m) H) := by rw [← hW3]; exact HO.out.alloc _
      have B3 : Below B w W3 := by rw [← hW3]; exact Below.alloc hbel (by have := hbel.size; omega) _
      have hs3 : wr.heap.size < W3.heap.size := by rw [← hW3]; simp
      have hBr : B < wr.heap.size := by omega
      rw [hW3]
      clear hW3 HO HPr
      obtain ⟨G, hG⟩ : ∃ G, wr.heap.size = G := ⟨_, rfl⟩
      rw [hG] at ho3 hs3 hBr ⊢
      have hcl : ∀ wq, Below G W3 wq → ownsR wq B 4 (.slice (some ⟨B, 0, none⟩) m m) H := fun wq hq => HO3.out.below hq (fun j hj => by cases hj; exact hBr)
      have HCL : Hid (∀ wq, Below G W3 wq → ownsR wq B 4 (.slice (some ⟨B, 0, none⟩) m m) H) := hcl
      clear hcl HO3
      go_loopw [16, 17] (fun out x wq => ∃ j : Nat, j ≤ n ∧ x = .int .i64 (lo + j) ∧ ownsR wq G 3 out (picks H lo j) ∧ Below G W3 wq ∧ G < wq.heap.size) (fun _ x _ => (hi + 1 - intOf x).toNat)
      case atStart => exact ⟨0, Nat.zero_le _, by simp, ho3, Below.refl _ _, hs3⟩
      case round =>
        obtain ⟨j, hj, rfl, hown, hbq, hGq⟩ := hrel
        have hB3 := B3
        by_cases hjn : j < n
        · obtain ⟨xn, hxn⟩ : ∃ xn : Nat, lo + (j : Int) = xn := ⟨(lo + j).toNat, by omega⟩
          have hxm : xn < m := by omega
          obtain ⟨y, hy⟩ : ∃ y, H[xn]? = some y := ⟨_, List.getElem?_eq_getElem (by omega)⟩
          obtain ⟨hgs, c0, -⟩ := bool_own (HCL.out _ hbq) hy
          have HPN : Hid (picks H lo (j + 1) = picks H lo j ++ (if y then [(xn : Int)] else [])) := by
            show picks H lo (j + 1) = _
            rw [picks, hxn, Int.toNat_natCast, List.getD_eq_getElem?_getD, hy]
            rfl
          have hpl3 := picks_length H lo j
          have hxb : lo + (j : Int) ≤ hi := by omega
          clear hy
          cases y with
          | false =>
            have HP9 : Hid (picks H lo (j + 1) = picks H lo j) := by show _ = _; rw [HPN.out]; simp
            go_wp2
            go_roundw
            case rel => exact ⟨j + 1, by omega, by go_num, by rw [HP9.out]; exact hown, hbq, hGq⟩
            case measure => simp [intOf]; omega
          | true =>
            have HP9 : Hid (picks H lo (j + 1) = picks H lo j ++ [(xn : Int)]) := by show _ = _; rw [HPN.out]; simp
            have hsq := hbq.size
            have hlen4 : (picks H lo j).length ≤ 1048576 := by omega
            go_wp2_with (at_builtin; refine qkc _ W3 rfl (.tmp 65) (.tmp 67) 25 rfl G 3 _ 8 underI info3 rfl _ (picks H lo j) rfl (hown.alloc _) (hbq.alloc (by omega) _) wr.heap.size 1 (xn : Int) rfl (cell_num (by simp [go_sem])) hlen4 (by decide) (by simp; omega) ?_; intro v' w4 hown4 hbel4 hs4)
            rw [← HP9.out] at hown4
            simp only [World.size_alloc] at hs4
            clear hown hbq
            go_wp2
            go_roundw
            case rel => exact ⟨j + 1, by omega, by omega, hown4, by omega⟩
            case measure => simp [intOf]; omega
        · have hjn2 : j = n := by omega
          have how := hown
          rw [hjn2] at how
          have hxb : ¬ lo + (j : Int) ≤ hi := by omega
          clear hown hjn hjn2
          have hsq := hbq.size
          go_wp2
          go_ret2
          subst hB
          refine ⟨_, by rw [HFs.out]; rfl, ?_, B3.trans (hbq.mono (by omega))⟩
          rw [HPK.out]
          exact how.mono (by omega)
end Go.Proofs.YtpjpheicldegkaaGreatDoor

namespace Go.Proofs.YtpjpheicldegkaaGreatDoor
open Go Go.RowKit

def freeB (ts : List Ta) (out : List Int) (l : List ByteArray) : Bool := l.all fun s => decide (atN ts s ∈ out)
def qob (ts : List Ta) (out : List Int) : Nat → List Ta → List Int
  | _, [] => out
  | i, t :: r => if (i : Int) ∈ out then qob ts out (i + 1) r else if freeB ts out t.after then out ++ [(i : Int)] else qob ts out (i + 1) r
def ordL (ts : List Ta) : Nat → List Int
  | 0 => []
  | k + 1 => qob ts (ordL ts k) 0 ts
def orderL (ts : List Ta) : List Int := ordL ts ts.length
theorem ordScan_at {ts : List Ta} {out : List Int} {i : Nat} {t : Ta} (h : ts[i]? = some t) : qob ts out i (ts.drop i) = if (i : Int) ∈ out then qob ts out (i + 1) (ts.drop (i + 1)) else if freeB ts out t.after then out ++ [(i : Int)] else qob ts out (i + 1) (ts.drop (i + 1)) := by
  obtain ⟨hk, rfl⟩ := List.getElem?_eq_some_iff.1 h
  rw [List.drop_eq_getElem_cons hk]
  rfl
theorem ordScan_end {ts : List Ta} {out : List Int} {i : Nat} (h : i = ts.length) : qob ts out i (ts.drop i) = out := by
  subst h
  rw [List.drop_length]
  rfl
theorem ordScan_len {ts : List Ta} {out : List Int} : ∀ (r : List Ta) (i : Nat), (qob ts out i r).length ≤ out.length + 1
  | [], _ => by simp [qob]
  | t :: r, i => by
    unfold qob
    split
    · exact ordScan_len r (i + 1)
    · split
      · simp
      · exact ordScan_len r (i + 1)
theorem ordL_len (ts : List Ta) : ∀ k, (ordL ts k).length ≤ k
  | 0 => Nat.le_refl _
  | k + 1 => by
    have := ordL_len ts k
    have := ordScan_len (ts := ts) (out := ordL ts k) ts 0
    unfold ordL
    omega
theorem freeB_take {ts : List Ta} {out : List Int} {l : List ByteArray} {k : Nat} {s : ByteArray} (h : l[k]? = some s) : freeB ts out (l.take (k + 1)) = (freeB ts out (l.take k) && decide (atN ts s ∈ out)) := by
  unfold freeB
  rw [List.take_add_one, h]
  simp
theorem ints_made (w : World) (B : Nat) (hB : B ≤ w.heap.size) : ownsR (w.alloc (.cells #[] 3)) B 3 (.slice (some ⟨w.heap.size, 0, none⟩) 0 0) ([] : List Int) := World.ownsRow_made w #[] 0 hB (by decide) (by simp)

set_option maxRecDepth 10000 in
set_option maxHeartbeats 4000000 in
theorem l12Order_any {w : World} {v : Value} {ts : List Ta} (hr : Tasks w v ts) (hn : ts.length ≤ 100000) (ha : ∀ t ∈ ts, t.after.length ≤ 1048576) :
    Calls Tryz.prog 127 #[v] w fun e w' => ∃ v', e = .returned v' ∧ ownsR w' w.heap.size 3 v' (orderL ts) ∧ Below w.heap.size w w' := by
  obtain ⟨ao, cap, rfl⟩ := hr.slice
  have HR : Hid (Tasks w (.slice ao ts.length cap) ts) := hr
  have HAF : Hid (∀ t ∈ ts, t.after.length ≤ 1048576) := ha
  clear hr ha
  have HO : Hid (orderL ts = ordL ts ts.length) := rfl
  obtain ⟨n, HN⟩ : ∃ n, Hid (ts.length = n) := ⟨_, rfl⟩
  rw [HN.out] at hn HR HO ⊢
  have HAT : Hid (∀ W s, Below w.heap.size w W → Calls Tryz.prog 123 #[.slice ao n cap, .string s] W fun e w' => e = .returned (.int .i64 (atN ts s)) ∧ w' = W) := fun W s hb => by
    have := qzd s (HR.out.below hb) (by rw [HN.out]; omega)
    exact this
  go_enter Tryz.func127, Tryz.ntmps127
  go_wp2
  go_loopw [3, 4] (fun out rv wr => ∃ j : Nat, j ≤ n ∧ rv = .int .i64 j ∧ ownsR wr w.heap.size 3 out (ordL ts j) ∧ Below w.heap.size w wr) (fun _ rv _ => n - (intOf rv).toNat)
  case atStart => exact ⟨0, Nat.zero_le _, rfl, ints_made w _ (Nat.le_refl _), ba (Below.refl _ _) _⟩
  case round =>
    obtain ⟨j, hj, rfl, hown, hbel⟩ := hrel
    by_cases hjn : j < n
    · obtain ⟨O, HOJ⟩ : ∃ O, Hid (ordL ts j = O) := ⟨_, rfl⟩
      have hOl : O.length ≤ 100000 := by have := ordL_len ts j; rw [HOJ.out] at this; omega
      have HNX : Hid (ordL ts (j + 1) = qob ts O 0 ts) := by show ordL ts (j + 1) = _; rw [ordL, HOJ.out]
      rw [HOJ.out] at hown
      go_wp2
      go_loopw [3, 5] (fun out iv wx => ∃ (i : Nat) (l : List Int), iv = .int .i64 i ∧ i ≤ n + 1 ∧ Hid ((i ≤ n ∧ l = O ∧ ordL ts (j + 1) = qob ts O i (ts.drop i)) ∨ (i = n + 1 ∧ l = ordL ts (j + 1))) ∧ ownsR wx w.heap.size 3 out l ∧ Below w.heap.size w wx) (fun _ iv _ => n + 1 - (intOf iv).toNat)
      case atStart => exact ⟨0, O, rfl, by omega, .inl ⟨Nat.zero_le _, rfl, by rw [List.drop_zero]; exact HNX.out⟩, hown, hbel⟩
      case round =>
        clear hown hbel
        obtain ⟨i, l, rfl, hi1, HC, hown, hbel⟩ := hrel
        by_cases hil : i < n
        · obtain ⟨rfl, HE⟩ : l = O ∧ Hid (ordL ts (j + 1) = qob ts l i (ts.drop i)) := by
            rcases HC.out with ⟨_, e1, e2⟩ | ⟨e, _⟩
            · subst e1; exact ⟨rfl, e2⟩
            · omega
          clear HC
          obtain ⟨t, ht⟩ : ∃ t, ts[i]? = some t := ⟨_, List.getElem?_eq_getElem (by rw [HN.out]; exact hil)⟩
          have HT : Hid (ts[i]? = some t) := ht
          have HTA : Hid (t.after.length ≤ 1048576) := HAF.out t (List.mem_of_getElem? ht)
          have HS : Hid (ordL ts (j + 1) = if (i : Int) ∈ l then qob ts l (i + 1) (ts.drop (i + 1)) else if freeB ts l t.after then l ++ [(i : Int)] else qob ts l (i + 1) (ts.drop (i + 1))) := HE.out.trans (ordScan_at ht)
          obtain ⟨oo, oc, rfl, -⟩ := id hown.reads
          have HIN : Hid (∀ x, Calls Tryz.prog 133 #[.slice oo l.length oc, .int .i64 x] wr fun e w' => e = .returned (.bool (decide (x ∈ l))) ∧ w' = wr) := fun x => l10In_try oo _ oc l x wr hown.reads (by omega)
          by_cases hin : (i : Int) ∈ l
          · have HF : Hid (ordL ts (j + 1) = qob ts l (i + 1) (ts.drop (i + 1))) := HS.out.trans (if_pos hin)
            have H1 := HIN.out i
            rw [decide_eq_true hin] at H1
            clear ht
            go_wp2_with (go_at_call 133; refine H1.mono ?_; rintro e w1 ⟨rfl, hw⟩; have hw2 := hw.symm; subst hw2)
            go_roundw
            case rel => exact ⟨i + 1, l, by go_num, by omega, .inl ⟨by omega, rfl, HF.out⟩, hown, hbel⟩
            case measure => simp [intOf]; omega
          · have HS2 : Hid (ordL ts (j + 1) = if freeB ts l t.after then l ++ [(i : Int)] else qob ts l (i + 1) (ts.drop (i + 1))) := HS.out.trans (if_neg hin)
            have H1 := HIN.out i
            rw [decide_eq_false hin] at H1
            obtain ⟨gb, ob, av, rfl, hgb, c0, -, -, -, c4, HA0⟩ := (HR.out.below hbel).at ht
            obtain ⟨fo, fc, rfl, -⟩ := id HA0
            have HA : Hid (Reads wr (.slice fo t.after.length fc) t.after) := HA0
            clear HA0 ht c0
            obtain ⟨m, HMM⟩ : ∃ m, Hid (t.after.length = m) := ⟨_, rfl⟩
            have hm : m ≤ 1048576 := by rw [← HMM.out]; exact HTA.out
            rw [HMM.out] at c4 HA
            go_wp2_with (go_at_call 133; refine H1.mono ?_; rintro e w1 ⟨rfl, hw⟩; have hw2 := hw.symm; subst hw2)
            clear H1
            go_loopw [6, 7] (fun fv kv wz => ∃ (k : Nat) (q : Bool), k ≤ m ∧ kv = .int .i64 k ∧ fv = .bool q ∧ Hid (freeB ts l (t.after.take k) = q) ∧ wz = wr) (fun _ kv _ => m - (intOf kv).toNat)
            case atStart => exact ⟨0, true, Nat.zero_le _, rfl, rfl, rfl, rfl⟩
            case round =>
              obtain ⟨k, q, hk, rfl, rfl, HFK, hwz⟩ := hrel
              have hwz2 := hwz.symm
              subst hwz2
              by_cases hkm : k < m
              · obtain ⟨s, hs⟩ : ∃ s, t.after[k]? = some s := ⟨_, List.getElem?_eq_getElem (by rw [HMM.out]; exact hkm)⟩
                have HFN : Hid (freeB ts l (t.after.take (k + 1)) = (q && decide (atN ts s ∈ l))) := by show _ = _; rw [freeB_take hs, HFK.out]
                obtain ⟨sb, so, rfl, hsb, cs⟩ := qka HA.out hs
                have H2 := HAT.out wr s hbel
                have H3 := HIN.out (atN ts s)
                clear hs
                obtain ⟨z, HZ⟩ : ∃ z, Hid (decide (atN ts s ∈ l) = z) := ⟨_, rfl⟩
                rw [HZ.out] at H3 HFN
                cases q with
                | false =>
                  clear H2 H3
                  go_wp2
                  go_roundw
                  case rel => exact ⟨k + 1, false, by omega, by go_num, rfl, HFN, trivial⟩
                  case measure => simp [intOf]; omega
                | true =>
                  go_wp2_with (first | (go_at_call 123; refine H2.mono ?_; rintro e w1 ⟨rfl, hw⟩; have hw2 := hw.symm; subst hw2) | (go_at_call 133; refine H3.mono ?_; rintro e w1 ⟨rfl, hw⟩; have hw2 := hw.symm; subst hw2))
                  go_roundw
                  case rel => exact ⟨k + 1, z, by omega, by go_num, rfl, HFN, trivial⟩
                  case measure => simp [intOf]; omega
              · have HFA : Hid (freeB ts l t.after = q) := by
                  have := HFK.out
                  rwa [List.take_of_length_le (by rw [HMM.out]; omega)] at this
                rw [HFA.out] at HS2
                cases q with
                | false =>
                  have HF : Hid (ordL ts (j + 1) = qob ts l (i + 1) (ts.drop (i + 1))) := HS2.out
                  go_wp2
                  go_roundw
                  case rel => exact ⟨i + 1, l, by go_num, by omega, .inl ⟨by omega, rfl, HF.out⟩, hown, hbel⟩
                  case measure => simp [intOf]; omega
                | true =>
                  have HF : Hid (ordL ts (j + 1) = l ++ [(i : Int)]) := HS2.out
                  have hsz := hbel.size
                  go_wp2_with (at_builtin; refine qkc _ w rfl (.tmp 50) (.tmp 52) 25 rfl w.heap.size 3 _ 8 underI info3 rfl _ l rfl (hown.alloc _) (hbel.alloc hsz _) wr.heap.size 1 (i : Int) rfl (cell_num (by simp [go_sem])) (by omega) (by decide) (by simp; omega) ?_; intro v' w4 hown4 hbel4 hs4)
                  go_wp2
                  go_roundw
                  case rel => exact ⟨n + 1, l ++ [(i : Int)], by go_num, by omega, .inr ⟨rfl, HF.out.symm⟩, hown4, hbel4⟩
                  case measure => simp [intOf]; omega
        · have HL : Hid (l = ordL ts (j + 1)) := by
            rcases HC.out with ⟨e0, e1, e2⟩ | ⟨_, e⟩
            · rw [e2, ordScan_end (by rw [HN.out]; omega)]; exact e1
            · exact e
          clear HC
          go_wp2
          go_roundw
          case rel => exact ⟨j + 1, by omega, by go_num, by rw [← HL.out]; exact hown, hbel⟩
          case measure => simp [intOf]; omega
    · have hjn2 : j = n := by omega
      rw [hjn2] at hown
      go_wp2
      go_ret
      exact ⟨_, rfl, by rw [HO.out]; exact hown, hbel⟩
end Go.Proofs.YtpjpheicldegkaaGreatDoor
