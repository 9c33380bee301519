/- Pi -/
import Derived.Test.YtpjpheicldegkaaGreatDoorCrl
import Derived.Test.YtpjpheicldegkaaGreatDoorGM7
namespace Go.Proofs.YtpjpheicldegkaaGreatDoor
open Go Go.RowKit

theorem rd_long {s : ByteArray} (h : 10 < s.size) : rd s = (0, false) := by unfold rd; rw [if_pos (.inr h)]
theorem qla (s : ByteArray) (w : World) (hs : s.size ≤ 9223372036854775807) :
    Calls Tryz.prog 122 #[.string s] w fun e w' => e = .returned (.tuple #[.int .i64 (rd s).1, .bool (rd s).2]) ∧ Below w.heap.size w w' := by
  by_cases h : 10 < s.size
  · rw [rd_long h]; exact specReadDec_long s w hs h
  · exact specReadDec_any s w (by omega) _ _ rfl
theorem rd_bd (s : ByteArray) : 0 ≤ (rd s).1 ∧ (rd s).1 ≤ 1000000000 := by
  unfold rd
  repeat' split
  all_goals first | exact ⟨Int.le_refl _, by decide⟩ | (constructor <;> simp <;> omega)

def pieceP (lo hi : Int) (p : List ByteArray) : Int × Int × Int × Bool :=
  ((rd (p.getD 0 ByteArray.empty)).1, (if p.length = 2 then rd (p.getD 1 ByteArray.empty) else ((rd (p.getD 0 ByteArray.empty)).1, true)).1, 1,
    (rd (p.getD 0 ByteArray.empty)).2 && (if p.length = 2 then rd (p.getD 1 ByteArray.empty) else ((rd (p.getD 0 ByteArray.empty)).1, true)).2 && decide (p.length ≤ 2) && decide (lo ≤ (rd (p.getD 0 ByteArray.empty)).1) && decide ((rd (p.getD 0 ByteArray.empty)).1 ≤ (if p.length = 2 then rd (p.getD 1 ByteArray.empty) else ((rd (p.getD 0 ByteArray.empty)).1, true)).1) && decide ((if p.length = 2 then rd (p.getD 1 ByteArray.empty) else ((rd (p.getD 0 ByteArray.empty)).1, true)).1 ≤ hi))
def piece (s : ByteArray) (lo hi : Int) : Int × Int × Int × Bool :=
  if s = ⟨#[42]⟩ then (lo, hi, 1, true)
  else if 2 < s.size ∧ s.extract 0 2 = ⟨#[42, 47]⟩ then (lo, hi, (rd (s.extract 2 s.size)).1, (rd (s.extract 2 s.size)).2 && decide (1 ≤ (rd (s.extract 2 s.size)).1))
  else pieceP lo hi (splitB s 45)
theorem cutsN_some (s : ByteArray) (c : Nat) : 0 < (splitB s c).length := by
  unfold splitB
  rw [cutsN, if_pos (.inl rfl)]
  simp
theorem qge {w : World} {B : Nat} {v : Value} {l : List ByteArray} (h : ownsS w B 9 v l) (hne : 0 < l.length) : ∃ g c, v = .slice (some ⟨g, 0, none⟩) l.length c ∧ g < w.heap.size ∧ ∀ k t, l[k]? = some t → w.cell? ⟨g, k, none⟩ = some (.string t) := by
  obtain ⟨g, c, rfl, _, hg, _, hc, _⟩ := ownsS_form h (by rintro rfl; simp at hne)
  refine ⟨g, c, rfl, hg, fun k t hk => ?_⟩
  obtain ⟨hlt, rfl⟩ := List.getElem?_eq_some_iff.1 hk
  exact hc k hlt
theorem splitB_sz (s : ByteArray) (c : Nat) : ∀ t ∈ splitB s c, t.size ≤ s.size := by
  have key : ∀ i, ∀ t ∈ (cutsN s c i).1, t.size ≤ s.size := by
    intro i
    induction i with
    | zero => intro t ht; simp [cutsN] at ht
    | succ i ih =>
      intro t ht
      unfold cutsN at ht
      split at ht
      · rcases List.mem_append.1 ht with h | h
        · exact ih t h
        · rw [List.mem_singleton.1 h]; simp; omega
      · exact ih t ht
  exact key _

theorem star_list : (⟨#[42]⟩ : ByteArray).toList = [42] := (ByteArray.toList_eq _).trans rfl
theorem step_list : (⟨#[42, 47]⟩ : ByteArray).toList = [42, 47] := (ByteArray.toList_eq _).trans rfl
set_option maxRecDepth 10000 in
set_option maxHeartbeats 4000000 in
theorem l10Piece_any (s : ByteArray) (lo hi : Int) (w : World) (hs : s.size ≤ 1048576) :
    Calls Tryz.prog 134 #[.string s, .int .i64 lo, .int .i64 hi] w fun e w' => e = .returned (.tuple #[.int .i64 (piece s lo hi).1, .int .i64 (piece s lo hi).2.1, .int .i64 (piece s lo hi).2.2.1, .bool (piece s lo hi).2.2.2]) ∧ Below w.heap.size w w' := by
  by_cases h1 : s = ⟨#[42]⟩
  · have HP : Hid (piece s lo hi = (lo, hi, 1, true)) := by show piece s lo hi = _; unfold piece; rw [if_pos h1]
    rw [HP.out]
    clear HP
    subst h1
    go_enter Tryz.func134, Tryz.ntmps134
    go_wp2
    refine bodyPost_ret (v := .tuple #[.int .i64 lo, .int .i64 hi, .int .i64 1, .bool true]) (by simp [results, Tryz.results134, go_sem]) rfl ⟨rfl, Below.refl _ _⟩
  have hq : (s.toList == [42]) = false := by rw [← star_list]; exact qab h1
  by_cases h2 : 2 < s.size ∧ s.extract 0 2 = ⟨#[42, 47]⟩
  · obtain ⟨x, HX⟩ : ∃ x, Hid (rd (s.extract 2 s.size) = x) := ⟨_, rfl⟩
    have HP : Hid (piece s lo hi = (lo, hi, x.1, x.2 && decide (1 ≤ x.1))) := by show piece s lo hi = _; unfold piece; rw [if_neg h1, if_pos h2, HX.out]
    rw [HP.out]
    obtain ⟨h3, h4⟩ := h2
    have hq2 : ((s.extract 0 2).toList == [42, 47]) = true := by rw [← step_list]; exact eq_list h4
    clear HP h1 h4
    have hsl : ∀ wx, (Instr.slice 9 (.string s) none (some (.int .i64 2)) none).run Tryz.prog wx = .ok (.string (s.extract 0 2)) wx := fun wx => by
      rw [run_slice_string_to_if (P := Tryz.prog) wx 9 s .i64 2 Tryz.underlying9]
      have : (2 : Int) ≤ s.size := by omega
      simp [this]
    have hsl2 : ∀ wx, (Instr.slice 9 (.string s) (some (.int .i64 2)) none none).run Tryz.prog wx = .ok (.string (s.extract 2 s.size)) wx := fun wx => by
      rw [run_slice_string_from_if (P := Tryz.prog) wx 9 s .i64 2 Tryz.underlying9]
      have : (2 : Int) ≤ s.size := by omega
      simp [this]
    have HZ : Hid ((s.extract 2 s.size).size ≤ 9223372036854775807) := by show _ ≤ _; simp; omega
    go_enter Tryz.func134, Tryz.ntmps134
    go_wp2_with (go_at_call 122; refine (qla _ _ HZ.out).mono ?_; rintro e w1 ⟨rfl, hb1⟩; rw [HX.out])
    all_goals
      go_returns
      exact ⟨by simp [*], hb1⟩
  · have HP : Hid (piece s lo hi = pieceP lo hi (splitB s 45)) := by show piece s lo hi = _; unfold piece; rw [if_neg h1, if_neg h2]
    obtain ⟨p, HS⟩ : ∃ p, Hid (splitB s 45 = p) := ⟨_, rfl⟩
    have hp0 : 0 < p.length := by rw [← HS.out]; exact cutsN_some s 45
    have HPZ : Hid (∀ t ∈ p, t.size ≤ 9223372036854775807) := fun t ht => by have := splitB_sz s 45 t (by rw [HS.out]; exact ht); omega
    obtain ⟨t0, ht0⟩ : ∃ t, p[0]? = some t := ⟨_, List.getElem?_eq_getElem hp0⟩
    obtain ⟨a, z0, HA⟩ : ∃ a z, Hid (rd t0 = (a, z)) := ⟨_, _, rfl⟩
    have HT0 : Hid (t0.size ≤ 9223372036854775807) := HPZ.out t0 (List.mem_of_getElem? ht0)
    have hg0 : p.getD 0 ByteArray.empty = t0 := by rw [List.getD_eq_getElem?_getD, ht0]; rfl
    have hpl : p.length ≤ 1048577 := by
      rw [← HS.out]; unfold splitB; have := (cutsN_bd s 45 (s.size + 1)).2; omega
    have hsl : 2 < s.size → ∀ wx, (Instr.slice 9 (.string s) none (some (.int .i64 2)) none).run Tryz.prog wx = .ok (.string (s.extract 0 2)) wx := fun h3 wx => by
      rw [run_slice_string_to_if (P := Tryz.prog) wx 9 s .i64 2 Tryz.underlying9]
      have : (2 : Int) ≤ s.size := by omega
      simp [this]
    by_cases hp2 : p.length = 2
    · obtain ⟨t1, ht1⟩ : ∃ t, p[1]? = some t := ⟨_, List.getElem?_eq_getElem (by omega)⟩
      obtain ⟨b, z1, HB⟩ : ∃ a z, Hid (rd t1 = (a, z)) := ⟨_, _, rfl⟩
      have HT1 : Hid (t1.size ≤ 9223372036854775807) := HPZ.out t1 (List.mem_of_getElem? ht1)
      have hg1 : p.getD 1 ByteArray.empty = t1 := by rw [List.getD_eq_getElem?_getD, ht1]; rfl
      have HP2 : Hid (piece s lo hi = (a, b, 1, z0 && z1 && true && decide (lo ≤ a) && decide (a ≤ b) && decide (b ≤ hi))) := by
        show piece s lo hi = _
        rw [HP.out, HS.out]; unfold pieceP; rw [hg0, hg1, if_pos hp2, HA.out, HB.out, decide_eq_true (p := p.length ≤ 2) (by omega)]
      rw [HP2.out]
      clear hg0 hg1 HP HP2 h1
      by_cases h3 : 2 < s.size
      · have hq2 : ((s.extract 0 2).toList == [42, 47]) = false := by rw [← step_list]; exact qab (fun e => h2 ⟨h3, e⟩)
        replace hsl := hsl h3
        clear h2
        go_enter Tryz.func134, Tryz.ntmps134
        go_wp2_with fail
        refine (qed s 45 _ hs).mono ?_
        rintro e w1 ⟨v1, rfl, ho1, hb1⟩
        rw [HS.out] at ho1
        obtain ⟨g, c, rfl, hg, hcell⟩ := qge ho1 hp0
        have c0 := hcell 0 t0 ht0
        have c1 := hcell 1 t1 ht1
        clear hcell
        go_wp2_with fail
        refine (qla _ _ HT0.out).mono ?_
        rintro e w2 ⟨rfl, hb2⟩
        rw [HA.out]
        have c2 := qia hb2 c1
        go_wp2_with fail
        refine (qla _ _ HT1.out).mono ?_
        rintro e w3 ⟨rfl, hb3⟩
        rw [HB.out]
        go_wp2
        all_goals
          go_returns
          exact ⟨by simp [*] <;> omega, Below.on (Below.on hb1 hb2) hb3⟩
      · clear h2
        go_enter Tryz.func134, Tryz.ntmps134
        go_wp2_with fail
        refine (qed s 45 _ hs).mono ?_
        rintro e w1 ⟨v1, rfl, ho1, hb1⟩
        rw [HS.out] at ho1
        obtain ⟨g, c, rfl, hg, hcell⟩ := qge ho1 hp0
        have c0 := hcell 0 t0 ht0
        have c1 := hcell 1 t1 ht1
        clear hcell
        go_wp2_with fail
        refine (qla _ _ HT0.out).mono ?_
        rintro e w2 ⟨rfl, hb2⟩
        rw [HA.out]
        have c2 := qia hb2 c1
        go_wp2_with fail
        refine (qla _ _ HT1.out).mono ?_
        rintro e w3 ⟨rfl, hb3⟩
        rw [HB.out]
        go_wp2
        all_goals
          go_returns
          exact ⟨by simp [*] <;> omega, Below.on (Below.on hb1 hb2) hb3⟩
    · have HP2 : Hid (piece s lo hi = (a, a, 1, z0 && true && decide (p.length ≤ 2) && decide (lo ≤ a) && decide (a ≤ a) && decide (a ≤ hi))) := by
        show piece s lo hi = _
        rw [HP.out, HS.out]; unfold pieceP; rw [hg0, if_neg hp2, HA.out]
      rw [HP2.out]
      clear hg0 HP HP2 h1
      have hp9 : ¬ (p.length : Int) = 2 := by omega
      by_cases h3 : 2 < s.size
      · have hq2 : ((s.extract 0 2).toList == [42, 47]) = false := by rw [← step_list]; exact qab (fun e => h2 ⟨h3, e⟩)
        replace hsl := hsl h3
        clear h2
        go_enter Tryz.func134, Tryz.ntmps134
        go_wp2_with fail
        refine (qed s 45 _ hs).mono ?_
        rintro e w1 ⟨v1, rfl, ho1, hb1⟩
        rw [HS.out] at ho1
        obtain ⟨g, c, rfl, hg, hcell⟩ := qge ho1 hp0
        have c0 := hcell 0 t0 ht0
        clear hcell
        go_wp2_with fail
        refine (qla _ _ HT0.out).mono ?_
        rintro e w2 ⟨rfl, hb2⟩
        rw [HA.out]
        go_wp2
        all_goals
          go_returns
          exact ⟨by simp [*] <;> omega, Below.on hb1 hb2⟩
      · clear h2
        go_enter Tryz.func134, Tryz.ntmps134
        go_wp2_with fail
        refine (qed s 45 _ hs).mono ?_
        rintro e w1 ⟨v1, rfl, ho1, hb1⟩
        rw [HS.out] at ho1
        obtain ⟨g, c, rfl, hg, hcell⟩ := qge ho1 hp0
        have c0 := hcell 0 t0 ht0
        clear hcell
        go_wp2_with fail
        refine (qla _ _ HT0.out).mono ?_
        rintro e w2 ⟨rfl, hb2⟩
        rw [HA.out]
        go_wp2
        all_goals
          go_returns
          exact ⟨by simp [*] <;> omega, Below.on hb1 hb2⟩
end Go.Proofs.YtpjpheicldegkaaGreatDoor
