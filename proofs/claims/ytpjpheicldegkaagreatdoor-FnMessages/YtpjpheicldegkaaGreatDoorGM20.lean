/- Dgt,Cof -/
import Derived.Test.YtpjpheicldegkaaGreatDoorDgd
import Derived.Test.YtpjpheicldegkaaGreatDoorDtw
import Derived.Test.YtpjpheicldegkaaGreatDoorGM6
import Derived.Test.YtpjpheicldegkaaGreatDoorGM17
namespace Go.Proofs.YtpjpheicldegkaaGreatDoor
open Go Go.RowKit
set_option linter.unusedVariables false

theorem linesN_someT (s : ByteArray) : ∀ i, 0 < (qrb s i).2 → 0 < (qrb s i).1.length
  | 0, h => by simp [qrb] at h
  | i + 1, h => by
    unfold qrb at h ⊢
    split
    · simp
    · rename_i hn
      rw [if_neg hn] at h
      exact linesN_someT s i h
theorem linesN_szT (s : ByteArray) : ∀ i, ∀ t ∈ (qrb s i).1, t.size ≤ s.size
  | 0, t, h => by simp [qrb] at h
  | i + 1, t, h => by
    unfold qrb at h
    split at h
    · rcases List.mem_append.1 h with h | h
      · exact linesN_szT s i t h
      · rw [List.mem_singleton.1 h]; simp; omega
    · exact linesN_szT s i t h
theorem linesB_someT {s : ByteArray} (h : 0 < s.size) : 0 < (qxc s).length := by
  unfold qxc
  split
  · simp
  · rename_i hn
    exact linesN_someT s _ (by omega)
theorem linesB_fewT (s : ByteArray) : (qxc s).length ≤ s.size + 1 := by
  have := (linesN_bd s s.size).2
  unfold qxc
  split
  · simp; omega
  · omega
theorem linesB_szT (s : ByteArray) : ∀ t ∈ qxc s, t.size ≤ s.size := by
  intro t ht
  unfold qxc at ht
  split at ht
  · rcases List.mem_append.1 ht with h | h
    · exact linesN_szT s _ t h
    · rw [List.mem_singleton.1 h]; simp
  · exact linesN_szT s _ t ht
theorem lineS_size {s : ByteArray} {t : Ta} (h : FineT t) (ha : t.after.length ≤ 4) : (lineS s t).size ≤ s.size + 72 := by
  have h1 := h.name
  have h2 := h.pool
  have h3 : (bstr (decI t.ret.toNat)).size ≤ 10 := dec_size (by have := h.r1; omega)
  have h4 : (joinS t.after).size ≤ 36 := by have := joinP_size h.after t.after.length (Nat.le_refl _); unfold joinS; omega
  have hb : (baseL s t).size ≤ s.size + 34 := by
    unfold baseL
    split <;> simp only [ByteArray.size_append] <;> simp only [ByteArray.size, Array.size, List.length] at * <;> omega
  unfold lineS
  split <;> simp only [ByteArray.size_append] <;> simp only [ByteArray.size, Array.size, List.length] at * <;> omega
theorem dagP_size {d : Dg} : ∀ (ts : List Ta) (s : ByteArray), (∀ t ∈ ts, FineT t ∧ t.after.length ≤ 4) → (dagP d ts s).size ≤ s.size + 72 * ts.length
  | [], s, _ => by simp [dagP]
  | t :: ts, s, h => by
    have h1 := h t (List.mem_cons_self ..)
    have h2 := lineS_size (s := s) h1.1 h1.2
    have h3 := dagP_size (d := d) ts (lineS s t) (fun x hx => h x (List.mem_cons_of_mem _ hx))
    simp only [dagP, List.length_cons]
    omega
theorem lineS_more (s : ByteArray) (t : Ta) : s.size ≤ (lineS s t).size := by
  unfold lineS baseL
  split <;> simp only [ByteArray.size_append] <;> omega
theorem dagP_more {d : Dg} : ∀ (ts : List Ta) (s : ByteArray), s.size ≤ (dagP d ts s).size
  | [], s => by simp [dagP]
  | t :: ts, s => by
    have := lineS_more s t
    have := dagP_more (d := d) ts (lineS s t)
    simp only [dagP]
    omega
theorem dagX_size {d : Dg} (h : dagB d = true) (hc : d.cron.size ≤ 40) (ha : ∀ t ∈ d.tasks, t.after.length ≤ 4) : 0 < (dagX d).size ∧ (dagX d).size ≤ 400 := by
  obtain ⟨g1, g2, g3, g4, g5, g6, g7⟩ := dag_fine h
  have h3 : (bstr (decI d.fr.toNat)).size ≤ 10 := dec_size (by omega)
  have h4 : (bstr (decI d.up.toNat)).size ≤ 10 := dec_size (by omega)
  have hh : 0 < (headS d).size ∧ (headS d).size ≤ 100 := by
    unfold headS
    split <;> simp only [ByteArray.size_append] <;> simp only [ByteArray.size, Array.size, List.length] at * <;> omega
  have hp := dagP_size (d := d) d.tasks (headS d) (fun t ht => ⟨g7 t ht, ha t ht⟩)
  have hm := dagP_more (d := d) d.tasks (headS d)
  unfold dagX
  rw [h, if_pos rfl]
  unfold dagS
  omega

set_option maxRecDepth 10000 in
set_option maxHeartbeats 4000000 in
theorem l12Text_any (g : Nat) (w : World) (hd : Drw w g) : Calls Tryz.prog 118 #[.pointer (some ⟨g, 0, none⟩)] w fun e w' => ∃ t : ByteArray, e = .returned (.string t) ∧ t.size ≤ 300000 ∧ Drw w' g ∧ Save g w w' := by
  have hgl : g < w.heap.size := hd.lt
  go_enter Tryz.func118, Tryz.ntmps118
  go_wp2_with fail
  refine (l12Dag_any g _ hd).mono ?_
  rintro x W1 ⟨nm, cr, fr, up, cu, tv, ks, ts, rfl, hrd, haf, hq, hsm, hl1, hl4, hnm, hcr, hf0, hfu, hup, hat, hd1, hs1⟩
  obtain ⟨S, HS⟩ : ∃ S, Hid (dagX ⟨nm, cr, fr, up, cu, ts⟩ = S) := ⟨_, rfl⟩
  have hS : 0 < S.size ∧ S.size ≤ 400 := by rw [← HS.out]; exact dagX_size hq hcr (fun t ht => (hsm t ht).1)
  have hat : DagAt W1 tv ⟨nm, cr, fr, up, cu, ts⟩ := by
    refine ⟨⟨ks, hrd, haf.len, fun i t ht => ?_⟩, by show ts.length ≤ _; omega, fun t ht => ?_, by show cr.size ≤ _; omega, by show nm.size ≤ _; omega⟩
    · obtain ⟨k, hk⟩ : ∃ k, ks[i]? = some k := ⟨_, List.getElem?_eq_getElem (by rw [haf.len]; exact (List.getElem?_eq_some_iff.1 ht).1)⟩
      have a := haf.each i k t hk ht
      exact ⟨k, hk, a.name, a.pool, a.ret, a.past, a.after.reads⟩
    · have := hsm t ht
      omega
  have HTX : Hid (Calls Tryz.prog 116 #[.agg #[.string nm, .string cr, .int .i64 fr, .int .i64 up, .bool cu, tv]] W1 fun e w' => e = .returned (.tuple #[.string S, .bool true]) ∧ Below W1.heap.size W1 w') := by
    have := dagText_try tv nm cr fr up cu ts W1 hat
    rw [hq, HS.out] at this
    exact this
  have HD1 : Hid (Drw W1 g) := hd1
  have HS1 : Hid (Save g w W1) := hs1
  clear hrd haf hq hsm hl1 hl4 hnm hcr hf0 hfu hup hat hd1 hs1 hd
  go_wp2_with fail
  refine HTX.out.mono ?_
  rintro x W2 ⟨rfl, hb2⟩
  clear HTX HS
  have HB2 : Hid (Below W1.heap.size W1 W2) := hb2
  clear hb2
  go_wp2_with fail
  refine (l12Lines_any S _ (by omega)).mono ?_
  rintro x W3 ⟨v, rfl, hown, hb3⟩
  have hg2 : g < W2.heap.size := by have := HS1.out.size; have := HB2.out.size; omega
  have hp0 := linesB_someT hS.1
  have hp1 := linesB_fewT S
  have hp2 := linesB_szT S
  obtain ⟨L, HL⟩ : ∃ L, Hid (qxc S = L) := ⟨_, rfl⟩
  rw [HL.out] at hp0 hp1 hp2 hown
  obtain ⟨r, c, rfl, hBr, hrl, _, hce, _⟩ := ownsS_form hown (by rintro rfl; simp at hp0)
  have hrg : r ≠ g := by omega
  have HCE : Hid (∀ j (hj : j < L.length), W3.cell? ⟨r, j, none⟩ = some (.string L[j]) ∧ L[j].size ≤ 400) := fun j hj => ⟨hce j hj, by have := hp2 _ (List.getElem_mem hj); omega⟩
  have HD3 : Hid (Drw W3 g) := by
    have h1 := HD1.out.lt
    have h2 := HB2.out.size
    exact (HD1.out.keep (HB2.out.mono (by omega))).keep (hb3.mono (by omega))
  have HS3 : Hid (Save g w W3) := (HS1.out.qua HB2.out HS1.out.size).qua hb3 (by have := HS1.out.size; have := HB2.out.size; omega)
  obtain ⟨n, hn⟩ : ∃ n, L.length = n := ⟨_, rfl⟩
  have HN : Hid (L.length = n) := hn
  rw [hn] at hp0 hp1
  have hn4 : n ≤ 401 := by omega
  rw [hn]
  clear hce hown hp1 hp2 hb3 HB2 HS1 HD1 hBr hrl hn HL hS
  go_wp2
  go_loopw [6, 7] (fun ov iv wr => ∃ (k : Nat) (o : ByteArray), k ≤ n ∧ ov = .string o ∧ iv = .int .i64 k ∧ o.size ≤ 500 * k ∧ (0 < k → 0 < o.size) ∧ Hid (Drw wr g) ∧ Hid (Save g W3 wr)) (fun _ iv _ => n - (intOf iv).toNat)
  case atStart => exact ⟨0, _, Nat.zero_le _, rfl, rfl, Nat.zero_le _, fun h => absurd h (by decide), HD3, Save.refl _ _⟩
  case round =>
    obtain ⟨k, o, hk, rfl, rfl, ho, hp, HDR, HSR⟩ := hrel
    by_cases hlt : k < n
    · have hkl : k < L.length := by rw [HN.out]; exact hlt
      obtain ⟨hcell, hln⟩ := HCE.out k hkl
      obtain ⟨l, hl⟩ : ∃ l, L[k] = l := ⟨_, rfl⟩
      rw [hl] at hcell hln
      clear hl hkl
      go_wp2_with fail
      refine (qxa g 12 _ HDR.out (by decide) (by decide)).mono ?_
      rintro x W4 ⟨b, rfl, hd4, hs4⟩
      have HD4 : Hid (Drw W4 g) := hd4
      have HS4 : Hid (Save g W3 W4) := HSR.out.trans hs4
      clear hd4 hs4
      cases b with
      | false =>
        have hcl := (show Save g W3 W4 from HS4.out).cell hrg hcell
        go_wp2_with fail
        refine (qxa g 40 _ HD4.out (by decide) (by decide)).mono ?_
        rintro x W6 ⟨b2, rfl, hd6, hs6⟩
        have HD6 : Hid (Drw W6 g) := hd6
        have HS6 : Hid (Save g W3 W6) := HS4.out.trans hs6
        clear hd6 hs6 hcl
        cases b2 with
        | false =>
          go_wp2
          go_roundw
          case rel => exact ⟨k + 1, _, by omega, rfl, by go_num, by simp only [ByteArray.size_append]; have : (⟨#[10]⟩ : ByteArray).size = 1 := rfl; omega, fun _ => by simp only [ByteArray.size_append]; have : (⟨#[10]⟩ : ByteArray).size = 1 := rfl; omega, HD6, HS6⟩
          case measure => simp [intOf]; omega
        | true =>
          go_wp2_with fail
          refine (qlc g [(⟨#[100, 97, 103]⟩ : ByteArray), (⟨#[99, 114, 111, 110, 32, 42, 32, 42, 32, 42, 32, 42, 32, 56]⟩ : ByteArray), (⟨#[102, 114, 111, 109, 32, 120]⟩ : ByteArray), (⟨#[116, 111, 32, 49, 32, 50]⟩ : ByteArray), (⟨#[99, 97, 116, 99, 104]⟩ : ByteArray), (⟨#[116, 97, 115, 107]⟩ : ByteArray), (⟨#[116, 97, 115, 107, 32, 97, 32, 111, 110, 101, 32, 49, 32, 102, 114, 101, 101, 32, 113, 44, 113]⟩ : ByteArray), (⟨#[116, 97, 115, 107, 32, 97, 32, 110, 111, 110, 101, 32, 49, 32, 102, 114, 101, 101]⟩ : ByteArray), (⟨#[116, 97, 115, 107, 32, 98, 32, 111, 110, 101, 32, 57, 32, 102, 114, 101, 101]⟩ : ByteArray), (⟨#[116, 97, 115, 107, 32, 97, 32, 111, 110, 101, 32, 49, 32, 102, 114, 101, 101, 32, 98]⟩ : ByteArray), (⟨#[7]⟩ : ByteArray)] W3 W6 HD6.out HS6.out (by decide) (by decide) #[.string ⟨#[100, 97, 103]⟩, .string ⟨#[99, 114, 111, 110, 32, 42, 32, 42, 32, 42, 32, 42, 32, 56]⟩, .string ⟨#[102, 114, 111, 109, 32, 120]⟩, .string ⟨#[116, 111, 32, 49, 32, 50]⟩, .string ⟨#[99, 97, 116, 99, 104]⟩, .string ⟨#[116, 97, 115, 107]⟩, .string ⟨#[116, 97, 115, 107, 32, 97, 32, 111, 110, 101, 32, 49, 32, 102, 114, 101, 101, 32, 113, 44, 113]⟩, .string ⟨#[116, 97, 115, 107, 32, 97, 32, 110, 111, 110, 101, 32, 49, 32, 102, 114, 101, 101]⟩, .string ⟨#[116, 97, 115, 107, 32, 98, 32, 111, 110, 101, 32, 57, 32, 102, 114, 101, 101]⟩, .string ⟨#[116, 97, 115, 107, 32, 97, 32, 111, 110, 101, 32, 49, 32, 102, 114, 101, 101, 32, 98]⟩, .string ⟨#[7]⟩] rfl 11 rfl).mono ?_
          rintro x W7 ⟨ln2, hln2, rfl, hd7, hs7⟩
          have hls : ln2.size ≤ 30 := by
            simp only [List.mem_cons, List.not_mem_nil, or_false] at hln2
            rcases hln2 with rfl | rfl | rfl | rfl | rfl | rfl | rfl | rfl | rfl | rfl | rfl <;> decide
          have HD7 : Hid (Drw W7 g) := hd7
          have HS7 : Hid (Save g W3 W7) := hs7
          clear hln2 hd7 hs7
          go_wp2
          go_roundw
          case rel => exact ⟨k + 1, _, by omega, rfl, by go_num, by simp only [ByteArray.size_append]; have : (⟨#[10]⟩ : ByteArray).size = 1 := rfl; omega, fun _ => by simp only [ByteArray.size_append]; have : (⟨#[10]⟩ : ByteArray).size = 1 := rfl; omega, HD7, HS7⟩
          case measure => simp [intOf]; omega
      | true =>
        go_wp2_with fail
        refine (qlc g [(⟨#[10]⟩ : ByteArray), (⟨#[35, 32, 97, 10]⟩ : ByteArray), (⟨#[32, 32, 10]⟩ : ByteArray)] W3 W4 HD4.out HS4.out (by decide) (by decide) #[.string ⟨#[10]⟩, .string ⟨#[35, 32, 97, 10]⟩, .string ⟨#[32, 32, 10]⟩] rfl 3 rfl).mono ?_
        rintro x W5 ⟨ex, hex, rfl, hd5, hs5⟩
        have hes : ex.size ≤ 4 := by
          simp only [List.mem_cons, List.not_mem_nil, or_false] at hex
          rcases hex with rfl | rfl | rfl <;> decide
        have HD5 : Hid (Drw W5 g) := hd5
        have HS5 : Hid (Save g W3 W5) := hs5
        clear hex hd5 hs5 HD4 HS4
        have hcl := (show Save g W3 W5 from HS5.out).cell hrg hcell
        go_wp2_with fail
        refine (qxa g 40 _ HD5.out (by decide) (by decide)).mono ?_
        rintro x W6 ⟨b2, rfl, hd6, hs6⟩
        have HD6 : Hid (Drw W6 g) := hd6
        have HS6 : Hid (Save g W3 W6) := HS5.out.trans hs6
        clear hd6 hs6 hcl
        cases b2 with
        | false =>
          go_wp2
          go_roundw
          case rel => exact ⟨k + 1, _, by omega, rfl, by go_num, by simp only [ByteArray.size_append]; have : (⟨#[10]⟩ : ByteArray).size = 1 := rfl; omega, fun _ => by simp only [ByteArray.size_append]; have : (⟨#[10]⟩ : ByteArray).size = 1 := rfl; omega, HD6, HS6⟩
          case measure => simp [intOf]; omega
        | true =>
          go_wp2_with fail
          refine (qlc g [(⟨#[100, 97, 103]⟩ : ByteArray), (⟨#[99, 114, 111, 110, 32, 42, 32, 42, 32, 42, 32, 42, 32, 56]⟩ : ByteArray), (⟨#[102, 114, 111, 109, 32, 120]⟩ : ByteArray), (⟨#[116, 111, 32, 49, 32, 50]⟩ : ByteArray), (⟨#[99, 97, 116, 99, 104]⟩ : ByteArray), (⟨#[116, 97, 115, 107]⟩ : ByteArray), (⟨#[116, 97, 115, 107, 32, 97, 32, 111, 110, 101, 32, 49, 32, 102, 114, 101, 101, 32, 113, 44, 113]⟩ : ByteArray), (⟨#[116, 97, 115, 107, 32, 97, 32, 110, 111, 110, 101, 32, 49, 32, 102, 114, 101, 101]⟩ : ByteArray), (⟨#[116, 97, 115, 107, 32, 98, 32, 111, 110, 101, 32, 57, 32, 102, 114, 101, 101]⟩ : ByteArray), (⟨#[116, 97, 115, 107, 32, 97, 32, 111, 110, 101, 32, 49, 32, 102, 114, 101, 101, 32, 98]⟩ : ByteArray), (⟨#[7]⟩ : ByteArray)] W3 W6 HD6.out HS6.out (by decide) (by decide) #[.string ⟨#[100, 97, 103]⟩, .string ⟨#[99, 114, 111, 110, 32, 42, 32, 42, 32, 42, 32, 42, 32, 56]⟩, .string ⟨#[102, 114, 111, 109, 32, 120]⟩, .string ⟨#[116, 111, 32, 49, 32, 50]⟩, .string ⟨#[99, 97, 116, 99, 104]⟩, .string ⟨#[116, 97, 115, 107]⟩, .string ⟨#[116, 97, 115, 107, 32, 97, 32, 111, 110, 101, 32, 49, 32, 102, 114, 101, 101, 32, 113, 44, 113]⟩, .string ⟨#[116, 97, 115, 107, 32, 97, 32, 110, 111, 110, 101, 32, 49, 32, 102, 114, 101, 101]⟩, .string ⟨#[116, 97, 115, 107, 32, 98, 32, 111, 110, 101, 32, 57, 32, 102, 114, 101, 101]⟩, .string ⟨#[116, 97, 115, 107, 32, 97, 32, 111, 110, 101, 32, 49, 32, 102, 114, 101, 101, 32, 98]⟩, .string ⟨#[7]⟩] rfl 11 rfl).mono ?_
          rintro x W7 ⟨ln2, hln2, rfl, hd7, hs7⟩
          have hls : ln2.size ≤ 30 := by
            simp only [List.mem_cons, List.not_mem_nil, or_false] at hln2
            rcases hln2 with rfl | rfl | rfl | rfl | rfl | rfl | rfl | rfl | rfl | rfl | rfl <;> decide
          have HD7 : Hid (Drw W7 g) := hd7
          have HS7 : Hid (Save g W3 W7) := hs7
          clear hln2 hd7 hs7
          go_wp2
          go_roundw
          case rel => exact ⟨k + 1, _, by omega, rfl, by go_num, by simp only [ByteArray.size_append]; have : (⟨#[10]⟩ : ByteArray).size = 1 := rfl; omega, fun _ => by simp only [ByteArray.size_append]; have : (⟨#[10]⟩ : ByteArray).size = 1 := rfl; omega, HD7, HS7⟩
          case measure => simp [intOf]; omega
    · have hkn : k = n := by omega
      subst hkn
      have hos : 0 < o.size := hp hp0
      have hob : o.size ≤ 250000 := by omega
      clear HCE
      go_wp2_with fail
      refine (qga g 20 _ HDR.out (by decide) (by decide)).mono ?_
      rintro x W4 ⟨q, rfl, q0, q1, hd4, hs4⟩
      have HD4 : Hid (Drw W4 g) := hd4
      have HS4 : Hid (Save g w W4) := (HS3.out.trans HSR.out).trans hs4
      clear hd4 hs4
      by_cases h0 : q = 0
      · subst h0
        have hsl : ∀ wx, (Instr.slice 9 (.string o) none (some (.int .i64 ((o.size : Int) - 1))) none).run Tryz.prog wx = .ok (.string (o.extract 0 (o.size - 1))) wx := fun wx => by
          have := run_slice_string_h (P := Tryz.prog) wx 9 o Tryz.underlying9 .i64 ((o.size : Int) - 1) (by omega) (by omega)
          rw [show ((o.size : Int) - 1).toNat = o.size - 1 by omega] at this
          exact this
        go_wp2
        go_ret
        exact ⟨_, rfl, by simp; omega, HD4.out, HS4.out⟩
      · have e0 : (q == 0) = false := beq_eq_false_iff_ne.2 h0
        by_cases h1 : q = 1
        · subst h1
          go_wp2_with fail
          refine (qga g 2 _ HD4.out (by decide) (by decide)).mono ?_
          rintro x W5 ⟨q, rfl, z0, z1, hd5, hs5⟩
          obtain ⟨m, rfl⟩ := Int.eq_ofNat_of_zero_le z0
          have HD5 : Hid (Drw W5 g) := hd5
          have HS5 : Hid (Save g w W5) := HS4.out.trans hs5
          clear hd5 hs5
          have HLG : Hid (∀ W, Calls Tryz.prog 44 #[.int .i64 (800 + (m : Int)), .int .u8 35] W fun e w' => ∃ t : ByteArray, e = .returned (.string t) ∧ t.size = 800 + m ∧ Below W.heap.size W w') := fun W => long_any (800 + m) 35 W (by omega) (by omega)
          go_wp2_with fail
          refine (HLG.out _).mono ?_
          rintro x W6 ⟨t, rfl, ht, hb6⟩
          go_wp2
          go_ret
          exact ⟨t, rfl, by omega, HD5.out.keep (hb6.mono HD5.out.lt), HS5.out.qua hb6 HS5.out.size⟩
        · have e1 : (q == 1) = false := beq_eq_false_iff_ne.2 h1
          by_cases h2 : q = 2
          · subst h2
            go_wp2
            go_ret
            exact ⟨_, rfl, by decide, HD4.out, HS4.out⟩
          · have e2 : (q == 2) = false := beq_eq_false_iff_ne.2 h2
            go_wp2
            go_ret
            exact ⟨_, rfl, by omega, HD4.out, HS4.out⟩
end Go.Proofs.YtpjpheicldegkaaGreatDoor

namespace Go.Proofs.YtpjpheicldegkaaGreatDoor
open Go Go.RowKit
set_option linter.unusedVariables false

abbrev cmdV (op tok seq : Int) (text task : ByteArray) (num up : Int) (yes : Bool) : Value := .agg #[.int .i64 op, .int .i64 tok, .int .i64 seq, .string text, .string task, .int .i64 num, .int .i64 up, .bool yes]
theorem qjb {W : World} {b : Nat} {x0 x1 x2 x3 x4 x5 x6 x7 : Value} {fn : Func} {p : Tmp} {tmps : Array Value} (h : fn.results = #[.cell p 138]) (hp : tmps.getD p undef = .pointer (some ⟨b, 0, none⟩)) (hb : K8 138 W b x0 x1 x2 x3 x4 x5 x6 x7) :
    (results fn tmps).run Tryz.prog W = .ok (.agg #[x0, x1, x2, x3, x4, x5, x6, x7]) W := by
  have hp' : tmps[p]?.getD undef = .pointer (some ⟨b, 0, none⟩) := by simpa using hp
  simp [results, h, hp', hb.c0, hb.c1, hb.c2, hb.c3, hb.c4, hb.c5, hb.c6, hb.c7, asAddr, go_sem]
theorem ddp_text {g : Nat} {w W : World} {x : Ending} (h : DdP g w x W) : ∃ (d : Value) (S : ByteArray), x = .returned d ∧ (0 < S.size ∧ S.size ≤ 400) ∧ Calls Tryz.prog 116 #[d] W (fun e w' => e = .returned (.tuple #[.string S, .bool true]) ∧ Below W.heap.size W w') ∧ Drw W g ∧ Save g w W := by
  obtain ⟨nm, cr, fr, up, cu, tv, ks, ts, rfl, hrd, haf, hq, hsm, hl1, hl4, hnm, hcr, hf0, hfu, hup, hat, hd1, hs1⟩ := h
  have hat : DagAt W tv ⟨nm, cr, fr, up, cu, ts⟩ := by
    refine ⟨⟨ks, hrd, haf.len, fun i t ht => ?_⟩, by show ts.length ≤ _; omega, fun t ht => ?_, by show cr.size ≤ _; omega, by show nm.size ≤ _; omega⟩
    · obtain ⟨k, hk⟩ : ∃ k, ks[i]? = some k := ⟨_, List.getElem?_eq_getElem (by rw [haf.len]; exact (List.getElem?_eq_some_iff.1 ht).1)⟩
      have a := haf.each i k t hk ht
      exact ⟨k, hk, a.name, a.pool, a.ret, a.past, a.after.reads⟩
    · have := hsm t ht
      omega
  refine ⟨_, dagX ⟨nm, cr, fr, up, cu, ts⟩, rfl, dagX_size hq hcr (fun t ht => (hsm t ht).1), ?_, hd1, hs1⟩
  have := dagText_try tv nm cr fr up cu ts W hat
  rw [hq] at this
  exact this
abbrev set8 (W : World) (b : Nat) (u0 u1 u2 u3 u4 u5 u6 u7 : Value) : World := ((((((((W.setCell ⟨b, 0, none⟩ u0).setCell ⟨b, 1, none⟩ u1).setCell ⟨b, 2, none⟩ u2).setCell ⟨b, 3, none⟩ u3).setCell ⟨b, 4, none⟩ u4).setCell ⟨b, 5, none⟩ u5).setCell ⟨b, 6, none⟩ u6).setCell ⟨b, 7, none⟩ u7)
theorem below_set8 {B : Nat} {V W : World} {b : Nat} (h : Below B V W) (hb : B ≤ b) (u0 u1 u2 u3 u4 u5 u6 u7 : Value) : Below B V (set8 W b u0 u1 u2 u3 u4 u5 u6 u7) := (Below.setCell (Below.setCell (Below.setCell (Below.setCell (Below.setCell (Below.setCell (Below.setCell (Below.setCell h hb _) hb _) hb _) hb _) hb _) hb _) hb _) hb _)
theorem K8.set {t : TypeId} {W : World} {b : Nat} {x0 x1 x2 x3 x4 x5 x6 x7 : Value} (h : K8 t W b x0 x1 x2 x3 x4 x5 x6 x7) (u0 u1 u2 u3 u4 u5 u6 u7 : Value) : K8 t (set8 W b u0 u1 u2 u3 u4 u5 u6 u7) b u0 u1 u2 u3 u4 u5 u6 u7 := ((((((((h.s0 u0).s1 u1).s2 u2).s3 u3).s4 u4).s5 u5).s6 u6).s7 u7)
structure OfS (g : Nat) (w : World) (bx : Nat) (op tok seq : Int) (text task : ByteArray) (num up : Int) (yes : Bool) (W : World) : Prop where
  res : K8 138 W (w.heap.size + 1) (.int .i64 0) (.int .i64 0) (.int .i64 0) (.string ⟨#[]⟩) (.string ⟨#[]⟩) (.int .i64 0) (.int .i64 0) (.bool false)
  x : K8 138 W bx (.int .i64 op) (.int .i64 tok) (.int .i64 seq) (.string text) (.string task) (.int .i64 num) (.int .i64 up) (.bool yes)
  drw : Drw W g
  sv : Save g w W
  ne : bx ≠ w.heap.size + 1
  gl : g < w.heap.size
  lo : w.heap.size ≤ bx
section
variable {g : Nat} {w W W' : World} {bx : Nat} {op tok seq num up : Int} {text task : ByteArray} {yes : Bool}
theorem OfS.save (h : OfS g w bx op tok seq text task num up yes W) (hs : Save g W W') (hd : Drw W' g) : OfS g w bx op tok seq text task num up yes W' :=
  ⟨h.res.save hs (by have := h.gl; omega), h.x.save hs (by have := h.gl; have := h.lo; omega), hd, h.sv.trans hs, h.ne, h.gl, h.lo⟩
theorem OfS.up' (h : OfS g w bx op tok seq text task num up yes W) (hb : Below W.heap.size W W') : OfS g w bx op tok seq text task num up yes W' := h.save (Save.of_below hb) (h.drw.keep (hb.mono h.drw.lt))
theorem OfS.text' (h : OfS g w bx op tok seq text task num up yes W) (t : ByteArray) : OfS g w bx op tok seq t task num up yes (W.setCell ⟨bx, 3, none⟩ (.string t)) :=
  have hb : Below w.heap.size W (W.setCell ⟨bx, 3, none⟩ (.string t)) := Below.setCell (Below.refl _ _) h.lo _
  ⟨h.res.far h.ne _, h.x.s3 _, h.drw.keep (hb.mono h.gl), h.sv.qua hb (Nat.le_refl _), h.ne, h.gl, h.lo⟩
theorem OfS.fin (h : OfS g w bx op tok seq text task num up yes W) : K8 138 (set8 W (w.heap.size + 1) (.int .i64 op) (.int .i64 tok) (.int .i64 seq) (.string text) (.string task) (.int .i64 num) (.int .i64 up) (.bool yes)) (w.heap.size + 1) (.int .i64 op) (.int .i64 tok) (.int .i64 seq) (.string text) (.string task) (.int .i64 num) (.int .i64 up) (.bool yes) ∧ Drw (set8 W (w.heap.size + 1) (.int .i64 op) (.int .i64 tok) (.int .i64 seq) (.string text) (.string task) (.int .i64 num) (.int .i64 up) (.bool yes)) g ∧ Save g w (set8 W (w.heap.size + 1) (.int .i64 op) (.int .i64 tok) (.int .i64 seq) (.string text) (.string task) (.int .i64 num) (.int .i64 up) (.bool yes)) :=
  have hb : Below w.heap.size W (set8 W (w.heap.size + 1) (.int .i64 op) (.int .i64 tok) (.int .i64 seq) (.string text) (.string task) (.int .i64 num) (.int .i64 up) (.bool yes)) := below_set8 (Below.refl _ _) (Nat.le_succ _) _ _ _ _ _ _ _ _
  ⟨h.res.set _ _ _ _ _ _ _ _, h.drw.keep (hb.mono h.gl), h.sv.qua hb (Nat.le_refl _)⟩
end

set_option maxRecDepth 10000 in
set_option maxHeartbeats 4000000 in
theorem l16Of_none (g : Nat) (sv : Value) (ap ar : Option Addr) (cp cr : Nat) (ck tk : Int) (w : World) (hd : Drw w g) :
    Calls Tryz.prog 107 #[.pointer (some ⟨g, 0, none⟩), bdV sv (.slice ap 0 cp) (.slice ar 0 cr) ck tk] w fun e w' => ∃ text : ByteArray, e = .returned (cmdV 2 0 0 text ⟨#[]⟩ 0 0 false) ∧ text.size ≤ 600 ∧ Drw w' g ∧ Save g w w' := by
  have hgl : g < w.heap.size := hd.lt
  obtain ⟨W0, HW0⟩ : ∃ W0, Hid ((w.alloc (.cells #[sv, .slice ap 0 cp, .slice ar 0 cr, .int .i64 ck, .int .i64 tk] 151)).alloc (.cells #[.int .i64 0, .int .i64 0, .int .i64 0, .string ⟨#[]⟩, .string ⟨#[]⟩, .int .i64 0, .int .i64 0, .bool false] 138) = W0) := ⟨_, rfl⟩
  have X0 : Hid (B5 151 W0 w.heap.size sv (.slice ap 0 cp) (.slice ar 0 cr) (.int .i64 ck) (.int .i64 tk)) := by show B5 _ _ _ _ _ _ _ _; rw [← HW0.out]; exact (B5.new _ _ _ _ _ _ _).alloc _
  have Z0 : Hid (K8 138 W0 (w.heap.size + 1) (.int .i64 0) (.int .i64 0) (.int .i64 0) (.string ⟨#[]⟩) (.string ⟨#[]⟩) (.int .i64 0) (.int .i64 0) (.bool false)) := by
    show K8 _ _ _ _ _ _ _ _ _ _ _
    rw [← HW0.out]
    have h1 := K8.new 138 (w.alloc (.cells #[sv, .slice ap 0 cp, .slice ar 0 cr, .int .i64 ck, .int .i64 tk] 151)) (.int .i64 0) (.int .i64 0) (.int .i64 0) (.string ⟨#[]⟩) (.string ⟨#[]⟩) (.int .i64 0) (.int .i64 0) (.bool false)
    rw [show (w.alloc (.cells #[sv, .slice ap 0 cp, .slice ar 0 cr, .int .i64 ck, .int .i64 tk] 151)).heap.size = w.heap.size + 1 by simp] at h1
    exact h1
  have B0 : Below w.heap.size w W0 := by rw [← HW0.out]; exact ba (ba (Below.refl _ _) _) _
  have HS0 : Hid (Save g w W0) := Save.of_below B0
  have HD0 : Hid (Drw W0 g) := hd.keep (B0.mono hgl)
  have hs0 : W0.heap.size = w.heap.size + 2 := by rw [← HW0.out]; simp
  clear B0 hd
  have HP : Hid (Calls Tryz.prog 42 #[.pointer (some ⟨g, 0, none⟩), .slice (some ⟨w.heap.size + 2, 0, none⟩) 18 18] (W0.alloc (.cells #[.int .i64 2, .int .i64 4, .int .i64 4, .int .i64 4, .int .i64 5, .int .i64 5, .int .i64 5, .int .i64 5, .int .i64 5, .int .i64 7, .int .i64 7, .int .i64 7, .int .i64 7, .int .i64 7, .int .i64 6, .int .i64 3, .int .i64 8, .int .i64 9] 3)) fun e w' => ∃ z : Int, e = .returned (.int .i64 z) ∧ -9223372036854775808 ≤ z ∧ z ≤ 9223372036854775807 ∧ Drw w' g ∧ Save g W0 w') := by
    have := qnb g [2, 4, 4, 4, 5, 5, 5, 5, 5, 7, 7, 7, 7, 7, 6, 3, 8, 9] W0 W0 HD0.out (Save.refl _ _) (by decide) (by decide) (by decide) #[.int .i64 2, .int .i64 4, .int .i64 4, .int .i64 4, .int .i64 5, .int .i64 5, .int .i64 5, .int .i64 5, .int .i64 5, .int .i64 7, .int .i64 7, .int .i64 7, .int .i64 7, .int .i64 7, .int .i64 6, .int .i64 3, .int .i64 8, .int .i64 9] rfl 18 rfl
    rw [hs0] at this
    exact this
  go_enter Tryz.func107, Tryz.ntmps107
  go_wp2_with fail
  rw [HW0.out]
  refine HP.out.mono ?_
  rintro x W1 ⟨z, rfl, _, _, hd1, hs1⟩
  have hx : w.heap.size ≠ g := by omega
  have X1 := X0.out.save hs1 hx
  have x1 := X1.c1
  have hq := X1.lt
  have hq2 : ¬ w.heap.size = W1.heap.size := by omega
  have hq3 : ¬ W1.heap.size = w.heap.size := by omega
  have HD1 : Hid (Drw W1 g) := hd1
  have HS1 : Hid (Save g W0 W1) := hs1
  clear HP hd1 hs1 X1
  go_wp2_with fail
  obtain ⟨W2, HW2⟩ : ∃ W2, Hid (W1.alloc (.cells #[.int .i64 2, .int .i64 0, .int .i64 0, .string ⟨#[]⟩, .string ⟨#[]⟩, .int .i64 0, .int .i64 0, .bool false] 138) = W2) := ⟨_, rfl⟩
  have HO2 : Hid (OfS g w W1.heap.size 2 0 0 ⟨#[]⟩ ⟨#[]⟩ 0 0 false W2) := by
    show OfS _ _ _ _ _ _ _ _ _ _ _ _
    have h1 := HS1.out.size
    have hb : Below W1.heap.size W1 W2 := by rw [← HW2.out]; exact ba (Below.refl _ _) _
    refine ⟨(Z0.out.save HS1.out (by omega)).up hb, by rw [← HW2.out]; exact K8.new _ _ _ _ _ _ _ _ _ _, HD1.out.keep (hb.mono HD1.out.lt), (HS0.out.trans HS1.out).trans (Save.of_below hb), by omega, hgl, by omega⟩
  rw [HW2.out]
  refine (l12Dag_any g W2 HO2.out.drw).mono ?_
  intro x W3 hdd
  obtain ⟨d, S, rfl, hS, hT, hd3, hs3⟩ := ddp_text hdd
  have HT : Hid (Calls Tryz.prog 116 #[d] W3 (fun e w' => e = .returned (.tuple #[.string S, .bool true]) ∧ Below W3.heap.size W3 w')) := hT
  have HO3 : Hid (OfS g w W1.heap.size 2 0 0 ⟨#[]⟩ ⟨#[]⟩ 0 0 false W3) := HO2.out.save hs3 hd3
  obtain ⟨bx, hbx⟩ : ∃ bx, W1.heap.size = bx := ⟨_, rfl⟩
  rw [hbx] at HO3
  rw [hbx]
  clear hdd hT hd3 hs3 HO2 HW2 HD1 HS1 X0 Z0 HS0 HD0 HW0 x1 hq hq2 hq3 hbx
  go_wp2_with fail
  refine HT.out.mono ?_
  rintro x W4 ⟨rfl, hb4⟩
  have HO4 : Hid (OfS g w bx 2 0 0 ⟨#[]⟩ ⟨#[]⟩ 0 0 false W4) := HO3.out.up' hb4
  have c3 := HO4.out.x.c3
  have cf := HO4.out.x.fz 3
  have HO5 : Hid (OfS g w bx 2 0 0 S ⟨#[]⟩ 0 0 false (W4.setCell ⟨bx, 3, none⟩ (.string S))) := HO4.out.text' S
  clear HO3 HO4 HT hb4
  go_wp2_with fail
  refine (qxa g 12 _ HO5.out.drw (by decide) (by decide)).mono ?_
  rintro x W6 ⟨b, rfl, hd6, hs6⟩
  have HO6 : Hid (OfS g w bx 2 0 0 S ⟨#[]⟩ 0 0 false W6) := HO5.out.save hs6 hd6
  clear HO5 hd6 hs6 c3 cf
  cases b with
  | false =>
    have hlen : S.size ≤ 600 := by omega
    have hle : ¬ (600 : Int) < (S.size : Int) := by omega
    have e0 := HO6.out.x.c0
    have e1 := HO6.out.x.c1
    have e2 := HO6.out.x.c2
    have e3 := HO6.out.x.c3
    have e4 := HO6.out.x.c4
    have e5 := HO6.out.x.c5
    have e6 := HO6.out.x.c6
    have e7 := HO6.out.x.c7
    have r0 := HO6.out.res.c0
    have f0 := HO6.out.res.fz 0
    have r1 := HO6.out.res.c1
    have f1 := HO6.out.res.fz 1
    have r2 := HO6.out.res.c2
    have f2 := HO6.out.res.fz 2
    have r3 := HO6.out.res.c3
    have f3 := HO6.out.res.fz 3
    have r4 := HO6.out.res.c4
    have f4 := HO6.out.res.fz 4
    have r5 := HO6.out.res.c5
    have f5 := HO6.out.res.fz 5
    have r6 := HO6.out.res.c6
    have f6 := HO6.out.res.fz 6
    have r7 := HO6.out.res.c7
    have f7 := HO6.out.res.fz 7
    have hnn := HO6.out.ne
    have HF := HO6.out.fin
    have HF : Hid _ := HF
    go_wp2
    refine bodyPost_ret (qjb (p := 4) (by kernel_rfl) (by kernel_rfl) HF.out.1) rfl ?_
    exact ⟨_, rfl, hlen, HF.out.2.1, HF.out.2.2⟩
  | true =>
    go_wp2_with fail
    refine (l12Text_any g W6 HO6.out.drw).mono ?_
    rintro x W7 ⟨T, rfl, hT, hd7, hs7⟩
    have HO7 : Hid (OfS g w bx 2 0 0 S ⟨#[]⟩ 0 0 false W7) := HO6.out.save hs7 hd7
    have c3 := HO7.out.x.c3
    have cf := HO7.out.x.fz 3
    have HO8 : Hid (OfS g w bx 2 0 0 T ⟨#[]⟩ 0 0 false (W7.setCell ⟨bx, 3, none⟩ (.string T))) := HO7.out.text' T
    clear HO6 hd7 hs7
    have e0 := HO7.out.x.c0
    have e1 := HO7.out.x.c1
    have e2 := HO7.out.x.c2
    have e4 := HO7.out.x.c4
    have e5 := HO7.out.x.c5
    have e6 := HO7.out.x.c6
    have e7 := HO7.out.x.c7
    have r0 := HO7.out.res.c0
    have f0 := HO7.out.res.fz 0
    have r1 := HO7.out.res.c1
    have f1 := HO7.out.res.fz 1
    have r2 := HO7.out.res.c2
    have f2 := HO7.out.res.fz 2
    have r3 := HO7.out.res.c3
    have f3 := HO7.out.res.fz 3
    have r4 := HO7.out.res.c4
    have f4 := HO7.out.res.fz 4
    have r5 := HO7.out.res.c5
    have f5 := HO7.out.res.fz 5
    have r6 := HO7.out.res.c6
    have f6 := HO7.out.res.fz 6
    have r7 := HO7.out.res.c7
    have f7 := HO7.out.res.fz 7
    have hnn := HO7.out.ne
    by_cases hlen : T.size ≤ 600
    · have hle : ¬ (600 : Int) < (T.size : Int) := by omega
      have HF : Hid _ := HO8.out.fin
      clear HO7 HO8
      go_wp2
      refine bodyPost_ret (qjb (p := 4) (by kernel_rfl) (by kernel_rfl) HF.out.1) rfl ?_
      exact ⟨_, rfl, hlen, HF.out.2.1, HF.out.2.2⟩
    · have hle : (600 : Int) < (T.size : Int) := by omega
      have HF : Hid _ := (HO8.out.text' ⟨#[100, 97, 103]⟩).fin
      clear HO7 HO8
      go_wp2
      refine bodyPost_ret (qjb (p := 4) (by kernel_rfl) (by kernel_rfl) HF.out.1) rfl ?_
      exact ⟨_, rfl, by decide, HF.out.2.1, HF.out.2.2⟩
end Go.Proofs.YtpjpheicldegkaaGreatDoor
