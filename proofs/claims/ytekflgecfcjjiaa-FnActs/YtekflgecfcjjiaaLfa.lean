/-
  The law on the file of a name: the walk.
-/
import Derived.Test.YtekflgecfcjjiaaFa
namespace Go.Proofs.Ytekflgecfcjjiaa
open Go Go.RowKit

theorem sizeL_mem {l : List Fl} {f : Fl} (h : f ∈ l) : f.name.size + f.text.size ≤ sizeL l := by
  induction l with
  | nil => simp at h
  | cons x r ih =>
    rcases List.mem_cons.1 h with rfl | h
    · simp [sizeL]
    · have := ih h
      simp [sizeL]; omega

set_option maxHeartbeats 2000000 in
theorem law_FileAt (ao : Option Addr) (n cap : Nat) (l : List Fl) (s : ByteArray) (w : World) (hr : Reads w (.slice ao n cap) l) (hs : Small l) (hn : n ≤ 9223372036854775807) :
    Calls Try.prog 6 #[.agg #[.slice ao n cap], .string s] w fun e w' => e = .returned (.bool true) ∧ Below w.heap.size w w' := by
  have HR : Hid (Reads w (.slice ao n cap) l) := hr
  have HN : Hid (n = l.length) := hr.len
  have HS : Hid (Small l) := hs
  clear hr hs
  by_cases hlong : (1048576 : Int) < (s.size : Int)
  · go_enter Try.func6, Try.ntmps6
    go_wp2
    go_ret
    exact ⟨rfl, ba (Below.refl _ _) _⟩
  · go_enter Try.func6, Try.ntmps6
    go_wp2_with fail
    refine (szDisk_any _ l _ _ (HR.out.alloc _) HS.out (by decide) (by decide) (by rw [← HN.out]; exact hn)).mono ?_
    rintro e w1 ⟨r, rfl, hr, hb1⟩
    rcases hr with rfl | ⟨hr0, hr1⟩
    · go_wp2
      go_ret
      exact ⟨rfl, (ba (Below.refl _ _) _).trans (hb1.mono (by simp))⟩
    · have HL : Hid (l.length ≤ 1048576) := by show l.length ≤ 1048576; omega
      have HT : Hid (TextsL l) := fun f hf => by have := sizeL_mem hf; omega
      have c1 : w1.cell? ⟨w.heap.size, 0, none⟩ = some (.slice ao n cap) := (hb1.cell (by simp)).trans (by simp [go_sem])
      have R1 : Hid (Reads w1 (.slice ao n cap) l) := (HR.out.alloc _).below hb1
      have B1 : Below w.heap.size w w1 := (ba (Below.refl _ _) _).trans (hb1.mono (by simp))
      have s1 : w.heap.size < w1.heap.size := by have := hb1.size; simp at this; omega
      clear hb1 hr1
      go_wp2_with fail
      refine (toDisk_any _ l _ R1.out HL.out).mono ?_
      rintro e w2 ⟨v2, rfl, ho2, hb2⟩
      obtain ⟨a2, d2, rfl⟩ := ho2.slice
      have c2 := (hb2.cell (p := ⟨w.heap.size, 0, none⟩) s1).trans c1
      have R2 : Hid (Reads w2 (.slice ao n cap) l) := R1.out.below hb2
      have B2 := B1.trans (hb2.mono B1.size)
      have s2 := Nat.lt_of_lt_of_le s1 hb2.size
      have O2 : Hid (Reads w2 (.slice a2 l.length d2) l) := ho2.reads
      clear hb2 ho2 c1 R1 B1 s1
      go_wp2_with fail
      refine (specFileAt_any s O2.out (Nat.le_trans HL.out (by decide))).mono ?_
      rintro e w3 ⟨rfl, hb3⟩
      have c3 := (hb3.cell (p := ⟨w.heap.size, 0, none⟩) s2).trans c2
      have R3 : Hid (Reads w3 (.slice ao n cap) l) := R2.out.below hb3
      have B3 := B2.trans (hb3.mono B2.size)
      have s3 := Nat.lt_of_lt_of_le s2 hb3.size
      clear hb3 c2 R2 B2 s2 O2
      go_wp2_with fail
      refine (toDisk_any _ l _ R3.out HL.out).mono ?_
      rintro e w4 ⟨v4, rfl, ho4, hb4⟩
      obtain ⟨a4, d4, rfl⟩ := ho4.slice
      have c4 := (hb4.cell (p := ⟨w.heap.size, 0, none⟩) s3).trans c3
      have R4 : Hid (Reads w4 (.slice ao n cap) l) := R3.out.below hb4
      have B4 := B3.trans (hb4.mono B3.size)
      have s4 := Nat.lt_of_lt_of_le s3 hb4.size
      have O4 : Hid (Reads w4 (.slice a4 l.length d4) l) := ho4.reads
      clear hb4 ho4 c3 R3 B3 s3
      go_wp2_with fail
      refine (fileAt_any s (O4.out.alloc _) (Nat.le_trans HL.out (by decide)) HT.out).mono ?_
      rintro e w5 ⟨rfl, hb5⟩
      have c5 : w5.cell? ⟨w.heap.size, 0, none⟩ = some (.slice ao n cap) := (hb5.cell (by simp; omega)).trans (((ba (Below.refl _ w4) _).cell s4).trans c4)
      have x5 : w5.cell? ⟨w4.heap.size, 0, none⟩ = some (.slice a4 l.length d4) := (hb5.cell (by simp)).trans (by simp [go_sem])
      have R5 : Hid (Reads w5 (.slice ao n cap) l) := (R4.out.alloc _).below hb5
      have O5 : Hid (Reads w5 (.slice a4 l.length d4) l) := (O4.out.alloc _).below hb5
      have B5 := (B4.trans (Below.mono (ba (Below.refl _ w4) _) B4.size)).trans (hb5.mono (by have := B4.size; simp; omega))
      have s5 : w.heap.size < w5.heap.size := by have := hb5.size; simp at this; omega
      have s5' : w4.heap.size < w5.heap.size := by have := hb5.size; simp at this; omega
      clear hb5 c4 R4 B4 s4 O4
      generalize (fileR l s).1 = t at *
      generalize (fileR l s).2 = z at *
      go_wp2
      go_region_held3 (fun w' => w'.cell? ⟨w.heap.size, 0, none⟩ = some (.slice ao n cap) ∧ w'.cell? ⟨w4.heap.size, 0, none⟩ = some (.slice a4 l.length d4)) ((first | exact ⟨c5, x5⟩ | exact ⟨(hb6.cell s5).trans c5, (hb6.cell s5').trans x5⟩ | exact ⟨(hb7.cell s6).trans c6, (hb7.cell s6').trans x6⟩)) ((first | (go_at_call 30; refine (toDisk_any _ l _ R5.out.drew HL.out).mono ?_; rintro e w6 ⟨v6, rfl, ho6, hb6⟩; obtain ⟨a6, d6, rfl⟩ := ho6.slice; have c6 := (hb6.cell (p := ⟨w.heap.size, 0, none⟩) s5).trans c5; have x6 := (hb6.cell (p := ⟨w4.heap.size, 0, none⟩) s5').trans x5; have s6 := Nat.lt_of_lt_of_le s5 hb6.size; have s6' := Nat.lt_of_lt_of_le s5' hb6.size) | (go_at_call 31; refine (eqDisk_any _ _ l _ (O5.out.drew.below hb6) ho6.reads (Nat.le_trans HL.out (by decide))).mono ?_; rintro e w7 ⟨rfl, hb7⟩)))
      go_wp2
      go_ret
      exact ⟨rfl, (B5.drew.trans (hb6.mono B5.size)).trans (hb7.mono (Nat.le_trans B5.size hb6.size))⟩
end Go.Proofs.Ytekflgecfcjjiaa
